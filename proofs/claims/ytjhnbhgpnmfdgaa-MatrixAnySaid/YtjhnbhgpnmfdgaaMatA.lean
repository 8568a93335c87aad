/- The contract of zeros: a matrix of new memory. -/
import Derived.Test.YtjhnbhgpnmfdgaaSl
import Derived.Test.YtjhnbhgpnmfdgaaMk
import Derived.Test.YtjhnbhgpnmfdgaaFldD
import Derived.Test.YtjhnbhgpnmfdgaaMatC
import Derived.Lib.SliceRun
namespace Go.Proofs.Ytjhnbhgpnmfdgaa
open Go.RowKit
open Mx (rw rw_len rw_get rw_congr)

/-- 'make([][]byte, n)' -/
theorem wpList_makeM {ops : Array Oper} {rest : List Oper} {o : Oper} {a : Act} {w : World} {Q : Exit → Act → World → Prop} (hgd : o.guard = none) (l c : Operand)
    (ho : o.op = .makeSlice 22 l c) (n : Nat) {kl kc : IntKind} (hl : a.eval l = .int kl (n : Int)) (hc : a.eval c = .int kc (n : Int)) (hn : 24 * n ≤ 140737488355328)
    (h : ∀ w', OwM w' w.heap.size (.slice (some ⟨w.heap.size, 0, none⟩) n n) (fun _ => .slice none 0 0) n (fun _ => []) → Below w.heap.size w w' → wpList Try.prog ops Q rest (a.put o.dst (.slice (some ⟨w.heap.size, 0, none⟩) n n)) w') :
    wpList Try.prog ops Q (o :: rest) a w := by
  obtain ⟨i, hi, hi0, hi1, hi2⟩ := info_parts rowsT.info
  refine wpList_make_full w hgd l c 22 ho w.heap.size 29 i (.slice none 0 0) 1 rowsT.ht hi hi0 hi1 kl kc _ _ n hl hc rfl rfl (by rw [hi2]; omega) (by simp [maxLen]; omega) (Nat.le_refl _) ?_
  intro w' hown hgr
  refine h w' ⟨?_, fun j _ => Ow.nil _ _ _, fun _ _ _ _ _ => Apart.nil _, fun _ _ => (Apart.nil _).symm⟩ ((Below.refl _ _).grown hgr (Nat.le_refl _) (by simp))
  have e1 : (madeCells (Value.slice none 0 0).cells (n * 1)).toList = (List.range n).map fun _ => .slice none 0 0 := by
    show (madeCells #[.slice none 0 0] (n * 1)).toList = _
    rw [madeCells_one, List.map_const', List.length_range]
  unfold Ow
  rw [e1] at hown
  simpa using hown
/-- zeros behind k rounds -/
def zrow (wd k i : Nat) : List UInt8 := if i < k then rw wd (fun _ => 0) else []
theorem zrow_step (wd k : Nat) : (fun i => if i = k then List.replicate wd (0 : UInt8) else zrow wd k i) = zrow wd (k + 1) := by
  funext i
  unfold zrow
  by_cases e : i = k
  · rw [if_pos e, if_pos (by omega), Mx.rw_zero]
  · rw [if_neg e]
    by_cases h : i < k
    · rw [if_pos h, if_pos (by omega)]
    · rw [if_neg h, if_neg (by omega)]
theorem zeros_step {w wr w2 : World} {n wd k : Nat} {vs : Nat → Value} {u : Value} (ho : OwM wr w.heap.size (.slice (some ⟨w.heap.size, 0, none⟩) n n) vs n (zrow wd k)) (hk : k < n) (hb : Below w.heap.size w wr)
    (ho2 : Ow w2 wr.heap.size 5 u ((List.replicate wd (0 : UInt8)).map bv)) (hb2 : Below wr.heap.size wr w2) :
    w2.cell? ⟨w.heap.size, k, none⟩ = some (vs k) ∧ w2.frozen? ⟨w.heap.size, k, none⟩ = false ∧
      Hid ((∃ vs', OwM (w2.setCell ⟨w.heap.size, k, none⟩ u) w.heap.size (.slice (some ⟨w.heap.size, 0, none⟩) n n) vs' n (zrow wd (k + 1))) ∧ Below w.heap.size w (w2.setCell ⟨w.heap.size, k, none⟩ u)) := by
  obtain ⟨gb, hA, hgb, hgs, hgc, hgf, hput⟩ := ho.put_ hk hb2 ho2 hb.size
  have hA' : w.heap.size = gb := by injection hA with hA; injection hA
  subst hA'
  rw [zrow_step] at hput
  exact ⟨hgc, hgf, ⟨_, hput⟩, (bwstep hb hb2).setCell (Nat.le_refl _) _⟩
set_option maxHeartbeats 1000000 in
set_option maxRecDepth 100000 in
theorem zeros_any (n wd : Nat) (w : World) (hn : n ≤ 1000000000) (hwd : wd ≤ 140737488355328) :
    Calls Try.prog 23 #[.int .i64 (n : Int), .int .i64 (wd : Int)] w fun e w' =>
      (∃ v vs, e = .returned v ∧ OwM w' w.heap.size v vs n (fun _ => rw wd fun _ => 0)) ∧ Below w.heap.size w w' := by
  go_enter Try.func23, Try.ntmps23
  go_wp2_with (refine wpList_makeM rfl (.tmp 7) (.tmp 7) rfl n rfl rfl (by omega) ?_; intro w1 ho hb)
  go_loopw [6, 11] (fun _ i wr => ∃ k : Nat, k ≤ n ∧ i = .int .i64 k ∧ (∃ vs, OwM wr w.heap.size (.slice (some ⟨w.heap.size, 0, none⟩) n n) vs n (zrow wd k)) ∧ Below w.heap.size w wr) (fun _ i _ => n - (intOf i).toNat)
  case atStart => exact ⟨0, by omega, rfl, ⟨_, ho⟩, hb⟩
  case round =>
    clear ho hb
    obtain ⟨k, hk, rfl, ⟨vs, ho⟩, hb⟩ := hrel
    by_cases hlt : k < n
    · go_wp2_with (refine wpList_makeB bytesT rfl (.tmp 16) (.tmp 16) rfl wd rfl rfl hwd ?_; intro w2 ho2 hb2; obtain ⟨hgc, hgf, HP⟩ := zeros_step ho hlt hb ho2 hb2; clear ho ho2 hb hb2)
      go_roundw
      case rel => exact ⟨k + 1, by omega, by go_num, HP.out.1, HP.out.2⟩
      case measure => simp [intOf]; omega
    · obtain rfl : k = n := by omega
      have ho2 := ho.congr (g' := fun _ => rw wd fun _ => 0) (fun j hj => by unfold zrow; rw [if_pos hj])
      clear ho
      go_wp2_with fail
      go_ret
      exact ⟨⟨_, vs, rfl, ho2⟩, hb⟩
end Go.Proofs.Ytjhnbhgpnmfdgaa
