/- slices.Chunk: its iterator's contract. -/
import Derived.Test.YtfnenehiapibiaaCod
import Derived.Test.YtfnenehiapibiaaSl
import Derived.RangeFuncNested
import Derived.RangeFuncBound
import Derived.RangeFuncCalls
import Derived.RangeFuncLeaves
import Derived.RangeFuncBox
import Derived.Shelf.Abstract
import Derived.Shelf.RegionOpen
import Derived.OwnWalkIn
import Derived.TacticsInMore
import Derived.LoopNIn
import Derived.LoopIn
import Derived.Maps.AppendAt
namespace Go.Proofs.Ytfnenehiapibiaa
open Go.RowKit Go.Shelf
attribute [local go_sem] Oper.semAt_some

/-- what a round keeps: the three blocks that the iterator reads -/
structure Keeps3 (a b c : Nat) (W W' : World) : Prop where
  ka : W'.heap[a]? = W.heap[a]?
  kb : W'.heap[b]? = W.heap[b]?
  kc : W'.heap[c]? = W.heap[c]?
theorem Keeps3.refl (a b c : Nat) (W : World) : Keeps3 a b c W W := ⟨rfl, rfl, rfl⟩
theorem Keeps3.trans {a b c : Nat} {A B C : World} (h : Keeps3 a b c A B) (k : Keeps3 a b c B C) : Keeps3 a b c A C := ⟨k.ka.trans h.ka, k.kb.trans h.kb, k.kc.trans h.kc⟩
theorem Keeps3.drewN (a b c : Nat) (W : World) (q : Nat) : Keeps3 a b c W (W.drewN q) := ⟨rfl, rfl, rfl⟩
theorem cell_of_heap {W W' : World} {b o : Nat} (h : W'.heap[b]? = W.heap[b]?) : W'.cell? ⟨b, o, none⟩ = W.cell? ⟨b, o, none⟩ := by
  unfold World.cell?
  simp only [h]
/-- piece x of length m, of what lies in block b -/
abbrev pv (b m x : Nat) : Value := .slice (some ⟨b, x * m, none⟩) m m
set_option maxRecDepth 100000 in
set_option maxHeartbeats 2000000 in
theorem chunk1_in (n : Nat) (hn : 1 ≤ n) (l Bs Bn b k m L cap : Nat) (J Jx : List Nat → World → Prop) (hJd : ∀ s W q, J s W → J s (W.drewN q))
    (hY : ∀ pre x W, J pre W → pre.length < k → YieldAt Fence.wide (n - 1) Try.prog l #[pv b m x] W fun e W' =>
      (e = .returned (.bool true) ∧ J (pre ++ [x]) W' ∧ Keeps3 b Bs Bn W W') ∨ (e = .returned (.bool false) ∧ Jx (pre ++ [x]) W'))
    (W : World) (hL : L = k * m) (hm : 0 < m) (hLc : L ≤ cap) (hcm : cap ≤ maxLen) (hLb : L ≤ 1000000000000)
    (hBs : W.cell? ⟨Bs, 0, none⟩ = some (.slice (some ⟨b, 0, none⟩) L cap)) (hBn : W.cell? ⟨Bn, 0, none⟩ = some (.int .i64 (m : Int))) (h0 : J [] W) :
    CallsIn Fence.wide n Try.prog 48 #[.func (.yield l) #[] #[], .pointer (some ⟨Bs, 0, none⟩), .pointer (some ⟨Bn, 0, none⟩)] W fun e W' => (∃ v, e = .returned v) ∧
      ((∃ ys, ys = List.range k ∧ J ys W') ∨ (∃ pre, True ∧ Jx pre W')) := by
  have HL := Lib.hid hL
  clear hL
  unfold maxLen at hcm
  refine callsIn_of_wp Try.func48 rfl trivial ?_ rfl
  simp only [Try.ntmps48, List.size_toArray, List.length_cons, List.length_nil, Nat.reduceAdd, Nat.reduceSub, Array.replicate_succ, Array.replicate_zero, List.push_toArray, List.append_toArray, List.nil_append, List.cons_append]
  gi_wp2
  gi_loopw [4, 5] (fun i _ wr => ∃ p : Nat, i = .int .i64 (p : Int) ∧ Hid (∃ x, p = x * m ∧ x ≤ k ∧ J (List.range x) wr) ∧ p ≤ L ∧ Keeps3 b Bs Bn W wr)
    (fun i _ _ => L - (intOf i).toNat)
  case atStart => exact ⟨0, rfl, ⟨0, by simp, Nat.zero_le _, h0⟩, Nat.zero_le _, Keeps3.refl _ _ _ _⟩
  case round =>
    obtain ⟨p, rfl, HX, hp, hk3⟩ := hrel
    have c1 := (cell_of_heap (o := 0) hk3.kb).trans hBs
    have c2 := (cell_of_heap (o := 0) hk3.kc).trans hBn
    by_cases hlt : p < L
    · obtain ⟨x, hx, hxk, hJ⟩ := HX.out
      have hlt' : x * m < k * m := by rw [← hx, ← HL.out]; exact hlt
      have hxk' : x < k := Nat.lt_of_mul_lt_mul_right hlt'
      have hpm : p + m ≤ L := by
        have : (x + 1) * m ≤ k * m := Nat.mul_le_mul_right m hxk'
        rw [Nat.succ_mul] at this
        rw [HL.out, hx]
        exact this
      have HY := Lib.hid (fun q => hY _ x (wr.drewN q) (hJd _ _ q hJ) (by rw [List.length_range]; exact hxk'))
      have HP := Lib.hid hx
      have hnc : ¬ cap = p := by omega
      clear hx hlt' hY hJ HX
      gi_wp2
      refine wpIn_wide.2 ?_
      go_quiet (fail)
      obtain ⟨fn, tmps, assign, body, hy, hR⟩ := HY.out nq
      unfold pv at hy
      rw [← HP.out] at hy
      have hlm : ¬ L - p < m := by omega
      gi_wp2
      refine hR.mono ?_
      rintro e W3 (⟨rfl, hJ3, hk4⟩ | ⟨rfl, hJx3⟩)
      · have c3 := (cell_of_heap (o := 0) (hk3.trans ((Keeps3.drewN b Bs Bn wr nq).trans hk4)).kc).trans hBn
        gi_wp2
        go_roundw
        case rel => exact ⟨p + m, by go_num, ⟨x + 1, by rw [HP.out, Nat.succ_mul], by omega, by rw [List.range_succ]; exact hJ3⟩, hpm, hk3.trans ((Keeps3.drewN b Bs Bn wr nq).trans hk4)⟩
        case measure => simp [intOf]; omega
      · gi_wp2
        refine bodyPost_ret (results_none rfl _ _ _) rfl ?_
        exact ⟨⟨_, rfl⟩, .inr ⟨_, trivial, hJx3⟩⟩
    · obtain ⟨x, hx, hxk, hJ⟩ := HX.out
      have hxk' : x = k := by
        have hle : k * m ≤ x * m := by rw [← hx, ← HL.out]; omega
        have := Nat.le_of_mul_le_mul_right hle hm
        omega
      clear hx HX
      subst hxk'
      have hpl : p = L := by omega
      subst hpl
      gi_wp2
      go_end0
      exact ⟨⟨_, rfl⟩, .inl ⟨_, rfl, hJ⟩⟩
end Go.Proofs.Ytfnenehiapibiaa
