/- The contracts of bytes.Equal, atHand, agree. -/
import Derived.Test.YtfnenehiapibiaaCod
import Derived.Test.YtfnenehiapibiaaMatMk
import Derived.Test.YtfnenehiapibiaaMatRd
import Derived.Test.YtfnenehiapibiaaMatRf
import Derived.Test.YtfnenehiapibiaaSame
namespace Go.Proofs.Ytfnenehiapibiaa
open Go.RowKit
open Mx (rw rw_len rw_get rw_congr)

set_option maxHeartbeats 400000 in
theorem equal_any (x y : Value) (a b : List UInt8) (B D : Nat) (w : World) (hx : Rd w B x (a.map bv)) (hy : Rd w D y (b.map bv)) :
    Calls Try.prog 53 #[x, y] w fun e w' => e = .returned (.bool (sameB a b)) ∧ w' = w := by
  have c1 := run_str (P := Try.prog) (w := w) Try.underlying39 Try.underlying5 Try.underlying9 hx
  have c2 := run_str (P := Try.prog) (w := w) Try.underlying39 Try.underlying5 Try.underlying9 hy
  go_enter Try.func53, Try.ntmps53
  go_wp2
  go_ret
  refine ⟨ret1 (vb ?_), rfl⟩
  unfold sameB
  by_cases h : a = b <;> simp [h]
theorem intT : ET Try.prog 72 3 (.int .i64 0) 8 := ⟨Try.underlying72, by kernel_rfl⟩
/-- the places of the shards that are there -/
def hand (n : Nat) (g : Nat → List UInt8) : List Nat := (List.range n).filter fun i => decide (0 < (g i).length)
theorem hand_succ_yes {n : Nat} {g : Nat → List UInt8} (h : 0 < (g n).length) : hand (n + 1) g = hand n g ++ [n] := by
  unfold hand
  rw [List.range_succ, List.filter_append]
  simp [h]
theorem hand_succ_no {n : Nat} {g : Nat → List UInt8} (h : ¬ 0 < (g n).length) : hand (n + 1) g = hand n g := by
  unfold hand
  rw [List.range_succ, List.filter_append]
  simp [h]
theorem hand_mem {n i : Nat} {g : Nat → List UInt8} : i ∈ hand n g ↔ i < n ∧ 0 < (g i).length := by
  unfold hand
  simp
theorem hand_nodup (n : Nat) (g : Nat → List UInt8) : (hand n g).Nodup := List.Pairwise.filter _ List.nodup_range
theorem hand_len (n : Nat) (g : Nat → List UInt8) : (hand n g).length ≤ n := by
  have := List.length_filter_le (fun i => decide (0 < (g i).length)) (List.range n)
  rw [List.length_range] at this
  exact this
set_option maxHeartbeats 2000000 in
set_option maxRecDepth 100000 in
theorem hand_any (v : Value) (n : Nat) (g : Nat → List UInt8) (w : World) (hr : RdM w w.heap.size v n g) (hn : n ≤ 1000) :
    Calls Try.prog 42 #[v] w fun e w' => (∃ x, e = .returned x ∧ Ow w' w.heap.size 3 x ((hand n g).map nvI)) ∧ Below w.heap.size w w' := by
  obtain ⟨A, c, rfl, hc, hcm⟩ := hr.shape
  unfold maxLen at hcm
  go_enter Try.func42, Try.ntmps42
  go_wp2_with fail
  go_loopw [3, 4, 5, 8] (fun p _ _ i wr => ∃ k : Nat, k ≤ n ∧ i = .int .i64 (k : Int) ∧ Ow wr w.heap.size 3 p ((hand k g).map nvI) ∧ Below w.heap.size w wr) (fun _ _ _ i _ => n - (intOf i).toNat)
  case atStart => exact ⟨0, by omega, rfl, Ow.nil _ _ _, Below.refl _ _⟩
  case round =>
    obtain ⟨k, hk, rfl, ho, hb⟩ := hrel
    by_cases hlt : k < n
    · obtain ⟨b, off, rfl, -⟩ := hr.open_ (by omega)
      obtain ⟨A1, c1, hcell, h1c, h1m, -⟩ := (hr.up hb).row hlt
      by_cases h0 : 0 < (g k).length
      · have h0' : (0 : Int) < ((g k).length : Int) := by omega
        have HS := Lib.hid (hand_succ_yes h0)
        have hone : One [nvI k] := one_one rfl
        have hrd : Rd (wr.alloc (.cells #[.int .i64 (k : Int)] 3)) _ (.slice (some ⟨wr.heap.size, 0, none⟩) 1 1) [nvI k] := Rd.newW wr 3 #[.int .i64 (k : Int)] rfl (by simp [maxLen]) rfl
        have hba : Below wr.heap.size wr (wr.alloc (.cells #[.int .i64 (k : Int)] 3)) := bwalloc (Below.refl _ _) _
        have ho2 := ho.below hba
        have hb2 := bwstep hb hba
        have hsz := hb2.size
        have hhl := hand_len k g
        have hl1 : ((hand k g).map nvI).length + [nvI k].length ≤ maxLen := by simp [maxLen]; omega
        have hl2 : (((hand k g).map nvI).length + [nvI k].length) * 8 ≤ 140737488355328 := by simp; omega
        clear ho hba h0 hhl
        go_wp2_with (at_builtin; refine wpList_app intT rfl rfl (.tmp 16) (.tmp 18) rfl rfl ho2 rfl hrd hone hl1 hl2 hsz ?_; intro v' w' ho3 hg h3; have HB := Lib.hid (hb2.grown hg hsz ho2.ge); have HO := Lib.hid ho3; clear ho3 hg h3 hrd ho2 hone hb2)
        go_roundw
        case rel => exact ⟨k + 1, by omega, by go_num, by rw [HS.out, List.map_append]; exact HO.out, HB.out⟩
        case measure => simp [intOf]; omega
      · have h0' : ¬ (0 : Int) < ((g k).length : Int) := by omega
        have HS := Lib.hid (hand_succ_no h0)
        clear h0
        go_wp2_with fail
        go_roundw
        case rel => exact ⟨k + 1, by omega, by go_num, by rw [HS.out]; exact ho, hb⟩
        case measure => simp [intOf]; omega
    · obtain rfl : k = n := by omega
      go_wp2_with fail
      go_ret
      exact ⟨⟨_, rfl, ho⟩, hb⟩
/-- is all that is at hand as it should be? -/
def agr (l : List Nat) (g h : Nat → List UInt8) : Bool := l.all fun i => decide (g i = h i)
set_option maxHeartbeats 2000000 in
set_option maxRecDepth 100000 in
theorem agree_any (x y va : Value) (n n' : Nat) (g h : Nat → List UInt8) (l : List Nat) (w : World) (hx : RdM w w.heap.size x n g) (hy : RdM w w.heap.size y n' h) (ha : Rd w w.heap.size va (l.map nvI)) (hl : ∀ k (hk : k < l.length), l[k] < n ∧ l[k] < n') :
    Calls Try.prog 44 #[x, y, va] w fun e w' => e = .returned (.bool (agr l g h)) ∧ Below w.heap.size w w' := by
  obtain ⟨A, c, rfl, hc, hcm⟩ := hx.shape
  obtain ⟨A', c', rfl, hc', hcm'⟩ := hy.shape
  obtain ⟨A2, c2, rfl, hc2, hcm2⟩ := ha.shapeM
  unfold maxLen at hcm hcm' hcm2
  go_enter Try.func44, Try.ntmps44
  go_wp2_with fail
  go_loopw [8, 11] (fun _ i wr => ∃ k : Nat, k ≤ l.length ∧ i = .int .i64 (k : Int) ∧ Hid (∀ j (hj : j < l.length), j < k → g l[j] = h l[j]) ∧ ∃ q, wr = w.drewN q) (fun _ i _ => l.length - (intOf i).toNat)
  case atStart => exact ⟨0, by omega, rfl, Lib.hid (fun j hj hj' => by omega), 0, rfl⟩
  case round =>
    obtain ⟨k, hk, rfl, HA, q, rfl⟩ := hrel
    by_cases hlt : k < l.length
    · obtain ⟨b2, o2, rfl, -, hcell⟩ := ha.cellM (by omega)
      have hck := hcell k hlt
      obtain ⟨hln, hln'⟩ := hl k hlt
      have HN : Hid (∀ b, decide (g l[k] = h l[k]) = b → (b = true → ∀ j (hj : j < l.length), j < k + 1 → g l[j] = h l[j]) ∧ (b = false → agr l g h = false)) := Lib.hid fun b hb => ⟨fun e j hj hjk => by
          by_cases e' : j = k
          · subst e'; subst e; exact of_decide_eq_true hb
          · exact HA.out j hj (by omega), fun e => by
          unfold agr
          rw [List.all_eq_false]
          exact ⟨l[k], List.getElem_mem hlt, by subst e; simpa using hb⟩⟩
      unfold nvI at hck
      clear hcell
      generalize l[k] = p at *
      obtain ⟨b, o, rfl, -⟩ := hx.open_ (by omega)
      obtain ⟨b', o', rfl, -⟩ := hy.open_ (by omega)
      obtain ⟨A3, c3, h3, h3c, h3m, hr3⟩ := hx.row hln
      obtain ⟨A4, c4, h4, h4c, h4m, hr4⟩ := hy.row hln'
      have he := fun z : Nat => equal_any _ _ (g p) (h p) _ _ (w.drewN z) (hr3.below (bwN' w z)) (hr4.below (bwN' w z))
      have HB := Lib.hid (HN.out _ rfl)
      have hsb : sameB (g p) (h p) = decide (g p = h p) := rfl
      rw [hsb] at he
      clear HN hsb hr3 hr4
      generalize decide (g p = h p) = bb at *
      cases bb
      · go_wp2_with fail
        go_quiet (first | (go_at_call 53; exact (he _).mono fun _ _ ⟨h1, h2⟩ => ⟨h1, _, h2⟩))
        have hF := HB.out.2 (by simp)
        go_wp2_with fail
        go_ret
        exact ⟨ret1 (vb hF.symm), by first | exact bwN _ | (rw [drewN_two]; exact bwN _)⟩
      · go_wp2_with fail
        go_quiet (first | (go_at_call 53; exact (he _).mono fun _ _ ⟨h1, h2⟩ => ⟨h1, _, h2⟩))
        go_wp2_with fail
        go_roundw
        case rel => exact ⟨k + 1, by omega, by go_num, Lib.hid (HB.out.1 (by simp)), _, by first | rfl | (rw [drewN_two])⟩
        case measure => simp [intOf]; omega
    · obtain rfl : k = l.length := by omega
      have hT : Hid (agr l g h = true) := Lib.hid (by
        unfold agr
        rw [List.all_eq_true]
        intro i hi
        obtain ⟨j, hj, rfl⟩ := List.getElem_of_mem hi
        exact decide_eq_true (HA.out j hj hj))
      go_wp2_with fail
      go_ret
      exact ⟨ret1 (vb hT.out.symm), bwN _⟩
end Go.Proofs.Ytfnenehiapibiaa
