/- The contract of slices.Concat: rows of whatever lengths behind one another. -/
import Derived.Test.YtpflcnndloielaaSls
import Derived.Test.YtpflcnndloielaaGrow
namespace Go.Proofs.Ytpflcnndloielaa
open Go.RowKit

/-- the first k rows, one behind the other -/
def flatG (g : Nat → List UInt8) : Nat → List UInt8
  | 0 => []
  | k + 1 => flatG g k ++ g k
theorem flatG_succ (g : Nat → List UInt8) (k : Nat) : flatG g (k + 1) = flatG g k ++ g k := rfl
theorem flatG_le (g : Nat → List UInt8) {j k : Nat} (h : j ≤ k) : (flatG g j).length ≤ (flatG g k).length := by
  induction k with
  | zero => obtain rfl : j = 0 := by omega
            exact Nat.le_refl _
  | succ k ih =>
    by_cases e : j = k + 1
    · subst e; exact Nat.le_refl _
    · have := ih (by omega)
      rw [flatG_succ, List.length_append]
      omega
set_option maxHeartbeats 2000000 in
set_option maxRecDepth 100000 in
theorem concatG_any (v : Value) (k : Nat) (g : Nat → List UInt8) (w : World) (hr : RdM w w.heap.size v k g) (hk : 0 < k) (hp : 0 < (flatG g k).length) (hm : (flatG g k).length ≤ 1000000) :
    Calls Try.prog 39 #[v] w fun e w' => (∃ x, e = .returned x ∧ Ow w' w.heap.size 5 x ((flatG g k).map bv)) ∧ Below w.heap.size w w' := by
  obtain ⟨A, c, rfl, hc, hcm⟩ := hr.shape
  obtain ⟨b, off, rfl, hb⟩ := hr.open_ hk
  unfold maxLen at hcm
  go_enter Try.func39, Try.ntmps39
  go_wp2_with fail
  go_loopw [3, 5, 11] (fun p _ i wr => ∃ j q : Nat, j ≤ k ∧ i = .int .i64 (j : Int) ∧ p = .int .i64 (q : Int) ∧ Hid (q = (flatG g j).length) ∧ wr = w) (fun _ _ i _ => k - (intOf i).toNat)
  case atStart => exact ⟨0, 0, by omega, rfl, rfl, Lib.hid rfl, rfl⟩
  case round =>
    obtain ⟨j, q, hj, rfl, rfl, HQ, rfl⟩ := hrel
    by_cases hlt : j < k
    · obtain ⟨A1, c1, hcell1, h1c, h1m, hr1⟩ := hr.row hlt
      have HL := Lib.hid (show (flatG g (j + 1)).length = q + (g j).length by rw [flatG_succ, List.length_append, HQ.out])
      have hqm : q + (g j).length ≤ 1000000 := by
        have := flatG_le g (show j + 1 ≤ k by omega)
        rw [HL.out] at this
        omega
      have h0 : ¬ (q : Int) + ((g j).length : Int) < 0 := by omega
      clear hr1
      go_wp2_with fail
      go_roundw
      case rel => exact ⟨j + 1, q + (g j).length, by omega, by go_num, by go_num, Lib.hid HL.out.symm, by first | rfl | trivial⟩
      case measure => simp [intOf]; omega
    · obtain rfl : j = k := by omega
      have hq0 : 0 < q := by rw [HQ.out]; exact hp
      have hq1 : q ≤ 1000000 := by rw [HQ.out]; exact hm
      clear hlt hj
      go_wp2_with fail
      refine (grow_any q _ hq0 hq1).mono ?_
      rintro e w1 ⟨⟨u, rfl, ho⟩, hb1⟩
      go_wp2_with fail
      go_loopw [6, 8, 27] (fun p _ i w2 => ∃ i' : Nat, i' ≤ j ∧ i = .int .i64 (i' : Int) ∧ Ow w2 wr.heap.size 5 p ((flatG g i').map bv) ∧ Below wr.heap.size wr w2) (fun _ _ i _ => j - (intOf i).toNat)
      case atStart => exact ⟨0, by omega, rfl, ho, hb1⟩
      case round =>
        clear ho hb1
        obtain ⟨i, hi, rfl, ho, hbw⟩ := hrel
        by_cases hlt : i < j
        · obtain ⟨A1, c1, hcell1, h1c, h1m, hr1⟩ := (hr.up hbw).row hlt
          have hl : (flatG g i).length + (g i).length ≤ 140737488355328 := by
            have := flatG_le g (show i + 1 ≤ j by omega)
            rw [flatG_succ, List.length_append] at this
            omega
          have hsz := hbw.size
          go_wp2_with (at_builtin; refine wpList_appB bytesT rfl (.tmp 31) (.tmp 32) rfl rfl ho rfl hr1 hl hsz ?_; intro v' w' ho3 hg h3; have HB := Lib.hid (hbw.grown hg hsz ho.ge); have HO := Lib.hid ho3; clear ho3 hg h3 hr1 ho hbw)
          go_roundw
          case rel => exact ⟨i + 1, by omega, by go_num, by rw [flatG_succ]; exact HO.out, HB.out⟩
          case measure => simp [intOf]; omega
        · obtain rfl : i = j := by omega
          go_wp2_with fail
          go_ret
          exact ⟨⟨_, rfl, ho⟩, hbw⟩
end Go.Proofs.Ytpflcnndloielaa
