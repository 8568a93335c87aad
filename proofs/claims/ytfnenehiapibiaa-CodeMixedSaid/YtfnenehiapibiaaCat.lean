/- The contracts of slices.Grow and slices.Concat: rows behind one another. -/
import Derived.Test.YtfnenehiapibiaaCodP
import Derived.Test.YtfnenehiapibiaaMatRd
import Derived.Lib.AppendZeros
namespace Go.Proofs.Ytfnenehiapibiaa
open Go.RowKit
open Mx (rw rw_len rw_get rw_congr)

theorem zeroCells_size (z : Array Value) (n : Nat) (h : z.size = 1) : (Builtin.zeroCells z n).size = n := by
  simp [Builtin.zeroCells, h]
set_option maxHeartbeats 1000000 in
theorem grow_any (n : Nat) (w : World) (hn : 0 < n) (hn2 : n ≤ 1000000) :
    Calls Try.prog 60 #[.slice none 0 0, .int .i64 (n : Int)] w fun e w' => (∃ v, e = .returned v ∧ Ow w' w.heap.size 5 v (([] : List UInt8).map bv)) ∧ Below w.heap.size w w' := by
  obtain ⟨i, hi, hi0, hi1, hi2⟩ := info_parts bytesT.info
  have hrun := fun ty => Lib.run_append_nil_zeros (P := Try.prog) w 39 3 ty 5 i (.int .u8 0) .i64 .i64 Try.underlying39 Try.underlying3 hi hi0 n hn (by omega) (by omega) (by rw [hi2]; omega)
  have hcap := grownCap_ge w n 0 5
  have hcm := grownCap_le_maxLen w n 0 5 (by simp [maxLen]; omega)
  generalize grownCap w n 0 5 = c at *
  have h0 : ¬ (n : Int) < 0 := by omega
  have h1 : (0 : Int) < (n : Int) := by omega
  have hcm' := hcm
  unfold maxLen at hcm'
  have hout : Ow (w.drew.alloc (.cells (Builtin.zeroCells (Value.int .u8 0).cells n ++ Builtin.zeroCells (Value.int .u8 0).cells (c - n)) 5)) w.heap.size 5 (.slice (some ⟨w.heap.size, 0, none⟩) 0 c) (([] : List UInt8).map bv) := by
    refine ⟨by simp, .inr ⟨w.heap.size, c, _, rfl, Nat.le_refl _, heap_alloc_new w.drew _, Nat.zero_le _, hcm, ?_, by simp⟩⟩
    rw [Array.size_append, zeroCells_size _ _ rfl, zeroCells_size _ _ rfl]
    omega
  have hb : Below w.heap.size w (w.drew.alloc (.cells (Builtin.zeroCells (Value.int .u8 0).cells n ++ Builtin.zeroCells (Value.int .u8 0).cells (c - n)) 5)) := ((Below.refl _ _).drew).alloc (Nat.le_refl _) _
  generalize hw1 : w.drew.alloc (.cells (Builtin.zeroCells (Value.int .u8 0).cells n ++ Builtin.zeroCells (Value.int .u8 0).cells (c - n)) 5) = w1 at *
  clear hi hi0 hi1 hi2
  go_enter Try.func60, Try.ntmps60
  go_wp2_with (at_builtin; refine Lib.wpList_append_run w rfl (.tmp 20) (.tmp 21) 39 3 rfl (.slice none 0 0) (.int .i64 (n : Int)) rfl rfl _ _ (hrun _) ?_)
  go_ret
  exact ⟨⟨_, rfl, hout⟩, hb⟩
set_option maxHeartbeats 2000000 in
set_option maxRecDepth 100000 in
theorem concat_any (v : Value) (k m : Nat) (f : Mx.M) (w : World) (hr : RdM w w.heap.size v k (fun i => rw m (f i))) (hk : 0 < k) (hm : 0 < m) (hk2 : k ≤ 1000) (hm2 : m ≤ 1000) :
    Calls Try.prog 51 #[v] w fun e w' => (∃ x, e = .returned x ∧ Ow w' w.heap.size 5 x ((flatM k m f).map bv)) ∧ Below w.heap.size w w' := by
  obtain ⟨A, c, rfl, hc, hcm⟩ := hr.shape
  obtain ⟨b, off, rfl, hb⟩ := hr.open_ hk
  obtain ⟨T, hT⟩ : ∃ T, T = k * m := ⟨_, rfl⟩
  have hT2 : T ≤ 1000000 := by rw [hT]; exact Nat.mul_le_mul hk2 hm2
  have hT0 : 0 < T := by rw [hT]; exact Nat.mul_pos hk hm
  have HT := Lib.hid hT
  clear hT
  unfold maxLen at hcm
  go_enter Try.func51, Try.ntmps51
  go_wp2_with fail
  go_loopw [3, 5, 11] (fun p _ i wr => ∃ j q : Nat, j ≤ k ∧ i = .int .i64 (j : Int) ∧ p = .int .i64 (q : Int) ∧ Hid (q = j * m) ∧ wr = w) (fun _ _ i _ => k - (intOf i).toNat)
  case atStart => exact ⟨0, 0, by omega, rfl, rfl, Lib.hid (by simp), rfl⟩
  case round =>
    obtain ⟨j, q, hj, rfl, rfl, HQ, rfl⟩ := hrel
    by_cases hlt : j < k
    · obtain ⟨A1, c1, hcell1, h1c, h1m, hr1⟩ := hr.rowT hlt
      have hqm : q + m ≤ T := by
        have := Nat.mul_le_mul_right m (show j + 1 ≤ k by omega)
        rw [Nat.succ_mul] at this
        rw [HT.out, HQ.out]
        exact this
      have h0 : ¬ (q : Int) + (m : Int) < 0 := by omega
      clear hr1
      go_wp2_with fail
      go_roundw
      case rel => exact ⟨j + 1, q + m, by omega, by go_num, by go_num, Lib.hid (by rw [HQ.out, Nat.succ_mul]), by first | rfl | trivial⟩
      case measure => simp [intOf]; omega
    · obtain rfl : j = k := by omega
      obtain rfl : q = T := by rw [HQ.out, HT.out]
      clear hlt hj
      go_wp2_with fail
      refine (grow_any q _ hT0 hT2).mono ?_
      rintro e w1 ⟨⟨u, rfl, ho⟩, hb1⟩
      go_wp2_with fail
      go_loopw [6, 8, 27] (fun p _ i w2 => ∃ i' : Nat, i' ≤ j ∧ i = .int .i64 (i' : Int) ∧ Ow w2 wr.heap.size 5 p ((flatM i' m f).map bv) ∧ Below wr.heap.size wr w2) (fun _ _ i _ => j - (intOf i).toNat)
      case atStart => exact ⟨0, by omega, rfl, ho, hb1⟩
      case round =>
        clear ho hb1
        obtain ⟨i, hi, rfl, ho, hbw⟩ := hrel
        by_cases hlt : i < j
        · obtain ⟨A1, c1, hcell1, h1c, h1m, hr1⟩ := (hr.up hbw).rowT hlt
          have hl : (flatM i m f).length + (rw m (f i)).length ≤ 140737488355328 := by
            rw [flatM_len, rw_len]
            have := Nat.mul_le_mul_right m (show i + 1 ≤ j by omega)
            rw [Nat.succ_mul, ← HT.out] at this
            omega
          have hsz := hbw.size
          go_wp2_with (at_builtin; refine wpList_appB bytesT rfl (.tmp 31) (.tmp 32) rfl rfl ho rfl hr1 hl hsz ?_; intro v' w' ho3 hg h3; have HB := Lib.hid (hbw.grown hg hsz ho.ge); have HO := Lib.hid ho3; clear ho3 hg h3 hr1 ho hbw)
          go_roundw
          case rel => exact ⟨i + 1, by omega, by go_num, by rw [flatM_succ]; exact HO.out, HB.out⟩
          case measure => simp [intOf]; omega
        · obtain rfl : i = j := by omega
          go_wp2_with fail
          go_ret
          exact ⟨⟨_, rfl, ho⟩, hbw⟩
end Go.Proofs.Ytfnenehiapibiaa
