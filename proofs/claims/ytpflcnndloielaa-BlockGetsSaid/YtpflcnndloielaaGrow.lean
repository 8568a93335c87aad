/- The contract of slices.Grow of nothing. -/
import Derived.Test.YtpflcnndloielaaBase
import Derived.Lib.AppendZeros
namespace Go.Proofs.Ytpflcnndloielaa
open Go.RowKit

theorem zeroCells_size (z : Array Value) (n : Nat) (h : z.size = 1) : (Builtin.zeroCells z n).size = n := by
  simp [Builtin.zeroCells, h]
set_option maxHeartbeats 1000000 in
theorem grow_any (n : Nat) (w : World) (hn : 0 < n) (hn2 : n ≤ 1000000) :
    Calls Try.prog 54 #[.slice none 0 0, .int .i64 (n : Int)] w fun e w' => (∃ v, e = .returned v ∧ Ow w' w.heap.size 5 v (([] : List UInt8).map bv)) ∧ Below w.heap.size w w' := by
  obtain ⟨i, hi, hi0, hi1, hi2⟩ := info_parts bytesT.info
  have hrun := fun ty => Lib.run_append_nil_zeros (P := Try.prog) w 33 3 ty 5 i (.int .u8 0) .i64 .i64 Try.underlying33 Try.underlying3 hi hi0 n hn (by omega) (by omega) (by rw [hi2]; omega)
  have hcap := grownCap_ge w n 0 5
  have hcm := grownCap_le_maxLen w n 0 5 (by simp [maxLen]; omega)
  generalize grownCap w n 0 5 = c at *
  have h0 : ¬ (n : Int) < 0 := by omega
  have h1 : (0 : Int) < (n : Int) := by omega
  have hcm' := hcm
  unfold maxLen at hcm'
  have hout : Ow (w.drew.alloc (.cells (Builtin.zeroCells (Value.int .u8 0).cells n ++ Builtin.zeroCells (Value.int .u8 0).cells (c - n)) 5)) w.heap.size 5 (.slice (some ⟨w.heap.size, 0, none⟩) 0 c) (([] : List UInt8).map bv) := by
    refine ⟨by simp, .inr ⟨w.heap.size, c, _, rfl, Nat.le_refl _, heap_alloc_new w.drew _, Nat.zero_le _, hcm, ?_, by simp⟩⟩
    rw [Array.size_append, zeroCells_size _ _ rfl, zeroCells_size _ _ rfl]
    omega
  have hb : Below w.heap.size w (w.drew.alloc (.cells (Builtin.zeroCells (Value.int .u8 0).cells n ++ Builtin.zeroCells (Value.int .u8 0).cells (c - n)) 5)) := ((Below.refl _ _).drew).alloc (Nat.le_refl _) _
  generalize hw1 : w.drew.alloc (.cells (Builtin.zeroCells (Value.int .u8 0).cells n ++ Builtin.zeroCells (Value.int .u8 0).cells (c - n)) 5) = w1 at *
  clear hi hi0 hi1 hi2
  go_enter Try.func54, Try.ntmps54
  go_wp2_with (at_builtin; refine Lib.wpList_append_run w rfl (.tmp 20) (.tmp 21) 33 3 rfl (.slice none 0 0) (.int .i64 (n : Int)) rfl rfl _ _ (hrun _) ?_)
  go_ret
  exact ⟨⟨_, rfl, hout⟩, hb⟩
end Go.Proofs.Ytpflcnndloielaa
