/- The contract of slices.Grow of nothing. The contract of slices.Concat: rows of whatever lengths behind one another. The contract of bytes.Clone. -/
import Derived.Test.YtgcbmdolbmmljaaGreatBase
import Derived.Lib.AppendZeros
import Derived.Test.YtgcbmdolbmmljaaGreatSls
import Derived.Lib.SliceRun
namespace Go.Proofs.YtgcbmdolbmmljaaGreat
open Go.RowKit

theorem zeroCells_size (z : Array Value) (n : Nat) (h : z.size = 1) : (Builtin.zeroCells z n).size = n := by
  simp [Builtin.zeroCells, h]
set_option maxHeartbeats 1000000 in
theorem grow_any (n : Nat) (w : World) (hn : 0 < n) (hn2 : n ≤ 1000000) :
    Calls Tryz.prog 102 #[.slice none 0 0, .int .i64 (n : Int)] w fun e w' => (∃ v, e = .returned v ∧ Ow w' w.heap.size 5 v (([] : List UInt8).map bv)) ∧ Below w.heap.size w w' := by
  obtain ⟨i, hi, hi0, hi1, hi2⟩ := info_parts bytesT.info
  have hrun := fun ty => Lib.run_append_nil_zeros (P := Tryz.prog) w 51 3 ty 5 i (.int .u8 0) .i64 .i64 Tryz.underlying51 Tryz.underlying3 hi hi0 n hn (by omega) (by omega) (by rw [hi2]; omega)
  have hcap := grownCap_ge w n 0 5
  have hcm := grownCap_le_maxLen w n 0 5 (by simp [maxLen]; omega)
  generalize grownCap w n 0 5 = c at *
  have h0 : ¬ (n : Int) < 0 := by omega
  have h1 : (0 : Int) < (n : Int) := by omega
  have hcm' := hcm
  unfold maxLen at hcm'
  have hout : Ow (w.drew.alloc (.cells (Builtin.zeroCells (Value.int .u8 0).cells n ++ Builtin.zeroCells (Value.int .u8 0).cells (c - n)) 5)) w.heap.size 5 (.slice (some ⟨w.heap.size, 0, none⟩) 0 c) (([] : List UInt8).map bv) := by
    refine ⟨by simp, .inr ⟨w.heap.size, c, _, rfl, Nat.le_refl _, heap_alloc_new w.drew _, Nat.zero_le _, hcm, ?_, by simp⟩⟩
    rw [Array.size_append, zeroCells_size _ _ rfl, zeroCells_size _ _ rfl]
    omega
  have hb : Below w.heap.size w (w.drew.alloc (.cells (Builtin.zeroCells (Value.int .u8 0).cells n ++ Builtin.zeroCells (Value.int .u8 0).cells (c - n)) 5)) := ((Below.refl _ _).drew).alloc (Nat.le_refl _) _
  generalize hw1 : w.drew.alloc (.cells (Builtin.zeroCells (Value.int .u8 0).cells n ++ Builtin.zeroCells (Value.int .u8 0).cells (c - n)) 5) = w1 at *
  clear hi hi0 hi1 hi2
  go_enter Tryz.func102, Tryz.ntmps102
  go_wp2_with (at_builtin; refine Lib.wpList_append_run w rfl (.tmp 20) (.tmp 21) 51 3 rfl (.slice none 0 0) (.int .i64 (n : Int)) rfl rfl _ _ (hrun _) ?_)
  go_ret
  exact ⟨⟨_, rfl, hout⟩, hb⟩
end Go.Proofs.YtgcbmdolbmmljaaGreat

namespace Go.Proofs.YtgcbmdolbmmljaaGreat
open Go.RowKit

/-- the first k rows, one behind the other -/
def flatG (g : Nat → List UInt8) : Nat → List UInt8
  | 0 => []
  | k + 1 => flatG g k ++ g k
theorem flatG_succ (g : Nat → List UInt8) (k : Nat) : flatG g (k + 1) = flatG g k ++ g k := rfl
theorem flatG_le (g : Nat → List UInt8) {j k : Nat} (h : j ≤ k) : (flatG g j).length ≤ (flatG g k).length := by
  induction k with
  | zero => obtain rfl : j = 0 := by omega
            exact Nat.le_refl _
  | succ k ih =>
    by_cases e : j = k + 1
    · subst e; exact Nat.le_refl _
    · have := ih (by omega)
      rw [flatG_succ, List.length_append]
      omega
set_option maxHeartbeats 2000000 in
set_option maxRecDepth 100000 in
theorem concatG_any (v : Value) (k : Nat) (g : Nat → List UInt8) (w : World) (hr : RdM w w.heap.size v k g) (hk : 0 < k) (hp : 0 < (flatG g k).length) (hm : (flatG g k).length ≤ 1000000) :
    Calls Tryz.prog 80 #[v] w fun e w' => (∃ x, e = .returned x ∧ Ow w' w.heap.size 5 x ((flatG g k).map bv)) ∧ Below w.heap.size w w' := by
  obtain ⟨A, c, rfl, hc, hcm⟩ := hr.shape
  obtain ⟨b, off, rfl, hb⟩ := hr.open_ hk
  unfold maxLen at hcm
  go_enter Tryz.func80, Tryz.ntmps80
  go_wp2_with fail
  go_loopw [3, 5, 11] (fun p _ i wr => ∃ j q : Nat, j ≤ k ∧ i = .int .i64 (j : Int) ∧ p = .int .i64 (q : Int) ∧ Hid (q = (flatG g j).length) ∧ wr = w) (fun _ _ i _ => k - (intOf i).toNat)
  case atStart => exact ⟨0, 0, by omega, rfl, rfl, Lib.hid rfl, rfl⟩
  case round =>
    obtain ⟨j, q, hj, rfl, rfl, HQ, rfl⟩ := hrel
    by_cases hlt : j < k
    · obtain ⟨A1, c1, hcell1, h1c, h1m, hr1⟩ := hr.row hlt
      have HL := Lib.hid (show (flatG g (j + 1)).length = q + (g j).length by rw [flatG_succ, List.length_append, HQ.out])
      have hqm : q + (g j).length ≤ 1000000 := by
        have := flatG_le g (show j + 1 ≤ k by omega)
        rw [HL.out] at this
        omega
      have h0 : ¬ (q : Int) + ((g j).length : Int) < 0 := by omega
      clear hr1
      go_wp2_with fail
      go_roundw
      case rel => exact ⟨j + 1, q + (g j).length, by omega, by go_num, by go_num, Lib.hid HL.out.symm, by first | rfl | trivial⟩
      case measure => simp [intOf]; omega
    · obtain rfl : j = k := by omega
      have hq0 : 0 < q := by rw [HQ.out]; exact hp
      have hq1 : q ≤ 1000000 := by rw [HQ.out]; exact hm
      clear hlt hj
      go_wp2_with fail
      refine (grow_any q _ hq0 hq1).mono ?_
      rintro e w1 ⟨⟨u, rfl, ho⟩, hb1⟩
      go_wp2_with fail
      go_loopw [6, 8, 27] (fun p _ i w2 => ∃ i' : Nat, i' ≤ j ∧ i = .int .i64 (i' : Int) ∧ Ow w2 wr.heap.size 5 p ((flatG g i').map bv) ∧ Below wr.heap.size wr w2) (fun _ _ i _ => j - (intOf i).toNat)
      case atStart => exact ⟨0, by omega, rfl, ho, hb1⟩
      case round =>
        clear ho hb1
        obtain ⟨i, hi, rfl, ho, hbw⟩ := hrel
        by_cases hlt : i < j
        · obtain ⟨A1, c1, hcell1, h1c, h1m, hr1⟩ := (hr.up hbw).row hlt
          have hl : (flatG g i).length + (g i).length ≤ 140737488355328 := by
            have := flatG_le g (show i + 1 ≤ j by omega)
            rw [flatG_succ, List.length_append] at this
            omega
          have hsz := hbw.size
          go_wp2_with (at_builtin; refine wpList_appB bytesT rfl (.tmp 31) (.tmp 32) rfl rfl ho rfl hr1 hl hsz ?_; intro v' w' ho3 hg h3; have HB := Lib.hid (hbw.grown hg hsz ho.ge); have HO := Lib.hid ho3; clear ho3 hg h3 hr1 ho hbw)
          go_roundw
          case rel => exact ⟨i + 1, by omega, by go_num, by rw [flatG_succ]; exact HO.out, HB.out⟩
          case measure => simp [intOf]; omega
        · obtain rfl : i = j := by omega
          go_wp2_with fail
          go_ret
          exact ⟨⟨_, rfl, ho⟩, hbw⟩
end Go.Proofs.YtgcbmdolbmmljaaGreat

namespace Go.Proofs.YtgcbmdolbmmljaaGreat
open Go.RowKit

set_option maxHeartbeats 400000 in
theorem bclone_any (v : Value) (l : List UInt8) (w : World) (B : Nat) (hr : Rd w B v (l.map bv)) (hB : B ≤ w.heap.size) (hl : l.length ≤ 1000000000000) :
    Calls Tryz.prog 123 #[v] w fun e w' => ∃ x, e = .returned x ∧ Ow w' w.heap.size 5 x (l.map bv) ∧ Below w.heap.size w w' := by
  obtain ⟨A, c, rfl, hc, hm⟩ := hr.shapeM
  have qT : ∀ (w : World) (a : Option Addr) (n c n' c' : Nat), (binOp .eql 51 (.slice a n c) (.slice none n' c')).run Tryz.prog w = .ok (.bool a.isNone) w := fun w a n c n' c' => Lib.run_eql_slice_nil w _ _ a n c n' c' Tryz.underlying51
  cases A with
  | none =>
    have h0 : l = [] := by
      rcases Nat.eq_zero_or_pos l.length with h | h
      · exact List.eq_nil_of_length_eq_zero h
      · obtain ⟨b, off, e, -⟩ := hr.cellM h
        cases e
    subst h0
    go_enter Tryz.func123, Tryz.ntmps123
    go_wp2_with fail
    go_ret
    exact ⟨_, rfl, Ow.nilB _ _ _, bwrefl _⟩
  | some a =>
    have hr1 := (hr.mono hB).up (bwalloc (bwrefl w) (.cells #[] 5))
    have hl1 : ([] : List UInt8).length + l.length ≤ 140737488355328 := by simp; omega
    go_enter Tryz.func123, Tryz.ntmps123
    go_wp2_with (at_builtin; refine wpList_appB bytesT rfl (.tmp 5) (.tmp 6) rfl rfl (Ow.empty _ (Nat.le_refl _) _) rfl hr1 hl1 (by simp) ?_; intro v2 w2 ho2 hg2 _; have hB2 := Ow.emptyG hg2)
    go_ret
    exact ⟨_, rfl, ho2, hB2⟩
end Go.Proofs.YtgcbmdolbmmljaaGreat
