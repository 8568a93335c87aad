/- The contracts of slices.Grow (of nothing) and slices.Concat, of cells. -/
import Derived.Test.YtdemdmingelamaaCsA
import Derived.Test.YtdemdmingelamaaBkP
import Derived.Test.YtdemdmingelamaaGrC
import Derived.Lib.AppendZeros
namespace Go.Proofs.Ytdemdmingelamaa.Ce
open Go.RowKit

set_option maxHeartbeats 1000000 in
theorem growL_any (n : Nat) (w : World) (hn2 : n ≤ 1000000) :
    Calls Try.prog 69 #[.slice none 0 0, .int .i64 (n : Int)] w fun e w' => (∃ v, e = .returned v ∧ OwL w' w.heap.size v []) ∧ Below w.heap.size w w' := by
  have h0 : ¬ (n : Int) < 0 := by omega
  by_cases hn : 0 < n
  · obtain ⟨i, hi, hi0⟩ : ∃ i, Try.prog.info? 42 = some i ∧ (i.zero, i.size, i.bytes) = (some (.agg Cl.zero.cs), 5, 64) := by
      have := cellInfo
      cases hq : Try.prog.info? 42 with
      | none => rw [hq] at this; cases this
      | some i => rw [hq] at this; exact ⟨i, rfl, by simpa using this⟩
    simp only [Prod.mk.injEq] at hi0
    obtain ⟨hi0, hi1, hi2⟩ := hi0
    have hrun := fun ty => Lib.run_append_nil_zeros (P := Try.prog) w 22 3 ty 42 i (.agg Cl.zero.cs) .i64 .i64 Try.underlying22 Try.underlying3 hi hi0 n hn (by omega) (by omega) (by rw [hi2]; omega)
    have hcap := grownCap_ge w n 0 42
    have hcm := grownCap_le_maxLen w n 0 42 (by simp [maxLen]; omega)
    generalize grownCap w n 0 42 = c at *
    have h1 : (0 : Int) < (n : Int) := by omega
    have hcm' := hcm
    unfold maxLen at hcm'
    have hzc : (Value.agg Cl.zero.cs).cells.size = 5 := rfl
    obtain ⟨ROW, hROW⟩ : ∃ ROW, ROW = Builtin.zeroCells (Value.agg Cl.zero.cs).cells n ++ Builtin.zeroCells (Value.agg Cl.zero.cs).cells (c - n) := ⟨_, rfl⟩
    have hRs : ROW.size = c * 5 := by
      rw [hROW]
      simp only [Array.size_append, size_zeroCells, hzc]
      omega
    rw [← hROW] at hrun
    have hout : OwL (w.drew.alloc (.cells ROW 42)) w.heap.size (.slice (some ⟨w.heap.size, 0, none⟩) 0 c) [] := by
      refine ⟨rfl, .inr ⟨w.heap.size, c, ROW, rfl, Nat.le_refl _, ?_, Nat.zero_le _, hcm, hRs, by simp [flat5]⟩⟩
      have := heap_alloc_new w.drew (.cells ROW 42)
      exact this
    have hb : Below w.heap.size w (w.drew.alloc (.cells ROW 42)) := ((Below.refl _ _).drew).alloc (Nat.le_refl _) _
    generalize hw1 : w.drew.alloc (.cells ROW 42) = w1 at *
    clear hi hi0 hi1 hi2 hROW hRs hzc
    go_enter Try.func69, Try.ntmps69
    go_wp2_with (at_builtin; refine Lib.wpList_append_run w rfl (.tmp 20) (.tmp 21) 22 3 rfl (.slice none 0 0) (.int .i64 (n : Int)) rfl rfl _ _ (hrun _) ?_)
    go_ret
    exact ⟨⟨_, rfl, hout⟩, hb⟩
  · obtain rfl : n = 0 := by omega
    go_enter Try.func69, Try.ntmps69
    go_wp2_with fail
    go_ret
    exact ⟨⟨_, rfl, OwL.nil _ _⟩, Below.refl _ _⟩
set_option maxHeartbeats 2000000 in
set_option maxRecDepth 100000 in
theorem concatL_any (v : Value) (LL : List (List Cl)) (w : World) (hr : RdB w v LL) (hm : LL.flatten.length ≤ 1000000) :
    Calls Try.prog 47 #[v] w fun e w' => (∃ x, e = .returned x ∧ OwL w' w.heap.size x LL.flatten) ∧ Below w.heap.size w w' := by
  obtain ⟨A, c, rfl, hc, hcm⟩ := hr.shape
  unfold maxLen at hcm
  have HV := Lib.hid hr
  clear hr
  go_enter Try.func47, Try.ntmps47
  go_wp2_with fail
  go_loopw [3, 11] (fun p i wr => ∃ j q : Nat, j ≤ LL.length ∧ i = .int .i64 (j : Int) ∧ p = .int .i64 (q : Int) ∧ Hid (q = (LL.take j).flatten.length) ∧ w = wr) (fun _ i _ => LL.length - (intOf i).toNat)
  case atStart => exact ⟨0, 0, by omega, rfl, rfl, Lib.hid (by simp), rfl⟩
  case round =>
    obtain ⟨j, q, hj, rfl, rfl, HQ, rfl⟩ := hrel
    by_cases hlt : j < LL.length
    · have hfk : LL[j]? = some (LL[j]'hlt) := List.getElem?_eq_getElem _
      generalize LL[j]'hlt = M at hfk
      obtain ⟨b, off, rfl, hb⟩ := HV.out.open_ (by omega)
      obtain ⟨A1, c1, hc0, hcl1, hcm1, -⟩ := HV.out.row hfk
      have HL := Lib.hid (show (LL.take (j + 1)).flatten.length = q + M.length by rw [flatten_snoc hfk, List.length_append, HQ.out])
      have hqm : q + M.length ≤ 1000000 := by
        have := flatten_take_le LL (j + 1)
        rw [HL.out] at this
        omega
      have h0 : ¬ (q : Int) + (M.length : Int) < 0 := by omega
      have hh3 : (0 : Int) ≤ (j : Int) := by omega
      have hh4 : (j : Int) < (LL.length : Int) := by omega
      clear hfk
      go_wp2_with fail
      go_roundw
      case rel => exact ⟨j + 1, q + M.length, by omega, by go_num, by go_num, Lib.hid HL.out.symm, by first | rfl | trivial⟩
      case measure => simp [intOf]; omega
    · obtain rfl : j = LL.length := by omega
      have hq1 : q ≤ 1000000 := by rw [HQ.out, List.take_length]; exact hm
      clear hlt hj
      go_wp2_with fail
      refine (growL_any q _ hq1).mono ?_
      rintro e w1 ⟨⟨u, rfl, ho⟩, hb1⟩
      go_wp2_with fail
      go_loopw [6, 27] (fun p i w2 => ∃ i' : Nat, i' ≤ LL.length ∧ i = .int .i64 (i' : Int) ∧ OwL w2 w.heap.size p (LL.take i').flatten ∧ Below w.heap.size w w2) (fun _ i _ => LL.length - (intOf i).toNat)
      case atStart => exact ⟨0, by omega, rfl, by simpa using ho, hb1⟩
      case round =>
        clear ho hb1
        obtain ⟨i, hi, rfl, ho, hbw⟩ := hrel
        by_cases hlt : i < LL.length
        · have hfk : LL[i]? = some (LL[i]'hlt) := List.getElem?_eq_getElem _
          generalize LL[i]'hlt = M at hfk
          obtain ⟨b, off, rfl, hb⟩ := HV.out.open_ (by omega)
          obtain ⟨A1, c1, hc0, hcl1, hcm1, hr1⟩ := HV.out.row hfk
          have hc1 := (hbw.cell (p := ⟨b, off + i, none⟩) hb).trans hc0
          have hr1 := hr1.bel hbw
          have HFS := Lib.hid (flatten_snoc hfk)
          have hl : (LL.take i).flatten.length + M.length ≤ 2199023255552 := by
            have := flatten_take_le LL (i + 1)
            rw [HFS.out, List.length_append] at this
            omega
          have hsz := hbw.size
          have hh3 : (0 : Int) ≤ (i : Int) := by omega
          have hh4 : (i : Int) < (LL.length : Int) := by omega
          clear hfk hc0
          go_wp2_with (at_builtin; refine wpList_appL rfl (.tmp 31) (.tmp 32) rfl rfl ho rfl hr1 hl hsz ?_; intro v' w' ho3 hg h3; have HB := Lib.hid (hbw.grown hg hsz (fun k hk => (ho.lt k hk).1)); have HO := Lib.hid ho3; clear ho3 hg h3 hr1 ho hbw)
          go_roundw
          case rel => exact ⟨i + 1, by omega, by go_num, by rw [HFS.out]; exact HO.out, HB.out⟩
          case measure => simp [intOf]; omega
        · obtain rfl : i = LL.length := by omega
          rw [List.take_length] at ho
          go_wp2_with fail
          go_ret
          exact ⟨⟨_, rfl, ho⟩, hbw⟩
end Go.Proofs.Ytdemdmingelamaa.Ce
