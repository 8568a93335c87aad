/- TableOpens' walk. -/
import Derived.Test.YtdemdmingelamaaTaw
import Derived.Test.YtdemdmingelamaaCbA
import Derived.Test.YtdemdmingelamaaCpo
import Derived.Test.YtdemdmingelamaaCso
import Derived.Test.YtdemdmingelamaaTbb
import Derived.Test.YtdemdmingelamaaTsc
namespace Go.Proofs.Ytdemdmingelamaa
open Go.RowKit Ce Frm

set_option maxHeartbeats 8000000 in
set_option maxRecDepth 100000 in
theorem tableOpens_walk (v : Value) (l : List UInt8) (w : World) (hv : Rd w w.heap.size v (l.map bv)) (hz : l.length ≤ 140737488351232) : Calls Try.prog 5 #[v] w fun e w' => e = .returned (.bool true) ∧ Below w.heap.size w w' := by
  obtain ⟨A, cap, rfl, hc, hm⟩ := hv.shapeM
  unfold maxLen at hm
  have HV := Lib.hid hv
  clear hv
  go_enter Try.func5, Try.ntmps5
  go_wp2_with fail
  refine (tawake_ok _).mono ?_
  rintro e w1 ⟨rfl, hb1⟩
  have HK1 := Lib.hid hb1
  clear hb1
  by_cases hl : 2000 < l.length
  · have hl1 : (2000 : Int) < (l.length : Int) := by omega
    go_wp2_with fail
    refine (tawake_ok _).mono ?_
    rintro e w9 ⟨rfl, hb9⟩
    have H9 := Lib.hid (bwstep HK1.out hb9)
    clear hb9
    go_wp2_with fail
    go_ret
    exact ⟨rfl, H9.out⟩
  · have hl1 : ¬ (2000 : Int) < (l.length : Int) := by omega
    have hl2 : l.length ≤ 2000 := by omega
    have HLL := Lib.hid hl2
    go_wp2_with fail
    refine (open_any _ l _ _ (HV.out.up HK1.out) (Nat.le_refl _) (by omega)).mono ?_
    rintro e w2 ⟨(⟨S, LL, b, hTA, rfl, htb⟩ | ⟨-, rfl⟩), hb2⟩
    · have HTA := Lib.hid hTA
      have HTB := Lib.hid htb
      have HB2 := Lib.hid (bwstep HK1.out hb2)
      have hlen := tab_len hTA
      have hfl : (flatC S).length ≤ 2000 := by
        have h1 := flatB_len LL
        rw [hTA.flat] at h1
        have h2 := congrArg List.length hTA.e
        unfold tabB at h2
        rw [List.length_append] at h2
        omega
      have hSl : S.length ≤ 200 := by
        have := flatC_ge hTA.s.ok
        omega
      have HFL := Lib.hid hfl
      obtain ⟨z, hz1, hz2, hz3⟩ : ∃ z : Nat, 1 ≤ z ∧ z ≤ 2001 ∧ tabB S (cutB (z : Int) S) = l := by
        obtain ⟨size, h1, h2⟩ := hTA.cut
        by_cases h : size ≤ 2001
        · refine ⟨size.toNat, by omega, by omega, ?_⟩
          rw [show ((size.toNat : Nat) : Int) = size by omega, ← h2]
          exact hTA.e.symm
        · refine ⟨2001, by omega, by omega, ?_⟩
          rw [cutB_big (size := ((2001 : Nat) : Int)) (size' := size) (by omega) (by omega), ← h2]
          exact hTA.e.symm
      have HZ := Lib.hid hz3
      clear hTA htb hb2 hlen hfl hz3
      go_wp2_with fail
      refine (tcells_any _ b LL.length S _ HTB.out (by omega)).mono ?_
      rintro e w3 ⟨⟨x, rfl, hx⟩, hb3⟩
      have HX := Lib.hid (hx.rd (S := []) (fun _ h => by cases h))
      have HB3 := Lib.hid (bwstep HB2.out hb3)
      clear hx hb3 HTB HB2
      have hrs := rsorted_any x S _ HX.out (by omega) (fun c hc => (HTA.out.s.ok c hc).sh)
      rw [sortedB_true HTA.out.s] at hrs
      go_wp2_with fail
      refine hrs.mono ?_
      rintro e w4 ⟨rfl, hb4⟩
      have HX4 := Lib.hid (HX.out.bel hb4)
      have HB4 := Lib.hid (bwstep HB3.out hb4)
      clear hb4 hrs HX HB3
      have hbuild : ∀ k : Nat, 1 ≤ k → ∀ (w : World), RdL w [] x S → Calls Try.prog 15 #[x, .int .i64 (k : Int)] w fun e w' => (∃ y, e = .returned y ∧ Ow w' w.heap.size 5 y ((tabB S (cutB (k : Int) S)).map bv)) ∧ Below w.heap.size w w' := fun k hk w hv => by
        obtain ⟨h, -, -⟩ := tab_fit (size := (k : Int)) HTA.out.s (by have := HFL.out; omega) (by omega)
        exact tbuild_ok x S (k : Int) w hv HTA.out.s (by omega) (by omega) h.fit h.foot
      have HBU := Lib.hid hbuild
      clear hbuild
      go_wp2_with fail
      go_loopw [6] (fun i wr => ∃ k : Nat, 1 ≤ k ∧ k ≤ z ∧ i = .int .i64 (k : Int) ∧ Hid (Below w4.heap.size w4 wr)) (fun i _ => z - (intOf i).toNat)
      case atStart => exact ⟨1, Nat.le_refl _, hz1, rfl, Lib.hid (Below.refl _ _)⟩
      case round =>
        obtain ⟨k, hk1, hk2, rfl, HW⟩ := hrel
        have hk3 : (k : Int) ≤ 2001 := by omega
        go_wp2_with fail
        refine (HBU.out k hk1 _ (HX4.out.bel HW.out)).mono ?_
        rintro e w5 ⟨⟨y, rfl, hy⟩, hb5⟩
        have HY := Lib.hid hy
        have HW5 := Lib.hid (bwstep HW.out hb5)
        clear hy hb5
        go_wp2_with fail
        refine (rsame_any y _ (tabB S (cutB (k : Int) S)) l _ _ w5 HY.out.rd (HV.out.up (bwstep HB4.out HW5.out))).mono ?_
        rintro e w6 ⟨rfl, rfl⟩
        by_cases heq : tabB S (cutB (k : Int) S) = l
        · have hs : sameB (tabB S (cutB (k : Int) S)) l = true := by unfold sameB; exact decide_eq_true heq
          rw [hs]
          clear heq hs
          go_wp2_with fail
          go_ret
          exact ⟨rfl, bwstep HB4.out HW5.out⟩
        · have hs : sameB (tabB S (cutB (k : Int) S)) l = false := by unfold sameB; exact decide_eq_false heq
          have hkz : k < z := by
            by_cases h : k = z
            · subst h
              exact absurd HZ.out heq
            · omega
          rw [hs]
          clear heq hs
          go_wp2_with fail
          go_roundw
          case rel => exact ⟨k + 1, by omega, by omega, by go_num, HW5⟩
          case measure => simp [intOf]; omega
    · have HB2 := Lib.hid (bwstep HK1.out hb2)
      clear hb2
      go_wp2_with fail
      go_ret
      exact ⟨rfl, HB2.out⟩
end Go.Proofs.Ytdemdmingelamaa
