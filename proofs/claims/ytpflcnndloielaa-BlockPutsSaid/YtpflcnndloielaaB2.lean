/- BlockPuts' walk. -/
import Derived.Test.YtpflcnndloielaaBaw
import Derived.Test.YtpflcnndloielaaBru
import Derived.Test.YtpflcnndloielaaCfw
import Derived.Test.YtpflcnndloielaaCpo
import Derived.Test.YtpflcnndloielaaCso
import Derived.Test.YtpflcnndloielaaSame
namespace Go.Proofs.Ytpflcnndloielaa
open Go.RowKit Ce

set_option maxHeartbeats 8000000 in
set_option maxRecDepth 100000 in
theorem blockPuts_walk (v : Value) (L : List Cl) (q0 : Bool) (w : World) (hv : RdL w [] v L) : Calls Try.prog 4 #[v, .bool q0] w fun e w' => e = .returned (.bool true) ∧ Below w.heap.size w w' := by
  have HV := Lib.hid hv
  clear hv
  go_enter Try.func4, Try.ntmps4
  go_wp2_with fail
  refine (bawake_ok _).mono ?_
  rintro e w1 ⟨rfl, hb1⟩
  have HK1 := Lib.hid hb1
  clear hb1
  go_wp2_with fail
  refine (efew_any v L _ (HV.out.bel HK1.out)).mono ?_
  rintro e w2 ⟨⟨q, rfl, hq⟩, hb2⟩
  have HK2 := Lib.hid (bwstep HK1.out hb2)
  clear hb2 HK1
  cases q
  · clear hq
    go_wp2_with fail
    refine (bawake_ok _).mono ?_
    rintro e w9 ⟨rfl, hb9⟩
    have H9 := Lib.hid (bwstep HK2.out hb9)
    clear hb9
    go_wp2_with fail
    go_ret
    exact ⟨rfl, H9.out⟩
  · obtain ⟨hl80, hok⟩ := hq rfl
    clear hq
    have HOK := Lib.hid hok
    have HR2 := Lib.hid (HV.out.bel HK2.out)
    clear hok
    cases q0
    · have H3 := Lib.hid (And.intro HR2.out (And.intro HOK.out HK2.out))
      clear HR2 HOK HK2 HV
      generalize w2 = w3 at *
      obtain ⟨A, cp, rfl, -, -⟩ := H3.out.1.shape
      have hrs := fun w hv => rsorted_any (.slice A L.length cp) L w hv (by omega) (fun c hc => (H3.out.2.1 c hc).sh)
      have hrl : (recB L).length ≤ 65535 := by
        have := flatC_le H3.out.2.1
        rw [recB_len]
        omega
      by_cases hg : Sorted L ∧ L ≠ []
      · have hbp := bput_ok _ L _ H3.out.1 hg.1 hg.2 hrl
        have hrp := fun w hv => rbput_ok (.slice A L.length cp) L w hv H3.out.2.1 hrl
        rw [sortedB_true hg.1] at hrs
        have hne : ((L.length : Int) == 0) = false := beq_false_of_ne (fun e => hg.2 (List.eq_nil_of_length_eq_zero (by omega)))
        clear hg hrl
        go_wp2_with fail
        refine hbp.mono ?_
        rintro e w4 ⟨⟨x, rfl, hx⟩, hb4⟩
        have HX4 := Lib.hid hx.rd
        have HR4 := Lib.hid (H3.out.1.bel hb4)
        have HB4 := Lib.hid (bwstep H3.out.2.2 hb4)
        clear hx hb4 hbp
        go_wp2_with fail
        refine (hrs _ HR4.out).mono ?_
        rintro e w5 ⟨rfl, hb5⟩
        have HX5 := Lib.hid (HX4.out.up hb5)
        have HR5 := Lib.hid (HR4.out.bel hb5)
        have HB5 := Lib.hid (bwstep HB4.out hb5)
        clear hb5 hrs HX4 HR4 HB4
        go_wp2_with fail
        refine (hrp _ HR5.out).mono ?_
        rintro e w6 ⟨⟨y, rfl, hy⟩, hb6⟩
        have hsm := rsame_any _ _ _ _ _ _ w6 (HX5.out.up hb6) hy.rd
        rw [sameB_self] at hsm
        have HB6 := Lib.hid (bwstep HB5.out hb6)
        clear hb6 hy hrp
        go_wp2_with fail
        refine hsm.mono ?_
        rintro e w7 ⟨rfl, rfl⟩
        go_wp2_with fail
        go_ret
        exact ⟨rfl, HB6.out⟩
      · have hbp := bput_no _ L _ H3.out.1 hg (by omega)
        by_cases hs : Sorted L
        · have hL : L = [] := Decidable.not_not.1 fun h => hg ⟨hs, h⟩
          rw [sortedB_true hs] at hrs
          subst hL
          clear hg hs hrl
          go_wp2_with fail
          refine hbp.mono ?_
          rintro e w4 ⟨rfl, hb4⟩
          have HR4 := Lib.hid (H3.out.1.bel hb4)
          have HB4 := Lib.hid (bwstep H3.out.2.2 hb4)
          clear hb4 hbp
          go_wp2_with fail
          refine (hrs _ HR4.out).mono ?_
          rintro e w5 ⟨rfl, hb5⟩
          have HB5 := Lib.hid (bwstep HB4.out hb5)
          clear hb5 hrs
          go_wp2_with fail
          go_ret
          exact ⟨rfl, HB5.out⟩
        · rw [sortedB_false hs] at hrs
          clear hg hs hrl
          go_wp2_with fail
          refine hbp.mono ?_
          rintro e w4 ⟨rfl, hb4⟩
          have HR4 := Lib.hid (H3.out.1.bel hb4)
          have HB4 := Lib.hid (bwstep H3.out.2.2 hb4)
          clear hb4 hbp
          go_wp2_with fail
          refine (hrs _ HR4.out).mono ?_
          rintro e w5 ⟨rfl, hb5⟩
          have HB5 := Lib.hid (bwstep HB4.out hb5)
          clear hb5 hrs
          go_wp2_with fail
          go_ret
          exact ⟨rfl, HB5.out⟩
    · go_wp2_with fail
      refine (rsort_any v L _ HR2.out HOK.out (by omega)).mono ?_
      rintro e w3 ⟨⟨v3, rfl, h3⟩, hb3⟩
      obtain ⟨hs1, hs2, hs3⟩ := sortC_ok HOK.out
      have H3 := Lib.hid (And.intro (h3.rd (S := []) (fun _ h => by cases h)) (And.intro hs2 (bwstep HK2.out hb3)))
      have hl80 : (sortC L).length ≤ 80 := by omega
      clear hs1 hs2 hs3 h3 hb3 HR2 HOK HK2 HV
      generalize sortC L = L at *
      generalize v3 = v at *
      obtain ⟨A, cp, rfl, -, -⟩ := H3.out.1.shape
      have hrs := fun w hv => rsorted_any (.slice A L.length cp) L w hv (by omega) (fun c hc => (H3.out.2.1 c hc).sh)
      have hrl : (recB L).length ≤ 65535 := by
        have := flatC_le H3.out.2.1
        rw [recB_len]
        omega
      by_cases hg : Sorted L ∧ L ≠ []
      · have hbp := bput_ok _ L _ H3.out.1 hg.1 hg.2 hrl
        have hrp := fun w hv => rbput_ok (.slice A L.length cp) L w hv H3.out.2.1 hrl
        rw [sortedB_true hg.1] at hrs
        have hne : ((L.length : Int) == 0) = false := beq_false_of_ne (fun e => hg.2 (List.eq_nil_of_length_eq_zero (by omega)))
        clear hg hrl
        go_wp2_with fail
        refine hbp.mono ?_
        rintro e w4 ⟨⟨x, rfl, hx⟩, hb4⟩
        have HX4 := Lib.hid hx.rd
        have HR4 := Lib.hid (H3.out.1.bel hb4)
        have HB4 := Lib.hid (bwstep H3.out.2.2 hb4)
        clear hx hb4 hbp
        go_wp2_with fail
        refine (hrs _ HR4.out).mono ?_
        rintro e w5 ⟨rfl, hb5⟩
        have HX5 := Lib.hid (HX4.out.up hb5)
        have HR5 := Lib.hid (HR4.out.bel hb5)
        have HB5 := Lib.hid (bwstep HB4.out hb5)
        clear hb5 hrs HX4 HR4 HB4
        go_wp2_with fail
        refine (hrp _ HR5.out).mono ?_
        rintro e w6 ⟨⟨y, rfl, hy⟩, hb6⟩
        have hsm := rsame_any _ _ _ _ _ _ w6 (HX5.out.up hb6) hy.rd
        rw [sameB_self] at hsm
        have HB6 := Lib.hid (bwstep HB5.out hb6)
        clear hb6 hy hrp
        go_wp2_with fail
        refine hsm.mono ?_
        rintro e w7 ⟨rfl, rfl⟩
        go_wp2_with fail
        go_ret
        exact ⟨rfl, HB6.out⟩
      · have hbp := bput_no _ L _ H3.out.1 hg (by omega)
        by_cases hs : Sorted L
        · have hL : L = [] := Decidable.not_not.1 fun h => hg ⟨hs, h⟩
          rw [sortedB_true hs] at hrs
          subst hL
          clear hg hs hrl
          go_wp2_with fail
          refine hbp.mono ?_
          rintro e w4 ⟨rfl, hb4⟩
          have HR4 := Lib.hid (H3.out.1.bel hb4)
          have HB4 := Lib.hid (bwstep H3.out.2.2 hb4)
          clear hb4 hbp
          go_wp2_with fail
          refine (hrs _ HR4.out).mono ?_
          rintro e w5 ⟨rfl, hb5⟩
          have HB5 := Lib.hid (bwstep HB4.out hb5)
          clear hb5 hrs
          go_wp2_with fail
          go_ret
          exact ⟨rfl, HB5.out⟩
        · rw [sortedB_false hs] at hrs
          clear hg hs hrl
          go_wp2_with fail
          refine hbp.mono ?_
          rintro e w4 ⟨rfl, hb4⟩
          have HR4 := Lib.hid (H3.out.1.bel hb4)
          have HB4 := Lib.hid (bwstep H3.out.2.2 hb4)
          clear hb4 hbp
          go_wp2_with fail
          refine (hrs _ HR4.out).mono ?_
          rintro e w5 ⟨rfl, hb5⟩
          have HB5 := Lib.hid (bwstep HB4.out hb5)
          clear hb5 hrs
          go_wp2_with fail
          go_ret
          exact ⟨rfl, HB5.out⟩
end Go.Proofs.Ytpflcnndloielaa
