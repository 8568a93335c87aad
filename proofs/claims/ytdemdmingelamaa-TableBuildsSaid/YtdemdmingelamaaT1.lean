/- TableBuilds' walk. -/
import Derived.Test.YtdemdmingelamaaTaw
import Derived.Test.YtdemdmingelamaaCbA
import Derived.Test.YtdemdmingelamaaCpo
import Derived.Test.YtdemdmingelamaaCso
import Derived.Test.YtdemdmingelamaaTbb
import Derived.Test.YtdemdmingelamaaTsc
namespace Go.Proofs.Ytdemdmingelamaa
open Go.RowKit Ce Frm

set_option maxHeartbeats 8000000 in
set_option maxRecDepth 100000 in
theorem tableBuilds_walk (v : Value) (L : List Cl) (size : Int) (q0 : Bool) (w : World) (hv : RdL w [] v L) (_w1 : (Lit.int .i64 size).wf = true) : Calls Try.prog 3 #[v, .int .i64 size, .bool q0] w fun e w' => e = .returned (.bool true) ∧ Below w.heap.size w w' := by
  have HV := Lib.hid hv
  clear hv
  go_enter Try.func3, Try.ntmps3
  go_wp2_with fail
  refine (tawake_ok _).mono ?_
  rintro e w1 ⟨rfl, hb1⟩
  have HK1 := Lib.hid hb1
  clear hb1
  go_wp2_with fail
  refine (efew_any v L _ (HV.out.bel HK1.out)).mono ?_
  rintro e w2 ⟨⟨q, rfl, hq⟩, hb2⟩
  have HK2 := Lib.hid (bwstep HK1.out hb2)
  clear hb2 HK1
  cases q
  · clear hq
    go_wp2_with fail
    refine (tawake_ok _).mono ?_
    rintro e w9 ⟨rfl, hb9⟩
    have H9 := Lib.hid (bwstep HK2.out hb9)
    clear hb9
    go_wp2_with fail
    go_ret
    exact ⟨rfl, H9.out⟩
  · obtain ⟨hl80, hok⟩ := hq rfl
    have HOK := Lib.hid hok
    clear hq hok
    cases q0
    · have H3 : Hid (RdL w2 [] v L ∧ (∀ c ∈ L, c.ok) ∧ Below w.heap.size w w2) := Lib.hid ⟨HV.out.bel HK2.out, HOK.out, HK2.out⟩
      clear HOK HK2 HV
      generalize w2 = w3 at *
      generalize L = M at *
      generalize v = m at *
      by_cases hg : Sorted M ∧ 1 ≤ size
      · have hfew := tab_few2 (size := size) hg.1 (by omega) hg.2
        obtain ⟨htab, -, -⟩ := tab_fit (size := size) hg.1 hfew.1 hg.2
        have hbu := tb_ok m M size _ H3.out.1 hg.1 hg.2 hfew.1
        have hrb := fun w hv => tbuild_ok m M size w hv hg.1 hg.2 (by omega) htab.fit htab.foot
        have hrs := fun w hv => rsorted_any m M w hv (by omega) (fun c hc => (H3.out.2.1 c hc).sh)
        rw [sortedB_true hg.1] at hrs
        have HRS := Lib.hid hrs
        have HRB := Lib.hid hrb
        have hsz : decide (size < 1) = false := decide_eq_false (by omega)
        have hsz2 : ¬ size < 1 := by omega
        generalize tabB M (cutB size M) = T at *
        clear hg hfew htab hrs hrb
        go_wp2_with fail
        refine hbu.mono ?_
        rintro e w4 ⟨⟨x, rfl, hx⟩, hb4⟩
        have HX4 := Lib.hid hx
        have HR4 := Lib.hid (H3.out.1.bel hb4)
        have HB4 := Lib.hid (bwstep H3.out.2.2 hb4)
        clear hx hb4 hbu
        go_wp2_with fail
        refine (HRS.out _ HR4.out).mono ?_
        rintro e w5 ⟨rfl, hb5⟩
        have HX5 := Lib.hid (HX4.out.below hb5)
        have HR5 := Lib.hid (HR4.out.bel hb5)
        have HB5 := Lib.hid (bwstep HB4.out hb5)
        clear hb5 HX4 HR4 HB4 HRS
        go_wp2_with fail
        refine (HRB.out _ HR5.out).mono ?_
        rintro e w6 ⟨⟨y, rfl, hy⟩, hb6⟩
        have HX6 := Lib.hid (HX5.out.below hb6)
        have HY6 := Lib.hid hy
        have HB6 := Lib.hid (bwstep HB5.out hb6)
        clear hy hb6 HX5 HR5 HB5 HRB
        go_wp2_with fail
        refine (rsame_any x y T T _ _ w6 HX6.out.rd HY6.out.rd).mono ?_
        rintro e w7 ⟨rfl, rfl⟩
        rw [sameB_self]
        go_wp2_with fail
        go_ret
        exact ⟨rfl, HB6.out⟩
      · have hbu := tb_no m M size _ H3.out.1 hg (by omega)
        have hrs := fun w hv => rsorted_any m M w hv (by omega) (fun c hc => (H3.out.2.1 c hc).sh)
        by_cases hso : Sorted M
        · rw [sortedB_true hso] at hrs
          have hsz : size < 1 := by
            by_cases h : 1 ≤ size
            · exact absurd ⟨hso, h⟩ hg
            · omega
          have hsz2 : decide (size < 1) = true := decide_eq_true hsz
          have HRS := Lib.hid hrs
          clear hg hrs hso
          go_wp2_with fail
          refine hbu.mono ?_
          rintro e w4 ⟨rfl, hb4⟩
          have HR4 := Lib.hid (H3.out.1.bel hb4)
          have HB4 := Lib.hid (bwstep H3.out.2.2 hb4)
          clear hb4 hbu
          go_wp2_with fail
          refine (HRS.out _ HR4.out).mono ?_
          rintro e w5 ⟨rfl, hb5⟩
          have HB5 := Lib.hid (bwstep HB4.out hb5)
          clear hb5 HRS HR4 HB4
          go_wp2_with fail
          go_ret
          exact ⟨rfl, HB5.out⟩
        · rw [sortedB_false hso] at hrs
          have HRS := Lib.hid hrs
          clear hg hrs hso
          go_wp2_with fail
          refine hbu.mono ?_
          rintro e w4 ⟨rfl, hb4⟩
          have HR4 := Lib.hid (H3.out.1.bel hb4)
          have HB4 := Lib.hid (bwstep H3.out.2.2 hb4)
          clear hb4 hbu
          go_wp2_with fail
          refine (HRS.out _ HR4.out).mono ?_
          rintro e w5 ⟨rfl, hb5⟩
          have HB5 := Lib.hid (bwstep HB4.out hb5)
          clear hb5 HRS HR4 HB4
          go_wp2_with fail
          go_ret
          exact ⟨rfl, HB5.out⟩
    · have hso := sorted_sortC HOK.out
      go_wp2_with fail
      refine (rsort_any v L _ (HV.out.bel HK2.out) HOK.out (by omega)).mono ?_
      rintro e w3 ⟨⟨m, rfl, hs3⟩, hb3⟩
      have H3 : Hid (RdL w3 [] m (sortC L) ∧ (∀ c ∈ sortC L, c.ok) ∧ Below w.heap.size w w3) := Lib.hid ⟨hs3.rd (S := []) (fun _ h => by cases h), hso.1.ok, bwstep HK2.out hb3⟩
      have hsl : (sortC L).length ≤ 80 := by omega
      generalize sortC L = M at *
      clear hs3 hb3 HOK HK2 HV hso hl80
      by_cases hg : Sorted M ∧ 1 ≤ size
      · have hfew := tab_few2 (size := size) hg.1 (by omega) hg.2
        obtain ⟨htab, -, -⟩ := tab_fit (size := size) hg.1 hfew.1 hg.2
        have hbu := tb_ok m M size _ H3.out.1 hg.1 hg.2 hfew.1
        have hrb := fun w hv => tbuild_ok m M size w hv hg.1 hg.2 (by omega) htab.fit htab.foot
        have hrs := fun w hv => rsorted_any m M w hv (by omega) (fun c hc => (H3.out.2.1 c hc).sh)
        rw [sortedB_true hg.1] at hrs
        have HRS := Lib.hid hrs
        have HRB := Lib.hid hrb
        have hsz : decide (size < 1) = false := decide_eq_false (by omega)
        have hsz2 : ¬ size < 1 := by omega
        generalize tabB M (cutB size M) = T at *
        clear hg hfew htab hrs hrb
        go_wp2_with fail
        refine hbu.mono ?_
        rintro e w4 ⟨⟨x, rfl, hx⟩, hb4⟩
        have HX4 := Lib.hid hx
        have HR4 := Lib.hid (H3.out.1.bel hb4)
        have HB4 := Lib.hid (bwstep H3.out.2.2 hb4)
        clear hx hb4 hbu
        go_wp2_with fail
        refine (HRS.out _ HR4.out).mono ?_
        rintro e w5 ⟨rfl, hb5⟩
        have HX5 := Lib.hid (HX4.out.below hb5)
        have HR5 := Lib.hid (HR4.out.bel hb5)
        have HB5 := Lib.hid (bwstep HB4.out hb5)
        clear hb5 HX4 HR4 HB4 HRS
        go_wp2_with fail
        refine (HRB.out _ HR5.out).mono ?_
        rintro e w6 ⟨⟨y, rfl, hy⟩, hb6⟩
        have HX6 := Lib.hid (HX5.out.below hb6)
        have HY6 := Lib.hid hy
        have HB6 := Lib.hid (bwstep HB5.out hb6)
        clear hy hb6 HX5 HR5 HB5 HRB
        go_wp2_with fail
        refine (rsame_any x y T T _ _ w6 HX6.out.rd HY6.out.rd).mono ?_
        rintro e w7 ⟨rfl, rfl⟩
        rw [sameB_self]
        go_wp2_with fail
        go_ret
        exact ⟨rfl, HB6.out⟩
      · have hbu := tb_no m M size _ H3.out.1 hg (by omega)
        have hrs := fun w hv => rsorted_any m M w hv (by omega) (fun c hc => (H3.out.2.1 c hc).sh)
        by_cases hso : Sorted M
        · rw [sortedB_true hso] at hrs
          have hsz : size < 1 := by
            by_cases h : 1 ≤ size
            · exact absurd ⟨hso, h⟩ hg
            · omega
          have hsz2 : decide (size < 1) = true := decide_eq_true hsz
          have HRS := Lib.hid hrs
          clear hg hrs hso
          go_wp2_with fail
          refine hbu.mono ?_
          rintro e w4 ⟨rfl, hb4⟩
          have HR4 := Lib.hid (H3.out.1.bel hb4)
          have HB4 := Lib.hid (bwstep H3.out.2.2 hb4)
          clear hb4 hbu
          go_wp2_with fail
          refine (HRS.out _ HR4.out).mono ?_
          rintro e w5 ⟨rfl, hb5⟩
          have HB5 := Lib.hid (bwstep HB4.out hb5)
          clear hb5 HRS HR4 HB4
          go_wp2_with fail
          go_ret
          exact ⟨rfl, HB5.out⟩
        · rw [sortedB_false hso] at hrs
          have HRS := Lib.hid hrs
          clear hg hrs hso
          go_wp2_with fail
          refine hbu.mono ?_
          rintro e w4 ⟨rfl, hb4⟩
          have HR4 := Lib.hid (H3.out.1.bel hb4)
          have HB4 := Lib.hid (bwstep H3.out.2.2 hb4)
          clear hb4 hbu
          go_wp2_with fail
          refine (HRS.out _ HR4.out).mono ?_
          rintro e w5 ⟨rfl, hb5⟩
          have HB5 := Lib.hid (bwstep HB4.out hb5)
          clear hb5 HRS HR4 HB4
          go_wp2_with fail
          go_ret
          exact ⟨rfl, HB5.out⟩
end Go.Proofs.Ytdemdmingelamaa
