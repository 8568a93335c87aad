/- BlockCuts' walk. -/
import Derived.Test.YtpflcnndloielaaBaw
import Derived.Test.YtpflcnndloielaaBrc
import Derived.Test.YtpflcnndloielaaCfw
import Derived.Test.YtpflcnndloielaaCpo
import Derived.Test.YtpflcnndloielaaCso
import Derived.Deep.RegionHeld3
namespace Go.Proofs.Ytpflcnndloielaa
open Go.RowKit Ce

set_option maxHeartbeats 8000000 in
set_option maxRecDepth 100000 in
theorem blockCuts_walk (v : Value) (L : List Cl) (size : Int) (q0 : Bool) (w : World) (hv : RdL w [] v L) (_w1 : (Lit.int .i64 size).wf = true) : Calls Try.prog 3 #[v, .int .i64 size, .bool q0] w fun e w' => e = .returned (.bool true) ∧ Below w.heap.size w w' := by
  have HV := Lib.hid hv
  clear hv
  go_enter Try.func3, Try.ntmps3
  go_wp2_with fail
  refine (bawake_ok _).mono ?_
  rintro e w1 ⟨rfl, hb1⟩
  have HK1 := Lib.hid hb1
  clear hb1
  go_wp2_with fail
  refine (efew_any v L _ (HV.out.bel HK1.out)).mono ?_
  rintro e w2 ⟨⟨q, rfl, hq⟩, hb2⟩
  have HK2 := Lib.hid (bwstep HK1.out hb2)
  clear hb2 HK1
  cases q
  · clear hq
    go_wp2_with fail
    refine (bawake_ok _).mono ?_
    rintro e w9 ⟨rfl, hb9⟩
    have H9 := Lib.hid (bwstep HK2.out hb9)
    clear hb9
    go_wp2_with fail
    go_ret
    exact ⟨rfl, H9.out⟩
  · obtain ⟨hl80, hok⟩ := hq rfl
    clear hq
    have HOK := Lib.hid hok
    have HR2 := Lib.hid (HV.out.bel HK2.out)
    clear hok
    cases q0
    · have H3 := Lib.hid (And.intro HR2.out (And.intro HOK.out HK2.out))
      clear HR2 HOK HK2 HV
      generalize w2 = w3 at *
      obtain ⟨A, cp, rfl, -, -⟩ := H3.out.1.shape
      have hrs := fun w hv => rsorted_any (.slice A L.length cp) L w hv (by omega) (fun c hc => (H3.out.2.1 c hc).sh)
      by_cases hg : Sorted L ∧ 1 ≤ size
      · have hbp := bcut_ok _ L size _ H3.out.1 hg.1 hg.2 (by omega)
        have hrp := fun w hv => rbcut_ok (.slice A L.length cp) L size w hv H3.out.2.1 (by omega)
        have HLN : Hid (∀ (j : Nat) (M : List Cl), (cutB size L)[j]? = some M → M.length ≤ 1000000000) := Lib.hid fun j M hM => by
          have := (cutB_sub hM).length_le
          omega
        have hcl := cutB_len size L
        rw [sortedB_true hg.1] at hrs
        have hsz : decide (size < 1) = false := decide_eq_false (by omega)
        clear hg
        generalize cutB size L = LL at *
        go_wp2_with fail
        refine hbp.mono ?_
        rintro e w4 ⟨⟨x, vs, rfl, hx⟩, hb4⟩
        have HX4 := Lib.hid hx.rd
        have HR4 := Lib.hid (H3.out.1.bel hb4)
        have HB4 := Lib.hid (bwstep H3.out.2.2 hb4)
        clear hx hb4 hbp
        obtain ⟨Ax, cx, rfl, hxc, hxm⟩ := HX4.out.shape
        unfold maxLen at hxm
        go_wp2_with fail
        refine (hrs _ HR4.out).mono ?_
        rintro e w5 ⟨rfl, hb5⟩
        have HX5 := Lib.hid (HX4.out.bel hb5)
        have HR5 := Lib.hid (HR4.out.bel hb5)
        have HB5 := Lib.hid (bwstep HB4.out hb5)
        clear hb5 hrs HX4 HR4 HB4
        go_wp2_with fail
        refine (hrp _ HR5.out).mono ?_
        rintro e w6 ⟨⟨y, us, rfl, hy⟩, hb6⟩
        have HX6 := Lib.hid (HX5.out.bel hb6)
        have HY6 := Lib.hid hy.rd
        have HB6 := Lib.hid (bwstep HB5.out hb6)
        clear hb6 hy hrp HX5 HR5 HB5
        obtain ⟨Ay, cy, rfl, hyc, hym⟩ := HY6.out.shape
        unfold maxLen at hym
        have hnn : ((LL.length : Int) != (LL.length : Int)) = false := by simp
        go_wp2_with fail
        go_loopw [10] (fun i wr => ∃ k : Nat, k ≤ LL.length ∧ i = .int .i64 (k : Int) ∧ Hid (Below w6.heap.size w6 wr)) (fun i _ => LL.length - (intOf i).toNat)
        case atStart => exact ⟨0, by omega, rfl, Lib.hid (Below.refl _ _)⟩
        case round =>
          obtain ⟨k, hk, rfl, HBW⟩ := hrel
          by_cases hlt : k < LL.length
          · obtain ⟨b, off, rfl, hbl⟩ := HX6.out.open_ (by omega)
            obtain ⟨b', off', rfl, hbl'⟩ := HY6.out.open_ (by omega)
            have hh3 : (0 : Int) ≤ (k : Int) := by omega
            have hh4 : (k : Int) < (LL.length : Int) := by omega
            have hfk : LL[k]? = some (LL[k]'hlt) := List.getElem?_eq_getElem _
            generalize LL[k]'hlt = M at hfk
            obtain ⟨A1, c1, hc1, -, -, hr1⟩ := (HX6.out.bel HBW.out).row hfk
            obtain ⟨A2, c2, hc2, -, -, hr2⟩ := (HY6.out.bel HBW.out).row hfk
            have hml := HLN.out k M hfk
            have hbw1 := HBW.out.size
            have hsm := fun z : World => fun (hz : Below wr.heap.size wr z) => rsameL_self (.slice A1 M.length c1) (.slice A2 M.length c2) M z (hr1.bel hz) (hr2.bel hz) hml
            have HT : Hid (wr.drew.cell? ⟨b, off + k, none⟩ = some (.slice A1 M.length c1) ∧ wr.drew.cell? ⟨b', off' + k, none⟩ = some (.slice A2 M.length c2) ∧ Below wr.heap.size wr wr.drew) := Lib.hid ⟨hc1, hc2, (Below.refl _ _).drew⟩
            have HU : Hid (∀ x y : World, (x.cell? ⟨b, off + k, none⟩ = some (.slice A1 M.length c1) ∧ x.cell? ⟨b', off' + k, none⟩ = some (.slice A2 M.length c2) ∧ Below wr.heap.size wr x) → Below x.heap.size x y → (y.cell? ⟨b, off + k, none⟩ = some (.slice A1 M.length c1) ∧ y.cell? ⟨b', off' + k, none⟩ = some (.slice A2 M.length c2) ∧ Below wr.heap.size wr y)) := Lib.hid fun x y hS hb => ⟨((bwstep hS.2.2 hb).cell (p := ⟨b, off + k, none⟩) (by show b < wr.heap.size; omega)).trans hc1, ((bwstep hS.2.2 hb).cell (p := ⟨b', off' + k, none⟩) (by show b' < wr.heap.size; omega)).trans hc2, bwstep hS.2.2 hb⟩
            have HSM := Lib.hid hsm
            clear hfk hc1 hc2 hr1 hr2 hsm hml
            go_wp2_with fail
            go_region_held3 (fun w' => w'.cell? ⟨b, off + k, none⟩ = some (.slice A1 M.length c1) ∧ w'.cell? ⟨b', off' + k, none⟩ = some (.slice A2 M.length c2) ∧ Below wr.heap.size wr w') (first | exact HT.out | assumption | exact HU.out _ _ (by assumption) (by assumption))
              (first | (go_at_call 14; refine (HSM.out _ ((Below.refl _ _).drew)).mono ?_; rintro e wn ⟨rfl, hbn⟩; have HBN := Lib.hid hbn))
            go_wp2_with fail
            go_roundw
            case rel => exact ⟨k + 1, by omega, by go_num, Lib.hid (bwstep HBW.out (bwstep (Below.refl _ _).drew HBN.out))⟩
            case measure => simp [intOf]; omega
          · obtain rfl : k = LL.length := by omega
            go_wp2_with fail
            go_ret
            exact ⟨rfl, bwstep HB6.out HBW.out⟩
      · have hbp := bcut_no _ L size _ H3.out.1 hg (by omega)
        by_cases hs : Sorted L
        · have hsz : decide (size < 1) = true := decide_eq_true (by
            by_cases h : size < 1
            · exact h
            · exact absurd ⟨hs, by omega⟩ hg)
          rw [sortedB_true hs] at hrs
          clear hg hs
          go_wp2_with fail
          refine hbp.mono ?_
          rintro e w4 ⟨rfl, hb4⟩
          have HR4 := Lib.hid (H3.out.1.bel hb4)
          have HB4 := Lib.hid (bwstep H3.out.2.2 hb4)
          clear hb4 hbp
          go_wp2_with fail
          refine (hrs _ HR4.out).mono ?_
          rintro e w5 ⟨rfl, hb5⟩
          have HB5 := Lib.hid (bwstep HB4.out hb5)
          clear hb5 hrs
          go_wp2_with fail
          go_ret
          exact ⟨rfl, HB5.out⟩
        · rw [sortedB_false hs] at hrs
          clear hg hs
          go_wp2_with fail
          refine hbp.mono ?_
          rintro e w4 ⟨rfl, hb4⟩
          have HR4 := Lib.hid (H3.out.1.bel hb4)
          have HB4 := Lib.hid (bwstep H3.out.2.2 hb4)
          clear hb4 hbp
          go_wp2_with fail
          refine (hrs _ HR4.out).mono ?_
          rintro e w5 ⟨rfl, hb5⟩
          have HB5 := Lib.hid (bwstep HB4.out hb5)
          clear hb5 hrs
          go_wp2_with fail
          go_ret
          exact ⟨rfl, HB5.out⟩
    · go_wp2_with fail
      refine (rsort_any v L _ HR2.out HOK.out (by omega)).mono ?_
      rintro e w3 ⟨⟨v3, rfl, h3⟩, hb3⟩
      obtain ⟨hs1, hs2, hs3⟩ := sortC_ok HOK.out
      have H3 := Lib.hid (And.intro (h3.rd (S := []) (fun _ h => by cases h)) (And.intro hs2 (bwstep HK2.out hb3)))
      have hl80 : (sortC L).length ≤ 80 := by omega
      clear hs1 hs2 hs3 h3 hb3 HR2 HOK HK2 HV
      generalize sortC L = L at *
      generalize v3 = v at *
      obtain ⟨A, cp, rfl, -, -⟩ := H3.out.1.shape
      have hrs := fun w hv => rsorted_any (.slice A L.length cp) L w hv (by omega) (fun c hc => (H3.out.2.1 c hc).sh)
      by_cases hg : Sorted L ∧ 1 ≤ size
      · have hbp := bcut_ok _ L size _ H3.out.1 hg.1 hg.2 (by omega)
        have hrp := fun w hv => rbcut_ok (.slice A L.length cp) L size w hv H3.out.2.1 (by omega)
        have HLN : Hid (∀ (j : Nat) (M : List Cl), (cutB size L)[j]? = some M → M.length ≤ 1000000000) := Lib.hid fun j M hM => by
          have := (cutB_sub hM).length_le
          omega
        have hcl := cutB_len size L
        rw [sortedB_true hg.1] at hrs
        have hsz : decide (size < 1) = false := decide_eq_false (by omega)
        clear hg
        generalize cutB size L = LL at *
        go_wp2_with fail
        refine hbp.mono ?_
        rintro e w4 ⟨⟨x, vs, rfl, hx⟩, hb4⟩
        have HX4 := Lib.hid hx.rd
        have HR4 := Lib.hid (H3.out.1.bel hb4)
        have HB4 := Lib.hid (bwstep H3.out.2.2 hb4)
        clear hx hb4 hbp
        obtain ⟨Ax, cx, rfl, hxc, hxm⟩ := HX4.out.shape
        unfold maxLen at hxm
        go_wp2_with fail
        refine (hrs _ HR4.out).mono ?_
        rintro e w5 ⟨rfl, hb5⟩
        have HX5 := Lib.hid (HX4.out.bel hb5)
        have HR5 := Lib.hid (HR4.out.bel hb5)
        have HB5 := Lib.hid (bwstep HB4.out hb5)
        clear hb5 hrs HX4 HR4 HB4
        go_wp2_with fail
        refine (hrp _ HR5.out).mono ?_
        rintro e w6 ⟨⟨y, us, rfl, hy⟩, hb6⟩
        have HX6 := Lib.hid (HX5.out.bel hb6)
        have HY6 := Lib.hid hy.rd
        have HB6 := Lib.hid (bwstep HB5.out hb6)
        clear hb6 hy hrp HX5 HR5 HB5
        obtain ⟨Ay, cy, rfl, hyc, hym⟩ := HY6.out.shape
        unfold maxLen at hym
        have hnn : ((LL.length : Int) != (LL.length : Int)) = false := by simp
        go_wp2_with fail
        go_loopw [10] (fun i wr => ∃ k : Nat, k ≤ LL.length ∧ i = .int .i64 (k : Int) ∧ Hid (Below w6.heap.size w6 wr)) (fun i _ => LL.length - (intOf i).toNat)
        case atStart => exact ⟨0, by omega, rfl, Lib.hid (Below.refl _ _)⟩
        case round =>
          obtain ⟨k, hk, rfl, HBW⟩ := hrel
          by_cases hlt : k < LL.length
          · obtain ⟨b, off, rfl, hbl⟩ := HX6.out.open_ (by omega)
            obtain ⟨b', off', rfl, hbl'⟩ := HY6.out.open_ (by omega)
            have hh3 : (0 : Int) ≤ (k : Int) := by omega
            have hh4 : (k : Int) < (LL.length : Int) := by omega
            have hfk : LL[k]? = some (LL[k]'hlt) := List.getElem?_eq_getElem _
            generalize LL[k]'hlt = M at hfk
            obtain ⟨A1, c1, hc1, -, -, hr1⟩ := (HX6.out.bel HBW.out).row hfk
            obtain ⟨A2, c2, hc2, -, -, hr2⟩ := (HY6.out.bel HBW.out).row hfk
            have hml := HLN.out k M hfk
            have hbw1 := HBW.out.size
            have hsm := fun z : World => fun (hz : Below wr.heap.size wr z) => rsameL_self (.slice A1 M.length c1) (.slice A2 M.length c2) M z (hr1.bel hz) (hr2.bel hz) hml
            have HT : Hid (wr.drew.cell? ⟨b, off + k, none⟩ = some (.slice A1 M.length c1) ∧ wr.drew.cell? ⟨b', off' + k, none⟩ = some (.slice A2 M.length c2) ∧ Below wr.heap.size wr wr.drew) := Lib.hid ⟨hc1, hc2, (Below.refl _ _).drew⟩
            have HU : Hid (∀ x y : World, (x.cell? ⟨b, off + k, none⟩ = some (.slice A1 M.length c1) ∧ x.cell? ⟨b', off' + k, none⟩ = some (.slice A2 M.length c2) ∧ Below wr.heap.size wr x) → Below x.heap.size x y → (y.cell? ⟨b, off + k, none⟩ = some (.slice A1 M.length c1) ∧ y.cell? ⟨b', off' + k, none⟩ = some (.slice A2 M.length c2) ∧ Below wr.heap.size wr y)) := Lib.hid fun x y hS hb => ⟨((bwstep hS.2.2 hb).cell (p := ⟨b, off + k, none⟩) (by show b < wr.heap.size; omega)).trans hc1, ((bwstep hS.2.2 hb).cell (p := ⟨b', off' + k, none⟩) (by show b' < wr.heap.size; omega)).trans hc2, bwstep hS.2.2 hb⟩
            have HSM := Lib.hid hsm
            clear hfk hc1 hc2 hr1 hr2 hsm hml
            go_wp2_with fail
            go_region_held3 (fun w' => w'.cell? ⟨b, off + k, none⟩ = some (.slice A1 M.length c1) ∧ w'.cell? ⟨b', off' + k, none⟩ = some (.slice A2 M.length c2) ∧ Below wr.heap.size wr w') (first | exact HT.out | assumption | exact HU.out _ _ (by assumption) (by assumption))
              (first | (go_at_call 14; refine (HSM.out _ ((Below.refl _ _).drew)).mono ?_; rintro e wn ⟨rfl, hbn⟩; have HBN := Lib.hid hbn))
            go_wp2_with fail
            go_roundw
            case rel => exact ⟨k + 1, by omega, by go_num, Lib.hid (bwstep HBW.out (bwstep (Below.refl _ _).drew HBN.out))⟩
            case measure => simp [intOf]; omega
          · obtain rfl : k = LL.length := by omega
            go_wp2_with fail
            go_ret
            exact ⟨rfl, bwstep HB6.out HBW.out⟩
      · have hbp := bcut_no _ L size _ H3.out.1 hg (by omega)
        by_cases hs : Sorted L
        · have hsz : decide (size < 1) = true := decide_eq_true (by
            by_cases h : size < 1
            · exact h
            · exact absurd ⟨hs, by omega⟩ hg)
          rw [sortedB_true hs] at hrs
          clear hg hs
          go_wp2_with fail
          refine hbp.mono ?_
          rintro e w4 ⟨rfl, hb4⟩
          have HR4 := Lib.hid (H3.out.1.bel hb4)
          have HB4 := Lib.hid (bwstep H3.out.2.2 hb4)
          clear hb4 hbp
          go_wp2_with fail
          refine (hrs _ HR4.out).mono ?_
          rintro e w5 ⟨rfl, hb5⟩
          have HB5 := Lib.hid (bwstep HB4.out hb5)
          clear hb5 hrs
          go_wp2_with fail
          go_ret
          exact ⟨rfl, HB5.out⟩
        · rw [sortedB_false hs] at hrs
          clear hg hs
          go_wp2_with fail
          refine hbp.mono ?_
          rintro e w4 ⟨rfl, hb4⟩
          have HR4 := Lib.hid (H3.out.1.bel hb4)
          have HB4 := Lib.hid (bwstep H3.out.2.2 hb4)
          clear hb4 hbp
          go_wp2_with fail
          refine (hrs _ HR4.out).mono ?_
          rintro e w5 ⟨rfl, hb5⟩
          have HB5 := Lib.hid (bwstep HB4.out hb5)
          clear hb5 hrs
          go_wp2_with fail
          go_ret
          exact ⟨rfl, HB5.out⟩
end Go.Proofs.Ytpflcnndloielaa
