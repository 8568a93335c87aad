/- The walk of MergeSees. -/
import Derived.Test.YtknkdehjgkjljaaMl1
import Derived.Test.YtknkdehjgkjljaaCso
namespace Go.Proofs.Ytknkdehjgkjljaa
open Go.RowKit Ce

set_option maxHeartbeats 8000000 in
set_option maxRecDepth 100000 in
theorem mergeSees_walk (v : Value) (L : List Cl) (u a2 : Int) (w : World) (hv : RdL w [] v L) (_w1 : (Lit.int .i64 u).wf = true) (w2 : (Lit.int .u8 a2).wf = true) : Calls Try.prog 6 #[v, .int .i64 u, .int .u8 a2] w fun e w' => e = .returned (.bool true) ∧ Below w.heap.size w w' := by
  obtain ⟨t, rfl, ht⟩ : ∃ t : Nat, a2 = (t : Int) ∧ t < 256 := by
    have := bounds_u8 w2
    exact ⟨a2.toNat, by omega, by omega⟩
  clear w2
  have HV := Lib.hid hv
  clear hv
  go_enter Try.func6, Try.ntmps6
  go_wp2_with fail
  refine (awake13_ok _).mono ?_
  rintro e w1 ⟨rfl, hb1⟩
  have HK1 := Lib.hid hb1
  clear hb1
  go_wp2_with fail
  refine (efew_any _ L _ (HV.out.bel HK1.out)).mono ?_
  rintro e w2 ⟨⟨q, rfl, hq⟩, hb2⟩
  have HK2 := Lib.hid (bwstep HK1.out hb2)
  clear hb2 HK1
  cases q
  · clear hq
    go_wp2_with fail
    refine (awake13_ok _).mono ?_
    rintro e w9 ⟨rfl, hb9⟩
    have H9 := Lib.hid (bwstep HK2.out hb9)
    clear hb9
    go_wp2_with fail
    go_ret
    exact ⟨rfl, H9.out⟩
  · obtain ⟨hl80, hok⟩ := hq rfl
    have HOK := Lib.hid hok
    have hsc := sortC_ok hok
    clear hq hok
    by_cases hu0 : u < 0
    · clear hsc
      go_wp2_with fail
      refine (awake13_ok _).mono ?_
      rintro e w9 ⟨rfl, hb9⟩
      have H9 := Lib.hid (bwstep HK2.out hb9)
      clear hb9
      go_wp2_with fail
      go_ret
      exact ⟨rfl, H9.out⟩
    · by_cases hu1 : 1000000 < u
      · clear hsc
        go_wp2_with fail
        refine (awake13_ok _).mono ?_
        rintro e w9 ⟨rfl, hb9⟩
        have H9 := Lib.hid (bwstep HK2.out hb9)
        clear hb9
        go_wp2_with fail
        go_ret
        exact ⟨rfl, H9.out⟩
      · go_wp2_with fail
        refine (rsort_any v L _ (HV.out.bel HK2.out) HOK.out (by omega)).mono ?_
        rintro e w3 ⟨⟨x3, rfl, hx3⟩, hb3⟩
        have HB3 := Lib.hid (bwstep HK2.out hb3)
        have hs3 : (sortC L).length ≤ 80 := Nat.le_trans hsc.2.2 hl80
        have HSS := Lib.hid hsc.1
        have HSO := Lib.hid hsc.2.1
        generalize sortC L = S at *
        have HX := Lib.hid (hx3.rd (S := []) (fun _ h => by cases h))
        clear hsc hb3
        have HX3 := HX
        clear hx3 HX
        go_wp2_with fail
        refine (clean_any _ S u _ HX3.out HSS.out (by omega)).mono ?_
        rintro e w4 ⟨⟨x4, rfl, hx4⟩, hb4⟩
        have HX4 := Lib.hid (HX3.out.bel hb4)
        have HB4 := Lib.hid (bwstep HB3.out hb4)
        have HVC : Hid (∀ t, u ≤ t → visP t (cleanP u S) = visP t S) := Lib.hid fun t ht => vis_clean HSS.out ht
        have HCC := Lib.hid (clean_clean HSS.out u)
        have HCS := Lib.hid (srt_clean HSS.out u)
        have HCO := Lib.hid (clean_ok (t := u) HSO.out)
        have hcl := clean_len S u
        generalize cleanP u S = C at *
        have HC4 := Lib.hid hx4.rd0
        clear hx4 hb4 HX3 HB3
        have hm20 : (t : Int) % 20 = ((t % 20 : Nat) : Int) := by rw [Int.natCast_emod]; rfl
        have hm21 : Int.tmod (t : Int) 20 = ((t % 20 : Nat) : Int) := by rw [Int.tmod_eq_emod_of_nonneg (by omega)]; exact hm20
        have hm22 : t % 20 < 20 := Nat.mod_lt _ (by decide)
        generalize t % 20 = m at *
        obtain ⟨A3, c3, rfl, hc3, hm3⟩ := HX4.out.shape
        obtain ⟨A4, c4, rfl, hc4, hm4⟩ := HC4.out.shape
        go_wp2_with fail
        go_loopw [9] (fun i wr => ∃ k : Nat, i = .int .i64 (k : Int) ∧ k ≤ m + 1 ∧ Below w.heap.size w wr ∧ Hid (RdL wr [] (.slice A3 S.length c3) S) ∧ Hid (RdL wr [] (.slice A4 C.length c4) C)) (fun i _ => m + 1 - (intOf i).toNat)
        case atStart => exact ⟨0, rfl, by omega, HB4.out, HX4, HC4⟩
        case round =>
          clear HB4 HX4 HC4
          obtain ⟨k, rfl, hk, hbw, HX4, HC4⟩ := hrel
          have HB4 := Lib.hid hbw
          clear hbw
          by_cases hkm : k ≤ m
          · have hq1 : (k : Int) ≤ (m : Int) := by omega
            have hw1 : IntKind.i64.wrap (u + (k : Int)) = u + (k : Int) := by rw [IntKind.wrap_i64]; omega
            obtain ⟨wo, hwo⟩ : ∃ wo, wo = wr := ⟨_, rfl⟩
            subst hwo
            go_wp2_with fail
            refine (vis_any _ S (u + (k : Int)) _ HX4.out HSS.out (by omega)).mono ?_
            rintro e wa ⟨⟨xa, rfl, hxa⟩, hba⟩
            have HAa := Lib.hid hxa.rd0
            have HBa := Lib.hid (bwstep HB4.out hba)
            have HXa := Lib.hid (HX4.out.bel hba)
            have HCa := Lib.hid (HC4.out.bel hba)
            clear hxa hba
            go_wp2_with fail
            refine (vis_any _ C (u + (k : Int)) _ HCa.out HCS.out (by omega)).mono ?_
            rintro e wb ⟨⟨xb, rfl, hxb⟩, hbb⟩
            rw [HVC.out (u + (k : Int)) (by omega)] at hxb
            have HAb := Lib.hid hxb.rd0
            have HAa2 := Lib.hid (HAa.out.bel hbb)
            have HBb := Lib.hid (bwstep HBa.out hbb)
            have HXb := Lib.hid (HXa.out.bel hbb)
            have HCb := Lib.hid (HCa.out.bel hbb)
            clear hxb hbb
            go_wp2_with fail
            refine (rsameL_self xa xb (visP (u + (k : Int)) S) _ HAa2.out HAb.out (Nat.le_trans (vis_len S _) (by omega))).mono ?_
            rintro e wc ⟨rfl, hbc⟩
            have HB5 := Lib.hid (bwstep HBb.out hbc)
            have HX5 := Lib.hid (HXb.out.bel hbc)
            have HC5 := Lib.hid (HCb.out.bel hbc)
            clear hbc HAa HAb HAa2 HXa HXb HBa HBb HCa HCb
            go_wp2_with fail
            go_roundw
            case rel => exact ⟨k + 1, by go_num, by omega, HB5.out, HX5, HC5⟩
            case measure => simp [intOf]; omega
          · have hq1 : ¬ (k : Int) ≤ (m : Int) := by omega
            obtain ⟨wo, hwo⟩ : ∃ wo, wo = wr := ⟨_, rfl⟩
            subst hwo
            go_wp2_with fail
            refine (vis_any _ S (4294967295) _ HX4.out HSS.out (by omega)).mono ?_
            rintro e wa ⟨⟨xa, rfl, hxa⟩, hba⟩
            have HAa := Lib.hid hxa.rd0
            have HBa := Lib.hid (bwstep HB4.out hba)
            have HXa := Lib.hid (HX4.out.bel hba)
            have HCa := Lib.hid (HC4.out.bel hba)
            clear hxa hba
            go_wp2_with fail
            refine (vis_any _ C (4294967295) _ HCa.out HCS.out (by omega)).mono ?_
            rintro e wb ⟨⟨xb, rfl, hxb⟩, hbb⟩
            rw [HVC.out (4294967295) (by omega)] at hxb
            have HAb := Lib.hid hxb.rd0
            have HAa2 := Lib.hid (HAa.out.bel hbb)
            have HBb := Lib.hid (bwstep HBa.out hbb)
            have HXb := Lib.hid (HXa.out.bel hbb)
            have HCb := Lib.hid (HCa.out.bel hbb)
            clear hxb hbb
            go_wp2_with fail
            refine (rsameL_self xa xb (visP (4294967295) S) _ HAa2.out HAb.out (Nat.le_trans (vis_len S _) (by omega))).mono ?_
            rintro e wc ⟨rfl, hbc⟩
            have HB5 := Lib.hid (bwstep HBb.out hbc)
            have HX5 := Lib.hid (HXb.out.bel hbc)
            have HC5 := Lib.hid (HCb.out.bel hbc)
            clear hbc HAa HAb HAa2 HXa HXb HBa HBb HCa HCb
            go_wp2_with fail
            refine (clean_any _ C u _ HC5.out HCS.out (by omega)).mono ?_
            rintro e w6 ⟨⟨x6, rfl, hx6⟩, hb6⟩
            rw [HCC.out] at hx6
            have HA6 := Lib.hid hx6.rd0
            have HC6 := Lib.hid (HC5.out.bel hb6)
            have HB6 := Lib.hid (bwstep HB5.out hb6)
            clear hx6 hb6
            go_wp2_with fail
            refine (rsameL_self x6 _ C _ HA6.out HC6.out (by omega)).mono ?_
            rintro e w7 ⟨rfl, hb7⟩
            have HC7 := Lib.hid (HC6.out.bel hb7)
            have HB7 := Lib.hid (bwstep HB6.out hb7)
            have hcl2 : (C.length : Int) ≤ (S.length : Int) := by omega
            have hso := rsorted_any _ C w7 HC7.out (by omega) (fun c hc => (HCO.out c hc).sh)
            rw [sortedB_true (sorted_iff.2 ⟨HCO.out, HCS.out⟩)] at hso
            have HSOR := Lib.hid hso
            clear hb7 hso
            go_wp2_with fail
            refine HSOR.out.mono ?_
            rintro e w8 ⟨rfl, hb8⟩
            have HB8 := Lib.hid (bwstep HB7.out hb8)
            clear hb8
            go_wp2_with fail
            go_ret
            exact ⟨rfl, HB8.out⟩
end Go.Proofs.Ytknkdehjgkjljaa
