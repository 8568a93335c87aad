/- The walk of MergeKeeps. -/
import Derived.Test.YtknkdehjgkjljaaMl1
import Derived.Test.YtknkdehjgkjljaaSto
namespace Go.Proofs.Ytknkdehjgkjljaa
open Go.RowKit Ce

set_option maxHeartbeats 8000000 in
set_option maxRecDepth 100000 in
theorem mergeKeeps_walk (v : Value) (LL : List (List Cl)) (w : World) (hv : RdB w v LL) (hz : ∀ M ∈ LL, M.length < 2199023255552) (hy : LL.length ≤ 140737488351232) : Calls Try.prog 8 #[v] w fun e w' => e = .returned (.bool true) ∧ Below w.heap.size w w' := by
  have HV := Lib.hid hv
  clear hv
  go_enter Try.func8, Try.ntmps8
  go_wp2_with fail
  refine (awake13_ok _).mono ?_
  rintro e w1 ⟨rfl, hb1⟩
  have HK1 := Lib.hid hb1
  clear hb1
  go_wp2_with fail
  refine (rfew13_any v LL _ (HV.out.bel HK1.out) hz hy).mono ?_
  rintro e w2 ⟨⟨q, rfl, hq⟩, hb2⟩
  have HK2 := Lib.hid (bwstep HK1.out hb2)
  clear hb2 HK1
  cases q
  · clear hq
    go_wp2_with fail
    refine (awake13_ok _).mono ?_
    rintro e w9 ⟨rfl, hb9⟩
    have H9 := Lib.hid (bwstep HK2.out hb9)
    clear hb9
    go_wp2_with fail
    go_ret
    exact ⟨rfl, H9.out⟩
  · have hfew : Few13 LL := hq rfl
    have HLS := Lib.hid (few_sorts hfew)
    have HOK := Lib.hid (fun M hM => (hfew.2.2 M hM).2)
    have HLE := Lib.hid (fun M hM => (hfew.2.2 M hM).1)
    have hn20 := hfew.1
    clear hq hfew
    go_wp2_with fail
    refine (rsorts_any v LL _ (HV.out.bel HK2.out) HOK.out (fun M hM => Nat.le_trans (HLE.out M hM) (by decide)) (by omega)).mono ?_
    rintro e w3 ⟨⟨x3, vs, rfl, hx3⟩, hb3⟩
    have HB3 := Lib.hid (bwstep HK2.out hb3)
    have HX := Lib.hid hx3.rd
    obtain ⟨SL, hSL⟩ : ∃ SL, LL.map sortC = SL := ⟨_, rfl⟩
    have HEQ := Lib.hid hSL
    rw [hSL] at HLS hx3 HX
    clear hSL
    clear hx3 hb3
    have hal := all_len2 HLS.out
    have hsn := HLS.out.n
    go_wp2_with fail
    refine (all_any x3 SL _ HX.out HLS.out.srt (Nat.le_trans HLS.out.fl (by decide)) (Nat.le_trans HLS.out.n (by decide))).mono ?_
    rintro e w4 ⟨⟨x4, rfl, hx4⟩, hb4⟩
    obtain ⟨Am, cm, rfl, hcm, hmm⟩ := hx4.rd0.shape
    generalize hnm : (allP SL).length = nm at *
    have HOW : Hid (∃ X : List Cl, X.length = nm ∧ OwL w4 w3.heap.size (.slice Am nm cm) X) := Lib.hid ⟨_, hnm, hx4⟩
    have HBE := Lib.hid hb4
    clear hx4 hb4 hnm
    obtain ⟨A3, c3, rfl, hc3, hm3⟩ := HX.out.shape
    go_wp2_with fail
    go_loopw [5] (fun i wr => ∃ j : Nat, i = .int .i64 (j : Int) ∧ j ≤ nm ∧ Hid (∃ X : List Cl, X.length = nm ∧ OwL wr w3.heap.size (.slice Am nm cm) X) ∧ Hid (Below w3.heap.size w3 wr)) (fun i _ => nm - (intOf i).toNat)
    case atStart => exact ⟨0, rfl, by omega, HOW, HBE⟩
    case round =>
      obtain ⟨j, rfl, hj, HXX, HBB⟩ := hrel
      by_cases hjn : j < nm
      · have hj1 : (j : Int) < (nm : Int) := by omega
        have hj0 : (0 : Int) ≤ (j : Int) := by omega
        obtain ⟨X, hXl, ox⟩ := HXX.out
        obtain ⟨g, cap, cur, eg, hg, hh, hc1, hm1, hcs, ht⟩ := ox.open_ (by omega)
        rw [hXl] at eg
        injection eg with e1 _ e3
        subst e1 e3
        have HGX := Lib.hid hh
        have HFX := Lib.hid (show j * 5 + [Cl.zero].length * 5 ≤ cur.size by rw [hcs]; simp; omega)
        have H31 : Hid (∀ w', Turned g (cpd cur (j * 5) [Cl.zero]) wr w' → (∃ X : List Cl, X.length = nm ∧ OwL w' w3.heap.size (.slice (some ⟨g, 0, none⟩) nm cm) X) ∧ Below w3.heap.size w3 w') := Lib.hid fun w' hT => by
          have hs := OwL.stored hg (by omega) hc1 hm1 hcs ht hT
          rw [hXl] at hs
          exact ⟨⟨X.set j Cl.zero, by rw [List.length_set]; exact hXl, hs⟩, HBB.out.trans (hT.b.mono hg)⟩
        clear ox hg hh hc1 hm1 hcs ht
        go_wp2_with (refine wpList_storeAt (c := Cl.zero) (g := g) (n := j * 5) rfl (.tmp 31) (.tmp 30) rfl (by simp [Act.eval]) rfl HGX.out HFX.out ?_)
        constructor
        intro w8 ht8
        obtain ⟨hX8, hB8⟩ := H31.out _ ht8
        have HX8 := Lib.hid hX8
        have HB8 := Lib.hid hB8
        clear ht8 H31 HFX HGX hX8 hB8
        go_wp2_with fail
        go_roundw
        case rel => exact ⟨j + 1, by go_num, by omega, HX8, HB8⟩
        case measure => simp [intOf]; omega
      · have hj1 : ¬ (j : Int) < (nm : Int) := by omega
        have HBO := HBB
        clear HXX
        obtain ⟨wo, hwo⟩ : ∃ wo, wo = wr := ⟨_, rfl⟩
        subst hwo
        have HX5 := Lib.hid (HX.out.bel HBO.out)
        have HB5 := Lib.hid (bwstep HB3.out HBO.out)
        clear HBB HBO HX HB3
        go_wp2_with fail
        refine (rsorts_any v LL _ (HV.out.bel HB5.out) HOK.out (fun M hM => Nat.le_trans (HLE.out M hM) (by decide)) (by omega)).mono ?_
        rintro e w6 ⟨⟨x6, vs6, rfl, hx6⟩, hb6⟩
        have hq6 := hx6.rd
        rw [HEQ.out] at hq6
        have HX6 := Lib.hid (HX5.out.bel hb6)
        have HY6 := Lib.hid hq6
        have HB6 := Lib.hid (bwstep HB5.out hb6)
        obtain ⟨A6, c6, rfl, hc6, hm6⟩ := HY6.out.shape
        clear hx6 hb6 hq6 HX5 HB5
        go_wp2_with fail
        go_loopw [7] (fun i wr => ∃ k : Nat, i = .int .i64 (k : Int) ∧ k ≤ SL.length ∧ Hid (Below w6.heap.size w6 wr)) (fun i _ => SL.length - (intOf i).toNat)
        case atStart => exact ⟨0, rfl, by omega, Lib.hid (Below.refl _ _)⟩
        case round =>
          obtain ⟨k, rfl, hk, HBW⟩ := hrel
          by_cases hkn : k < SL.length
          · have hk1 : (k : Int) < (SL.length : Int) := by omega
            have hk0 : (0 : Int) ≤ (k : Int) := by omega
            have hfk : SL[k]? = some (SL[k]'hkn) := List.getElem?_eq_getElem _
            generalize SL[k]'hkn = M at hfk
            have hml := HLS.out.le M (List.mem_of_getElem? hfk)
            have HMS := Lib.hid (HLS.out.srt M (List.mem_of_getElem? hfk))
            obtain ⟨b3, o3, rfl, hb3⟩ := HX6.out.open_ (by omega)
            obtain ⟨b6, o6, rfl, hb6⟩ := HY6.out.open_ (by omega)
            obtain ⟨A1, c1, hc0, hcl1, hcm1, hr1⟩ := HX6.out.row hfk
            obtain ⟨A2, c2, hd0, hcl2, hcm2, hr2⟩ := HY6.out.row hfk
            unfold maxLen at hcm1 hcm2
            have HCE : Hid (∀ z, Below w6.heap.size w6 z → (z.cell? ⟨b3, o3 + k, none⟩ = some (.slice A1 M.length c1) ∧ z.cell? ⟨b6, o6 + k, none⟩ = some (.slice A2 M.length c2) ∧ Below w6.heap.size w6 z)) := Lib.hid fun z hz => ⟨(hz.cell (p := ⟨b3, o3 + k, none⟩) hb3).trans hc0, (hz.cell (p := ⟨b6, o6 + k, none⟩) hb6).trans hd0, hz⟩
            obtain ⟨c10, -, -⟩ := HCE.out _ HBW.out
            have HR1 := Lib.hid hr1
            have HR2 := Lib.hid hr2
            obtain ⟨wo, hwo⟩ : ∃ wo, wo = wr := ⟨_, rfl⟩
            subst hwo
            clear hfk hc0 hd0 hr1 hr2
            go_wp2_with fail
            refine (clean_any _ M 3 _ (HR1.out.bel HBW.out) HMS.out (by omega)).mono ?_
            rintro e w7 ⟨⟨x7, rfl, hx7⟩, hb7⟩
            obtain ⟨A7, c7, rfl, hc7, hm7⟩ := hx7.rd0.shape
            have hcl7 := clean_len M 3
            generalize hn7 : (cleanP 3 M).length = n7 at *
            have HOW7 : Hid (∃ X : List Cl, X.length = n7 ∧ OwL w7 wo.heap.size (.slice A7 n7 c7) X) := Lib.hid ⟨_, hn7, hx7⟩
            have HBE7 := Lib.hid hb7
            clear hx7 hb7 hn7 c10
            go_wp2_with fail
            go_loopw [9] (fun i wr => ∃ j : Nat, i = .int .i64 (j : Int) ∧ j ≤ n7 ∧ Hid (∃ X : List Cl, X.length = n7 ∧ OwL wr wo.heap.size (.slice A7 n7 c7) X) ∧ Hid (Below wo.heap.size wo wr)) (fun i _ => n7 - (intOf i).toNat)
            case atStart => exact ⟨0, rfl, by omega, HOW7, HBE7⟩
            case round =>
              obtain ⟨j, rfl, hj, HXX, HBB⟩ := hrel
              by_cases hjn : j < n7
              · have hj1 : (j : Int) < (n7 : Int) := by omega
                have hj0 : (0 : Int) ≤ (j : Int) := by omega
                obtain ⟨X, hXl, ox⟩ := HXX.out
                obtain ⟨g, cap, cur, eg, hg, hh, hc1, hm1, hcs, ht⟩ := ox.open_ (by omega)
                rw [hXl] at eg
                injection eg with e1 _ e3
                subst e1 e3
                have HGX := Lib.hid hh
                have HFX := Lib.hid (show j * 5 + [Cl.zero].length * 5 ≤ cur.size by rw [hcs]; simp; omega)
                have H54 : Hid (∀ w', Turned g (cpd cur (j * 5) [Cl.zero]) wr w' → (∃ X : List Cl, X.length = n7 ∧ OwL w' wo.heap.size (.slice (some ⟨g, 0, none⟩) n7 c7) X) ∧ Below wo.heap.size wo w') := Lib.hid fun w' hT => by
                  have hs := OwL.stored hg (by omega) hc1 hm1 hcs ht hT
                  rw [hXl] at hs
                  exact ⟨⟨X.set j Cl.zero, by rw [List.length_set]; exact hXl, hs⟩, HBB.out.trans (hT.b.mono hg)⟩
                clear ox hg hh hc1 hm1 hcs ht
                go_wp2_with (refine wpList_storeAt (c := Cl.zero) (g := g) (n := j * 5) rfl (.tmp 54) (.tmp 53) rfl (by simp [Act.eval]) rfl HGX.out HFX.out ?_)
                constructor
                intro w8 ht8
                obtain ⟨hX8, hB8⟩ := H54.out _ ht8
                have HX8 := Lib.hid hX8
                have HB8 := Lib.hid hB8
                clear ht8 H54 HFX HGX hX8 hB8
                go_wp2_with fail
                go_roundw
                case rel => exact ⟨j + 1, by go_num, by omega, HX8, HB8⟩
                case measure => simp [intOf]; omega
              · have hj1 : ¬ (j : Int) < (n7 : Int) := by omega
                have HBO := HBB
                clear HXX
                obtain ⟨w9, hwo⟩ : ∃ w9, w9 = wr := ⟨_, rfl⟩
                subst hwo
                have HB9 := Lib.hid (bwstep HBW.out HBO.out)
                clear HBB HBO HBE7 HOW7
                have HT := Lib.hid (HCE.out _ (bwstep HB9.out (Below.refl _ _).drew))
                have HU : Hid (∀ z, Below w6.heap.size w6 z → (z.cell? ⟨b3, o3 + k, none⟩ = some (.slice A1 M.length c1) ∧ z.cell? ⟨b6, o6 + k, none⟩ = some (.slice A2 M.length c2) ∧ Below w6.heap.size w6 z)) := HCE
                have HD9 : Hid (Below w6.heap.size w6 w9.drew) := Lib.hid (bwstep HB9.out (Below.refl _ _).drew)
                go_wp2_with fail
                go_region_held3 (fun w' => w'.cell? ⟨b3, o3 + k, none⟩ = some (.slice A1 M.length c1) ∧ w'.cell? ⟨b6, o6 + k, none⟩ = some (.slice A2 M.length c2) ∧ Below w6.heap.size w6 w') (first | exact HT.out | assumption | (exact HU.out _ (by assumption)))
                  (first | (go_at_call 13; refine (rsameL_self _ _ M _ (HR1.out.bel HD9.out) (HR2.out.bel HD9.out) (by omega)).mono ?_; rintro e wb ⟨rfl, hbb⟩; have hBb := bwstep HD9.out hbb; clear hbb))
                all_goals
                  go_wp2_with fail
                  go_roundw
                  case rel => exact ⟨k + 1, by go_num, by omega, Lib.hid hBb⟩
                  case measure => simp [intOf]; omega
          · obtain rfl : k = SL.length := by omega
            have HBF := Lib.hid (bwstep HB6.out HBW.out)
            go_wp2_with fail
            go_ret
            exact ⟨rfl, HBF.out⟩
end Go.Proofs.Ytknkdehjgkjljaa
