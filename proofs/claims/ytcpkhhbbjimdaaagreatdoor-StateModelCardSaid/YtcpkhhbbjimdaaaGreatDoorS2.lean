/- Layer 16, StateModel. -/
import Derived.Test.YtcpkhhbbjimdaaaGreatDoorSaZ
import Derived.Deep.Cut
import Derived.Deep.RegionHeld3
import Derived.BigQuiet
set_option maxHeartbeats 8000000
set_option maxRecDepth 100000
namespace Go.Proofs.YtcpkhhbbjimdaaaGreatDoor.Ce
open Go.RowKit
theorem sub_g7 {g7 gm k : Nat} {M : List Nat} (h : k ∈ [gm] ++ M) : k ∈ [g7, gm] ++ M := by
 rcases List.mem_append.1 h with q | q
 ·rw [List.mem_singleton.1 q]; simp
 ·simp [q]
theorem m17_of {g6 g7 gm : Nat} {c : Cm} {rz : Rv} {sv : Sv} {z : World} (h1 : cmD.In g6 c z) (h2 : rpD.In g7 rz z) (h3 : stD.In gm sv z) : cmD.In g6 c z ∧ rpD.In g7 rz z ∧ stD.In gm sv z ∧ z.cell? ⟨gm, 0, none⟩ = some (.slice sv.a sv.n sv.c) := ⟨h1, h2, h3, h3.at_ rfl⟩
structure RndM (w0 : World) (M : List Nat) (gm g6 g7 b k : Nat) (m : Sm) (c : Cm) (wx : World) : Prop where
 one : OneS w0 wx [g7, g6, gm] M b m k
 bel : Below w0.heap.size w0 wx
 ic : cmD.In g6 c wx
 ir : ∃ rz, rpD.In g7 rz wx ∧ RpIs wx ([gm] ++ M) rz (m.apply c).2
 is_ : ∃ sv, stD.In gm sv wx ∧ SvIs wx ([gm] ++ M) sv (m.apply c).1
theorem stateModel_walk (v : Value) (L : List Cm) (w : World) (hv : St.RdS cmD w [] v L) (hk : Kd w) :
  Calls Tryz.prog 3 #[v] w fun e w' => e = .returned (.bool true) ∧ Below w.heap.size w w' := by
 obtain ⟨A, cp, rfl, hcp, hcm⟩ := hv.shape
 unfold maxLen at hcm
 have HV := Lib.hid hv
 have HK := Lib.hid hk
 have HW0 := Lib.hid (Below.refl w.heap.size w)
 clear hv hk
 go_enter Tryz.func3, Tryz.ntmps3
 go_wp2_with fail
 refine (awake16_ok _ (HK.out.up HW0.out)).mono ?_
 rintro e w1 ⟨rfl, hb1⟩
 have HW1 := Lib.hid hb1
 clear hb1
 go_wp2_with fail
 refine (few16_any _ L _ (HV.out.bel HW1.out)).mono ?_
 rintro e w2 ⟨⟨q, rfl, hq⟩, rfl⟩
 cases q
 ·go_wp2_with fail
  refine (awake16_ok _ (HK.out.up HW1.out)).mono ?_
  rintro e w3 ⟨rfl, hb3⟩
  have HW3 := Lib.hid (bwstep HW1.out hb3)
  go_wp2_with fail
  go_ret
  exact ⟨rfl, HW3.out⟩
 ·have hl50 := (hq rfl).1
  clear hq
  go_wp2_with fail
  refine (new_one w HW1.out).mono ?_
  rintro e w3 ⟨b, rfl, hs3, hb3, hbb3⟩
  have HS3 := Lib.hid hs3
  have HW3 := Lib.hid (bwstep HW1.out hbb3)
  clear hs3 hb3 hbb3
  go_wp2_with (refine St.alloc stOk rfl rfl ?_)
  constructor
  intro w4 hm4 hb4 hz4
  clear hz4
  have hs4 := HS3.out.add hb4 (Nat.le_refl _) hm4.lt
  have hw4 := bwstep HW3.out hb4
  have hsv4 : SvIs w4 ([w3.heap.size] ++ [b]) stD.z Sm.zero := SvIs.zero _ _
  have HGM : Hid (w.heap.size ≤ w3.heap.size) := Lib.hid HW3.out.size
  generalize w3.heap.size = gm at *
  clear hb4 HS3 HW3
  go_wp2_with fail
  go_loopw [5] (fun i wr => ∃ (k : Nat) (M : List Nat) (m : Sm) (sv : Sv), k ≤ L.length ∧ i = .int .i64 (k : Int) ∧ Hid (OneS w wr [gm] M b m k) ∧ Hid (stD.In gm sv wr) ∧ Hid (SvIs wr ([gm] ++ M) sv m) ∧ Hid (Below w.heap.size w wr)) (fun i _ => L.length - (intOf i).toNat)
  case atStart => exact ⟨0, [b], Sm.zero, stD.z, by omega, rfl, Lib.hid hs4, Lib.hid hm4, Lib.hid hsv4, Lib.hid hw4⟩
  case round =>
   obtain ⟨k, M, m, sv, hk, rfl, HS, HM, HSV, HW⟩ := hrel
   clear hs4 hm4 hsv4 hw4
   by_cases hlt : k < L.length
   ·obtain ⟨bl, off, rfl, -, -, -⟩ := HV.out.open_ (by omega)
    have hh3 : (0 : Int) ≤ (k : Int) := by omega
    have hh4 : (k : Int) < (L.length : Int) := by omega
    have hfk : L[k]? = some (L[k]'hlt) := List.getElem?_eq_getElem _
    generalize L[k]'hlt = c at hfk
    have hall := (HV.out.bel HW.out).all cmOk hfk
    clear hfk
    go_wp2_with (first | refine St.loadAt cmOk rfl (.tmp 30) rfl ⟨bl, off + k * 10, none⟩ rfl hall ?_ | refine St.alloc cmOk rfl rfl ?_)
    constructor
    intro w5 hc5 hb5 hz5
    clear hz5
    have HS5 := Lib.hid (HS.out.add hb5 (Nat.le_refl _) hc5.lt)
    have HM5 := Lib.hid (HM.out.up hb5)
    have HB5 := Lib.hid hb5
    have HW5 := Lib.hid (bwstep HW.out hb5)
    have HMR := Lib.hid HM.out.lt
    clear hb5 hall
    go_wp2_with (refine St.store cmOk (c := c) rfl (.tmp 6) (.tmp 31) rfl rfl rfl hc5 ?_)
    constructor
    intro w6 hs6
    have HS6 := Lib.hid (HS5.out.turn (St.Sp.Set.kp hs6 (by simp)))
    have HM6 := Lib.hid (hs6.up HM5.out (Nat.ne_of_lt HMR.out))
    have HSV6 := Lib.hid (HSV.out.bel (hs6.bel HB5.out (Nat.le_refl _)))
    have HC6 := Lib.hid hs6.i
    have HW6 := Lib.hid (hs6.bel HW5.out HW.out.size)
    clear hs6 hc5
    go_wp2_with (refine St.alloc rpOk rfl rfl ?_)
    constructor
    intro w7 hr7 hb7 hz7
    clear hz7
    have HS7 := Lib.hid (HS6.out.add hb7 (Nat.le_refl _) hr7.lt)
    have HM7 := Lib.hid (HM6.out.up hb7)
    have HSV7 : Hid (SvIs w7 ([w6.heap.size, gm] ++ M) sv m) := Lib.hid (HSV6.out.up (Kp.of_below hb7 _) fun k hk => by
     rcases List.mem_append.1 hk with q | q
     ·simp only [List.mem_cons, List.not_mem_nil, or_false] at q
      rcases q with rfl | rfl
      ·exact .inr (Nat.le_refl _)
      ·exact .inl (by simp)
     ·exact .inl (by simp [q]))
    have hc7 := HC6.out.up hb7
    have HR7 := Lib.hid hr7
    have HW7 := Lib.hid (bwstep HW6.out hb7)
    have HL6 := Lib.hid HC6.out.lt
    clear hb7 hr7
    go_wp2_with (refine St.load cmOk rfl (.tmp 6) rfl rfl hc7 ?_)
    refine (rright15_any c _).mono ?_
    rintro e w8 ⟨rfl, hb8⟩
    obtain ⟨q, hq⟩ : ∃ q, q = decide c.Right := ⟨_, rfl⟩
    rw [← hq]
    have HQ := Lib.hid hq
    have HS8 := Lib.hid (HS7.out.up hb8)
    have HM8 := Lib.hid (HM7.out.up hb8)
    have HC8 := Lib.hid (hc7.up hb8)
    have HR8 := Lib.hid (HR7.out.up hb8)
    have HSV8 := Lib.hid (HSV7.out.bel hb8)
    have HW8 := Lib.hid (bwstep HW7.out hb8)
    have HGD := Lib.hid HS.out.st.good
    have HFW := Lib.hid HS.out.st.few
    have HGS : Hid (gm < wr.heap.size ∧ wr.heap.size < w6.heap.size) := Lib.hid ⟨HMR.out, HC6.out.lt⟩
    clear hq hb8 hc7 HS7 HM7 HR7 HSV7 HW7 HS5 HM5 HB5 HW5 HS6 HM6 HSV6 HC6 HW6
    generalize hg6 : wr.heap.size = g6 at *
    generalize hg7 : w6.heap.size = g7 at *
    clear hg6 hg7
    go_upto_if 34 with fail
    go_cut [8, 9] from 35 to 43 (fun _ _ wx => Hid (RndM w M gm g6 g7 b k m c wx))
    case first =>
     cases q
     ·have hno : ¬ c.Right := of_decide_eq_false HQ.out.symm
      have HE : Hid (m.apply c = (m, Rp.err)) := Lib.hid (Sm.apply_no hno)
      have hr8 := HR8.out
      clear hno
      go_wp2_with (refine St.store rpOk (c := RvE) rfl (.tmp 7) (.tmp 35) rfl rfl rfl hr8 ?_)
      constructor
      intro w9 hs9
      have HS9 := Lib.hid (HS8.out.turn (St.Sp.Set.kp hs9 (by simp)))
      have HM9 := Lib.hid (hs9.up HM8.out (by have := HGS.out; omega))
      have HC9 := Lib.hid (hs9.up HC8.out (by have := HGS.out; omega))
      have HSV9 := Lib.hid (HSV8.out.up (S' := [gm] ++ M) (St.Sp.Set.kp hs9 (by simp)) (fun k hk => .inl (sub_g7 hk)))
      have HW9 := Lib.hid (hs9.bel HW8.out (by have := HGS.out; have := HGM.out; omega))
      have HI9 := Lib.hid hs9.i
      clear hs9 hr8
      go_wp2_with fail
      go_meet
      case rel => exact Lib.hid ⟨HS9.out, HW9.out, HC9.out, ⟨RvE, HI9.out, by rw [HE.out]; exact RpIs.err _ _⟩, ⟨sv, HM9.out, by rw [HE.out]; exact HSV9.out⟩⟩
     ·have hyes : c.Right := of_decide_eq_true HQ.out.symm
      have HE : Hid (m.apply c = m.app c) := Lib.hid (Sm.apply_yes hyes)
      have HAP := Lib.hid (rapply_any sv m c w8 ([g7, gm] ++ M) (fun k hk => by
       rcases List.mem_append.1 hk with q | q
       ·exact HS8.out.xlt k (by simp only [List.mem_cons, List.not_mem_nil, or_false] at q ⊢; rcases q with q | q <;> simp [q])
       ·exact (HS8.out.st.sub k q).2) HSV8.out hyes HGD.out)
      have hm8 := HM8.out
      have hc8 := HC8.out
      clear hyes
      go_wp2_with (first | refine St.load stOk rfl (.tmp 4) rfl rfl hm8 ?_ | refine St.load cmOk rfl (.tmp 6) rfl rfl hc8 ?_)
      refine HAP.out.mono ?_
      rintro e w9 ⟨⟨s9, r9, rfl, hs9, hr9⟩, hb9⟩
      have HSV9 := Lib.hid hs9
      have HRV9 := Lib.hid hr9
      have HB9 := Lib.hid hb9
      clear hs9 hr9 hb9 hm8 hc8 HAP
      go_wp2_with (refine St.alloc stOk rfl rfl ?_)
      constructor
      intro w10 ha10 hb10 hz10
      clear hz10
      have HB10 := Lib.hid hb10
      have HL9 := Lib.hid ha10.lt
      clear hb10
      go_wp2_with (refine St.alloc rpOk rfl rfl ?_)
      constructor
      intro w11 ha11 hb11 hz11
      clear hz11
      have hB11 := bwstep HB10.out hb11
      have ha10' := ha10.up hb11
      clear hb11 ha10
      go_wp2_with (refine St.store stOk (c := s9) rfl (.tmp 8) (.tmp 40) rfl rfl rfl ha10' ?_)
      constructor
      intro w12 hs12
      have hB12 := hs12.bel hB11 (Nat.le_refl _)
      have ha12 := hs12.i
      have hr12 := hs12.up ha11 (Nat.ne_of_gt HL9.out)
      clear hs12 ha11 ha10' hB11
      go_wp2_with (refine St.store rpOk (c := r9) rfl (.tmp 9) (.tmp 41) rfl rfl rfl hr12 ?_)
      constructor
      intro w13 hs13
      have HB13 := Lib.hid (hs13.bel hB12 (Nat.le_of_lt HL9.out))
      have HA13 := Lib.hid (hs13.up ha12 (Nat.ne_of_lt HL9.out))
      have HR13 := Lib.hid hs13.i
      have HBX := Lib.hid (bwstep HB9.out (HB13.out.mono (Nat.le_refl _)))
      clear hs13 ha12 hr12 hB12
      have HS13 := Lib.hid (HS8.out.up HBX.out)
      have hm13 := HM8.out.up HBX.out
      have HC13 := Lib.hid (HC8.out.up HBX.out)
      have HQ13 := Lib.hid (HR8.out.up HBX.out)
      have HW13 := Lib.hid (bwstep HW8.out HBX.out)
      have HSV13 := Lib.hid (HSV9.out.bel HB13.out)
      have HRV13 := Lib.hid (HRV9.out.bel HB13.out)
      have ha13 := HA13.out
      have HLT : Hid (gm < w9.heap.size ∧ g6 < w9.heap.size ∧ g7 < w9.heap.size) := by
       have e1 := (HM8.out.up HB9.out).lt
       have e2 := (HC8.out.up HB9.out).lt
       have e3 := (HR8.out.up HB9.out).lt
       exact Lib.hid ⟨e1, e2, e3⟩
      go_wp2_with (first | refine St.load stOk rfl (.tmp 8) rfl rfl ha13 ?_ | refine St.store stOk (c := s9) rfl (.tmp 4) (.tmp 42) rfl rfl rfl hm13 ?_)
      constructor
      intro w14 hs14
      have HS14 := Lib.hid (HS13.out.turn (St.Sp.Set.kp hs14 (by simp)))
      have HM14 := Lib.hid hs14.i
      have HC14 := Lib.hid (hs14.up HC13.out (by have := HGS.out; omega))
      have hq14 := hs14.up HQ13.out (by have := HGS.out; omega)
      have hr14 := hs14.up HR13.out (by have := HLT.out; have := HL9.out; omega)
      have HW14 := Lib.hid (hs14.bel HW13.out HGM.out)
      have HSV14 := Lib.hid (HSV13.out.up (S' := [g7, gm] ++ M) (St.Sp.Set.kp hs14 (by simp)) (fun k hk => .inl hk))
      have HRV14 := Lib.hid (HRV13.out.up (S' := [g7, gm] ++ M) (St.Sp.Set.kp hs14 (by simp)) (fun k hk => .inl hk))
      clear hs14 hm13 ha13
      go_wp2_with (first | refine St.load rpOk rfl (.tmp 9) rfl rfl hr14 ?_ | refine St.store rpOk (c := r9) rfl (.tmp 7) (.tmp 43) rfl rfl rfl hq14 ?_)
      constructor
      intro w15 hs15
      have HS15 := Lib.hid (HS14.out.turn (St.Sp.Set.kp hs15 (by simp)))
      have HM15 := Lib.hid (hs15.up HM14.out (by have := HGS.out; omega))
      have HC15 := Lib.hid (hs15.up HC14.out (by have := HGS.out; omega))
      have HW15 := Lib.hid (hs15.bel HW14.out (by have := HGS.out; have := HGM.out; omega))
      have HSV15 := Lib.hid (HSV14.out.up (S' := [gm] ++ M) (St.Sp.Set.kp hs15 (by simp)) (fun k hk => .inl (sub_g7 hk)))
      have HRV15 := Lib.hid (HRV14.out.up (S' := [gm] ++ M) (St.Sp.Set.kp hs15 (by simp)) (fun k hk => .inl (sub_g7 hk)))
      have HI15 := Lib.hid hs15.i
      clear hs15 hq14 hr14
      go_wp2_with fail
      go_meet
      case rel => exact Lib.hid ⟨HS15.out, HW15.out, HC15.out, ⟨r9, HI15.out, by rw [HE.out]; exact HRV15.out⟩, ⟨s9, HM15.out, by rw [HE.out]; exact HSV15.out⟩⟩
    case rest =>
     obtain ⟨h1, h2, h3, ⟨rz, h4, h5⟩, sv, h6, h7⟩ := hcut.out
     have hd : Below wc.heap.size wc wc.drew := (Below.refl _ _).drew
     have HS5 := Lib.hid (h1.up hd)
     have HW5 := Lib.hid (bwstep h2 hd)
     have HT := Lib.hid (m17_of (h3.up hd) (h4.up hd) (h6.up hd))
     have HRW5 := Lib.hid (h5.bel hd)
     have HSV5 := Lib.hid (h7.bel hd)
     have HFEW : Hid (∀ _ : Unit, (m.apply c).2.cells.length ≤ 1000000000) := Lib.hid fun _ => Sm.apply_few HFW.out
     have HG6 : Hid ((m.apply c).1.cells.length ≤ 400) := Lib.hid (Sm.apply_good HGD.out).le
     have HNEW : Hid (∀ M' : List Nat, (∀ k ∈ M', k ∈ M ∨ wc.drew.heap.size ≤ k) → ∀ k ∈ [gm] ++ M', k ∈ [gm] ++ M ∨ wc.drew.heap.size ≤ k) := Lib.hid fun M' h k hk => by
      rcases List.mem_append.1 hk with q | q
      ·exact .inl (by rw [List.mem_singleton.1 q]; simp)
      ·exact (h k q).imp (fun h => by simp [h]) id
     clear hcut h1 h2 h3 h4 h5 h6 h7 HS8 HM8 HC8 HR8 HSV8 HW8 HQ HS HM HSV HW
     go_wp2_with fail
     refine wp_region_held_drew (S := fun z => cmD.In g6 c z ∧ rpD.In g7 rz z ∧ stD.In gm sv z ∧ z.cell? ⟨gm, 0, none⟩ = some (.slice sv.a sv.n sv.c)) (by kernel_rfl) HT.out (fun hHeld => ?_)
     refine takeL 0 (h := ?_)
     refine takeL 1 (hy := by intro z hSz; exact St.run_opLoad cmOk (.tmp 6) rfl rfl hSz.1) (h := ?_)
     refine takeL 3 (hy := by intro z hSz; exact St.run_opLoad rpOk (.tmp 7) rfl rfl hSz.2.1) (h := ?_)
     refine wpAnyH_ready (rs := [2]) (by kernel_rfl) (by simp) ?_
     refine AllReadyH.cons (o := _) (by simp only [List.getElem?_toArray, List.getElem?_cons_succ, List.getElem?_cons_zero]; rfl) (fun K hK => ?_) AllReadyH.nil
     go_simp
     go_at_call 14
     refine (HS5.out.apply HW5.out HK.out (by omega) c).mono ?_
     rintro e w6 ⟨M6, r6, rfl, hr6, hs6, hk6⟩
     have HR6 := Lib.hid (hr6.is (S := []) (fun _ h => by cases h))
     have HS6 := Lib.hid hs6
     have HAK := Lib.hid hk6
     refine hK.out _ _ (m17_of (hk6.in_ hHeld.1 (by simp)) (hk6.in_ hHeld.2.1 (by simp)) (hk6.in_ hHeld.2.2.1 (by simp))) (fun hHeld => ?_)
     clear hr6 hs6 hk6 hK K
     ((try simp only [Act.put]); (try simp only [List.setIfInBounds_toArray]); (try simp only [List.set_cons_succ]); (try simp only [List.set_cons_zero]))
     have HRW6 := Lib.hid (HRW5.out.up (S' := []) (Kp.more HAK.out.kp (fun k hk => by simp [hk])) (fun _ h => by cases h))
     refine wpAnyH_ready (rs := [4]) (by kernel_rfl) (by simp) ?_
     refine AllReadyH.cons (o := _) (by simp only [List.getElem?_toArray, List.getElem?_cons_succ, List.getElem?_cons_zero]; rfl) (fun K hK => ?_) AllReadyH.nil
     go_simp
     go_at_call 13
     refine (rsame16_any r6 rz (m.apply c).2 (m.apply c).2 _ HR6.out HRW6.out (HFEW.out ())).mono ?_
     rintro e w7 ⟨rfl, hb7⟩
     rw [decide_eq_true rfl]
     have HW7 := Lib.hid (bwstep HAK.out.bel hb7)
     have HS7 := Lib.hid (HS6.out.up hb7)
     have HB7 := Lib.hid hb7
     refine hK.out _ _ (m17_of (hHeld.1.up hb7) (hHeld.2.1.up hb7) (hHeld.2.2.1.up hb7)) (fun hHeld => ?_)
     clear hb7 hK K
     ((try simp only [Act.put]); (try simp only [List.setIfInBounds_toArray]); (try simp only [List.set_cons_succ]); (try simp only [List.set_cons_zero]))
     refine takeL 5 (h := ?_)
     refine takeL 6 (h := ?_)
     refine takeL 7 (h := ?_)
     refine takeL 9 (h := ?_)
     refine takeL 10 (h := ?_)
     refine wpAnyH_ready (rs := [8]) (by kernel_rfl) (by simp) ?_
     refine AllReadyH.cons (o := _) (by simp only [List.getElem?_toArray, List.getElem?_cons_succ, List.getElem?_cons_zero]; rfl) (fun K hK => ?_) AllReadyH.nil
     go_simp
     go_at_call 16
     refine (scells_any HS7.out.st).mono ?_
     rintro e w8 ⟨⟨x8, rfl, hx8⟩, hb8⟩
     have HX8 := Lib.hid (hx8.rd (S := []) (fun _ h => by cases h))
     have HW8 := Lib.hid (bwstep HW7.out hb8)
     have HS8 := Lib.hid (HS7.out.up hb8)
     have HB8 := Lib.hid (bwstep HB7.out hb8)
     refine hK.out _ _ (m17_of (hHeld.1.up hb8) (hHeld.2.1.up hb8) (hHeld.2.2.1.up hb8)) (fun hHeld => ?_)
     clear hx8 hb8 hK K
     ((try simp only [Act.put]); (try simp only [List.setIfInBounds_toArray]); (try simp only [List.set_cons_succ]); (try simp only [List.set_cons_zero]))
     have HSV6 := Lib.hid (HSV5.out.up (S' := [gm] ++ M6) (Kp.more HAK.out.kp (fun k hk => by simp [hk])) fun k hk => HNEW.out M6 HAK.out.new k hk)
     have HSV8 := Lib.hid (HSV6.out.bel HB8.out)
     refine wpAnyH_ready (rs := [11]) (by kernel_rfl) (by simp) ?_
     refine AllReadyH.cons (o := _) (by simp only [List.getElem?_toArray, List.getElem?_cons_succ, List.getElem?_cons_zero]; rfl) (fun K hK => ?_) AllReadyH.nil
     go_simp
     go_at_call 15
     refine (rsameL_any x8 (.slice sv.a sv.n sv.c) (m.apply c).1.cells (m.apply c).1.cells _ HX8.out (HSV8.out.cells.up (Kp.refl _ _) (fun _ h => by cases h)) (by have := HG6.out; omega)).mono ?_
     rintro e w9 ⟨rfl, hb9⟩
     rw [decide_eq_true rfl]
     have HW9 := Lib.hid (bwstep HW8.out hb9)
     have HS9 := Lib.hid (HS8.out.up hb9)
     have HSV9 := Lib.hid (HSV8.out.bel hb9)
     refine hK.out _ _ (m17_of (hHeld.1.up hb9) (hHeld.2.1.up hb9) (hHeld.2.2.1.up hb9)) (fun hHeld => ?_)
     clear hb9 hK K
     ((try simp only [Act.put]); (try simp only [List.setIfInBounds_toArray]); (try simp only [List.set_cons_succ]); (try simp only [List.set_cons_zero]))
     refine takeL 12 (h := ?_)
     refine takeL 13 (h := ?_)
     refine wpAnyH_done (by kernel_rfl) ?_ _
     have HI9 := Lib.hid hHeld.2.2.1
     clear hHeld
     go_wp2_with fail
     go_roundw
     case rel => exact ⟨k + 1, M6, (m.apply c).1, sv, by omega, by go_num, Lib.hid (HS9.out.less (by simp)), HI9, HSV9, HW9⟩
     case measure => simp [intOf]; omega
   ·obtain rfl : k = L.length := by omega
    clear hlt hk HV
    obtain ⟨wo, hwo⟩ : ∃ wo, wo = wr := ⟨_, rfl⟩
    subst hwo
    go_wp2_with fail
    go_loopw [10] (fun i wr => ∃ j : Nat, 1 ≤ j ∧ j ≤ 17 ∧ i = .int .i64 (j : Int) ∧ Below wo.heap.size wo wr) (fun i _ => 17 - (intOf i).toNat)
    case atStart => exact ⟨1, by omega, by omega, rfl, Below.refl _ _⟩
    case round =>
     obtain ⟨j, hj1, hj2, rfl, hbq⟩ := hrel
     have HBQ := Lib.hid hbq
     clear hbq
     by_cases hlt : j ≤ 16
     ·have hh1 : (j : Int) ≤ 16 := by omega
      have hh2 : (0 : Int) ≤ (j : Int) := by omega
      have hh3 : (j : Int) < 17 := by omega
      have q0 : wr.cell? ⟨gm, 1 + j, none⟩ = some (.int .i64 (m.seq j)) := by
       rw [← HSV.out.seq]
       exact (HM.out.up HBQ.out).at_ (st_seq sv (by omega))
      have hla := fun q : Nat => slast_any (j : Int) ((HS.out.up HBQ.out).up (bwN (w := wr) q)).st
      have hif : (if (1 : Int) ≤ (j : Int) ∧ (j : Int) ≤ 16 then m.seq ((j : Int)).toNat else 0) = m.seq j := by
       rw [if_pos (by omega), Int.toNat_natCast]
      rw [hif] at hla
      generalize m.seq j = x at *
      go_wp2_with fail
      go_quiet (first | (go_at_call 17; exact (hla _).mono fun _ _ ⟨h1, h2⟩ => ⟨h1, _, h2.symm⟩))
      have hbn := bwstep HBQ.out (bwN (w := wr) nq)
      go_wp2_with fail
      go_roundw
      case rel => exact ⟨j + 1, by omega, by omega, by go_num, hbn⟩
      case measure => simp [intOf]; omega
     ·have hla := slast_any 99 (HS.out.up HBQ.out).st
      have hif : (if (1 : Int) ≤ (99 : Int) ∧ (99 : Int) ≤ 16 then m.seq ((99 : Int)).toNat else 0) = 0 := if_neg (by omega)
      rw [hif] at hla
      have hh1 : ¬ (j : Int) ≤ 16 := by omega
      have HWQ := Lib.hid (bwstep HW.out HBQ.out)
      go_wp2_with fail
      refine hla.mono ?_
      rintro e we ⟨rfl, rfl⟩
      go_wp2_with fail
      go_ret
      exact ⟨rfl, HWQ.out⟩
end Go.Proofs.YtcpkhhbbjimdaaaGreatDoor.Ce
