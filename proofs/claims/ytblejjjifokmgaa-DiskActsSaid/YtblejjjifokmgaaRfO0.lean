/- The reference's act 0 (append) of layer 7. -/
import Derived.Test.YtblejjjifokmgaaRfD
import Derived.Test.YtblejjjifokmgaaDoC
namespace Go.Proofs.Ytblejjjifokmgaa
open Go.RowKit Go.Maps Dk
set_option linter.unusedVariables false
set_option maxHeartbeats 4000000 in
set_option maxRecDepth 100000 in
theorem rdo0 {w : World} {v : Value} {L : List Rf} {S : List Nat} (hv : RdF w S v L) (hS : ∀ k ∈ S, k < w.heap.size) (hs : Srt rk L) (hL : L.length ≤ 100000) (most : Nat) (hmost : most ≤ 65536) (hlen : ∀ f ∈ L, f.fl.l.length ≤ 100000) (htot : total (L.map Rf.fl) ≤ 65536) (nm ot : ByteArray) (bx kx : Value) (b : List UInt8) (at_ : Int) (ks : List Int) (hx : RdS w S bx b) (hk : RdV w S kx (ks.map iv)) (hb : b.length ≤ 1000000) :
    Calls Try.prog 8 #[v, .int .i64 (most : Int), .agg #[.int .i64 0, .string nm, .string ot, bx, .int .i64 at_, kx]] w fun e w' => RRes w w' S (apF most nm b (L.map Rf.fl)) e := by
  obtain ⟨A, c, rfl, hc, hm⟩ := hv.c.shape
  obtain ⟨Ab, cb, rfl, hcb, hmb⟩ := hx.1.shapeM
  obtain ⟨Ak, ck, rfl, hck, hmk⟩ := hk.1.shapeM
  unfold maxLen at hm hmb
  have hb0 := bwalloc (bwrefl w) (.cells #[.int .i64 0, .string nm, .string ot, .slice Ab b.length cb, .int .i64 at_, .slice Ak ks.length ck] 31)
  have hac := ActC.new w 0 nm ot (.slice Ab b.length cb) at_ (.slice Ak ks.length ck) 31
  have hv0 := hv.bel hb0
  have hx0 : RdS _ S _ b := hx.up (Kp.of_below hb0 S) fun _ hk => .inl hk
  have hfi := rfind_any _ L S nm _ hv0.c
  have HB := Lib.hid hb0
  have HV0 := Lib.hid hv0
  unfold apF
  by_cases hN : named nm = false
  · rw [if_pos hN]
    clear hb0 hv0 hx0
    go_enter Try.func8, Try.ntmps8
    go_wp2_with fail
    refine hfi.mono ?_
    rintro e w1 ⟨rfl, rfl⟩
    go_wp2_with fail
    refine (rnamed_any nm _).mono ?_
    rintro e w1 ⟨rfl, rfl⟩
    rw [hN]
    go_wp2_with fail
    go_ret2
    exact ⟨⟨_, L, rfl, HV0.out, rfl⟩, HB.out⟩
  rw [if_neg hN]
  have ha : named nm = true := by
    cases h : named nm
    · exact absurd h hN
    · rfl
  clear hN
  obtain ⟨wb, hwb⟩ : ∃ wb, wb = w.alloc (.cells #[.int .i64 0, .string nm, .string ot, .slice Ab b.length cb, .int .i64 at_, .slice Ak ks.length ck] 31) := ⟨_, rfl⟩
  rw [← hwb] at hb0 hac hv0 hfi hx0
  have hus := fun n : Nat => rused_any _ L S (wb.drewN n) (hv0.bel (bwN n)) (by omega)
  have HWB := Lib.hid hwb
  have HAC := Lib.hid hac
  have HB0 := Lib.hid hb0
  have HV0 := Lib.hid hv0
  have HX0 := Lib.hid hx0
  have hsub : IntKind.i64.wrap ((most : Int) - (total (L.map Rf.fl) : Int)) = (most : Int) - (total (L.map Rf.fl) : Int) := IntWalk.i64_in _ (by omega)
  obtain ⟨a0, a1, a2, a3, a4, a5⟩ : _ ∧ _ ∧ _ ∧ _ ∧ _ ∧ _ := ⟨hac.a0, hac.a1, hac.a2, hac.a3, hac.a4, hac.a5⟩
  clear hwb HB
  by_cases hM : most < total (L.map Rf.fl) + b.length
  · rw [if_pos hM]
    have hM2 : (most : Int) - (total (L.map Rf.fl) : Int) < (b.length : Int) := by omega
    clear hb0 hac hv0 hx0
    go_enter Try.func8, Try.ntmps8
    go_wp2_with fail
    rw [← HWB.out]
    refine hfi.mono ?_
    rintro e w1 ⟨rfl, rfl⟩
    go_wp2_with fail
    refine (rnamed_any nm _).mono ?_
    rintro e w1 ⟨rfl, rfl⟩
    rw [ha]
    go_wp2_with fail
    go_quiet (first | (go_at_call 22; exact Calls.quiet_of_same ((hus _).mono fun _ _ ⟨h1, h2⟩ => ⟨h1, h2.symm⟩)))
    go_wp2_with fail
    go_ret2
    exact ⟨⟨_, L, rfl, HV0.out.bel (bwN _), rfl⟩, HB0.out.trans (bwN' _ _)⟩
  · rw [if_neg hM]
    have hM2 : ¬ (most : Int) - (total (L.map Rf.fl) : Int) < (b.length : Int) := by omega
    rcases rfnd_cases hs nm with ⟨h1, h2⟩ | ⟨P, f, C, hLe, h1, h2, h3, h4, h5⟩
    · rw [h2] at hfi
      have hno := fnd_no h1
      have HRES : Hid (put key ⟨(opF nm (L.map Rf.fl)).nm, (opF nm (L.map Rf.fl)).l ++ b, (opF nm (L.map Rf.fl)).s⟩ (opL nm (L.map Rf.fl)) = put key ⟨nm, b, 0⟩ (L.map Rf.fl)) := Lib.hid (by
        unfold opL opF
        rw [h1]
        rw [if_neg (by simp)]
        exact put_over (x := ⟨nm, b, 0⟩) (y := ⟨nm, [], 0⟩) rfl _)
      have HNO := Lib.hid hno
      clear hb0 hac hv0 hx0 h1 h2 hno
      go_enter Try.func8, Try.ntmps8
      go_wp2_with fail
      rw [← HWB.out]
      refine hfi.mono ?_
      rintro e w1 ⟨rfl, rfl⟩
      go_wp2_with fail
      refine (rnamed_any nm _).mono ?_
      rintro e w1 ⟨rfl, rfl⟩
      rw [ha]
      go_wp2_with fail
      go_quiet (first | (go_at_call 22; exact Calls.quiet_of_same ((hus _).mono fun _ _ ⟨h1, h2⟩ => ⟨h1, h2.symm⟩)))
      have hbq : Below wb.heap.size wb (wb.drewN nq) := bwN nq
      generalize wb.drewN nq = wz at *
      have HBZ := Lib.hid (bwstep HB0.out hbq)
      have HAZ := Lib.hid (HAC.out.bel hbq)
      have HVZ := Lib.hid (HV0.out.bel hbq)
      have hxz : RdS wz S _ b := HX0.out.up (Kp.of_below hbq S) fun _ hk => .inl hk
      have HXZ := Lib.hid hxz
      clear hxz hbq hus hfi a0 a1 a2 a3 a4 a5
      obtain ⟨a0, a1, a2, a3, a4, a5⟩ : _ ∧ _ ∧ _ ∧ _ ∧ _ ∧ _ := ⟨HAZ.out.a0, HAZ.out.a1, HAZ.out.a2, HAZ.out.a3, HAZ.out.a4, HAZ.out.a5⟩
      have hfc := FilC.new wz ⟨⟨nm, [], 0⟩, .slice none 0 0⟩ 58
      have hbf := bwalloc (bwrefl wz) (.cells #[.string nm, .slice none 0 0, .int .i64 0] 58)
      go_wp2_with fail
      have hfc : FilC (wz.alloc (.cells #[.string nm, .slice none 0 0, .int .i64 0] 58)) wz.heap.size ⟨⟨nm, [], 0⟩, .slice none 0 0⟩ := hfc
      generalize wz.alloc (.cells #[.string nm, .slice none 0 0, .int .i64 0] 58) = W0 at *
      have HB0' := Lib.hid (bwstep HBZ.out hbf)
      have HF0 := Lib.hid hfc
      have HA0 := Lib.hid (HAZ.out.bel hbf)
      have HR0 : Hid (RdF W0 (wz.heap.size :: S) (.slice A L.length c) L) := Lib.hid (HVZ.out.up (Kp.of_below hbf _) fun k hk => by
        rcases List.mem_cons.1 hk with rfl | hk
        · exact .inr (Nat.le_refl _)
        · exact .inl hk)
      have r0 : Rd W0 W0.heap.size (.slice none 0 0) (([] : List UInt8).map bv) := Rd.nil _ _
      have hxw : Rd W0 W0.heap.size (.slice Ab b.length cb) (b.map bv) := (HXZ.out.up (Kp.of_below hbf S) fun _ hk => .inl hk).1
      clear hfc hbf a0 a1 a2 a3 a4 a5
      have hb1 : Below W0.heap.size W0 (W0.alloc (.cells #[] 5)).drew := (bwalloc (bwrefl W0) _).drew
      have e1 : Ow (W0.alloc (.cells #[] 5)).drew W0.heap.size 5 (.slice (some ⟨W0.heap.size, 0, none⟩) 0 0) (([] : List UInt8).map bv) := Ow.empty W0 (Nat.le_refl _) _
      have r1 : Rd (W0.alloc (.cells #[] 5)).drew _ (.slice none 0 0) (([] : List UInt8).map bv) := r0.up hb1
      have hs0 : W0.heap.size ≤ (W0.alloc (.cells #[] 5)).drew.heap.size := hb1.size
      have l1 : ([] : List UInt8).length + ([] : List UInt8).length ≤ 140737488355328 := by simp; try omega
      have l2 : ([] : List UInt8).length + b.length ≤ 140737488355328 := by simp; try omega
      have qA := HA0.out.bel hb1
      have qF := HF0.out.bel hb1
      have qf1 := qF.f1
      have qa3 := qA.a3
      have f1 := HF0.out.f1
      have a3 := HA0.out.a3
      have z1 := HF0.out.z1
      have HXW := Lib.hid (fun (W' : World) (h : Below W0.heap.size W0 W') => hxw.up h)
      clear qA qF hxw r0
      go_region_law (first
        | (refine step_appB bytesT rfl (.tmp 52) (.tmp 54) rfl (by simp [Act.eval]) e1 (by simp [Act.eval]) r1 l1 hs0 ?_; intro v1 w1 p1 g1 h1; rw [List.nil_append] at p1; have hb2 := hb1.grown g1 hb1.size (fun q hq => (e1.lt q hq).1); have r2 := HXW.out _ hb2; have hs1 := hb2.size; have ua3 := (HA0.out.bel hb2).a3; have uf1 := (HF0.out.bel hb2).f1; clear g1 h1)
        | (refine step_appB bytesT rfl (.tmp 55) (.tmp 57) rfl (by simp [Act.eval]) p1 (by simp [Act.eval]) r2 l2 hs1 ?_; intro v2 w3 p2 g2 h2; have HB3 := Lib.hid (hb2.grown g2 hb2.size (fun q hq => (p1.lt q hq).1)); rw [List.nil_append] at p2; obtain ⟨A3, c3, ev3, hc3, hm3⟩ := p2.rd.shapeM; subst ev3; have HF3 := Lib.hid (HF0.out.bel HB3.out); obtain ⟨f0, f1, f2, z0, z1, z2⟩ : _ ∧ _ ∧ _ ∧ _ ∧ _ ∧ _ := ⟨HF3.out.f0, HF3.out.f1, HF3.out.f2, HF3.out.z0, HF3.out.z1, HF3.out.z2⟩; have HO3 := Lib.hid p2; clear g2 h2 p2))
      all_goals (
        go_wp2_with fail
        have hk4 : Kp [wz.heap.size] w3 (w3.setCell ⟨wz.heap.size, 1, none⟩ (.slice A3 b.length c3)) := Kp.set _ (p := ⟨wz.heap.size, 1, none⟩) (by simp) _
        have r4 := keep_rest HR0.out HB3.out hk4
        have hb4 : RdS _ (wz.heap.size :: S) (.slice A3 b.length c3) b := own_bytes HO3.out (low_all HB0'.out hS HF0.out.lt) hk4
        have hpt := rput_any _ L _ ⟨⟨nm, b, 0⟩, .slice A3 b.length c3⟩ _ r4 rfl (by omega) hs (fun y hy e => HNO.out y hy e)
        have HK4 := Lib.hid hk4
        have R4 := Lib.hid r4
        have HFV4 := Lib.hid hb4
        clear hk4 r4 hb4
        refine hpt.mono ?_
        rintro e w5 ⟨⟨v5, rfl, p5⟩, hb5⟩
        go_wp2_with fail
        go_ret2
        rw [HRES.out]
        exact put_res (w := w) p5 R4.out HFV4.out hb5 rfl (fun k hk => by have := hS k hk; have := (all_bel HB0'.out HB3.out HK4.out HBZ.out.size).size; omega) (bwstep (all_bel HB0'.out HB3.out HK4.out HBZ.out.size) hb5) (by have q := ins_wo (L := L) (f' := ⟨⟨nm, b, 0⟩, .slice A3 b.length c3⟩) (n := nm.data.toList) rfl; rwa [wo_no HNO.out] at q))
    · rw [h3] at hfi
      have hPl : P.length < L.length := (List.getElem?_eq_some_iff.1 h4).1
      obtain ⟨bl, off, rfl, -, -⟩ := hv.c.open_ (by omega)
      have hfL := List.mem_of_getElem? h4
      have hlf := hlen f hfL
      obtain ⟨Av, cv, ev, hcv, hmv⟩ := (hv.b f hfL).1.shapeM
      unfold maxLen at hmv
      have EV := Lib.hid ev
      have HFL := Lib.hid hfL
      have H1 := Lib.hid h1
      have H4 := Lib.hid h4
      have H5 := Lib.hid h5
      have HRES : Hid (put key ⟨(opF nm (L.map Rf.fl)).nm, (opF nm (L.map Rf.fl)).l ++ b, (opF nm (L.map Rf.fl)).s⟩ (opL nm (L.map Rf.fl)) = put key ⟨f.fl.nm, f.fl.l ++ b, f.fl.s⟩ (L.map Rf.fl)) := Lib.hid (by
        unfold opL opF
        rw [h2]
        rfl)
      clear hb0 hac hv0 hx0 hLe h1 h2 h3 h4 h5 ev hfL
      go_enter Try.func8, Try.ntmps8
      go_wp2_with fail
      rw [← HWB.out]
      refine hfi.mono ?_
      rintro e w1 ⟨rfl, rfl⟩
      go_wp2_with fail
      refine (rnamed_any nm _).mono ?_
      rintro e w1 ⟨rfl, rfl⟩
      rw [ha]
      go_wp2_with fail
      go_quiet (first | (go_at_call 22; exact Calls.quiet_of_same ((hus _).mono fun _ _ ⟨h1, h2⟩ => ⟨h1, h2.symm⟩)))
      have hbq : Below wb.heap.size wb (wb.drewN nq) := bwN nq
      generalize wb.drewN nq = wz at *
      have HBZ := Lib.hid (bwstep HB0.out hbq)
      have HAZ := Lib.hid (HAC.out.bel hbq)
      have HVZ := Lib.hid (HV0.out.bel hbq)
      have hxz : RdS wz S _ b := HX0.out.up (Kp.of_below hbq S) fun _ hk => .inl hk
      have HXZ := Lib.hid hxz
      have hbf := bwalloc (bwrefl wz) (.cells #[.string nm, .slice none 0 0, .int .i64 0] 58)
      obtain ⟨c0, c1, c2⟩ := HVZ.out.c.at_ H4.out
      rw [EV.out] at c1
      obtain ⟨d0, d1, d2⟩ := (HVZ.out.c.bel (S := S) hbf).at_ H4.out
      rw [EV.out] at d1
      have hp0 : (0 : Int) ≤ (P.length : Int) := by omega
      clear hxz hbq hus hfi a0 a1 a2 a3 a4 a5
      obtain ⟨a0, a1, a2, a3, a4, a5⟩ : _ ∧ _ ∧ _ ∧ _ ∧ _ ∧ _ := ⟨HAZ.out.a0, HAZ.out.a1, HAZ.out.a2, HAZ.out.a3, HAZ.out.a4, HAZ.out.a5⟩
      have hfc := FilC.new wz f 58
      rw [EV.out] at hfc
      have hbg := bwalloc (bwrefl wz) (.cells #[.string f.fl.nm, .slice Av f.fl.l.length cv, .int .i64 (f.fl.s : Int)] 58)
      have hfz : wz.heap.size < (wz.alloc (.cells #[.string f.fl.nm, .slice Av f.fl.l.length cv, .int .i64 (f.fl.s : Int)] 58)).heap.size := by simp
      have hwo := rwo_any _ L S P.length _ (HVZ.out.bel hbg) hPl (by omega)
      have HFC := Lib.hid hfc
      have HBG := Lib.hid hbg
      have HFZ := Lib.hid hfz
      clear hfc hbg hbf hfz
      go_wp2_with fail
      refine hwo.mono ?_
      rintro e W0 ⟨⟨v2, rfl, p2⟩, hb2⟩
      have HB0' := Lib.hid (bwstep HBZ.out (bwstep HBG.out hb2))
      have HF0 := Lib.hid (HFC.out.bel hb2)
      have HA0 := Lib.hid ((HAZ.out.bel HBG.out).bel hb2)
      have hrest : RdF W0 (wz.heap.size :: S) v2 (L.take P.length ++ L.drop (P.length + 1)) := rest_rd (w0 := w) hv HB0'.out p2 hS HBZ.out.size HFZ.out fun g hg => by
        rcases List.mem_append.1 hg with h | h
        · exact List.mem_of_mem_take h
        · exact List.mem_of_mem_drop h
      have hLw : (L.take P.length ++ L.drop (P.length + 1)).length ≤ 100000 := by simp; omega
      rw [← H5.out] at hrest hLw
      obtain ⟨A2, c2', rfl, hc2, hm2⟩ := hrest.c.shape
      have HR0 := Lib.hid hrest
      have r0 : Rd W0 W0.heap.size (.slice Av f.fl.l.length cv) (f.fl.l.map bv) := EV.out ▸ ((hv.b f HFL.out).up (Kp.of_below HB0'.out S) fun _ hk => .inl hk).1
      have hxw : Rd W0 W0.heap.size (.slice Ab b.length cb) (b.map bv) := (HXZ.out.up (Kp.of_below (bwstep HBG.out hb2) S) fun _ hk => .inl hk).1
      clear hrest hwo hb2 p2 a0 a1 a2 a3 a4 a5 c0 c1 c2 d0 d1 d2
      go_wp2_with fail
      have hb1 : Below W0.heap.size W0 (W0.alloc (.cells #[] 5)).drew := (bwalloc (bwrefl W0) _).drew
      have e1 : Ow (W0.alloc (.cells #[] 5)).drew W0.heap.size 5 (.slice (some ⟨W0.heap.size, 0, none⟩) 0 0) (([] : List UInt8).map bv) := Ow.empty W0 (Nat.le_refl _) _
      have r1 : Rd (W0.alloc (.cells #[] 5)).drew _ (.slice Av f.fl.l.length cv) (f.fl.l.map bv) := r0.up hb1
      have hs0 : W0.heap.size ≤ (W0.alloc (.cells #[] 5)).drew.heap.size := hb1.size
      have l1 : ([] : List UInt8).length + f.fl.l.length ≤ 140737488355328 := by simp; try omega
      have l2 : f.fl.l.length + b.length ≤ 140737488355328 := by omega
      have qA := HA0.out.bel hb1
      have qF := HF0.out.bel hb1
      have qf1 := qF.f1
      rw [EV.out] at qf1
      have qa3 := qA.a3
      have f1 := HF0.out.f1
      rw [EV.out] at f1
      have a3 := HA0.out.a3
      have z1 := HF0.out.z1
      have HXW := Lib.hid (fun (W' : World) (h : Below W0.heap.size W0 W') => hxw.up h)
      clear qA qF hxw r0
      go_region_law (first
        | (refine step_appB bytesT rfl (.tmp 52) (.tmp 54) rfl (by simp [Act.eval]) e1 (by simp [Act.eval]) r1 l1 hs0 ?_; intro v1 w1 p1 g1 h1; rw [List.nil_append] at p1; have hb2 := hb1.grown g1 hb1.size (fun q hq => (e1.lt q hq).1); have r2 := HXW.out _ hb2; have hs1 := hb2.size; have ua3 := (HA0.out.bel hb2).a3; have uf1 := (HF0.out.bel hb2).f1; rw [EV.out] at uf1; clear g1 h1)
        | (refine step_appB bytesT rfl (.tmp 55) (.tmp 57) rfl (by simp [Act.eval]) p1 (by simp [Act.eval]) r2 l2 hs1 ?_; intro v2 w3 p2 g2 h2; have HB3 := Lib.hid (hb2.grown g2 hb2.size (fun q hq => (p1.lt q hq).1)); obtain ⟨A3, c3, ev3, hc3, hm3⟩ := p2.rd.shapeM; rw [List.length_append] at ev3; subst ev3; have HF3 := Lib.hid (HF0.out.bel HB3.out); obtain ⟨f0, f1, f2, z0, z1, z2⟩ : _ ∧ _ ∧ _ ∧ _ ∧ _ ∧ _ := ⟨HF3.out.f0, HF3.out.f1, HF3.out.f2, HF3.out.z0, HF3.out.z1, HF3.out.z2⟩; have HO3 := Lib.hid p2; clear g2 h2 p2))
      all_goals (
        go_wp2_with fail
        have hk4 : Kp [wz.heap.size] w3 (w3.setCell ⟨wz.heap.size, 1, none⟩ (.slice A3 (f.fl.l.length + b.length) c3)) := Kp.set _ (p := ⟨wz.heap.size, 1, none⟩) (by simp) _
        have r4 := keep_rest HR0.out HB3.out hk4
        have hb4 : RdS _ (wz.heap.size :: S) (.slice A3 (f.fl.l.length + b.length) c3) (f.fl.l ++ b) := own_bytes HO3.out (low_all HB0'.out hS HF0.out.lt) hk4
        have hpt := rput_any _ (wo rk nm.data.toList L) _ ⟨⟨f.fl.nm, f.fl.l ++ b, f.fl.s⟩, .slice A3 (f.fl.l.length + b.length) c3⟩ _ r4 rfl (by omega) (srt_wo hs) (fun y hy e => (mem_wo.1 hy).2 (e.trans H1.out))
        have HK4 := Lib.hid hk4
        have R4 := Lib.hid r4
        have HFV4 := Lib.hid hb4
        clear hk4 r4 hb4
        refine hpt.mono ?_
        rintro e w5 ⟨⟨v5, rfl, p5⟩, hb5⟩
        go_wp2_with fail
        go_ret2
        rw [HRES.out]
        exact put_res (w := w) p5 R4.out HFV4.out hb5 rfl (fun k hk => by have := hS k hk; have := (all_bel HB0'.out HB3.out HK4.out HBZ.out.size).size; omega) (bwstep (all_bel HB0'.out HB3.out HK4.out HBZ.out.size) hb5) (ins_wo (f' := ⟨⟨f.fl.nm, f.fl.l ++ b, f.fl.s⟩, .slice A3 (f.fl.l.length + b.length) c3⟩) H1.out))
end Go.Proofs.Ytblejjjifokmgaa
