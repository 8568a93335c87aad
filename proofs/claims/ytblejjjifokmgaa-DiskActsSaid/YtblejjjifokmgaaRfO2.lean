/- The reference's act 2 of layer 7. -/
import Derived.Test.YtblejjjifokmgaaRfD
import Derived.Test.YtblejjjifokmgaaDoC
namespace Go.Proofs.Ytblejjjifokmgaa
open Go.RowKit Go.Maps Dk
set_option linter.unusedVariables false
set_option maxHeartbeats 4000000 in
set_option maxRecDepth 100000 in
theorem rdo2 {w : World} {v : Value} {L : List Rf} {S : List Nat} (hv : RdF w S v L) (hS : ∀ k ∈ S, k < w.heap.size) (hs : Srt rk L) (hL : L.length ≤ 100000) (most : Nat) (hmost : most ≤ 65536) (hlen : ∀ f ∈ L, f.fl.l.length ≤ 100000) (nm ot : ByteArray) (bx kx : Value) (b : List UInt8) (at_ : Int) (ks : List Int) (hx : RdS w S bx b) (hk : RdV w S kx (ks.map iv)) (hb : b.length ≤ 1000000) :
    Calls Try.prog 8 #[v, .int .i64 (most : Int), .agg #[.int .i64 2, .string nm, .string ot, bx, .int .i64 at_, kx]] w fun e w' => RRes w w' S (reF nm ot (L.map Rf.fl)) e := by
  obtain ⟨A, c, rfl, hc, hm⟩ := hv.c.shape
  obtain ⟨Ab, cb, rfl, hcb, hmb⟩ := hx.1.shapeM
  obtain ⟨Ak, ck, rfl, hck, hmk⟩ := hk.1.shapeM
  unfold maxLen at hm hmb
  have hb0 := bwalloc (bwrefl w) (.cells #[.int .i64 2, .string nm, .string ot, .slice Ab b.length cb, .int .i64 at_, .slice Ak ks.length ck] 31)
  have hac := ActC.new w 2 nm ot (.slice Ab b.length cb) at_ (.slice Ak ks.length ck) 31
  have hv0 := hv.bel hb0
  have hfi := rfind_any _ L S nm _ hv0.c
  have HB := Lib.hid hb0
  have HV0 := Lib.hid hv0
  by_cases hN : named nm = false ∨ named ot = false
  · have HN := Lib.hid hN
    clear hb0 hv0
    by_cases ha : named nm = false
    · clear hN
      go_enter Try.func8, Try.ntmps8
      go_wp2_with fail
      refine hfi.mono ?_
      rintro e w1 ⟨rfl, rfl⟩
      go_wp2_with fail
      refine (rnamed_any nm _).mono ?_
      rintro e w1 ⟨rfl, rfl⟩
      rw [ha]
      go_wp2_with fail
      go_ret2
      unfold reF
      rw [if_pos HN.out]
      exact ⟨⟨_, L, rfl, HV0.out, rfl⟩, HB.out⟩
    · have hb' : named ot = false := by simpa [ha] using hN
      have ha : named nm = true := by simpa using ha
      clear hN
      go_enter Try.func8, Try.ntmps8
      go_wp2_with fail
      refine hfi.mono ?_
      rintro e w1 ⟨rfl, rfl⟩
      go_wp2_with fail
      refine (rnamed_any nm _).mono ?_
      rintro e w1 ⟨rfl, rfl⟩
      rw [ha]
      go_wp2_with fail
      refine (rnamed_any ot _).mono ?_
      rintro e w1 ⟨rfl, rfl⟩
      rw [hb']
      go_wp2_with fail
      go_ret2
      unfold reF
      rw [if_pos HN.out]
      exact ⟨⟨_, L, rfl, HV0.out, rfl⟩, HB.out⟩
  have ha : named nm = true := by
    cases h : named nm
    · exact absurd (Or.inl h) hN
    · rfl
  have hb' : named ot = true := by
    cases h : named ot
    · exact absurd (Or.inr h) hN
    · rfl
  unfold reF
  rw [if_neg hN]
  rcases rfnd_cases hs nm with ⟨h1, h2⟩ | ⟨P, f, C, hLe, h1, h2, h3, h4, h5⟩
  · rw [h1]
    rw [h2] at hfi
    have HAC := Lib.hid hac
    clear hb0 hv0
    go_enter Try.func8, Try.ntmps8
    go_wp2_with fail
    refine hfi.mono ?_
    rintro e w1 ⟨rfl, rfl⟩
    go_wp2_with fail
    refine (rnamed_any nm _).mono ?_
    rintro e w1 ⟨rfl, rfl⟩
    rw [ha]
    go_wp2_with fail
    refine (rnamed_any ot _).mono ?_
    rintro e w1 ⟨rfl, rfl⟩
    rw [hb']
    go_wp2_with fail
    go_ret2
    exact ⟨⟨_, L, rfl, HV0.out, rfl⟩, HB.out⟩
  · rw [h2]
    rw [h3] at hfi
    have hPl : P.length < L.length := (List.getElem?_eq_some_iff.1 h4).1
    obtain ⟨bl, off, rfl, -, -⟩ := hv.c.open_ (by omega)
    have hfL := List.mem_of_getElem? h4
    have hlf := hlen f hfL
    obtain ⟨Av, cv, ev, hcv, hmv⟩ := (hv.b f hfL).1.shapeM
    unfold maxLen at hmv
    obtain ⟨c0, c1, c2⟩ := hv0.c.at_ h4
    have EV := Lib.hid ev
    rw [ev] at c1
    obtain ⟨wb, hwb⟩ : ∃ wb, wb = w.alloc (.cells #[.int .i64 2, .string nm, .string ot, .slice Ab b.length cb, .int .i64 at_, .slice Ak ks.length ck] 31) := ⟨_, rfl⟩
    rw [← hwb] at hb0 hac hv0 hfi c0 c1 c2
    have hfc := FilC.new wb f 58
    rw [ev] at hfc
    have hbf := bwalloc (bwrefl wb) (.cells #[.string f.fl.nm, .slice Av f.fl.l.length cv, .int .i64 (f.fl.s : Int)] 58)
    have hwo := rwo_any _ L S P.length _ (hv0.bel hbf) hPl (by omega)
    have HWF := Lib.hid hac.lt
    have HFC := Lib.hid hfc
    have HAC := Lib.hid (hac.bel hbf)
    have HBF := Lib.hid hbf
    have hfz : wb.heap.size < (wb.alloc (.cells #[.string f.fl.nm, .slice Av f.fl.l.length cv, .int .i64 (f.fl.s : Int)] 58)).heap.size := by simp
    have HFZ := Lib.hid hfz
    have HB0 := Lib.hid hb0
    have HFL := Lib.hid hfL
    have HLE := Lib.hid hLe
    have H1 := Lib.hid h1
    have H4 := Lib.hid h4
    have H5 := Lib.hid h5
    have HV0 := Lib.hid hv0
    have HWB := Lib.hid hwb
    obtain ⟨a0, a1, a2, a3, a4, a5⟩ : _ ∧ _ ∧ _ ∧ _ ∧ _ ∧ _ := ⟨hac.a0, hac.a1, hac.a2, hac.a3, hac.a4, hac.a5⟩
    clear hb0 hv0 hLe h1 h2 h3 h4 h5 ev hfc hbf hac hfz hfL hwb
    go_enter Try.func8, Try.ntmps8
    go_wp2_with fail
    rw [← HWB.out]
    refine hfi.mono ?_
    rintro e w1 ⟨rfl, rfl⟩
    go_wp2_with fail
    refine (rnamed_any nm _).mono ?_
    rintro e w1 ⟨rfl, rfl⟩
    rw [ha]
    go_wp2_with fail
    refine (rnamed_any ot _).mono ?_
    rintro e w1 ⟨rfl, rfl⟩
    rw [hb']
    go_wp2_with fail
    refine hwo.mono ?_
    rintro e w2 ⟨⟨v2, rfl, p2⟩, hb2⟩
    have HA2 := Lib.hid (HAC.out.bel hb2)
    have HF2 := Lib.hid (HFC.out.bel hb2)
    have HB2 := Lib.hid (bwstep HB0.out (bwstep HBF.out hb2))
    have hrest : RdF w2 (wb.heap.size :: S) v2 (L.take P.length ++ L.drop (P.length + 1)) := rest_rd (w0 := w) hv HB2.out p2 hS HB0.out.size HFZ.out fun g hg => by
      rcases List.mem_append.1 hg with h | h
      · exact List.mem_of_mem_take h
      · exact List.mem_of_mem_drop h
    have hLw : (L.take P.length ++ L.drop (P.length + 1)).length ≤ 100000 := by simp; omega
    rw [← H5.out] at hrest hLw
    obtain ⟨A2, c2', rfl, hc2, hm2⟩ := hrest.c.shape
    have HR := Lib.hid hrest
    obtain ⟨a0, a1, a2, a3, a4, a5⟩ : _ ∧ _ ∧ _ ∧ _ ∧ _ ∧ _ := ⟨HA2.out.a0, HA2.out.a1, HA2.out.a2, HA2.out.a3, HA2.out.a4, HA2.out.a5⟩
    obtain ⟨f0, f1, f2, z0, z1, z2⟩ : _ ∧ _ ∧ _ ∧ _ ∧ _ ∧ _ := ⟨HF2.out.f0, HF2.out.f1, HF2.out.f2, HF2.out.z0, HF2.out.z1, HF2.out.z2⟩
    rw [EV.out] at f1
    clear hwo p2 hb2 hrest hfi
    obtain ⟨Lw, hLw2⟩ : ∃ Lw, Lw = wo rk nm.data.toList L := ⟨_, rfl⟩
    have HLW := Lib.hid hLw2
    clear hLw2
    have hfv : RdS w2 (wb.heap.size :: S) (.slice Av f.fl.l.length cv) f.fl.l := EV.out ▸ ((hv.b f HFL.out).up (Kp.of_below HB2.out _) fun k hk => by
      rcases List.mem_cons.1 hk with rfl | hk
      · exact .inr HB0.out.size
      · exact .inl hk)
    have hne : ¬ w.heap.size = wb.heap.size := by have := HWF.out; omega
    have hne2 : ¬ wb.heap.size = w.heap.size := by have := HWF.out; omega
    have HVW := Lib.hid (hv.bel HB2.out)
    obtain ⟨wr, hwr⟩ : ∃ wr, wr = w2.setCell ⟨wb.heap.size, 0, none⟩ (.string ot) := ⟨_, rfl⟩
    have hW : Kp [wb.heap.size] w2 wr := hwr ▸ Kp.set w2 (p := ⟨wb.heap.size, 0, none⟩) (by simp) _
    have fr : FilC wr wb.heap.size ⟨⟨ot, f.fl.l, f.fl.s⟩, f.v⟩ := hwr ▸ HF2.out.ren ot
    have r3 := keep_rest HR.out (bwrefl w2) hW
    have hfv3 := hfv.up (hW.sub_ (S' := wb.heap.size :: S) fun k hk => by simpa using Or.inl (List.mem_singleton.1 hk)) fun _ hk => .inl hk
    have hb3 := all_bel HB2.out (bwrefl w2) hW HB0.out.size
    have hlow := low_all hb3 hS fr.lt
    have hfi2 := rfind_any _ (wo rk nm.data.toList L) (wb.heap.size :: S) ot wr r3.c
    have g1 := fr.f1
    rw [EV.out] at g1
    have g0 := fr.f0
    have g2 := fr.f2
    have HWR := Lib.hid hwr
    have HFR := Lib.hid fr
    have R3 := Lib.hid r3
    have HFV3 := Lib.hid hfv3
    have HB3 := Lib.hid hb3
    clear hwr hW fr hfv hb3 hfv3
    rcases rfnd_cases (srt_wo hs (n := nm.data.toList)) ot with ⟨q1, q2⟩ | ⟨P2, f2', C2, qLe, q1, q2, q3, q4, q5⟩
    · rw [q2] at hfi2
      have hno := fnd_no q1
      have hpt := rput_any _ (wo rk nm.data.toList L) _ ⟨⟨ot, f.fl.l, f.fl.s⟩, .slice Av f.fl.l.length cv⟩ _ r3 rfl (by omega) (srt_wo hs) (fun y hy e => hno y hy e)
      have HNO := Lib.hid hno
      clear q1 q2 r3 hno
      go_wp2_with fail
      rw [← HWR.out]
      refine hfi2.mono ?_
      rintro e w4 ⟨rfl, rfl⟩
      go_wp2_with fail
      refine hpt.mono ?_
      rintro e w5 ⟨⟨v5, rfl, p5⟩, hb5⟩
      go_wp2_with fail
      go_ret2
      exact put_res (w := w) p5 R3.out HFV3.out hb5 rfl (fun k hk => hlow k (by simp [hk])) (bwstep HB3.out hb5) (ren_wo (f' := ⟨⟨ot, f.fl.l, f.fl.s⟩, .slice Av f.fl.l.length cv⟩) rfl (wo_no HNO.out))
    · rw [q3] at hfi2
      have hPl2 : P2.length < (wo rk nm.data.toList L).length := (List.getElem?_eq_some_iff.1 q4).1
      have hwo2 := rwo_any _ (wo rk nm.data.toList L) (wb.heap.size :: S) P2.length wr r3 hPl2 (by omega)
      have Q5 := Lib.hid q5
      have hp0 : (0 : Int) ≤ (P2.length : Int) := by omega
      clear qLe q1 q2 q3 q4 q5 r3
      go_wp2_with fail
      rw [← HWR.out]
      refine hfi2.mono ?_
      rintro e w4 ⟨rfl, rfl⟩
      go_wp2_with fail
      refine hwo2.mono ?_
      rintro e w4 ⟨⟨v4, rfl, p4⟩, hb4⟩
      rw [← Q5.out] at p4
      have r4 := rest2 R3.out hb4 p4 hlow fun g hg => (mem_wo.1 hg).1
      have hfv4 := HFV3.out.up (Kp.of_below hb4 (wb.heap.size :: S)) fun _ hk => .inl hk
      have fr4 := HFR.out.bel hb4
      have g1 := fr4.f1
      rw [EV.out] at g1
      have g0 := fr4.f0
      have g2 := fr4.f2
      have hw5 : (wo rk ot.data.toList (wo rk nm.data.toList L)).length ≤ 100000 := Nat.le_trans (List.length_filter_le _ _) hLw
      have hpt := rput_any _ (wo rk ot.data.toList (wo rk nm.data.toList L)) _ ⟨⟨ot, f.fl.l, f.fl.s⟩, .slice Av f.fl.l.length cv⟩ _ r4 rfl (by omega) (srt_wo (srt_wo hs)) (fun y hy e => (mem_wo.1 hy).2 e)
      obtain ⟨A4, c4, rfl, hc4, hm4⟩ := r4.c.shape
      have R4 := Lib.hid r4
      have HFV4 := Lib.hid hfv4
      have HB4 := Lib.hid (bwstep HB3.out hb4)
      clear r4 hfv4 fr4 p4
      go_wp2_with fail
      refine hpt.mono ?_
      rintro e w5 ⟨⟨v5, rfl, p5⟩, hb5⟩
      go_wp2_with fail
      go_ret2
      exact put_res (w := w) p5 R4.out HFV4.out hb5 rfl (fun k hk => by have := hS k hk; have := HB4.out.size; omega) (bwstep HB4.out hb5) (ren_wo (f' := ⟨⟨ot, f.fl.l, f.fl.s⟩, .slice Av f.fl.l.length cv⟩) rfl rfl)
end Go.Proofs.Ytblejjjifokmgaa
