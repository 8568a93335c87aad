/- The reference's act 3 of layer 7. -/
import Derived.Test.YtblejjjifokmgaaRfD
import Derived.Test.YtblejjjifokmgaaDoC
namespace Go.Proofs.Ytblejjjifokmgaa
open Go.RowKit Go.Maps Dk
set_option linter.unusedVariables false
set_option maxHeartbeats 4000000 in
set_option maxRecDepth 100000 in
theorem rdo3 {w : World} {v : Value} {L : List Rf} {S : List Nat} (hv : RdF w S v L) (hS : ∀ k ∈ S, k < w.heap.size) (hs : Srt rk L) (hL : L.length ≤ 100000) (most : Nat) (hmost : most ≤ 65536) (hlen : ∀ f ∈ L, f.fl.l.length ≤ 100000) (nm ot : ByteArray) (bx kx : Value) (b : List UInt8) (at_ : Int) (ks : List Int) (hx : RdS w S bx b) (hk : RdV w S kx (ks.map iv)) (hb : b.length ≤ 1000000) :
    Calls Try.prog 8 #[v, .int .i64 (most : Int), .agg #[.int .i64 3, .string nm, .string ot, bx, .int .i64 at_, kx]] w fun e w' => RRes w w' S (deF nm (L.map Rf.fl)) e := by
  obtain ⟨A, c, rfl, hc, hm⟩ := hv.c.shape
  obtain ⟨Ab, cb, rfl, hcb, hmb⟩ := hx.1.shapeM
  obtain ⟨Ak, ck, rfl, hck, hmk⟩ := hk.1.shapeM
  unfold maxLen at hm hmb
  have hb0 := bwalloc (bwrefl w) (.cells #[.int .i64 3, .string nm, .string ot, .slice Ab b.length cb, .int .i64 at_, .slice Ak ks.length ck] 31)
  have hac := ActC.new w 3 nm ot (.slice Ab b.length cb) at_ (.slice Ak ks.length ck) 31
  have hv0 := hv.bel hb0
  have hfi := rfind_any _ L S nm _ hv0.c
  have HB := Lib.hid hb0
  have HV0 := Lib.hid hv0
  unfold deF
  rcases rfnd_cases hs nm with ⟨h1, h2⟩ | ⟨P, f, C, hLe, h1, h2, h3, h4, h5⟩
  · rw [h1]
    rw [h2] at hfi
    have HAC := Lib.hid hac
    clear hb0 hv0
    go_enter Try.func8, Try.ntmps8
    go_wp2_with fail
    refine hfi.mono ?_
    rintro e w1 ⟨rfl, rfl⟩
    go_wp2_with fail
    go_ret2
    exact ⟨⟨_, L, rfl, HV0.out, rfl⟩, HB.out⟩
  · rw [h2]
    rw [h3] at hfi
    have hPl : P.length < L.length := (List.getElem?_eq_some_iff.1 h4).1
    obtain ⟨bl, off, rfl, -, -⟩ := hv.c.open_ (by omega)
    have hfL := List.mem_of_getElem? h4
    have hlf := hlen f hfL
    obtain ⟨Av, cv, ev, hcv, hmv⟩ := (hv.b f hfL).1.shapeM
    unfold maxLen at hmv
    obtain ⟨c0, c1, c2⟩ := hv0.c.at_ h4
    have EV := Lib.hid ev
    rw [ev] at c1
    obtain ⟨wb, hwb⟩ : ∃ wb, wb = w.alloc (.cells #[.int .i64 3, .string nm, .string ot, .slice Ab b.length cb, .int .i64 at_, .slice Ak ks.length ck] 31) := ⟨_, rfl⟩
    rw [← hwb] at hb0 hac hv0 hfi c0 c1 c2
    have hfc := FilC.new wb f 58
    rw [ev] at hfc
    have hbf := bwalloc (bwrefl wb) (.cells #[.string f.fl.nm, .slice Av f.fl.l.length cv, .int .i64 (f.fl.s : Int)] 58)
    have hwo := rwo_any _ L S P.length _ (hv0.bel hbf) hPl (by omega)
    have HWF := Lib.hid hac.lt
    have HFC := Lib.hid hfc
    have HAC := Lib.hid (hac.bel hbf)
    have HBF := Lib.hid hbf
    have hfz : wb.heap.size < (wb.alloc (.cells #[.string f.fl.nm, .slice Av f.fl.l.length cv, .int .i64 (f.fl.s : Int)] 58)).heap.size := by simp
    have HFZ := Lib.hid hfz
    have HB0 := Lib.hid hb0
    have HFL := Lib.hid hfL
    have HLE := Lib.hid hLe
    have H1 := Lib.hid h1
    have H4 := Lib.hid h4
    have H5 := Lib.hid h5
    have HV0 := Lib.hid hv0
    have HWB := Lib.hid hwb
    obtain ⟨a0, a1, a2, a3, a4, a5⟩ : _ ∧ _ ∧ _ ∧ _ ∧ _ ∧ _ := ⟨hac.a0, hac.a1, hac.a2, hac.a3, hac.a4, hac.a5⟩
    clear hb0 hv0 hLe h1 h2 h3 h4 h5 ev hfc hbf hac hfz hfL hwb
    go_enter Try.func8, Try.ntmps8
    go_wp2_with fail
    rw [← HWB.out]
    refine hfi.mono ?_
    rintro e w1 ⟨rfl, rfl⟩
    go_wp2_with fail
    refine hwo.mono ?_
    rintro e w2 ⟨⟨v2, rfl, p2⟩, hb2⟩
    have HA2 := Lib.hid (HAC.out.bel hb2)
    have HF2 := Lib.hid (HFC.out.bel hb2)
    have HB2 := Lib.hid (bwstep HB0.out (bwstep HBF.out hb2))
    have hrest : RdF w2 (wb.heap.size :: S) v2 (L.take P.length ++ L.drop (P.length + 1)) := rest_rd (w0 := w) hv HB2.out p2 hS HB0.out.size HFZ.out fun g hg => by
      rcases List.mem_append.1 hg with h | h
      · exact List.mem_of_mem_take h
      · exact List.mem_of_mem_drop h
    have hLw : (L.take P.length ++ L.drop (P.length + 1)).length ≤ 100000 := by simp; omega
    rw [← H5.out] at hrest hLw
    obtain ⟨A2, c2', rfl, hc2, hm2⟩ := hrest.c.shape
    have HR := Lib.hid hrest
    obtain ⟨a0, a1, a2, a3, a4, a5⟩ : _ ∧ _ ∧ _ ∧ _ ∧ _ ∧ _ := ⟨HA2.out.a0, HA2.out.a1, HA2.out.a2, HA2.out.a3, HA2.out.a4, HA2.out.a5⟩
    obtain ⟨f0, f1, f2, z0, z1, z2⟩ : _ ∧ _ ∧ _ ∧ _ ∧ _ ∧ _ := ⟨HF2.out.f0, HF2.out.f1, HF2.out.f2, HF2.out.z0, HF2.out.z1, HF2.out.z2⟩
    rw [EV.out] at f1
    clear hwo p2 hb2 hrest hfi
    obtain ⟨Lw, hLw2⟩ : ∃ Lw, Lw = wo rk nm.data.toList L := ⟨_, rfl⟩
    have HLW := Lib.hid hLw2
    clear hLw2
    go_wp2_with fail
    go_ret2
    exact ⟨⟨_, _, rfl, HR.out.mono fun k hk => by simp [hk], rl_wo _ _⟩, HB2.out⟩
end Go.Proofs.Ytblejjjifokmgaa
