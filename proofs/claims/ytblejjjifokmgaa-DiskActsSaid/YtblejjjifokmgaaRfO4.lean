/- The reference's act 4 of layer 7. -/
import Derived.Test.YtblejjjifokmgaaRfD
import Derived.Test.YtblejjjifokmgaaDoC
import Derived.StillTailTactics
namespace Go.Proofs.Ytblejjjifokmgaa
open Go.RowKit Go.Maps Dk
set_option linter.unusedVariables false
set_option maxHeartbeats 4000000 in
set_option maxRecDepth 100000 in
theorem rdo4 {w : World} {v : Value} {L : List Rf} {S : List Nat} (hv : RdF w S v L) (hS : ∀ k ∈ S, k < w.heap.size) (hs : Srt rk L) (hL : L.length ≤ 100000) (most : Nat) (hmost : most ≤ 65536) (hlen : ∀ f ∈ L, f.fl.l.length ≤ 100000) (nm ot : ByteArray) (bx kx : Value) (b : List UInt8) (at_ : Int) (ks : List Int) (hx : RdS w S bx b) (hk : RdV w S kx (ks.map iv)) (hb : b.length ≤ 1000000) :
    Calls Try.prog 8 #[v, .int .i64 (most : Int), .agg #[.int .i64 4, .string nm, .string ot, bx, .int .i64 at_, kx]] w fun e w' => RRes w w' S (tuF nm at_ (UInt8.ofNat (b.length + 1)) (L.map Rf.fl)) e := by
  obtain ⟨A, c, rfl, hc, hm⟩ := hv.c.shape
  obtain ⟨Ab, cb, rfl, hcb, hmb⟩ := hx.1.shapeM
  obtain ⟨Ak, ck, rfl, hck, hmk⟩ := hk.1.shapeM
  unfold maxLen at hm hmb
  have hb0 := bwalloc (bwrefl w) (.cells #[.int .i64 4, .string nm, .string ot, .slice Ab b.length cb, .int .i64 at_, .slice Ak ks.length ck] 31)
  have hac := ActC.new w 4 nm ot (.slice Ab b.length cb) at_ (.slice Ak ks.length ck) 31
  have hv0 := hv.bel hb0
  have hfi := rfind_any _ L S nm _ hv0.c
  have HB := Lib.hid hb0
  have HV0 := Lib.hid hv0
  unfold tuF
  rcases rfnd_cases hs nm with ⟨h1, h2⟩ | ⟨P, f, C, hLe, h1, h2, h3, h4, h5⟩
  · rw [h1]
    rw [h2] at hfi
    have HAC := Lib.hid hac
    clear hb0 hv0
    go_enter Try.func8, Try.ntmps8
    go_wp2_with fail
    refine hfi.mono ?_
    rintro e w1 ⟨rfl, rfl⟩
    go_wp2_with fail
    go_ret2
    exact ⟨⟨_, L, rfl, HV0.out, rfl⟩, HB.out⟩
  · rw [h2]
    dsimp only
    rw [h3] at hfi
    have hPl : P.length < L.length := (List.getElem?_eq_some_iff.1 h4).1
    obtain ⟨bl, off, rfl, -, -⟩ := hv.c.open_ (by omega)
    have hfL := List.mem_of_getElem? h4
    have hlf := hlen f hfL
    obtain ⟨Av, cv, ev, hcv, hmv⟩ := (hv.b f hfL).1.shapeM
    unfold maxLen at hmv
    obtain ⟨c0, c1, c2⟩ := hv0.c.at_ h4
    have EV := Lib.hid ev
    rw [ev] at c1
    obtain ⟨wb, hwb⟩ : ∃ wb, wb = w.alloc (.cells #[.int .i64 4, .string nm, .string ot, .slice Ab b.length cb, .int .i64 at_, .slice Ak ks.length ck] 31) := ⟨_, rfl⟩
    rw [← hwb] at hb0 hac hv0 hfi c0 c1 c2
    have hfc := FilC.new wb f 58
    rw [ev] at hfc
    have hbf := bwalloc (bwrefl wb) (.cells #[.string f.fl.nm, .slice Av f.fl.l.length cv, .int .i64 (f.fl.s : Int)] 58)
    have hwo := rwo_any _ L S P.length _ (hv0.bel hbf) hPl (by omega)
    have HWF := Lib.hid hac.lt
    have HFC := Lib.hid hfc
    have HAC := Lib.hid (hac.bel hbf)
    have HBF := Lib.hid hbf
    have hfz : wb.heap.size < (wb.alloc (.cells #[.string f.fl.nm, .slice Av f.fl.l.length cv, .int .i64 (f.fl.s : Int)] 58)).heap.size := by simp
    have HFZ := Lib.hid hfz
    have HB0 := Lib.hid hb0
    have HFL := Lib.hid hfL
    have HLE := Lib.hid hLe
    have H1 := Lib.hid h1
    have H4 := Lib.hid h4
    have H5 := Lib.hid h5
    have HV0 := Lib.hid hv0
    have HWB := Lib.hid hwb
    obtain ⟨a0, a1, a2, a3, a4, a5⟩ : _ ∧ _ ∧ _ ∧ _ ∧ _ ∧ _ := ⟨hac.a0, hac.a1, hac.a2, hac.a3, hac.a4, hac.a5⟩
    clear hb0 hv0 hLe h1 h2 h3 h4 h5 ev hfc hbf hac hfz hfL hwb
    go_enter Try.func8, Try.ntmps8
    go_wp2_with fail
    rw [← HWB.out]
    refine hfi.mono ?_
    rintro e w1 ⟨rfl, rfl⟩
    go_wp2_with fail
    refine hwo.mono ?_
    rintro e w2 ⟨⟨v2, rfl, p2⟩, hb2⟩
    have HA2 := Lib.hid (HAC.out.bel hb2)
    have HF2 := Lib.hid (HFC.out.bel hb2)
    have HB2 := Lib.hid (bwstep HB0.out (bwstep HBF.out hb2))
    have hrest : RdF w2 (wb.heap.size :: S) v2 (L.take P.length ++ L.drop (P.length + 1)) := rest_rd (w0 := w) hv HB2.out p2 hS HB0.out.size HFZ.out fun g hg => by
      rcases List.mem_append.1 hg with h | h
      · exact List.mem_of_mem_take h
      · exact List.mem_of_mem_drop h
    have hLw : (L.take P.length ++ L.drop (P.length + 1)).length ≤ 100000 := by simp; omega
    rw [← H5.out] at hrest hLw
    obtain ⟨A2, c2', rfl, hc2, hm2⟩ := hrest.c.shape
    have HR := Lib.hid hrest
    obtain ⟨a0, a1, a2, a3, a4, a5⟩ : _ ∧ _ ∧ _ ∧ _ ∧ _ ∧ _ := ⟨HA2.out.a0, HA2.out.a1, HA2.out.a2, HA2.out.a3, HA2.out.a4, HA2.out.a5⟩
    obtain ⟨f0, f1, f2, z0, z1, z2⟩ : _ ∧ _ ∧ _ ∧ _ ∧ _ ∧ _ := ⟨HF2.out.f0, HF2.out.f1, HF2.out.f2, HF2.out.z0, HF2.out.z1, HF2.out.z2⟩
    rw [EV.out] at f1
    clear hwo p2 hb2 hrest hfi
    obtain ⟨Lw, hLw2⟩ : ∃ Lw, Lw = wo rk nm.data.toList L := ⟨_, rfl⟩
    have HLW := Lib.hid hLw2
    clear hLw2
    have hfv : RdS w2 (wb.heap.size :: S) (.slice Av f.fl.l.length cv) f.fl.l := EV.out ▸ ((hv.b f HFL.out).up (Kp.of_below HB2.out _) fun k hk => by
      rcases List.mem_cons.1 hk with rfl | hk
      · exact .inr HB0.out.size
      · exact .inl hk)
    have hne : ¬ w.heap.size = wb.heap.size := by have := HWF.out; omega
    have hne2 : ¬ wb.heap.size = w.heap.size := by have := HWF.out; omega
    have HVW := Lib.hid (hv.bel HB2.out)
    by_cases hq : at_ < 0 ∨ (f.fl.l.length : Int) ≤ at_
    · have HQ := Lib.hid hq
      by_cases h0 : at_ < 0
      · clear hq
        go_wp2_with fail
        go_ret2
        try rw [if_pos HQ.out]
        exact ⟨⟨_, L, rfl, HVW.out, rfl⟩, HB2.out⟩
      · have h1 : (f.fl.l.length : Int) ≤ at_ := by omega
        clear hq
        go_wp2_with fail
        go_ret2
        try rw [if_pos HQ.out]
        exact ⟨⟨_, L, rfl, HVW.out, rfl⟩, HB2.out⟩
    · obtain ⟨n, rfl⟩ : ∃ n : Nat, at_ = (n : Int) := ⟨at_.toNat, by omega⟩
      have h0 : ¬ (n : Int) < 0 := by omega
      have hn : n < f.fl.l.length := by omega
      have h1 : ¬ (f.fl.l.length : Int) ≤ (n : Int) := by omega
      have h1' : ¬ f.fl.l.length ≤ n := by omega
      have hnc : n < cv := by omega
      have HQ := Lib.hid hq
      have hr1 := hfv.1.up (bwalloc (bwrefl w2) (.cells #[] 5))
      have hl1 : ([] : List UInt8).length + f.fl.l.length ≤ 140737488355328 := by simp; omega
      obtain ⟨bb, hbb⟩ : ∃ bb, bb = UInt8.ofNat (b.length + 1) := ⟨_, rfl⟩
      have hw8 := wrap_u8N b.length
      rw [← hbb] at hw8
      have H8 := Lib.hid hw8
      have HBB := Lib.hid hbb
      clear hw8 hbb
      have qA := HA2.out.bel (bwalloc (bwrefl w2) (.cells #[] 5))
      have qF := HF2.out.bel (bwalloc (bwrefl w2) (.cells #[] 5))
      have q1 := qF.f1
      rw [EV.out] at q1
      have q4 := qA.a4
      clear hq hfv qA qF
      go_wp2_with (at_builtin; refine wpList_appB bytesT rfl (.tmp 227) (.tmp 229) rfl rfl (Ow.empty _ (Nat.le_refl _) _) rfl hr1 hl1 (by simp) ?_; intro v3 w3 ho3 hg3 hob; clear hob; have HB3 := Lib.hid (Ow.emptyG hg3); obtain ⟨A3, c3, ev3, hc3, hm3⟩ := ho3.rd.shapeM; rw [List.nil_append] at ev3 ho3;  subst ev3; have HA3 := Lib.hid (HA2.out.bel HB3.out); have HF3 := Lib.hid (HF2.out.bel HB3.out); obtain ⟨a0, a1, a2, a3, a4, a5⟩ : _ ∧ _ ∧ _ ∧ _ ∧ _ ∧ _ := ⟨HA3.out.a0, HA3.out.a1, HA3.out.a2, HA3.out.a3, HA3.out.a4, HA3.out.a5⟩; obtain ⟨f0, f1, f2, z0, z1, z2⟩ : _ ∧ _ ∧ _ ∧ _ ∧ _ ∧ _ := ⟨HF3.out.f0, HF3.out.f1, HF3.out.f2, HF3.out.z0, HF3.out.z1, HF3.out.z2⟩; obtain ⟨g, u, rfl, hgf, hgf2, hgB, hgs, y0, zg, ht⟩ := turn_facts bb ho3 HF2.out.lt hn; unfold bv at y0 ht; rw [← xor_u8] at ht; have HT := Lib.hid ht; clear ht; have HO3 := Lib.hid ho3; clear hg3 ho3)
      obtain ⟨wq, hwq⟩ : ∃ wq, wq = w3.setCell ⟨wb.heap.size, 1, none⟩ (.slice (some ⟨g, 0, none⟩) f.fl.l.length c3) := ⟨_, rfl⟩
      have k4 : Kp [wb.heap.size] w3 wq := hwq ▸ Kp.set w3 (p := ⟨wb.heap.size, 1, none⟩) (by simp) _
      have t1 : wq.cell? ⟨wb.heap.size, 1, none⟩ = some (.slice (some ⟨g, 0, none⟩) f.fl.l.length c3) := by rw [hwq]; exact set_self f1
      have hA4 := HA3.out.kp k4 (by simpa using hne)
      have y1 : wq.cell? ⟨g, n, none⟩ = some (.int .u8 (u.toNat : Int)) := (World.cell?_of_block (w := w3) (a := ⟨g, n, none⟩) (k4.block g hgs (by simpa using hgf))).trans y0
      have z3 : wq.frozen? ⟨g, n, none⟩ = false := (World.frozen?_of_block (w := w3) (a := ⟨g, n, none⟩) (k4.block g hgs (by simpa using hgf))).trans zg
      have a3 := hA4.a3
      have a4 := hA4.a4
      have hgq : g < wq.heap.size := Nat.lt_of_lt_of_le hgs k4.size
      have K4 := Lib.hid k4
      have HWQ := Lib.hid hwq
      have hbl : (b.length : Int) + 1 ≤ 1000001 := by omega
      have hw1 : IntKind.i64.wrap ((b.length : Int) + 1) = (b.length : Int) + 1 := IntWalk.i64_in _ (by omega)
      obtain ⟨ux, hux⟩ : ∃ ux : Int, ux = (u.toNat : Int) := ⟨_, rfl⟩
      obtain ⟨b8, hb8⟩ : ∃ b8 : Int, b8 = (bb.toNat : Int) := ⟨_, rfl⟩
      have hw3 : ((b.length : Int) + 1) % 256 = b8 := by rw [hb8]; exact H8.out
      have hw2 : IntKind.u8.wrap ((b.length : Int) + 1) = b8 := by rw [IntKind.wrap_u8]; exact hw3
      rw [← hux] at y1
      have HUX := Lib.hid hux
      have HB8 := Lib.hid hb8
      clear hux hb8
      have t1 : wq.drew.cell? ⟨wb.heap.size, 1, none⟩ = some (.slice (some ⟨g, 0, none⟩) f.fl.l.length c3) := t1
      have y1 : wq.drew.cell? ⟨g, n, none⟩ = some (.int .u8 ux) := y1
      have z3 : wq.drew.frozen? ⟨g, n, none⟩ = false := z3
      have a3 : wq.drew.cell? ⟨w.heap.size, 3, none⟩ = _ := a3
      have a4 : wq.drew.cell? ⟨w.heap.size, 4, none⟩ = _ := a4
      rw [← hwq]
      clear hwq k4 hA4 f0 f1 f2 z0 z1 z2 a0 a1 a2 a5 c0 c1 c2 y0 zg q1 q4 hne hne2 hgf hgf2 hm hmb hm2 hmv hcv hc2 hc hcb hck hmk hm3 hc3
      go_still_tail 16, (by kernel_rfl)
      change wpList _ _ _ _ _ wq.drew
      clear hw1 hw2 hw3 hbl t1 a3 a4
      obtain ⟨xv, hxv⟩ : ∃ xv, xv = bits .xor .u8 ux b8 := ⟨_, rfl⟩
      rw [← hxv]
      have HXV := Lib.hid hxv
      clear hxv
      have t0 : wq.drew.cell? ⟨wb.heap.size, 0, none⟩ = some (.string f.fl.nm) := by rw [HWQ.out]; exact (set_other (by omega)).trans HF3.out.f0
      have t1 : wq.drew.cell? ⟨wb.heap.size, 1, none⟩ = some (.slice (some ⟨g, 0, none⟩) f.fl.l.length c3) := by rw [HWQ.out]; exact set_self HF3.out.f1
      have t2 : wq.drew.cell? ⟨wb.heap.size, 2, none⟩ = some (.int .i64 (f.fl.s : Int)) := by rw [HWQ.out]; exact (set_other (by omega)).trans HF3.out.f2
      have hgf2 : ¬ wb.heap.size = g := by have := HF2.out.lt; omega
      have hgf : ¬ g = wb.heap.size := by omega
      obtain ⟨W4, hW4⟩ : ∃ W4, W4 = wq.drew.setCell ⟨g, n, none⟩ (.int .u8 xv) := ⟨_, rfl⟩
      have kp : Kp [wb.heap.size] w2 W4 := by
        have k1 : Kp [wb.heap.size] w2 wq := (Kp.of_below HB3.out [wb.heap.size]).trans K4.out fun x hx => .inl hx
        have k2 : Kp [wb.heap.size] w2 wq.drew := k1.bel (Below.refl _ _).drew
        rw [hW4]
        exact k2.trans (Kp.set wq.drew (S := [g]) (p := ⟨g, n, none⟩) (by simp) _) fun x hx => .inr (by rw [List.mem_singleton.1 hx]; exact hgB)
      have r4 := HR.out.up (kp.sub_ (S' := wb.heap.size :: S) fun k hk => by simpa using Or.inl (List.mem_singleton.1 hk)) fun _ hk => .inl hk
      have ho4 : Ow W4 w2.heap.size 5 (.slice (some ⟨g, 0, none⟩) f.fl.l.length c3) ((turnB f.fl.l n bb).map bv) := by
        have q := HT.out
        rw [← HUX.out, ← HB8.out, ← HXV.out, ← HWQ.out] at q
        rw [hW4]
        exact q.below (Below.refl _ _).drew
      have hfv4 : RdS W4 (wb.heap.size :: S) (.slice (some ⟨g, 0, none⟩) f.fl.l.length c3) (turnB f.fl.l n bb) := ho4.rdS (low_all HB2.out hS HF2.out.lt)
      have hb4 : Below w.heap.size w W4 := HB2.out.trans (kp.below (B := w.heap.size) (fun k hk => by rw [List.mem_singleton.1 hk]; exact HB0.out.size) HB2.out.size)
      have hpt := rput_any _ (wo rk nm.data.toList L) _ ⟨⟨f.fl.nm, turnB f.fl.l n bb, f.fl.s⟩, .slice (some ⟨g, 0, none⟩) f.fl.l.length c3⟩ _ r4 rfl (by omega) (srt_wo hs) (fun y hy e => (mem_wo.1 hy).2 (e.trans H1.out))
      have R4 := Lib.hid r4
      have HFV4 := Lib.hid hfv4
      have HB4 := Lib.hid hb4
      have HP := Lib.hid hpt
      have s4 : ∀ k ∈ S, k < W4.heap.size := fun k hk => by have := hS k hk; have := hb4.size; omega
      have HS4 := Lib.hid s4
      clear r4 ho4 hfv4 hb4 hpt kp s4
      generalize wq.drew = wk at *
      have HW4 := Lib.hid hW4
      clear hW4
      go_wp2_with fail
      rw [← HW4.out]
      refine HP.out.mono ?_
      rintro e w5 ⟨⟨v5, rfl, p5⟩, hb5⟩
      go_wp2_with fail
      go_ret2
      try rw [if_neg HQ.out]
      try rw [Int.toNat_natCast]
      have e8 : UInt8.ofNat b.length + 1 = bb := by rw [HBB.out]; simp
      rw [e8]
      exact put_res (w := w) p5 R4.out HFV4.out hb5 rfl HS4.out (bwstep HB4.out hb5) (ins_wo (f' := ⟨⟨f.fl.nm, turnB f.fl.l n bb, f.fl.s⟩, .slice (some ⟨g, 0, none⟩) f.fl.l.length c3⟩) H1.out)
end Go.Proofs.Ytblejjjifokmgaa
