/- The contract of package disk's Copy. -/
import Derived.Test.YtaddbhdkgneiaaaGreatDkG
set_option maxHeartbeats 8000000
set_option maxRecDepth 100000
namespace Go.Proofs.YtaddbhdkgneiaaaGreat
open Go.RowKit Go.Maps Go.Sort Dk
theorem dat_has (n : List UInt8) (L : List Fr) : Maps.has (dat L) (.string n) = (fnd fk n L).isSome := by
 show (L.map ent).any (fun p => p.1.sameKey (.string n)) = _
 rw [List.any_map]
 unfold fnd
 rw [Bool.eq_iff_iff, List.find?_isSome]
 simp [Function.comp, ent, Lit.sameKey]
def done (left : Lit → Bool) (L : List Fr) : List Fr := L.filter fun f => !left (.string (fk f))
theorem done_start (L : List Fr) : done (Maps.has (dat L)) L = [] := by
 unfold done
 rw [List.filter_eq_nil_iff]
 intro f hf
 rw [dat_has]
 have : (fnd fk (fk f) L).isSome = true := by
  unfold fnd
  rw [List.find?_isSome]
  exact ⟨f, hf, by simp⟩
 simp [this]
theorem done_end {L : List Fr} {left : Lit → Bool} (h : ∀ kl, left kl = false) : done left L = L := by
 unfold done
 rw [List.filter_eq_self]
 intro f _
 simp [h]
theorem srt_done {left : Lit → Bool} {L : List Fr} (h : Srt fk L) : Srt fk (done left L) := List.Pairwise.filter _ h
theorem done_step {L : List Fr} {left : Lit → Bool} {f : Fr} (h : Srt fk L) (hf : f ∈ L) : put key f.fl ((done left L).map Fr.fl) = (done (fun z => left z && !z.sameKey (.string (fk f))) L).map Fr.fl := by
 rw [← fl_put f (done left L)]
 congr 1
 refine srt_ext (srt_put (srt_done h)) (srt_done h) fun g => ?_
 rw [mem_put]
 unfold done
 simp only [List.mem_filter, Lit.sameKey]
 by_cases e : fk g = fk f
 ·have hs : (fk g == fk f) = true := by simp [e]
  rw [hs]
  constructor
  ·rintro (rfl | ⟨_, h2⟩)
   ·exact ⟨hf, by simp⟩
   ·exact absurd e h2
  ·rintro ⟨hg, _⟩
   exact .inl (srt_uniq h hg hf e)
 ·have hs : (fk g == fk f) = false := by simpa using e
  rw [hs]
  constructor
  ·rintro (rfl | ⟨⟨h1, h2⟩, _⟩)
   ·exact absurd rfl e
   ·exact ⟨h1, by simpa using h2⟩
  ·rintro ⟨h1, h2⟩
   exact .inr ⟨⟨h1, by simpa using h2⟩, e⟩
theorem keyInv (key : Value) (kl : Lit) (h : keyOf Tryz.prog 9 key = some kl) : ∃ x : List UInt8, key = Go.Proofs.encStr x := by
 obtain ⟨x, hx, _⟩ := Maps.keyOf_str Tryz.underlying9 h
 exact ⟨x, hx⟩
theorem valInv (v : Value) (y : DataW Unit × List MemPlace) (h : pR v = some y) : ∃ o, v = ptrOf o := by
 obtain ⟨o, ho, _⟩ := pR_inv h
 exact ⟨o, ho⟩
theorem entry_inv {L : List Fr} {x : List UInt8} {c : Option Nat} {kl : Lit} {y : DataW Unit × List MemPlace} (hk : keyOf Tryz.prog 9 (Go.Proofs.encStr x) = some kl) (hv : pR (ptrOf c) = some y) (hat : ∀ zd, (dat L).atKey kl zd = y.1) :
  ∃ f ∈ L, kl = .string (fk f) ∧ Go.Proofs.encStr x = .string f.fl.nm ∧ c = some f.bl := by
 obtain ⟨x', ex, rfl, _⟩ := Maps.keyOf_str Tryz.underlying9 hk
 obtain rfl : x = x' := encStr_inj ex
 have hh := Maps.has_true_of_atKey hat
 rw [dat_has] at hh
 rcases fnd_cases fk x L with h0 | ⟨A, f, C, e, h1, h2⟩
 ·rw [h0] at hh; cases hh
 ·rw [pR_mk] at hv
  injection hv with hv
  have h3 := hat .nil
  rw [dat_at, h2, ← hv] at h3
  refine ⟨f, by rw [e]; simp, by rw [h1], ?_, (datOf_inj h3).symm⟩
  rw [← h1]
  rfl
structure CpR (w : World) (mb cb cmb r cap us : Nat) (L : List Fr) (wr : World) (left : Lit → Bool) (cnt : Nat) (Lc : List Fr) : Prop where
 rg : wr.ranges Tryz.prog 9 pR mb r L.length (dat L) left cnt
 ct : DiskAt wr w.heap.size (.pointer (some ⟨cb, 0, none⟩)) cb cmb cap us Lc
 dn : Lc.map Fr.fl = (done left L).map Fr.fl
 bl : Below w.heap.size w wr
 nr : ∀ k ∈ fp cb cmb Lc, k ≠ r
 rs : w.heap.size ≤ r
theorem CpR.len {w : World} {mb cb cmb r cap us : Nat} {L : List Fr} {wr : World} {left : Lit → Bool} {cnt : Nat} {Lc : List Fr} (h : CpR w mb cb cmb r cap us L wr left cnt Lc) : Lc.length ≤ L.length := by
 have := congrArg List.length h.dn
 rw [List.length_map, List.length_map] at this
 rw [this]
 exact List.length_filter_le _ _
theorem CpR.next {w : World} {mb cb cmb r cap us : Nat} {L : List Fr} {wr w4 w9 w10 : World} {left : Lit → Bool} {cnt cnt4 m : Nat} {Lc : List Fr} {f : Fr} {v : Value} (h : CpR w mb cb cmb r cap us L wr left cnt Lc) (hmb : mb < w.heap.size) (hs : Srt fk L) (hf : f ∈ L)
  (hrg : w4.ranges Tryz.prog 9 pR mb r L.length (dat L) (fun z => left z && !z.sameKey (.string (fk f))) cnt4) (hg4 : wr.grownBy w4 (some r)) (hb9 : Below w4.heap.size w4 w9) (ho : Ow w9 w4.heap.size 5 v (f.fl.l.map bv))
  (hm : w10.ownsMap Tryz.prog 9 pR cmb m ((dat Lc).put (.string (fk f)) (.lit (.int .i64 w9.heap.size)))) (hg : (w9.alloc (.cells #[v, .int .i64 (f.fl.s : Int)] 82)).grownBy w10 (some cmb)) :
  CpR w mb cb cmb r cap us L w10 (fun z => left z && !z.sameKey (.string (fk f))) cnt4 (put fk ⟨f.fl, w9.heap.size, v⟩ Lc) := by
 have c4 : DiskAt w4 w.heap.size (.pointer (some ⟨cb, 0, none⟩)) cb cmb cap us Lc := h.ct.kp (Kp.grown (S := [r]) hg4 fun k e => by injection e with e; simp [e]) fun k hk hm => h.nr k hk (by simpa using hm)
 have b4 : Below w.heap.size w w4 := h.bl.grown hg4 h.bl.size fun k e => by injection e with e; rw [← e]; exact h.rs
 have ba := (Below.refl w9.heap.size w9).alloc (Nat.le_refl _) (.cells #[v, .int .i64 (f.fl.s : Int)] 82)
 have ca := (c4.below hb9).below ba
 have s4 := b4.size
 have s9 := hb9.size
 have hr4 := hrg.lt
 have hcm := ca.geb.2.1
 have gl : ∀ g ∈ Lc, g.bl < w4.heap.size ∧ ∀ k, g.v.ownBlock = some k → k < w4.heap.size := fun g hg => ⟨c4.lt _ (mem_fp.2 (.inr (.inr ⟨g, hg, .inl rfl⟩))), fun k hk => c4.lt k (mem_fp.2 (.inr (.inr ⟨g, hg, .inr hk⟩)))⟩
 have hcell : (w9.alloc (.cells #[v, .int .i64 (f.fl.s : Int)] 82)).heap[w9.heap.size]? = some (.cells #[v, .int .i64 (f.fl.s : Int)] 82 (0, 0)) := heap_alloc_new w9 _
 have hadd := ca.add ⟨f.fl, w9.heap.size, v⟩ hcell ((ho.below ba).mono s4) (Nat.le_trans s4 s9) (fun g hg _ => ⟨fun e => by have := (gl g hg).1; have e : g.bl = w9.heap.size := e; omega, fun k hk e => by have := (gl g hg).2 k hk; have := ho.ge k e; omega⟩) hm hg
 have hgr : w4.grownBy w10 (some cmb) := by
  refine ⟨hg.os.trans (ba.os.trans hb9.os), hg.tape.trans (ba.tape.trans hb9.tape), hg.output.trans (ba.output.trans hb9.output), Nat.le_trans (Nat.le_trans s9 ba.size) hg.size, fun k hk hne => ?_⟩
  exact (hg.block k (Nat.lt_of_lt_of_le hk (Nat.le_trans s9 ba.size)) hne).trans ((ba.block k (Nat.lt_of_lt_of_le hk s9)).trans (hb9.block k hk))
 refine ⟨hrg.kept hgr (fun e => ?_) (fun e => ?_), hadd, ?_, b4.grown hgr s4 (fun k e => by injection e with e; rw [← e]; exact hcm), fun k hk e => ?_, h.rs⟩
 ·injection e with e
  omega
 ·injection e with e
  exact h.nr cmb (mem_fp.2 (.inr (.inl rfl))) e.symm
 ·rw [fl_put, h.dn]
  exact done_step (f := f) hs hf
 ·rcases mem_fp.1 hk with h1 | h1 | ⟨g, hg, hq⟩
  ·exact h.nr k (mem_fp.2 (.inl h1)) e
  ·exact h.nr k (mem_fp.2 (.inr (.inl h1))) e
  ·rcases mem_put.1 hg with e2 | ⟨hg2, _⟩
   ·rw [e2] at hq
    rcases hq with hq | hq
    ·have : k = w9.heap.size := hq
     omega
    ·have := ho.ge k hq
     omega
   ·exact h.nr k (mem_fp.2 (.inr (.inr ⟨g, hg2, hq⟩))) e
theorem copy_any {w : World} {B : Nat} {d : Value} {db mb cap us : Nat} {L : List Fr} (h : DiskAt w B d db mb cap us L) (hL : L.length ≤ 1000000000) (hz : ∀ f ∈ L, f.fl.l.length ≤ 1000000000) (hnm : ∀ f ∈ L, f.fl.nm.size ≤ 1000000000) :
  Calls Tryz.prog 38 #[d] w fun e w' => (∃ cb cmb Lc, e = .returned (.pointer (some ⟨cb, 0, none⟩)) ∧ DiskAt w' w.heap.size (.pointer (some ⟨cb, 0, none⟩)) cb cmb cap us Lc ∧ Lc.map Fr.fl = L.map Fr.fl) ∧ Below w.heap.size w w' := by
 obtain rfl := h.hd
 have c0 := h.c0
 have c1 := h.c1
 have hmm := @run_makeMap Tryz.prog
 have hba := (Below.refl w.heap.size w).alloc (Nat.le_refl _) (Obj.map #[] 0)
 have hlt := h.lt db (mem_fp.2 (.inl rfl))
 have e0 := (hba.cell (p := ⟨db, 0, none⟩) hlt).trans c0
 have e1 := (hba.cell (p := ⟨db, 1, none⟩) hlt).trans c1
 have H := Lib.hid h
 have HZ := Lib.hid hz
 have HN := Lib.hid hnm
 clear h hz hnm
 go_enter Tryz.func38, Tryz.ntmps38
 go_wp2_with fail
 go_region
 have hb0 : Below w.heap.size w ((w.alloc (Obj.map #[] 0)).alloc (Obj.cells #[Value.int IntKind.i64 (cap : Int), Value.int IntKind.i64 (us : Int), Value.map (some w.heap.size)] 59)).drew := (hba.alloc hba.size _).drew
 have hc0 : DiskAt ((w.alloc (Obj.map #[] 0)).alloc (Obj.cells #[Value.int IntKind.i64 (cap : Int), Value.int IntKind.i64 (us : Int), Value.map (some w.heap.size)] 59)).drew w.heap.size (.pointer (some ⟨w.heap.size + 1, 0, none⟩)) (w.heap.size + 1) w.heap.size cap us [] := by
  refine ⟨rfl, ?_, ?_, by simp, by simp, by simp, List.Pairwise.nil, by omega, Nat.le_refl _, by simp⟩
  ·have := heap_alloc_new (w.alloc (Obj.map #[] 0)) (Obj.cells #[.int .i64 (cap : Int), .int .i64 (us : Int), .map (some w.heap.size)] 59)
   have e : (w.alloc (Obj.map #[] 0)).heap.size = w.heap.size + 1 := by simp
   rw [e] at this
   exact this
  ·exact ((World.ownsMap_made w Tryz.prog 9 pR).alloc _).drew
 have HH := Lib.hid (H.out.below hb0)
 clear hba hlt e0 e1 c0 c1
 have HB0 := Lib.hid hb0
 have HC0 := Lib.hid hc0
 clear hb0 hc0
 generalize w.heap.size + 1 = cb at *
 obtain ⟨cmb, hcmb⟩ : ∃ cmb, cmb = w.heap.size := ⟨_, rfl⟩
 have HCM := Lib.hid hcmb
 have HC1 : Hid (DiskAt ((w.alloc (Obj.map #[] 0)).alloc (Obj.cells #[Value.int IntKind.i64 (cap : Int), Value.int IntKind.i64 (us : Int), Value.map (some w.heap.size)] 59)).drew w.heap.size (.pointer (some ⟨cb, 0, none⟩)) cb cmb cap us []) := hcmb ▸ HC0
 clear hcmb HC0
 generalize ((w.alloc (Obj.map #[] 0)).alloc (Obj.cells #[Value.int IntKind.i64 (cap : Int), Value.int IntKind.i64 (us : Int), Value.map (some w.heap.size)] 59)).drew = w2 at *
 have c2 := HH.out.c2
 have hown := HH.out.map
 go_wp2_with (first
  | (at_range; refine wpList_range_own _ rfl _ 57 rfl 9 80 nameK Tryz.underlying57 pR mb L.length (dat L) rfl hown ?_; intro w3 hrg0 hg0 hs0)
  | go_in)
 go_frame
 have hb3 : Below w2.heap.size w2 w3 := (Below.refl _ _).grown hg0 (Nat.le_refl _) (fun k hk => by cases hk)
 have hre : ∃ r, r = w2.heap.size := ⟨_, rfl⟩
 obtain ⟨r, hr⟩ := hre
 rw [← hr] at hrg0
 have HR := Lib.hid hr
 have HS : Hid (CpR w mb cb cmb r cap us L w3 (Maps.has (dat L)) (Maps.size (dat L)) []) := Lib.hid ⟨hrg0, HC1.out.below hb3, by rw [done_start], bwstep HB0.out hb3, fun k hk e => by have := HC1.out.lt k hk; omega, by rw [hr]; exact HB0.out.size⟩
 have HMB := Lib.hid (H.out.lt mb (mem_fp.2 (.inr (.inl rfl))))
 rw [← hr]
 clear hr hg0 hs0 hown c2 hb3 hrg0 hmm
 go_loopw [4] (fun _ wr => ∃ left cnt Lc, CpR w mb cb cmb r cap us L wr left cnt Lc) (fun _ wr => wr.rangeLeft mb r)
 case atStart => exact ⟨_, _, _, HS.out⟩
 case round =>
  obtain ⟨left, cnt, Lc, hrel⟩ := hrel
  have hrg := hrel.rg
  have HL := Lib.hid hrel
  clear hrel
  go_wp2_with (first
   | (at_next; refine wpList_next_ranges _ rfl _ rfl 9 nameK pR Go.Proofs.encStr ptrOf keyInv valInv mb r L.length (dat L) left cnt rfl hrg ?_ ?_)
   | go_in)
  ·intro _ hl0
   go_wp2_with fail
   go_ret
   exact ⟨⟨cb, cmb, Lc, rfl, HL.out.ct, by rw [HL.out.dn, done_end hl0]⟩, HL.out.bl⟩
  ·intro x c kl yd yp w4 cnt4 hkey hlk hv hat hrg4 hlt4 hg4 hs4 hen
   obtain ⟨f, hf, rfl, ex, rfl⟩ := entry_inv (y := (yd, yp)) hkey hv hat
   rw [ex] at hen ⊢
   simp only [ptrOf] at hen ⊢
   have b4 : Below w.heap.size w w4 := HL.out.bl.grown hg4 HL.out.bl.size fun k e => by injection e with e; rw [← e]; exact HL.out.rs
   have ct4 := HL.out.ct.kp (Kp.grown (S := [r]) hg4 fun k e => by injection e with e; simp [e]) fun k hk hm => HL.out.nr k hk (by simpa using hm)
   have d4 := H.out.below b4
   have g0 := d4.g0 hf
   have g1 := d4.g1 hf
   have e2 := ct4.c2
   have hlf := d4.lt f.bl (mem_fp.2 (.inr (.inr ⟨f, hf, .inl rfl⟩)))
   have hlc := ct4.lt cb (mem_fp.2 (.inl rfl))
   have hrd := (d4.own f hf).rd
   obtain ⟨Av, cv, ev, hcv, hmv⟩ := hrd.shapeM
   rw [ev] at g0 hrd
   have hzf : f.fl.l.length ≤ 1000000000000 := by have := HZ.out f hf; omega
   have hkf := nameOf (s := f.fl.nm) (by have := HN.out f hf; unfold maxLen; omega)
   have hnf : Lc.length < maxLen := by have := HL.out.len; unfold maxLen; omega
   have hne1 : cb ≠ cmb := ct4.neDM
   have hne2 : f.bl ≠ cmb := by have := H.out.lt f.bl (mem_fp.2 (.inr (.inr ⟨f, hf, .inl rfl⟩))); have := ct4.geb.2.1; omega
   have HK : Hid (∀ z : World, Kp [cmb] w4 z → (z.cell? ⟨cb, 2, none⟩ = some (.map (some cmb)) ∧ z.cell? ⟨f.bl, 0, none⟩ = some (.slice Av f.fl.l.length cv) ∧ z.cell? ⟨f.bl, 1, none⟩ = some (.int .i64 (f.fl.s : Int)) ∧ Kp [cmb] w4 z)) :=
    Lib.hid fun z hk => ⟨(World.cell?_of_block (w := w4) (a := ⟨cb, 2, none⟩) (hk.block cb hlc (by simpa using hne1))).trans e2, (World.cell?_of_block (w := w4) (a := ⟨f.bl, 0, none⟩) (hk.block f.bl hlf (by simpa using hne2))).trans g0, (World.cell?_of_block (w := w4) (a := ⟨f.bl, 1, none⟩) (hk.block f.bl hlf (by simpa using hne2))).trans g1, hk⟩
   have HT := Lib.hid (HK.out w4.drew (Kp.of_below ((Below.refl _ _).drew) _))
   have HU : Hid (∀ a z : World, (a.cell? ⟨cb, 2, none⟩ = some (.map (some cmb)) ∧ a.cell? ⟨f.bl, 0, none⟩ = some (.slice Av f.fl.l.length cv) ∧ a.cell? ⟨f.bl, 1, none⟩ = some (.int .i64 (f.fl.s : Int)) ∧ Kp [cmb] w4 a) → Below a.heap.size a z → (z.cell? ⟨cb, 2, none⟩ = some (.map (some cmb)) ∧ z.cell? ⟨f.bl, 0, none⟩ = some (.slice Av f.fl.l.length cv) ∧ z.cell? ⟨f.bl, 1, none⟩ = some (.int .i64 (f.fl.s : Int)) ∧ Kp [cmb] w4 z)) :=
    Lib.hid fun a z hS hb => HK.out z (hS.2.2.2.bel hb)
   clear hne1 hne2 hlf hlc
   have hrd4 := hrd.up ((Below.refl w4.heap.size w4).drew)
   have HCT := Lib.hid ct4
   have HNX := Lib.hid (fun (w9 w10 : World) (m : Nat) (v : Value) => CpR.next (w9 := w9) (w10 := w10) (m := m) (v := v) HL.out HMB.out H.out.srt hf hrg4 hg4)
   have HLQ : Hid (wr.rangeLeft mb r = cnt) := hrg.left_eq
   have HLT := Lib.hid hlt4
   clear hrg hrg4 hlk hv hat hkey hs4 hg4 b4 ct4 d4 ev hlt4
   go_wp2_with fail
   go_region_held3 (fun w' => w'.cell? ⟨cb, 2, none⟩ = some (.map (some cmb)) ∧ w'.cell? ⟨f.bl, 0, none⟩ = some (.slice Av f.fl.l.length cv) ∧ w'.cell? ⟨f.bl, 1, none⟩ = some (.int .i64 (f.fl.s : Int)) ∧ Kp [cmb] w4 w') (first | exact HW.out | exact HW9.out | exact HWa.out | exact HT.out | assumption | exact HU.out _ _ (by assumption) (by assumption) | exact HU.out _ _ (by assumption) ((Below.refl _ _).alloc (Nat.le_refl _) _))
    (first | (go_at_call 44; refine (bclone_any _ _ _ _ hrd4 (Nat.le_refl _) hzf).mono ?_; rintro e w9 ⟨v9, rfl, ho9, hb9⟩; obtain ⟨A9, c9, rfl, hc9, hm9⟩ := ho9.rd.shapeM; have hb49 := bwstep ((Below.refl w4.heap.size w4).drew) hb9; have HW9 := Lib.hid (HK.out w9 (Kp.of_below hb49 _)); have HWa := Lib.hid (HK.out (w9.alloc (.cells #[.slice A9 f.fl.l.length c9, .int .i64 (f.fl.s : Int)] 82)) (Kp.of_below (hb49.alloc hb49.size _) _)); have hown9 := (HCT.out.below hb49).map.alloc (.cells #[.slice A9 f.fl.l.length c9, .int .i64 (f.fl.s : Int)] 82); obtain ⟨w10, hrun, hown10, hg10⟩ := hown9.update nameK Tryz.underlying57 hnf hkf (pR_mk (some w9.heap.size)); simp only [ptrOf] at hrun; have HX := Lib.hid (HNX.out _ _ _ _ hb49 ho9 hown10 hg10); have HW := Lib.hid (HK.out w10 (((Kp.of_below hb49 [cmb]).bel ((Below.refl w9.heap.size w9).alloc (Nat.le_refl _) _)).trans (Kp.grown (S := [cmb]) hg10 fun k e => by injection e with e; simp [e]) (fun _ hk => .inl hk))); clear hown9 hown10 hg10))
   go_wp2_with fail
   go_roundw
   case rel => exact ⟨_, _, _, HX.out⟩
   case measure => rw [HX.out.rg.left_eq, HLQ.out]; exact HLT.out
end Go.Proofs.YtaddbhdkgneiaaaGreat
