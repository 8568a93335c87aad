/- The contract of Build of package table. The contract of Open of package table. The contracts of a table's methods: Cells, Blocks, May, Get. -/
import Derived.Test.YtcpkhhbbjimdaaaGreatDoorTabA
import Derived.Test.YtcpkhhbbjimdaaaGreatDoorBkA
import Derived.Test.YtcpkhhbbjimdaaaGreatDoorFrmA
import Derived.Test.YtcpkhhbbjimdaaaGreatDoorTabD
import Derived.Test.YtcpkhhbbjimdaaaGreatDoorTabC
import Derived.Test.YtcpkhhbbjimdaaaGreatDoorCbA
set_option maxHeartbeats 8000000
set_option maxRecDepth 100000
namespace Go.Proofs.YtcpkhhbbjimdaaaGreatDoor
open Go.RowKit
theorem RdM.build3 {w : World} {a b c : Value} {x y z : List UInt8} (e : Nat) (ha : Rd w w.heap.size a (x.map bv)) (hb : Rd w w.heap.size b (y.map bv)) (hc : Rd w w.heap.size c (z.map bv)) :
  RdM (w.alloc (.cells #[a, b, c] e)) (w.alloc (.cells #[a, b, c] e)).heap.size (.slice (some ⟨w.heap.size, 0, none⟩) 3 3) 3 (gl [x, y, z]) := by
 have hal := bwalloc (bwrefl w) (.cells #[a, b, c] e)
 refine ⟨fun i => [a, b, c].getD i undef, Rd.newW w e #[a, b, c] rfl (by simp [maxLen]) rfl, fun j hj => ?_⟩
 match j, hj with
 | 0, _ => exact ha.up hal
 | 1, _ => exact hb.up hal
 | 2, _ => exact hc.up hal
theorem flatG3 (x y z : List UInt8) : flatG (gl [x, y, z]) 3 = x ++ (y ++ z) := by
 show (([] ++ x) ++ y) ++ z = _
 simp
end Go.Proofs.YtcpkhhbbjimdaaaGreatDoor
namespace Go.Proofs.YtcpkhhbbjimdaaaGreatDoor.Ce
open Go.RowKit Frm
theorem apart_lt {u x : Value} {n : Nat} (h1 : ∀ k, u.ownBlock = some k → k < n) (h2 : ∀ k, x.ownBlock = some k → n ≤ k) : Apart u x := fun k hk hx => by
 have := h1 k hk
 have := h2 k hx
 omega
theorem tb_no (v : Value) (L : List Cl) (size : Int) (w : World) (hv : RdL w [] v L) (hs : ¬ (Sorted L ∧ 1 ≤ size)) (hl : L.length ≤ 1000000) :
  Calls Tryz.prog 103 #[v, .int .i64 size] w fun e w' => e = .returned (.tuple #[.slice none 0 0, .int .i64 1]) ∧ Below w.heap.size w w' := by
 go_enter Tryz.func103, Tryz.ntmps103
 go_wp2_with fail
 refine (bcut_no v L size w hv hs (by omega)).mono ?_
 rintro e w1 ⟨rfl, hb1⟩
 have HB := Lib.hid hb1
 clear hb1
 go_wp2_with fail
 go_ret2
 exact ⟨rfl, HB.out⟩
theorem tb_ok (v : Value) (L : List Cl) (size : Int) (w : World) (hv : RdL w [] v L) (hs : Sorted L) (h1 : 1 ≤ size) (hl : (flatC L).length ≤ 50000) :
  Calls Tryz.prog 103 #[v, .int .i64 size] w fun e w' => (∃ x, e = .returned (.tuple #[x, .int .i64 0]) ∧ Ow w' w.heap.size 5 x ((tabB L (cutB size L)).map bv)) ∧ Below w.heap.size w w' := by
 have hgl := flatC_ge hs.ok
 have hln : L.length ≤ 3000 := by omega
 obtain ⟨htab, hcl, htl⟩ := tab_fit hs hl h1
 have hrow : ∀ M ∈ cutB size L, Sorted M ∧ M ≠ [] := fun M hM => htab.row hM
 have hfit := htab.fit
 have hft := htab.foot
 have hok := hs.ok
 have hcut := bcut_ok v L size w hv hs h1 (by omega)
 have hfll := flatB_len (cutB size L)
 rw [cutB_flat] at hfll
 clear htab
 obtain ⟨LL, hLL⟩ : ∃ LL, cutB size L = LL := ⟨_, rfl⟩
 rw [hLL] at hrow hfit hft hcl hcut htl hfll ⊢
 have hfl : (flatB LL).length ≤ 100000 := by omega
 have hen : 4 + (entries LL 0).length ≤ 65535 := by
  unfold footR at hft
  rw [List.length_append, List.length_append, numB_len] at hft
  omega
 obtain ⟨A, cp, rfl, hc, hm⟩ := hv.shape
 unfold maxLen at hm
 have HV := Lib.hid hv
 have HOK := Lib.hid hok
 have HROW := Lib.hid hrow
 have HFIT := Lib.hid hfit
 have HFT := Lib.hid hft
 have HTL := Lib.hid htl
 clear hv hok hrow hfit hft hs hLL htl hfll hgl
 go_enter Tryz.func103, Tryz.ntmps103
 go_wp2_with fail
 refine hcut.mono ?_
 rintro e w1 ⟨⟨x, vs, rfl, hox⟩, hb1⟩
 clear hcut
 have HX1 := Lib.hid hox.rd
 have HB1 := Lib.hid hb1
 obtain ⟨Ax, cx, rfl, hcx, hmx⟩ := hox.rd.shape
 unfold maxLen at hmx
 clear hox hb1
 go_wp2_with fail
 refine (num_ok LL.length _ (by omega)).mono ?_
 rintro e w2 ⟨q, rfl, hq, hb2⟩
 have HT2 : Hid (Two w1 5 (numB LL.length ++ entries (LL.take 0) 0) (flatB (LL.take 0)) q (.slice none 0 0) w2) := Lib.hid ⟨by simpa [entries] using hq, by simpa [flatB] using Ow.nilB _ _ _, (Apart.nil _).symm, hb2⟩
 clear hq hb2
 go_wp2_with fail
 go_loopw [8, 9, 29] (fun all foot i wr => ∃ k : Nat, k ≤ LL.length ∧ i = .int .i64 (k : Int) ∧ Hid (Two w1 5 (numB LL.length ++ entries (LL.take k) 0) (flatB (LL.take k)) foot all wr)) (fun _ _ i _ => LL.length - (intOf i).toNat)
 case atStart => exact ⟨0, by omega, rfl, HT2⟩
 case round =>
  clear HT2
  obtain ⟨k, hk, rfl, HT⟩ := hrel
  by_cases hlt : k < LL.length
  ·have hfk : LL[k]? = some (LL[k]'hlt) := List.getElem?_eq_getElem _
   generalize LL[k]'hlt = M at hfk
   have hMm := List.mem_of_getElem? hfk
   obtain ⟨hMs, hMn⟩ := HROW.out M hMm
   have HES := Lib.hid (entries_snoc hfk)
   have HFS := Lib.hid (flatB_snoc hfk)
   have hMl : 0 < M.length := List.length_pos_iff.2 hMn
   have hc0 : M[0]? = some (hd M) := hd_at hMn
   have hok := hMs.ok _ (List.mem_of_getElem? hc0)
   have hkl := cellB_le (keyC_ok hok)
   have hbp := fun (w : World) (v : Value) (hv : RdL w [] v M) => bput_ok v M w hv hMs hMn (HFIT.out M hMm)
   have hfle := flatB_take_le LL k
   have hele := entries_take_le LL k
   have hele2 := entries_take_le LL (k + 1)
   have hfle2 := flatB_take_le LL (k + 1)
   rw [HES.out] at hele2
   rw [HFS.out] at hfle2
   simp only [List.length_append, numB_len] at hele2 hfle2
   have hpe := fun w => tentry_ok (hd M) (flatB (LL.take k)).length w hok (by omega)
   obtain ⟨bx, ox, rfl, hbx⟩ := (HX1.out.bel HT.out.bel).open_ (by omega)
   obtain ⟨hbx1, -⟩ : bx < w1.heap.size ∧ True := by
    obtain ⟨b, o, e, hb⟩ := HX1.out.open_ (by omega)
    simp only [Option.some.injEq, Addr.mk.injEq, and_true] at e
    exact ⟨e.1 ▸ hb, trivial⟩
   obtain ⟨Am, cm, hcm1, hmc, hmm, hrm1⟩ := HX1.out.row hfk
   have hcm := (HT.out.bel.cell (by exact hbx1)).trans hcm1
   have HRM := Lib.hid hrm1
   unfold maxLen at hmm
   have HBP := Lib.hid hbp
   have hh3 : (0 : Int) ≤ (k : Int) := by omega
   have hh4 : (k : Int) < (LL.length : Int) := by omega
   have hm0 : (0 : Int) < (M.length : Int) := by omega
   obtain ⟨A6, c6, rfl, hc6, hm6⟩ := HT.out.ob.rd.shapeM
   unfold maxLen at hm6
   obtain ⟨wo, hwo⟩ : ∃ wo, wo = wr := ⟨_, rfl⟩
   subst hwo
   clear hfk hMm hMs hMn hok hrm1 hbp
   go_wp2_with fail
   refine (HBP.out _ _ (HRM.out.bel HT.out.bel)).mono ?_
   rintro e w3 ⟨⟨x3, rfl, hx3⟩, hb3⟩
   have HT3 := Lib.hid (HT.out.up hb3)
   have HX3 := Lib.hid hx3
   have HLT : Hid (∀ k, u9.ownBlock = some k → k < wo.heap.size) := Lib.hid fun k hk => (HT.out.oa.lt k hk).2
   have hrm3 := HRM.out.bel HT3.out.bel
   obtain ⟨bm, om, rfl, -, -⟩ := hrm3.open_ hMl
   obtain ⟨h5, -⟩ := hrm3.at_ hc0
   rw [Nat.zero_mul, Nat.add_zero] at h5
   obtain ⟨c0, c1, c2, c3, c4⟩ := h5
   clear hx3 hb3 HT hrm3 hcm HBP hc0
   obtain ⟨f, hf⟩ : ∃ f, hd M = f := ⟨_, rfl⟩
   rw [hf] at c0 c1 c2 c3 c4 HES hpe hkl hele2
   clear hf
   go_wp2_with fail
   refine (hpe _).mono ?_
   rintro e w4 ⟨⟨x4, rfl, hx4⟩, hb4⟩
   have HT4 := HT3.out.up hb4
   have HX4 := Lib.hid (HX3.out.below hb4)
   have HAP : Hid (Apart x3 u9) := Lib.hid (apart_lt HLT.out HX3.out.ge).symm
   have hr4 := hx4.rd
   have hs4 := HT4.bel.size
   have z4 : (numB LL.length ++ entries (LL.take k) 0).length + (cellB (keyC f) ++ numB (flatB (LL.take k)).length).length ≤ 140737488355328 := by simp only [List.length_append, numB_len]; omega
   have z5 : (flatB (LL.take k)).length + (blkB M).length ≤ 140737488355328 := by omega
   clear hx4 hb4 HT3 HX3 c0 c1 c2 c3 c4 hpe
   go_wp2_with (first
    | (at_builtin; refine wpList_appB bytesT rfl (.tmp 41) (.tmp 47) rfl rfl HT4.oa rfl hr4 z4 hs4 ?_; intro v5 w5 ho5 hg5 h5; have HT5 := (HT4.app ho5 hg5 h5).rot; have hr5 := (HX4.out.kept hg5 HAP.out).rd; have hs5 := HT5.bel.size; clear ho5 hg5 h5 hr4 hs4 z4)
    | (at_builtin; refine wpList_appB bytesT rfl (.tmp 49) (.tmp 50) rfl rfl HT5.oa rfl hr5 z5 hs5 ?_; intro v6 w6 ho6 hg6 h6; have HT6 := Lib.hid (HT5.app ho6 hg6 h6).rot; clear ho6 hg6 h6 hr5 hs5 z5 HT5))
   rw [← HFS.out, List.append_assoc, ← List.append_assoc (entries (LL.take k) 0), ← HES.out] at HT6
   go_roundw
   case rel => exact ⟨k + 1, by omega, by go_num, HT6⟩
   case measure => simp [intOf]; omega
  ·obtain rfl : k = LL.length := by omega
   have HT3 : Hid (Two w1 5 (numB LL.length ++ entries LL 0) (flatB LL) u9 u8 wr) := by
    have := HT
    rwa [List.take_length] at this
   have hfo := fun w hv => tfilter_ok (.slice A L.length cp) L w hv HOK.out (by omega)
   have hfl2 := filt_len L
   have HFR : Hid (numB LL.length ++ entries LL 0 ++ textB ⟨(filt L).toArray⟩ = footR L LL) := Lib.hid (by unfold footR; rw [List.append_assoc])
   have HTB : Hid (flatB LL ++ (frm (footR L LL) ++ numB (12 + (footR L LL).length)) = tabB L LL) := Lib.hid rfl
   have HVW := Lib.hid (HV.out.bel (bwstep HB1.out HT.out.bel))
   obtain ⟨A8, c8, rfl, hc8, hm8⟩ := HT3.out.ob.rd.shapeM
   unfold maxLen at hm8
   generalize filt L = fl at hfo hfl2 HFR
   have hba : (⟨fl.toArray⟩ : ByteArray).size = fl.length := ba_size fl
   clear HT
   obtain ⟨wi, hwi⟩ : ∃ wi, wi = wr := ⟨_, rfl⟩
   subst hwi
   go_wp2_with fail
   refine (hfo _ HVW.out).mono ?_
   rintro e wa ⟨⟨xa, rfl, hxa⟩, hba2⟩
   have HTA := Lib.hid (HT3.out.up hba2)
   have hcv := run_str (P := Tryz.prog) (w := wa) Tryz.underlying84 Tryz.underlying5 Tryz.underlying9 hxa.rd
   generalize (⟨fl.toArray⟩ : ByteArray) = sf at hcv HFR hba
   clear hxa hfo hba2 HT3
   go_wp2_with fail
   clear hcv
   refine (text_ok sf _ (by omega)).mono ?_
   rintro e wb ⟨xb, rfl, hxb, hbb⟩
   have HTB2 := HTA.out.up hbb
   have hrb := hxb.rd
   have hsb := HTB2.bel.size
   have zb : (numB LL.length ++ entries LL 0).length + (textB sf).length ≤ 140737488355328 := by rw [List.length_append, numB_len, textB_len]; omega
   clear hxb hbb HTA
   go_wp2_with (at_builtin; refine wpList_appB bytesT rfl (.tmp 53) (.tmp 57) rfl rfl HTB2.oa rfl hrb zb hsb ?_; intro vc wc hoc hgc hhc; have HTC := HTB2.app hoc hgc hhc; clear hoc hgc hhc hrb hsb zb)
   rw [HFR.out] at HTC
   refine (fput_ok _ (footR L LL) _ HTC.oa.rd HFT.out).mono ?_
   rintro e wd ⟨⟨xd, rfl, hxd⟩, hbd⟩
   have HTD := (HTC.up hbd).rot
   have hrd := hxd.rd
   have hfr : (frm (footR L LL)).length = 12 + (footR L LL).length := frm_len _
   have hfull := HTB.out
   have hlf := HTL.out
   rw [← hfull] at hlf
   rw [List.length_append, List.length_append, numB_len, hfr] at hlf
   obtain ⟨Ad, cd, hxv, hcd, hmd⟩ := hrd.shapeM
   rw [hfr] at hxv hcd
   subst hxv
   unfold maxLen at hmd
   have hft2 := HFT.out
   have HRB := Lib.hid HTD.oa.rd
   have HBD := Lib.hid HTD.bel
   clear hxd hbd HTC HTB2 HTD hfull
   generalize hfn : (footR L LL).length = fn at hfr hcd hft2 HTB hlf hrd
   have hfn0 : (0 : Int) < ((12 + fn : Nat) : Int) := by omega
   have hfn1 : ¬ ((12 + fn : Nat) : Int) = 0 := by omega
   have HRD2 := Lib.hid hrd
   clear hrd hfn
   go_wp2_with fail
   refine (num_ok (12 + fn) _ (by omega)).mono ?_
   rintro e wf ⟨xf, rfl, hxf, hbf⟩
   have h3 := RdM.build3 84 (HRB.out.up hbf) (HRD2.out.up hbf) hxf.rd
   have hbf2 := hbf
   obtain ⟨Af, cf, rfl, -, -⟩ := hxf.rd.shapeM
   have hll : (flatG (gl [flatB LL, frm (footR L LL), numB (12 + fn)]) 3).length ≤ 160000 ∧ 0 < (flatG (gl [flatB LL, frm (footR L LL), numB (12 + fn)]) 3).length := by
    rw [flatG3, List.length_append, List.length_append, numB_len, hfr]
    omega
   have hbl := bwalloc (bwstep HBD.out hbf) (.cells #[.slice A8 (flatB LL).length c8, .slice Ad (12 + fn) cd, .slice Af (numB (12 + fn)).length cf] 84)
   have hcc := concatG_any _ 3 _ _ h3 (by omega) hll.2 (by omega)
   rw [flatG3, HTB.out] at hcc
   have HCC := Lib.hid hcc
   have HBL := Lib.hid hbl
   clear hxf hbf hbf2 h3 hll hcc hbl HRB HRD2 HBD
   go_wp2_with fail
   refine HCC.out.mono ?_
   rintro e wz ⟨⟨z, rfl, hz⟩, hbz⟩
   have HZ := Lib.hid (hz.mono (Nat.le_trans HB1.out.size HBL.out.size))
   have HBZ := Lib.hid (bwstep HB1.out (bwstep HBL.out hbz))
   clear hz hbz HCC
   go_wp2_with fail
   go_ret2
   exact ⟨⟨_, rfl, HZ.out⟩, HBZ.out⟩
end Go.Proofs.YtcpkhhbbjimdaaaGreatDoor.Ce
namespace Go.Proofs.YtcpkhhbbjimdaaaGreatDoor.Ce
open Go.RowKit Frm
structure TblV (w : World) (n0 b : Nat) (S : List Cl) (n : Nat) : Prop where
 ex : ∃ (vc : Value) (fb fn fc : Nat), w.heap[b]? = some (.cells #[vc, .slice (some ⟨fb, 0, none⟩) fn fc, .int .i64 (n : Int)] 128 (0, 0)) ∧ OwL w n0 vc S ∧ n0 ≤ fb ∧ Rd w w.heap.size (.slice (some ⟨fb, 0, none⟩) fn fc) ((filt S).map bv) ∧ fb < w.heap.size
 ge : n0 ≤ b
def OpenEnd (l : List UInt8) (w : World) (e : Ending) (w' : World) : Prop :=
 ((∃ S LL b, TabAt l S LL ∧ e = .returned (.tuple #[.pointer (some ⟨b, 0, none⟩), .int .i64 0]) ∧ TblV w' w.heap.size b S LL.length) ∨
  ((¬ ∃ S LL, TabAt l S LL) ∧ e = .returned (.tuple #[.pointer none, .int .i64 2]))) ∧ Below w.heap.size w w'
theorem open_fit (v : Value) (l : List UInt8) (B : Nat) (w : World) (hr : Rd w B v (l.map bv)) (hB : B ≤ w.heap.size) (hl : l.length ≤ 60000) (hk : l.length ≤ 50000 ∨ ∃ S L0, TabAt l S L0 ∧ (flatC S).length ≤ 50000) :
  Calls Tryz.prog 104 #[v] w (OpenEnd l w) := by
 have HR := Lib.hid hr
 clear hr
 go_enter Tryz.func104, Tryz.ntmps104
 go_wp2_with fail
 refine (cutEnd_any v l B _ HR.out hB (by omega)).mono ?_
 rintro e w1 ⟨⟨x1, y1, bd, ft, rfl, hx1, hy1, hbl, hfl, hE⟩, hb1⟩
 have HX1 := Lib.hid hx1
 have HY1 := Lib.hid hy1
 have HE := Lib.hid hE
 have HB1 := Lib.hid hb1
 clear hx1 hy1 hE hb1
 go_wp2_with fail
 refine (cutStarts_any y1 ft _ _ HY1.out.rd (by omega)).mono ?_
 rintro e w2 ⟨⟨x2, y2, ss, lf, D, rfl, hx2, hD, hy2, hlfl, hssl, hssb, hF⟩, hb2⟩
 have HX2 := Lib.hid hx2
 have HY2 := Lib.hid hy2
 have HSB := Lib.hid hssb
 have HF : Hid (∀ S L0, TabAt l S L0 → lf = textB ⟨(filt S).toArray⟩ ∧ Blks bd ss L0) := Lib.hid fun S L0 h => tab_exact h (by omega) HE.out hF
 have HBD := Lib.hid (HX1.out.below (hb2.mono (Nat.le_trans hB HB1.out.size)))
 have HB2 := Lib.hid (bwstep HB1.out hb2)
 clear hx2 hy2 hssb hF hb2 HX1 HY1 HE
 go_wp2_with fail
 refine (cutText_any y2 lf D _ HY2.out (by omega)).mono ?_
 rintro e w3 ⟨⟨r3, rfl, -⟩, hb3⟩
 have HX3 := Lib.hid (HX2.out.below hb3)
 have HBD3 := Lib.hid (HBD.out.below (hb3.mono (Nat.le_trans hB HB2.out.size)))
 have HB3 := Lib.hid (bwstep HB2.out hb3)
 have HCT : Hid (∀ S L0, TabAt l S L0 → ctOk lf = true ∧ ctS lf = ⟨(filt S).toArray⟩) := Lib.hid fun S L0 h => by
  obtain ⟨h1, -⟩ := HF.out S L0 h
  rw [h1]
  refine text_ct ?_
  have := h.foot
  rw [foot_len] at this
  rw [ba_size]
  omega
 clear hb3 HX2 HY2 HBD HB2
 generalize hck : ctOk lf = ck at *
 generalize hcs : ctS lf = fs at *
 have HCK := Lib.hid hck
 clear hck
 have hfs : fs.size ≤ 60000 := by
  rw [← hcs]
  unfold ctS
  split
  ·rw [ba_size]
   unfold textOf
   rw [List.length_take, List.length_drop]
   omega
  ·show 0 ≤ 60000
   omega
 clear hcs
 go_wp2_with fail
 refine (read_any x1 x2 bd ss B _ _ HBD3.out (Nat.le_trans hB HB3.out.size) (by omega) HSB.out (by omega) HX3.out.rd (Nat.le_refl _)).mono ?_
 rintro e w4 ⟨(⟨y4, LL, rfl, hrb, -, hlk, hlc, hex⟩ | ⟨hno, rfl⟩), hb4⟩
 ·have HB4 := Lib.hid (bwstep HB3.out hb4)
  have HRB := Lib.hid hrb
  have HLK := Lib.hid hlk
  have HEX := Lib.hid hex
  clear hrb hlk hex hb4 HX3 HBD3 HB3
  have hlc2 : (flatC LL.flatten).length ≤ 50000 := by
   rcases hk with hk | ⟨S, L0, hT, hf⟩
   ·omega
   ·rw [HEX.out L0 (HF.out S L0 hT).2, hT.flat]
    exact hf
  have hokL : ∀ c ∈ LL.flatten, c.ok := fun c hc => by
   obtain ⟨M, hM, hc⟩ := List.mem_flatten.1 hc
   exact (HLK.out M hM).1.ok c hc
  have hfl2 := flatC_ge hokL
  have hLKL : ∀ M ∈ LL, (∀ c ∈ M, c.ok) ∧ M ≠ [] ∧ M.length ≤ 1000000 := fun M hM => by
   obtain ⟨h1, h2⟩ := HLK.out M hM
   have h3 := (List.sublist_flatten_of_mem hM).length_le
   exact ⟨h1.ok, h2, by omega⟩
  have HLKL := Lib.hid hLKL
  have hq1 := leastQ_ge LL LL.length
  cases ck
  ·have HNO : Hid (¬ ∃ S L0, TabAt l S L0) := Lib.hid fun ⟨S, L0, h⟩ => by
    have := (HCT.out S L0 h).1
    cases this
   go_wp2_with fail
   go_ret2
   exact ⟨.inr ⟨HNO.out, rfl⟩, HB4.out⟩
  ·clear hokL hLKL
   obtain ⟨A4, c4, rfl, hc4, hm4⟩ := HRB.out.shape
   unfold maxLen at hm4
   go_wp2_with fail
   refine (concatL_any _ LL _ HRB.out (by omega)).mono ?_
   rintro e w5 ⟨⟨x5, rfl, hx5⟩, hb5⟩
   generalize hSS : LL.flatten = SS at *
   have HSS := Lib.hid hSS
   clear hSS
   obtain ⟨A5, c5, rfl, -, -⟩ := (hx5.rd (S := []) (fun _ h => by cases h)).shape
   have HX5 := Lib.hid hx5
   have HB5 := Lib.hid (bwstep HB4.out hb5)
   have HRB5 := Lib.hid (HRB.out.bel hb5)
   have HBB := Lib.hid HB4.out.size
   clear hx5 hb5 HRB
   go_wp2_with fail
   refine (least_any _ LL _ HRB5.out HLKL.out).mono ?_
   rintro e w6 ⟨rfl, hb6⟩
   have HX6 := Lib.hid (HX5.out.below hb6)
   have HB6 := Lib.hid (bwstep HB5.out hb6)
   clear hb6 HX5
   have hres : ∃ (ok : Bool) (R : List UInt8), (ok = true → Sorted SS ∧ R = tabB SS (cutB (leastQ LL LL.length : Int) SS)) ∧ (Sorted SS → ok = true) ∧ ∀ (v : Value) (w : World), RdL w [] v SS →
     Calls Tryz.prog 103 #[v, .int .i64 (leastQ LL LL.length : Int)] w fun e w' => (∃ x, e = .returned (.tuple #[x, .int .i64 (if ok = true then 0 else 1)]) ∧ Ow w' w.heap.size 5 x (R.map bv)) ∧ Below w.heap.size w w' := by
    by_cases hso : Sorted SS
    ·exact ⟨true, _, fun _ => ⟨hso, rfl⟩, fun _ => rfl, fun v w hv => tb_ok v _ _ w hv hso (by omega) hlc2⟩
    ·exact ⟨false, [], fun h => (by cases h), fun h => absurd h hso, fun v w hv => (tb_no v _ _ w hv (fun h => hso h.1) (by omega)).mono fun e w' ⟨h1, h2⟩ => ⟨⟨_, h1, Ow.nilB _ _ _⟩, h2⟩⟩
   obtain ⟨ok, R, hok1, hok2, hbu⟩ := hres
   have HTB : Hid (∀ S L0, TabAt l S L0 → ok = true ∧ R = l) := Lib.hid fun S L0 h => by
    obtain ⟨-, hbk⟩ := HF.out S L0 h
    have hLe := HEX.out L0 hbk
    subst hLe
    have hS := h.flat
    rw [HSS.out] at hS
    have hso : Sorted SS := by rw [hS]; exact h.s
    obtain ⟨-, hR⟩ := hok1 (hok2 hso)
    obtain ⟨size, hs1, hcut⟩ := h.cut
    have := cut_least (S := S) hs1
    rw [← hcut] at this
    rw [hR, hS, this]
    exact ⟨hok2 hso, h.e.symm⟩
   have HTA : Hid (ok = true → R = l → TabAt l SS (cutB (leastQ LL LL.length : Int) SS)) := Lib.hid fun h1 h2 => by
    obtain ⟨hso, hR⟩ := hok1 h1
    have := (tab_fit (size := (leastQ LL LL.length : Int)) hso hlc2 (by omega)).1
    rw [← hR, h2] at this
    exact this
   have HBU := Lib.hid hbu
   generalize leastQ LL LL.length = q at *
   clear hok1 hok2 hbu hlc hlc2 hfl2
   go_wp2_with fail
   refine (HBU.out _ _ (HX6.out.rd (fun _ h => by cases h))).mono ?_
   rintro e w7 ⟨⟨x7, rfl, hx7⟩, hb7⟩
   have HX7 := Lib.hid hx7
   have HC7 := Lib.hid (HX6.out.below hb7)
   have HB7 := Lib.hid (bwstep HB6.out hb7)
   clear hx7 hb7 HX6 HBU
   cases ok
   ·have HNO : Hid (¬ ∃ S L0, TabAt l S L0) := Lib.hid fun ⟨S, L0, h⟩ => by
     have := (HTB.out S L0 h).1
     cases this
    clear HTB HTA
    go_wp2_with fail
    go_ret2
    exact ⟨.inr ⟨HNO.out, rfl⟩, HB7.out⟩
   ·have heq := fun w hx hy => equal_any x7 v R l w.heap.size B w hx hy
    have HVW := Lib.hid (HR.out.below (HB7.out.mono hB))
    go_wp2_with fail
    refine (heq w7 HX7.out.rd HVW.out).mono ?_
    rintro e w8 ⟨rfl, rfl⟩
    by_cases hRl : R = l
    ·have hsm : sameB R l = true := by unfold sameB; rw [decide_eq_true hRl]
     have hT := HTA.out (by simp) hRl
     obtain ⟨hlf, hbk⟩ := HF.out _ _ hT
     have hLL := HEX.out _ hbk
     rw [← hLL] at hT
     obtain ⟨-, hfe⟩ := HCT.out _ _ hT
     have HT := Lib.hid hT
     obtain ⟨xf, wf, hcv, hrf, hbf, nf, cf, rfl⟩ := run_bytes (P := Tryz.prog) w8 (src := 9) (dst := 84) (e := 5) fs Tryz.underlying9 Tryz.underlying84 Tryz.underlying5 (by simp [maxLen]; omega)
     have hfd : fs.data.toList = filt SS := by rw [hfe]
     rw [hfd] at hrf
     have hfp : 0 < (filt SS).length := by
      unfold filt
      rw [Blm.mkB_len]
      unfold Blm.size
      split <;> omega
     have hfb : w8.heap.size < wf.heap.size := by
      obtain ⟨b', o', c', e', -, -, hb, -⟩ := hrf.at_ (by simpa using hfp)
      injection e' with e1 _ _
      injection e1 with e1
      injection e1 with e1 _
      omega
     have HRF := Lib.hid hrf
     have HBF := Lib.hid hbf
     have HCF := Lib.hid (HC7.out.below hbf)
     rw [hsm]
     clear heq HVW hRl hsm hT hlf hbk hLL hfe hfd hfp hrf hbf HTB HTA HF HEX HCT
     go_wp2_with (refine wpList_boxRow rfl _ (.tmp 66) rfl #[.slice A5 SS.length c5, .slice (some ⟨w8.heap.size, 0, none⟩) nf cf, .int .i64 (LL.length : Int)] rfl ?_)
     go_ret2
     have hall := bwalloc (bwrefl wf) (.cells #[.slice A5 SS.length c5, .slice (some ⟨w8.heap.size, 0, none⟩) nf cf, .int .i64 (LL.length : Int)] 128)
     have hBf := bwstep (bwstep HB7.out HBF.out) hall
     refine ⟨.inl ⟨SS, LL, wf.heap.size, HT.out, rfl, ⟨⟨_, _, _, _, heap_alloc_new _ _, (HCF.out.below hall).mono HBB.out, HB7.out.size, HRF.out.up hall, ?_⟩, Nat.le_trans HB7.out.size HBF.out.size⟩⟩, hBf⟩
     have := hall.size
     omega
    ·have hsm : sameB R l = false := by unfold sameB; rw [decide_eq_false hRl]
     have HNO : Hid (¬ ∃ S L0, TabAt l S L0) := Lib.hid fun ⟨S, L0, h⟩ => hRl (HTB.out S L0 h).2
     rw [hsm]
     clear heq HVW hRl hsm HTB HTA
     go_wp2_with fail
     go_ret2
     exact ⟨.inr ⟨HNO.out, rfl⟩, HB7.out⟩
 ·have HB4 := Lib.hid (bwstep HB3.out hb4)
  have HNO : Hid (¬ ∃ S L0, TabAt l S L0) := Lib.hid fun ⟨S, L0, h⟩ => hno ⟨L0, (HF.out S L0 h).2⟩
  clear hno hb4
  cases ck
  ·go_wp2_with fail
   go_ret2
   exact ⟨.inr ⟨HNO.out, rfl⟩, HB4.out⟩
  ·go_wp2_with fail
   go_ret2
   exact ⟨.inr ⟨HNO.out, rfl⟩, HB4.out⟩
end Go.Proofs.YtcpkhhbbjimdaaaGreatDoor.Ce
namespace Go.Proofs.YtcpkhhbbjimdaaaGreatDoor.Ce
open Go.RowKit Frm
theorem TblV.up {w w' : World} {n0 b n : Nat} {S : List Cl} (h : TblV w n0 b S n) (hb : Below w.heap.size w w') : TblV w' n0 b S n := by
 obtain ⟨⟨vc, fb, fn, fc, h1, h2, h3, h4, h5⟩, hg⟩ := h
 exact ⟨⟨vc, fb, fn, fc, (hb.block b (Array.getElem?_eq_some_iff.1 h1).1).trans h1, h2.below hb, h3, h4.up hb, Nat.lt_of_lt_of_le h5 hb.size⟩, hg⟩
theorem tcells_any (n0 b n : Nat) (S : List Cl) (w : World) (h : TblV w n0 b S n) (hl : S.length ≤ 1000000) :
  Calls Tryz.prog 63 #[.pointer (some ⟨b, 0, none⟩)] w fun e w' => (∃ x, e = .returned x ∧ OwL w' w.heap.size x S) ∧ Below w.heap.size w w' := by
 obtain ⟨⟨vc, fb, fn, fc, h1, h2, h3, h4, h5⟩, hg⟩ := h
 have c0 : w.cell? ⟨b, 0, none⟩ = some vc := cell_of_row _ _ 0 _ _ _ h1
 have HR := Lib.hid (h2.rd (S := []) (fun _ h => by cases h))
 clear h1 h2 h4
 go_enter Tryz.func63, Tryz.ntmps63
 go_wp2_with fail
 refine (cloneL_any vc S _ [] HR.out hl).mono ?_
 rintro e w1 ⟨⟨x, rfl, hx⟩, hb⟩
 go_wp2_with fail
 go_ret
 exact ⟨⟨_, rfl, hx⟩, hb⟩
def mayB (S : List Cl) (row col : ByteArray) : Bool := Blm.hasB (filt S) (keyT row col)
theorem tmay_any (n0 b n : Nat) (S : List Cl) (row col : ByteArray) (w : World) (h : TblV w n0 b S n) (hl : S.length ≤ 1000000) (hr : row.size ≤ 1000000) (hc : col.size ≤ 1000000) :
  Calls Tryz.prog 106 #[.pointer (some ⟨b, 0, none⟩), .string row, .string col] w fun e w' => e = .returned (.bool (mayB S row col)) ∧ Below w.heap.size w w' := by
 obtain ⟨⟨vc, fb, fn, fc, h1, h2, h3, h4, h5⟩, hg⟩ := h
 have hbl := (Array.getElem?_eq_some_iff.1 h1).1
 have c1 : w.drew.cell? ⟨b, 1, none⟩ = some (.slice (some ⟨fb, 0, none⟩) fn fc) := cell_of_row _ _ 1 _ _ _ h1
 have HC : Hid (∀ z, Below w.heap.size w z → z.cell? ⟨b, 1, none⟩ = some (.slice (some ⟨fb, 0, none⟩) fn fc)) := Lib.hid fun z hz => (hz.cell (p := ⟨b, 1, none⟩) hbl).trans (cell_of_row _ _ 1 _ _ _ h1)
 have hfl := filt_len S
 have hks : (keyS row col).size ≤ 140737488351232 := by
  show (⟨(keyT row col).toArray⟩ : ByteArray).size ≤ _
  rw [ba_size]
  unfold keyT
  rw [List.length_append, textB_len, textB_len]
  omega
 have hhas := fun w hr => Blm.has_any (.slice (some ⟨fb, 0, none⟩) fn fc) (filt S) (keyS row col) w.heap.size w (Nat.le_refl _) hr (by omega) hks
 have hkd : (keyS row col).data.toList = keyT row col := rfl
 rw [hkd] at hhas
 have HR := Lib.hid h4
 have HM : Hid (Blm.hasB (filt S) (keyT row col) = mayB S row col) := Lib.hid rfl
 rw [HM.out] at hhas
 have HH := Lib.hid hhas
 have htx := fun w => ttext_any row col w (by omega) (by omega)
 have HB0 := Lib.hid ((Below.refl w.heap.size w).drew)
 generalize keyS row col = ks at *
 clear h1 h2 h4 hfl hks hhas HM hkd
 go_enter Tryz.func106, Tryz.ntmps106
 go_wp2_with fail
 go_region_law
  (first
   | (go_simp; go_at_call 124; with_reducible refine (htx _).mono ?_; rintro e w1 ⟨rfl, hb1⟩; have hB1 := bwstep HB0.out hb1; have c1' := HC.out _ hB1; have hr1 := HR.out.up hB1)
   | (go_simp; go_at_call 123; with_reducible refine (HH.out _ hr1).mono ?_; rintro e w2 ⟨rfl, hb2⟩; have HB2 := Lib.hid (bwstep hB1 hb2)))
 all_goals
  go_wp2_with fail
  go_ret
  exact ⟨rfl, HB2.out⟩
theorem may_no {S : List Cl} {row col : ByteArray} {at_ : Int} (h : mayB S row col = false) : nwC row col at_ S = Cl.zero ∧ nwB row col at_ S = false := by
 have hn : newest row col at_ S = none := by
  unfold newest
  rw [List.find?_eq_none]
  intro c hc hd
  obtain ⟨rfl, rfl, -⟩ : fits row col at_ c := by simpa using hd
  have : mayB S c.row c.col = true := Blm.has_make (List.mem_map.2 ⟨c, hc, rfl⟩)
  rw [h] at this
  cases this
 unfold nwC nwB
 rw [hn]
 exact ⟨rfl, rfl⟩
theorem tget_any (n0 b n : Nat) (S : List Cl) (row col : ByteArray) (at_ : Int) (w : World) (h : TblV w n0 b S n) (hs : Srt S) (hl : S.length ≤ 1000000) (hr : row.size ≤ 1000000) (hc : col.size ≤ 1000000) :
  Calls Tryz.prog 92 #[.pointer (some ⟨b, 0, none⟩), .string row, .string col, .int .i64 at_] w fun e w' => e = .returned (.tuple #[(nwC row col at_ S).v, .bool (nwB row col at_ S)]) ∧ Below w.heap.size w w' := by
 have hmay := fun w h => tmay_any n0 b n S row col w h hl hr hc
 have HMN := Lib.hid (fun h => may_no (S := S) (row := row) (col := col) (at_ := at_) h)
 have HNW := Lib.hid (fun v w hv => newest_any v S row col at_ w hv hs (by omega))
 have HT := Lib.hid h
 generalize nwC row col at_ S = d at *
 generalize nwB row col at_ S = q at *
 clear h
 go_enter Tryz.func92, Tryz.ntmps92
 go_wp2_with (refine allocC rfl rfl ?_)
 constructor
 intro w1 hI1 hb1 _
 have HT1 := Lib.hid (HT.out.up hb1)
 have HI1 := Lib.hid hI1
 have HB1 := Lib.hid hb1
 clear hI1 hb1
 go_wp2_with fail
 refine (hmay _ HT1.out).mono ?_
 rintro e w2 ⟨rfl, hb2⟩
 have HT2 := Lib.hid (HT1.out.up hb2)
 have hI2 := HI1.out.up hb2
 have HB2 := Lib.hid (bwstep HB1.out hb2)
 clear hb2 hmay
 cases hm : mayB S row col
 ·obtain ⟨rfl, rfl⟩ := HMN.out hm
  clear hm HMN HNW
  go_wp2_with (refine storeC (c := Cl.zero) rfl (.tmp 8) (.tmp 15) rfl rfl rfl hI2 ?_)
  constructor
  intro w3 hs3
  have HS := Lib.hid hs3
  clear hs3
  go_wp2_with fail
  exact bodyPost_ret (res2 Tryz.results92 rfl HS.out.i) rfl ⟨rfl, HS.out.bel HB2.out (Nat.le_refl _)⟩
 ·obtain ⟨⟨vc, fb, fn, fc, h1, h2, -, -, -⟩, -⟩ := HT2.out
  have c0 : w2.cell? ⟨b, 0, none⟩ = some vc := cell_of_row _ _ 0 _ _ _ h1
  have HR := Lib.hid (h2.rd (S := []) (fun _ h => by cases h))
  clear hm HMN h1 h2
  go_wp2_with fail
  refine (HNW.out vc _ HR.out).mono ?_
  rintro e w3 ⟨rfl, hb3⟩
  have hI3 := hI2.up hb3
  have HB3 := Lib.hid (bwstep HB2.out hb3)
  clear hb3 hI2 c0
  go_wp2_with (refine storeC (c := d) rfl (.tmp 8) (.tmp 24) rfl rfl rfl hI3 ?_)
  constructor
  intro w4 hs4
  have HS := Lib.hid hs4
  clear hs4
  go_wp2_with fail
  exact bodyPost_ret (res2 Tryz.results92 rfl HS.out.i) rfl ⟨rfl, HS.out.bel HB3.out (Nat.le_refl _)⟩
end Go.Proofs.YtcpkhhbbjimdaaaGreatDoor.Ce
