/- The contract of Build of package table. -/
import Derived.Test.YtdemdmingelamaaTtx
import Derived.Test.YtdemdmingelamaaTfi
import Derived.Test.YtdemdmingelamaaBcu
import Derived.Test.YtdemdmingelamaaBpu
import Derived.Test.YtdemdmingelamaaFrmA
namespace Go.Proofs.Ytdemdmingelamaa
open Go.RowKit
theorem RdM.build3 {w : World} {a b c : Value} {x y z : List UInt8} (e : Nat) (ha : Rd w w.heap.size a (x.map bv)) (hb : Rd w w.heap.size b (y.map bv)) (hc : Rd w w.heap.size c (z.map bv)) :
    RdM (w.alloc (.cells #[a, b, c] e)) (w.alloc (.cells #[a, b, c] e)).heap.size (.slice (some ⟨w.heap.size, 0, none⟩) 3 3) 3 (gl [x, y, z]) := by
  have hal := bwalloc (bwrefl w) (.cells #[a, b, c] e)
  refine ⟨fun i => [a, b, c].getD i undef, Rd.newW w e #[a, b, c] rfl (by simp [maxLen]) rfl, fun j hj => ?_⟩
  match j, hj with
  | 0, _ => exact ha.up hal
  | 1, _ => exact hb.up hal
  | 2, _ => exact hc.up hal
theorem flatG3 (x y z : List UInt8) : flatG (gl [x, y, z]) 3 = x ++ (y ++ z) := by
  show (([] ++ x) ++ y) ++ z = _
  simp
end Go.Proofs.Ytdemdmingelamaa
namespace Go.Proofs.Ytdemdmingelamaa.Ce
open Go.RowKit Frm

theorem apart_lt {u x : Value} {n : Nat} (h1 : ∀ k, u.ownBlock = some k → k < n) (h2 : ∀ k, x.ownBlock = some k → n ≤ k) : Apart u x := fun k hk hx => by
  have := h1 k hk
  have := h2 k hx
  omega
set_option maxHeartbeats 1000000 in
set_option maxRecDepth 100000 in
theorem tb_no (v : Value) (L : List Cl) (size : Int) (w : World) (hv : RdL w [] v L) (hs : ¬ (Sorted L ∧ 1 ≤ size)) (hl : L.length ≤ 1000000) :
    Calls Try.prog 12 #[v, .int .i64 size] w fun e w' => e = .returned (.tuple #[.slice none 0 0, .int .i64 1]) ∧ Below w.heap.size w w' := by
  go_enter Try.func12, Try.ntmps12
  go_wp2_with fail
  refine (bcut_no v L size w hv hs (by omega)).mono ?_
  rintro e w1 ⟨rfl, hb1⟩
  have HB := Lib.hid hb1
  clear hb1
  go_wp2_with fail
  go_ret2
  exact ⟨rfl, HB.out⟩
set_option maxHeartbeats 4000000 in
set_option maxRecDepth 100000 in
theorem tb_ok (v : Value) (L : List Cl) (size : Int) (w : World) (hv : RdL w [] v L) (hs : Sorted L) (h1 : 1 ≤ size) (hl : (flatC L).length ≤ 50000) :
    Calls Try.prog 12 #[v, .int .i64 size] w fun e w' => (∃ x, e = .returned (.tuple #[x, .int .i64 0]) ∧ Ow w' w.heap.size 5 x ((tabB L (cutB size L)).map bv)) ∧ Below w.heap.size w w' := by
  have hgl := flatC_ge hs.ok
  have hln : L.length ≤ 3000 := by omega
  obtain ⟨htab, hcl, htl⟩ := tab_fit hs hl h1
  have hrow : ∀ M ∈ cutB size L, Sorted M ∧ M ≠ [] := fun M hM => htab.row hM
  have hfit := htab.fit
  have hft := htab.foot
  have hok := hs.ok
  have hcut := bcut_ok v L size w hv hs h1 (by omega)
  have hfll := flatB_len (cutB size L)
  rw [cutB_flat] at hfll
  clear htab
  obtain ⟨LL, hLL⟩ : ∃ LL, cutB size L = LL := ⟨_, rfl⟩
  rw [hLL] at hrow hfit hft hcl hcut htl hfll ⊢
  have hfl : (flatB LL).length ≤ 100000 := by omega
  have hen : 4 + (entries LL 0).length ≤ 65535 := by
    unfold footR at hft
    rw [List.length_append, List.length_append, numB_len] at hft
    omega
  obtain ⟨A, cp, rfl, hc, hm⟩ := hv.shape
  unfold maxLen at hm
  have HV := Lib.hid hv
  have HOK := Lib.hid hok
  have HROW := Lib.hid hrow
  have HFIT := Lib.hid hfit
  have HFT := Lib.hid hft
  have HTL := Lib.hid htl
  clear hv hok hrow hfit hft hs hLL htl hfll hgl
  go_enter Try.func12, Try.ntmps12
  go_wp2_with fail
  refine hcut.mono ?_
  rintro e w1 ⟨⟨x, vs, rfl, hox⟩, hb1⟩
  clear hcut
  have HX1 := Lib.hid hox.rd
  have HB1 := Lib.hid hb1
  obtain ⟨Ax, cx, rfl, hcx, hmx⟩ := hox.rd.shape
  unfold maxLen at hmx
  clear hox hb1
  go_wp2_with fail
  refine (num_ok LL.length _ (by omega)).mono ?_
  rintro e w2 ⟨q, rfl, hq, hb2⟩
  have HT2 : Hid (Two w1 5 (numB LL.length ++ entries (LL.take 0) 0) (flatB (LL.take 0)) q (.slice none 0 0) w2) := Lib.hid ⟨by simpa [entries] using hq, by simpa [flatB] using Ow.nilB _ _ _, (Apart.nil _).symm, hb2⟩
  clear hq hb2
  go_wp2_with fail
  go_loopw [8, 9, 29] (fun all foot i wr => ∃ k : Nat, k ≤ LL.length ∧ i = .int .i64 (k : Int) ∧ Hid (Two w1 5 (numB LL.length ++ entries (LL.take k) 0) (flatB (LL.take k)) foot all wr)) (fun _ _ i _ => LL.length - (intOf i).toNat)
  case atStart => exact ⟨0, by omega, rfl, HT2⟩
  case round =>
    clear HT2
    obtain ⟨k, hk, rfl, HT⟩ := hrel
    by_cases hlt : k < LL.length
    · have hfk : LL[k]? = some (LL[k]'hlt) := List.getElem?_eq_getElem _
      generalize LL[k]'hlt = M at hfk
      have hMm := List.mem_of_getElem? hfk
      obtain ⟨hMs, hMn⟩ := HROW.out M hMm
      have HES := Lib.hid (entries_snoc hfk)
      have HFS := Lib.hid (flatB_snoc hfk)
      have hMl : 0 < M.length := List.length_pos_iff.2 hMn
      have hc0 : M[0]? = some (hd M) := hd_at hMn
      have hok := hMs.ok _ (List.mem_of_getElem? hc0)
      have hkl := cellB_le (keyC_ok hok)
      have hbp := fun (w : World) (v : Value) (hv : RdL w [] v M) => bput_ok v M w hv hMs hMn (HFIT.out M hMm)
      have hfle := flatB_take_le LL k
      have hele := entries_take_le LL k
      have hele2 := entries_take_le LL (k + 1)
      have hfle2 := flatB_take_le LL (k + 1)
      rw [HES.out] at hele2
      rw [HFS.out] at hfle2
      simp only [List.length_append, numB_len] at hele2 hfle2
      have hpe := fun w => tentry_ok (hd M) (flatB (LL.take k)).length w hok (by omega)
      obtain ⟨bx, ox, rfl, hbx⟩ := (HX1.out.bel HT.out.bel).open_ (by omega)
      obtain ⟨hbx1, -⟩ : bx < w1.heap.size ∧ True := by
        obtain ⟨b, o, e, hb⟩ := HX1.out.open_ (by omega)
        simp only [Option.some.injEq, Addr.mk.injEq, and_true] at e
        exact ⟨e.1 ▸ hb, trivial⟩
      obtain ⟨Am, cm, hcm1, hmc, hmm, hrm1⟩ := HX1.out.row hfk
      have hcm := (HT.out.bel.cell (by exact hbx1)).trans hcm1
      have HRM := Lib.hid hrm1
      unfold maxLen at hmm
      have HBP := Lib.hid hbp
      have hh3 : (0 : Int) ≤ (k : Int) := by omega
      have hh4 : (k : Int) < (LL.length : Int) := by omega
      have hm0 : (0 : Int) < (M.length : Int) := by omega
      obtain ⟨A6, c6, rfl, hc6, hm6⟩ := HT.out.ob.rd.shapeM
      unfold maxLen at hm6
      obtain ⟨wo, hwo⟩ : ∃ wo, wo = wr := ⟨_, rfl⟩
      subst hwo
      clear hfk hMm hMs hMn hok hrm1 hbp
      go_wp2_with fail
      refine (HBP.out _ _ (HRM.out.bel HT.out.bel)).mono ?_
      rintro e w3 ⟨⟨x3, rfl, hx3⟩, hb3⟩
      have HT3 := Lib.hid (HT.out.up hb3)
      have HX3 := Lib.hid hx3
      have HLT : Hid (∀ k, u9.ownBlock = some k → k < wo.heap.size) := Lib.hid fun k hk => (HT.out.oa.lt k hk).2
      have hrm3 := HRM.out.bel HT3.out.bel
      obtain ⟨bm, om, rfl, -, -⟩ := hrm3.open_ hMl
      obtain ⟨h5, -⟩ := hrm3.at_ hc0
      rw [Nat.zero_mul, Nat.add_zero] at h5
      obtain ⟨c0, c1, c2, c3, c4⟩ := h5
      clear hx3 hb3 HT hrm3 hcm HBP hc0
      obtain ⟨f, hf⟩ : ∃ f, hd M = f := ⟨_, rfl⟩
      rw [hf] at c0 c1 c2 c3 c4 HES hpe hkl hele2
      clear hf
      go_wp2_with fail
      refine (hpe _).mono ?_
      rintro e w4 ⟨⟨x4, rfl, hx4⟩, hb4⟩
      have HT4 := HT3.out.up hb4
      have HX4 := Lib.hid (HX3.out.below hb4)
      have HAP : Hid (Apart x3 u9) := Lib.hid (apart_lt HLT.out HX3.out.ge).symm
      have hr4 := hx4.rd
      have hs4 := HT4.bel.size
      have z4 : (numB LL.length ++ entries (LL.take k) 0).length + (cellB (keyC f) ++ numB (flatB (LL.take k)).length).length ≤ 140737488355328 := by simp only [List.length_append, numB_len]; omega
      have z5 : (flatB (LL.take k)).length + (blkB M).length ≤ 140737488355328 := by omega
      clear hx4 hb4 HT3 HX3 c0 c1 c2 c3 c4 hpe
      go_wp2_with (first
        | (at_builtin; refine wpList_appB bytesT rfl (.tmp 41) (.tmp 47) rfl rfl HT4.oa rfl hr4 z4 hs4 ?_; intro v5 w5 ho5 hg5 h5; have HT5 := (HT4.app ho5 hg5 h5).rot; have hr5 := (HX4.out.kept hg5 HAP.out).rd; have hs5 := HT5.bel.size; clear ho5 hg5 h5 hr4 hs4 z4)
        | (at_builtin; refine wpList_appB bytesT rfl (.tmp 49) (.tmp 50) rfl rfl HT5.oa rfl hr5 z5 hs5 ?_; intro v6 w6 ho6 hg6 h6; have HT6 := Lib.hid (HT5.app ho6 hg6 h6).rot; clear ho6 hg6 h6 hr5 hs5 z5 HT5))
      rw [← HFS.out, List.append_assoc, ← List.append_assoc (entries (LL.take k) 0), ← HES.out] at HT6
      go_roundw
      case rel => exact ⟨k + 1, by omega, by go_num, HT6⟩
      case measure => simp [intOf]; omega
    · obtain rfl : k = LL.length := by omega
      have HT3 : Hid (Two w1 5 (numB LL.length ++ entries LL 0) (flatB LL) u9 u8 wr) := by
        have := HT
        rwa [List.take_length] at this
      have hfo := fun w hv => tfilter_ok (.slice A L.length cp) L w hv HOK.out (by omega)
      have hfl2 := filt_len L
      have HFR : Hid (numB LL.length ++ entries LL 0 ++ textB ⟨(filt L).toArray⟩ = footR L LL) := Lib.hid (by unfold footR; rw [List.append_assoc])
      have HTB : Hid (flatB LL ++ (frm (footR L LL) ++ numB (12 + (footR L LL).length)) = tabB L LL) := Lib.hid rfl
      have HVW := Lib.hid (HV.out.bel (bwstep HB1.out HT.out.bel))
      obtain ⟨A8, c8, rfl, hc8, hm8⟩ := HT3.out.ob.rd.shapeM
      unfold maxLen at hm8
      generalize filt L = fl at hfo hfl2 HFR
      have hba : (⟨fl.toArray⟩ : ByteArray).size = fl.length := ba_size fl
      clear HT
      obtain ⟨wi, hwi⟩ : ∃ wi, wi = wr := ⟨_, rfl⟩
      subst hwi
      go_wp2_with fail
      refine (hfo _ HVW.out).mono ?_
      rintro e wa ⟨⟨xa, rfl, hxa⟩, hba2⟩
      have HTA := Lib.hid (HT3.out.up hba2)
      have hcv := run_str (P := Try.prog) (w := wa) Try.underlying26 Try.underlying5 Try.underlying9 hxa.rd
      generalize (⟨fl.toArray⟩ : ByteArray) = sf at hcv HFR hba
      clear hxa hfo hba2 HT3
      go_wp2_with fail
      clear hcv
      refine (text_ok sf _ (by omega)).mono ?_
      rintro e wb ⟨xb, rfl, hxb, hbb⟩
      have HTB2 := HTA.out.up hbb
      have hrb := hxb.rd
      have hsb := HTB2.bel.size
      have zb : (numB LL.length ++ entries LL 0).length + (textB sf).length ≤ 140737488355328 := by rw [List.length_append, numB_len, textB_len]; omega
      clear hxb hbb HTA
      go_wp2_with (at_builtin; refine wpList_appB bytesT rfl (.tmp 53) (.tmp 57) rfl rfl HTB2.oa rfl hrb zb hsb ?_; intro vc wc hoc hgc hhc; have HTC := HTB2.app hoc hgc hhc; clear hoc hgc hhc hrb hsb zb)
      rw [HFR.out] at HTC
      refine (fput_ok _ (footR L LL) _ HTC.oa.rd HFT.out).mono ?_
      rintro e wd ⟨⟨xd, rfl, hxd⟩, hbd⟩
      have HTD := (HTC.up hbd).rot
      have hrd := hxd.rd
      have hfr : (frm (footR L LL)).length = 12 + (footR L LL).length := frm_len _
      have hfull := HTB.out
      have hlf := HTL.out
      rw [← hfull] at hlf
      rw [List.length_append, List.length_append, numB_len, hfr] at hlf
      obtain ⟨Ad, cd, hxv, hcd, hmd⟩ := hrd.shapeM
      rw [hfr] at hxv hcd
      subst hxv
      unfold maxLen at hmd
      have hft2 := HFT.out
      have HRB := Lib.hid HTD.oa.rd
      have HBD := Lib.hid HTD.bel
      clear hxd hbd HTC HTB2 HTD hfull
      generalize hfn : (footR L LL).length = fn at hfr hcd hft2 HTB hlf hrd
      have hfn0 : (0 : Int) < ((12 + fn : Nat) : Int) := by omega
      have hfn1 : ¬ ((12 + fn : Nat) : Int) = 0 := by omega
      have HRD2 := Lib.hid hrd
      clear hrd hfn
      go_wp2_with fail
      refine (num_ok (12 + fn) _ (by omega)).mono ?_
      rintro e wf ⟨xf, rfl, hxf, hbf⟩
      have h3 := RdM.build3 26 (HRB.out.up hbf) (HRD2.out.up hbf) hxf.rd
      have hbf2 := hbf
      obtain ⟨Af, cf, rfl, -, -⟩ := hxf.rd.shapeM
      have hll : (flatG (gl [flatB LL, frm (footR L LL), numB (12 + fn)]) 3).length ≤ 160000 ∧ 0 < (flatG (gl [flatB LL, frm (footR L LL), numB (12 + fn)]) 3).length := by
        rw [flatG3, List.length_append, List.length_append, numB_len, hfr]
        omega
      have hbl := bwalloc (bwstep HBD.out hbf) (.cells #[.slice A8 (flatB LL).length c8, .slice Ad (12 + fn) cd, .slice Af (numB (12 + fn)).length cf] 26)
      have hcc := concatG_any _ 3 _ _ h3 (by omega) hll.2 (by omega)
      rw [flatG3, HTB.out] at hcc
      have HCC := Lib.hid hcc
      have HBL := Lib.hid hbl
      clear hxf hbf hbf2 h3 hll hcc hbl HRB HRD2 HBD
      go_wp2_with fail
      refine HCC.out.mono ?_
      rintro e wz ⟨⟨z, rfl, hz⟩, hbz⟩
      have HZ := Lib.hid (hz.mono (Nat.le_trans HB1.out.size HBL.out.size))
      have HBZ := Lib.hid (bwstep HB1.out (bwstep HBL.out hbz))
      clear hz hbz HCC
      go_wp2_with fail
      go_ret2
      exact ⟨⟨_, rfl, HZ.out⟩, HBZ.out⟩
end Go.Proofs.Ytdemdmingelamaa.Ce
