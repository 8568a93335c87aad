/- The contract of package msg's read. -/
import Derived.Test.YtpmlfhgdhnofbaaMxF
import Derived.Deep.RegionHeld3
import Derived.BigQuiet
set_option maxHeartbeats 8000000
set_option maxRecDepth 100000
namespace Go.Proofs.Ytpmlfhgdhnofbaa.Ce
open Go.RowKit
theorem drop44 (l : List UInt8) (a : Nat) : (l.drop a).drop 4 = l.drop (a + 4) := by rw [List.drop_drop]
theorem mread_any (x : Value) (l : List UInt8) (w : World) (hr : Rd w w.heap.size x (l.map bv)) (hl : l.length ≤ 100000) :
  Calls Try.prog 31 #[x] w fun e w' => ∃ y : Mx, e = .returned y.v ∧ MsOw w' w.heap.size y (rdM l) ∧ Below w.heap.size w w' := by
 have HR := Lib.hid hr
 clear hr
 go_enter Try.func31, Try.ntmps31
 go_wp2_with (refine St.alloc msOk rfl rfl ?_)
 constructor
 intro w1 hI1 hb1 hz1
 have hp := mparts_any x l w1 ((HR.out.below hb1).mono hb1.size)
 have HI1 := Lib.hid hI1
 have HB1 := Lib.hid hb1
 have HZ1 := Lib.hid hz1
 clear hI1 hb1 hz1
 obtain ⟨lb, hlb⟩ : ∃ lb, lb = w1.heap.size := ⟨_, rfl⟩
 have HLB : Hid (lb = w1.heap.size) := Lib.hid hlb
 rw [← hlb] at hp
 clear hlb
 go_wp2_with fail
 refine hp.mono ?_
 rintro e w2 ⟨rfl, hL2, hb2⟩
 clear hp
 go_wp2_with fail
 have HB2 : Hid (Below w.heap.size w w2) := Lib.hid (HB1.out.trans (hb2.mono (by have := HLB.out; have := HZ1.out; omega)))
 have H0 : Hid (w.heap.size < lb) := Lib.hid (by have := HLB.out; have := HZ1.out; omega)
 have HI2 := Lib.hid (HI1.out.bel hb2 (by have := HLB.out; have := HZ1.out; omega))
 clear hb2
 refine (mnum_any lb _ lb (l) w2 hL2 (by omega)).mono ?_
 rintro e w3 ⟨rfl, hL3, hk3⟩
 have HK3 := Lib.hid hk3
 clear hk3 hL2
 go_wp2_with fail
 refine (mnum_any lb _ lb (l.drop 4) w3 hL3 (by rw [List.length_drop]; omega)).mono ?_
 rintro e w4 ⟨rfl, hL4, hk4⟩
 rw [drop44] at hL4
 have HK4 := Lib.hid (HK3.out.trans hk4 fun _ h => .inl h)
 clear hk4 hL3
 go_wp2_with fail
 refine (mnum_any lb _ lb (l.drop 8) w4 hL4 (by rw [List.length_drop]; omega)).mono ?_
 rintro e w5 ⟨rfl, hL5, hk5⟩
 rw [drop44] at hL5
 have HK5 := Lib.hid (HK4.out.trans hk5 fun _ h => .inl h)
 clear hk5 hL4
 go_wp2_with fail
 refine (mnum_any lb _ lb (l.drop 12) w5 hL5 (by rw [List.length_drop]; omega)).mono ?_
 rintro e w6 ⟨rfl, hL6, hk6⟩
 rw [drop44] at hL6
 have HK6 := Lib.hid (HK5.out.trans hk6 fun _ h => .inl h)
 clear hk6 hL5
 go_wp2_with fail
 refine (mnum_any lb _ lb (l.drop 16) w6 hL6 (by rw [List.length_drop]; omega)).mono ?_
 rintro e w7 ⟨rfl, hL7, hk7⟩
 rw [drop44] at hL7
 have HK7 := Lib.hid (HK6.out.trans hk7 fun _ h => .inl h)
 clear hk7 hL6
 have hnum : rdH l = ⟨hd l, hd (l.drop 4), hd (l.drop 8), hd (l.drop 12), hd (l.drop 16), vof (tx (l.drop 20)).data.toList⟩ := rfl
 have HNM := Lib.hid hnum
 generalize hd l = n0 at *
 generalize hd (l.drop 4) = n1 at *
 generalize hd (l.drop 8) = n2 at *
 generalize hd (l.drop 12) = n3 at *
 generalize hd (l.drop 16) = n4 at *
 have hlv : (l.drop 20).length ≤ 100000 := by rw [List.length_drop]; omega
 have HTX : Hid (rdM l = ⟨rdH l, (txs (txr (l.drop 20))).map fun t => vof t.data.toList⟩) := Lib.hid rfl
 generalize l.drop 20 = L at *
 clear hnum
 have HL7 := Lib.hid hL7
 have HI7 := Lib.hid (HI2.out.kept (HK7.out.block _ HI2.out.lt (by have := H0.out; simp; omega)))
 have HB7 : Hid (Below w.heap.size w w7) := Lib.hid (HB2.out.trans (HK7.out.below (by have := H0.out; simp; omega) HB2.out.size))
 clear hL7 HK3 HK4 HK5 HK6 HK7 HB2 HI2
 go_wp2_with (refine St.alloc msOk rfl rfl ?_)
 constructor
 intro w8 hJ8 hb8 hz8
 clear hz8
 go_wp2_with (refine St.store msOk (c := ⟨⟨n0, n1, n2, n3, n4, Vt.zero⟩, none, 0, 0⟩) rfl (.tmp 6) (.tmp 25) rfl rfl rfl hJ8 ?_)
 constructor
 intro w9 hs9
 obtain ⟨g6, hg6⟩ : ∃ g6, g6 = w7.heap.size := ⟨_, rfl⟩
 have hb79 : Below w7.heap.size w7 w9 := hs9.bel hb8 (Nat.le_refl _)
 have HL9 := Lib.hid (HL7.out.up hb79)
 have HI9 := Lib.hid (HI7.out.up hb79)
 have HB9 := Lib.hid (bwstep HB7.out hb79)
 have hJ9 := hs9.i
 have HLT : Hid (lb < w7.heap.size) := Lib.hid HL7.out.lt
 rw [← hg6] at hJ9 HLT ⊢
 have HJ9 := Lib.hid hJ9
 clear hs9 hJ8 hb8 hb79 hg6 hJ9 HL7 HI7 HB7
 go_wp2_with fail
 refine (mtext_any lb _ lb L w9 HL9.out (by omega)).mono ?_
 rintro e wa ⟨rfl, hLa, hka⟩
 have HJa := Lib.hid (HJ9.out.kept (hka.block _ HJ9.out.lt (by have := HLT.out; simp; omega)))
 have HIa := Lib.hid (HI9.out.kept (hka.block _ HI9.out.lt (by have := H0.out; simp; omega)))
 have HBa : Hid (Below w.heap.size w wa) := Lib.hid (HB9.out.trans (hka.below (by have := H0.out; simp; omega) HB9.out.size))
 have H69 : Hid (g6 < w9.heap.size) := Lib.hid HJ9.out.lt
 clear hka HL9 HI9 HB9 HJ9
 have htx := tx_le L
 have hvt := mvote_any (tx L) wa (by omega)
 have HRH := Lib.hid HNM.out
 generalize hvv : vof (tx L).data.toList = vv at hvt HNM HRH
 generalize tx L = tt at *
 clear hvv htx HNM
 go_wp2_with fail
 refine hvt.mono ?_
 rintro e wb ⟨rfl, hbb⟩
 have hJb := HJa.out.up hbb
 have HLb := Lib.hid (hLa.up hbb)
 have HIb := Lib.hid (HIa.out.up hbb)
 have HBb := Lib.hid (bwstep HBa.out hbb)
 clear hbb hLa HJa HIa HBa hvt
 go_wp2_with (with_reducible (show wpList _ _ _ ({ dst := none, op := .store 23 (.tmp 29) (.tmp 28), type := _, pos := _, after := _, guard := _ } :: _) _ _); refine St.storeAt vtOk (c := vv) rfl (.tmp 29) (.tmp 28) rfl rfl rfl hJb.h (show 10 ≤ 11 by decide) ?_)
 constructor
 intro wc hsc
 have hP := setVote hsc
 have HLc := Lib.hid (HLb.out.set hP.o hP.z HLT.out H69.out)
 have HJc := Lib.hid hP.i
 have HIc := Lib.hid (hP.up HIb.out (by have := H0.out; have := HLT.out; omega))
 have HBc := Lib.hid (hP.bel HBb.out (by have := H0.out; have := HLT.out; omega))
 have HSc : Hid (g6 < wc.heap.size) := Lib.hid hP.i.lt
 clear hsc hP hJb HLb HIb HBb
 go_wp2_with fail
 have hle := txr_le L
 have htl := txs_le (txr L)
 refine (mtexts_any lb _ lb (txr L) wc HLc.out (by omega)).mono ?_
 rintro e wd ⟨v, rfl, hov, hkd⟩
 have HJd := Lib.hid (HJc.out.kept (hkd.block _ HJc.out.lt (by have := HLT.out; simp; omega)))
 have HId := Lib.hid (HIc.out.kept (hkd.block _ HIc.out.lt (by have := H0.out; simp; omega)))
 have HBd : Hid (Below w.heap.size w wd) := Lib.hid (HBc.out.trans (hkd.below (by have := H0.out; simp; omega) HBc.out.size))
 have HCS : Hid (wc.heap.size ≤ wd.heap.size) := Lib.hid hkd.size
 have hT1 : (txs (txr L)).length ≤ 100000 := by omega
 have HT2 : Hid (∀ t ∈ txs (txr L), t.size ≤ 1000000) := Lib.hid fun t ht => by have := htl.2 t ht; omega
 generalize txs (txr L) = T at *
 obtain ⟨Av, cv, rfl, hc1, hm1⟩ := hov.rd.shapeM
 unfold maxLen at hm1
 have HOV := Lib.hid hov
 have HCT : Hid (∀ z, Kp [g6] wd z → ∀ k (hk : k < T.length), ∃ b, Av = some ⟨b, 0, none⟩ ∧ z.cell? ⟨b, k, none⟩ = some (.string T[k])) := Lib.hid fun z hz k hk => by
  obtain ⟨b, rfl, hb1, hb2, hb3, -, -⟩ := HOV.out.at_ (k := k) (by rw [List.length_map]; exact hk)
  refine ⟨b, rfl, ?_⟩
  have he := hz.block b hb2 (by have := HSc.out; simp; omega)
  have h3 : z.cell? ⟨b, k, none⟩ = wd.cell? ⟨b, k, none⟩ := by unfold World.cell?; rw [he]
  rw [h3, hb3, List.getElem_map]
  rfl
 clear hov hkd HOV HLc HJc HIc HBc hle htl hlv hl
 go_wp2_with fail
 go_loopw [33] (fun i wr => ∃ (k : Nat) (A : Option Addr) (n c : Nat), k ≤ T.length ∧ i = .int .i64 (k : Int) ∧ Hid (msD.In g6 ⟨⟨n0, n1, n2, n3, n4, vv⟩, A, n, c⟩ wr ∧ St.OwS vtL wr wd.heap.size (.slice A n c) ((T.take k).map fun t => vof t.data.toList) ∧ Kp [g6] wd wr)) (fun i _ => T.length - (intOf i).toNat)
 case atStart => exact ⟨0, none, 0, 0, Nat.zero_le _, rfl, Lib.hid ⟨HJd.out, St.OwS.nil _ _ _, Kp.refl _ _⟩⟩
 case round =>
  obtain ⟨k, A, n, cc, hk, rfl, HW⟩ := hrel
  obtain ⟨wo, hwo⟩ : ∃ wo, wo = wr := ⟨_, rfl⟩
  subst hwo
  by_cases hlt : k < T.length
  ·obtain ⟨b, rfl, hcell⟩ := HCT.out wo HW.out.2.2 k hlt
   have hsz := HT2.out _ (List.getElem_mem hlt)
   have HTK := Lib.hid (show (T.take (k + 1)).map (fun t => vof t.data.toList) = (T.take k).map (fun t => vof t.data.toList) ++ [vof (T[k]'hlt).data.toList] by rw [List.take_succ_eq_append_getElem hlt, List.map_append]; rfl)
   have hln : ((T.take k).map fun t => vof t.data.toList).length = k := by rw [List.length_map, List.length_take]; omega
   generalize ((T.take k).map fun t => vof t.data.toList) = F at HW HTK hln
   have hh3 : (0 : Int) ≤ (k : Int) := by omega
   have hh4 : (k : Int) < (T.length : Int) := by omega
   generalize T[k]'hlt = t at hcell hsz HTK
   have hv := fun z => mvote_any t z hsz
   generalize vof t.data.toList = c at hv HTK
   have HV : Hid (∀ z, Calls Try.prog 45 #[.string t] z fun e w' => e = .returned (.agg #[.int .i64 c.slot, .int .i64 c.ballot, .int .i64 c.origin, .bool c.full, .string c.bytes]) ∧ Below z.heap.size z w') := Lib.hid hv
   have l1 : F.length + [c].length ≤ maxLen := by rw [hln]; simp [maxLen]; omega
   have l2 : (F.length + [c].length) * vtL.bytes ≤ 140737488355328 := by rw [hln]; simp; omega
   have HGW : Hid (g6 < wo.heap.size) := Lib.hid HW.out.1.lt
   have HGD : Hid (g6 < wd.heap.size) := Lib.hid HJd.out.lt
   have hcA : ∀ z, Below wo.heap.size wo z → z.cell? ⟨g6, 10, none⟩ = some (.slice A n cc) := fun z hz => (MxAt.of (HW.out.1.up hz)).cA
   have HCA := Lib.hid hcA
   clear hv hln hcA
   go_upto_region 7 with fail
   refine wp_region_held_drew (S := fun _ => True) (by kernel_rfl) trivial (fun hHeld => ?_)
   clear hcell
   refine takeL 0 (h := ?_)
   refine takeL 2 (h := ?_)
   have hc0 := HCA.out _ (Below.refl wo.heap.size wo).drew
   refine wpAnyH_ready (rs := [1, 3]) (by kernel_rfl) (by simp) ?_
   refine AllReadyH.cons (o := _) (by (try simp only [List.getElem?_toArray]); (try simp only [List.getElem?_cons_succ]); (try simp only [List.getElem?_cons_zero]); rfl) (fun K hK => ?_) ?_
   ·go_simp
    refine hK.out _ _ trivial (fun hHeld => ?_)
    clear hK K
    ((try simp only [Act.put]); (try simp only [List.setIfInBounds_toArray]); (try simp only [List.set_cons_succ]); (try simp only [List.set_cons_zero]))
    refine wpAnyH_ready (rs := [3]) (by kernel_rfl) (by simp) ?_
    refine AllReadyH.cons (o := _) (by (try simp only [List.getElem?_toArray]); (try simp only [List.getElem?_cons_succ]); (try simp only [List.getElem?_cons_zero]); rfl) (fun K hK => ?_) AllReadyH.nil
    go_simp
    go_at_call 45
    refine (HV.out _).mono ?_
    rintro e w3 ⟨rfl, hb3⟩
    have hB3 := bwstep (Below.refl wo.heap.size wo).drew hb3
    refine hK.out _ _ trivial (fun hHeld => ?_)
    clear hK K
    ((try simp only [Act.put]); (try simp only [List.setIfInBounds_toArray]); (try simp only [List.set_cons_succ]); (try simp only [List.set_cons_zero]))
    clear hc0
    refine wpAnyH_ready (rs := [4]) (by kernel_rfl) (by simp) ?_
    refine AllReadyH.cons (o := _) (by (try simp only [List.getElem?_toArray]); (try simp only [List.getElem?_cons_succ]); (try simp only [List.getElem?_cons_zero]); rfl) (fun K hK => ?_) AllReadyH.nil
    go_simp
    have hB4 := hB3.alloc hB3.size (.cells #[.int .i64 c.slot, .int .i64 c.ballot, .int .i64 c.origin, .bool c.full, .string c.bytes] 23)
    have x4 : St.RdS vtL (w3.alloc (.cells #[.int .i64 c.slot, .int .i64 c.ballot, .int .i64 c.origin, .bool c.full, .string c.bytes] 23)) [] (.slice (some ⟨w3.heap.size, 0, none⟩) 1 1) [c] := St.RdS.new w3 [] [c] _ rfl (by simp) (by simp [maxLen]) _
    generalize w3.alloc (.cells #[.int .i64 c.slot, .int .i64 c.ballot, .int .i64 c.origin, .bool c.full, .string c.bytes] 23) = w4 at hB4 x4 ⊢
    refine hK.out _ _ trivial (fun hHeld => ?_)
    clear hK K
    ((try simp only [Act.put]); (try simp only [List.setIfInBounds_toArray]); (try simp only [List.set_cons_succ]); (try simp only [List.set_cons_zero]))
    have o4 := HW.out.2.1.below hB4
    refine wpAnyH_ready (rs := [5]) (by kernel_rfl) (by simp) ?_
    refine AllReadyH.cons (o := _) (by (try simp only [List.getElem?_toArray]); (try simp only [List.getElem?_cons_succ]); (try simp only [List.getElem?_cons_zero]); rfl) (fun K hK => ?_) AllReadyH.nil
    refine St.step_app vlOk vlS rfl (.tmp 38) (.tmp 41) rfl (by simp [Act.eval]) o4 (by simp [Act.eval]) x4 l1 l2 (Nat.le_trans (HW.out.2.2.size) hB4.size) ?_
    intro v5 w5 p5 g5 _
    obtain ⟨A5, c5, rfl, -, -⟩ := (p5.rd (S := []) (by simp)).shape
    have hk5 : Kp [g6] wd w5 := (HW.out.2.2.bel hB4).trans (Kp.grown (S := (Value.slice A n cc).ownBlock.toList) g5 fun k e => by rw [e]; simp) fun k hk => .inr (by
     have := o4.ge k (by simpa using hk)
     omega)
    have hI5 : msD.In g6 ⟨⟨n0, n1, n2, n3, n4, vv⟩, A, n, cc⟩ w5 := (HW.out.1.up hB4).kept (g5.block g6 (Nat.lt_of_lt_of_le HGW.out hB4.size) fun e => by
     have := o4.ge g6 e.symm
     have := HGD.out
     omega)
    have hc5 := (MxAt.of hI5).cA
    have hf5 := hI5.fz 10
    simp only at hc5
    refine hK.out _ _ trivial (fun hHeld => ?_)
    clear hK K
    ((try simp only [Act.put]); (try simp only [List.setIfInBounds_toArray]); (try simp only [List.set_cons_succ]); (try simp only [List.set_cons_zero]))
    refine takeL 6 (h := ?_)
    have hP := St.Sp.Set.part (i := 10) (u := .slice A5 (F ++ [c]).length c5) (y := ⟨⟨n0, n1, n2, n3, n4, vv⟩, A5, (F ++ [c]).length, c5⟩) hI5 rfl
    have hk6 := hk5.trans (Kp.set (S := [g6]) w5 (p := ⟨g6, 10, none⟩) (by simp) (.slice A5 (F ++ [c]).length c5)) fun k h => .inl h
    have ho6 : St.OwS vtL (w5.setCell ⟨g6, 10, none⟩ (.slice A5 (F ++ [c]).length c5)) wd.heap.size (.slice A5 (F ++ [c]).length c5) (F ++ [c]) := p5.kept (row := some g6) ⟨rfl, rfl, rfl, by simp [World.setCell], fun k _ hk => heap_setCell_other _ _ _ _ (by simpa using fun e => hk (by rw [e]))⟩ fun k hk e => by
     have := p5.ge k hk
     have := HGD.out
     injection e with e
     omega
    have HN := Lib.hid (show msD.In g6 ⟨⟨n0, n1, n2, n3, n4, vv⟩, A5, (F ++ [c]).length, c5⟩ (w5.setCell ⟨g6, 10, none⟩ (.slice A5 (F ++ [c]).length c5)) ∧ St.OwS vtL (w5.setCell ⟨g6, 10, none⟩ (.slice A5 (F ++ [c]).length c5)) wd.heap.size (.slice A5 (F ++ [c]).length c5) (F ++ [c]) ∧ Kp [g6] wd (w5.setCell ⟨g6, 10, none⟩ (.slice A5 (F ++ [c]).length c5)) from ⟨hP.i, ho6, hk6⟩)
    clear hP hk6 ho6 hk5 hI5 p5 g5 o4 x4
    generalize (F ++ [c]).length = n5 at *
    refine wpAnyH_ready (rs := [7]) (by kernel_rfl) (by simp) ?_
    refine AllReadyH.cons (o := _) (by (try simp only [List.getElem?_toArray]); (try simp only [List.getElem?_cons_succ]); (try simp only [List.getElem?_cons_zero]); rfl) (fun K hK => ?_) AllReadyH.nil
    go_simp
    generalize w5.setCell ⟨g6, 10, none⟩ (.slice A5 n5 c5) = w6 at HN ⊢
    refine hK.out _ _ trivial (fun hHeld => ?_)
    clear hK K
    ((try simp only [Act.put]); (try simp only [List.setIfInBounds_toArray]); (try simp only [List.set_cons_succ]); (try simp only [List.set_cons_zero]))
    refine wpAnyH_done (by kernel_rfl) ?_ _
    go_wp2_with fail
    go_roundw
    case rel => exact ⟨k + 1, A5, n5, c5, by omega, by go_num, Lib.hid (by rw [HTK.out]; exact HN.out)⟩
    case measure => simp [intOf]; omega
   ·refine AllReadyH.cons (o := _) (by (try simp only [List.getElem?_toArray]); (try simp only [List.getElem?_cons_succ]); (try simp only [List.getElem?_cons_zero]); rfl) (fun K hK => ?_) AllReadyH.nil
    go_simp
    go_at_call 45
    refine (HV.out _).mono ?_
    rintro e w3 ⟨rfl, hb3⟩
    have hB3 := bwstep (Below.refl wo.heap.size wo).drew hb3
    refine hK.out _ _ trivial (fun hHeld => ?_)
    clear hK K
    ((try simp only [Act.put]); (try simp only [List.setIfInBounds_toArray]); (try simp only [List.set_cons_succ]); (try simp only [List.set_cons_zero]))
    clear hc0
    have hc1 := HCA.out _ hB3
    refine wpAnyH_ready (rs := [1, 4]) (by kernel_rfl) (by simp) ?_
    refine AllReadyH.cons (o := _) (by (try simp only [List.getElem?_toArray]); (try simp only [List.getElem?_cons_succ]); (try simp only [List.getElem?_cons_zero]); rfl) (fun K hK => ?_) ?_
    ·go_simp
     refine hK.out _ _ trivial (fun hHeld => ?_)
     clear hK K
     ((try simp only [Act.put]); (try simp only [List.setIfInBounds_toArray]); (try simp only [List.set_cons_succ]); (try simp only [List.set_cons_zero]))
     clear hc1
     refine wpAnyH_ready (rs := [4]) (by kernel_rfl) (by simp) ?_
     refine AllReadyH.cons (o := _) (by (try simp only [List.getElem?_toArray]); (try simp only [List.getElem?_cons_succ]); (try simp only [List.getElem?_cons_zero]); rfl) (fun K hK => ?_) AllReadyH.nil
     go_simp
     have hB4 := hB3.alloc hB3.size (.cells #[.int .i64 c.slot, .int .i64 c.ballot, .int .i64 c.origin, .bool c.full, .string c.bytes] 23)
     have x4 : St.RdS vtL (w3.alloc (.cells #[.int .i64 c.slot, .int .i64 c.ballot, .int .i64 c.origin, .bool c.full, .string c.bytes] 23)) [] (.slice (some ⟨w3.heap.size, 0, none⟩) 1 1) [c] := St.RdS.new w3 [] [c] _ rfl (by simp) (by simp [maxLen]) _
     generalize w3.alloc (.cells #[.int .i64 c.slot, .int .i64 c.ballot, .int .i64 c.origin, .bool c.full, .string c.bytes] 23) = w4 at hB4 x4 ⊢
     refine hK.out _ _ trivial (fun hHeld => ?_)
     clear hK K
     ((try simp only [Act.put]); (try simp only [List.setIfInBounds_toArray]); (try simp only [List.set_cons_succ]); (try simp only [List.set_cons_zero]))
     have o4 := HW.out.2.1.below hB4
     refine wpAnyH_ready (rs := [5]) (by kernel_rfl) (by simp) ?_
     refine AllReadyH.cons (o := _) (by (try simp only [List.getElem?_toArray]); (try simp only [List.getElem?_cons_succ]); (try simp only [List.getElem?_cons_zero]); rfl) (fun K hK => ?_) AllReadyH.nil
     refine St.step_app vlOk vlS rfl (.tmp 38) (.tmp 41) rfl (by simp [Act.eval]) o4 (by simp [Act.eval]) x4 l1 l2 (Nat.le_trans (HW.out.2.2.size) hB4.size) ?_
     intro v5 w5 p5 g5 _
     obtain ⟨A5, c5, rfl, -, -⟩ := (p5.rd (S := []) (by simp)).shape
     have hk5 : Kp [g6] wd w5 := (HW.out.2.2.bel hB4).trans (Kp.grown (S := (Value.slice A n cc).ownBlock.toList) g5 fun k e => by rw [e]; simp) fun k hk => .inr (by
      have := o4.ge k (by simpa using hk)
      omega)
     have hI5 : msD.In g6 ⟨⟨n0, n1, n2, n3, n4, vv⟩, A, n, cc⟩ w5 := (HW.out.1.up hB4).kept (g5.block g6 (Nat.lt_of_lt_of_le HGW.out hB4.size) fun e => by
      have := o4.ge g6 e.symm
      have := HGD.out
      omega)
     have hc5 := (MxAt.of hI5).cA
     have hf5 := hI5.fz 10
     simp only at hc5
     refine hK.out _ _ trivial (fun hHeld => ?_)
     clear hK K
     ((try simp only [Act.put]); (try simp only [List.setIfInBounds_toArray]); (try simp only [List.set_cons_succ]); (try simp only [List.set_cons_zero]))
     refine takeL 6 (h := ?_)
     have hP := St.Sp.Set.part (i := 10) (u := .slice A5 (F ++ [c]).length c5) (y := ⟨⟨n0, n1, n2, n3, n4, vv⟩, A5, (F ++ [c]).length, c5⟩) hI5 rfl
     have hk6 := hk5.trans (Kp.set (S := [g6]) w5 (p := ⟨g6, 10, none⟩) (by simp) (.slice A5 (F ++ [c]).length c5)) fun k h => .inl h
     have ho6 : St.OwS vtL (w5.setCell ⟨g6, 10, none⟩ (.slice A5 (F ++ [c]).length c5)) wd.heap.size (.slice A5 (F ++ [c]).length c5) (F ++ [c]) := p5.kept (row := some g6) ⟨rfl, rfl, rfl, by simp [World.setCell], fun k _ hk => heap_setCell_other _ _ _ _ (by simpa using fun e => hk (by rw [e]))⟩ fun k hk e => by
      have := p5.ge k hk
      have := HGD.out
      injection e with e
      omega
     have HN := Lib.hid (show msD.In g6 ⟨⟨n0, n1, n2, n3, n4, vv⟩, A5, (F ++ [c]).length, c5⟩ (w5.setCell ⟨g6, 10, none⟩ (.slice A5 (F ++ [c]).length c5)) ∧ St.OwS vtL (w5.setCell ⟨g6, 10, none⟩ (.slice A5 (F ++ [c]).length c5)) wd.heap.size (.slice A5 (F ++ [c]).length c5) (F ++ [c]) ∧ Kp [g6] wd (w5.setCell ⟨g6, 10, none⟩ (.slice A5 (F ++ [c]).length c5)) from ⟨hP.i, ho6, hk6⟩)
     clear hP hk6 ho6 hk5 hI5 p5 g5 o4 x4
     generalize (F ++ [c]).length = n5 at *
     refine wpAnyH_ready (rs := [7]) (by kernel_rfl) (by simp) ?_
     refine AllReadyH.cons (o := _) (by (try simp only [List.getElem?_toArray]); (try simp only [List.getElem?_cons_succ]); (try simp only [List.getElem?_cons_zero]); rfl) (fun K hK => ?_) AllReadyH.nil
     go_simp
     generalize w5.setCell ⟨g6, 10, none⟩ (.slice A5 n5 c5) = w6 at HN ⊢
     refine hK.out _ _ trivial (fun hHeld => ?_)
     clear hK K
     ((try simp only [Act.put]); (try simp only [List.setIfInBounds_toArray]); (try simp only [List.set_cons_succ]); (try simp only [List.set_cons_zero]))
     refine wpAnyH_done (by kernel_rfl) ?_ _
     go_wp2_with fail
     go_roundw
     case rel => exact ⟨k + 1, A5, n5, c5, by omega, by go_num, Lib.hid (by rw [HTK.out]; exact HN.out)⟩
     case measure => simp [intOf]; omega
    ·refine AllReadyH.cons (o := _) (by (try simp only [List.getElem?_toArray]); (try simp only [List.getElem?_cons_succ]); (try simp only [List.getElem?_cons_zero]); rfl) (fun K hK => ?_) AllReadyH.nil
     go_simp
     have hB4 := hB3.alloc hB3.size (.cells #[.int .i64 c.slot, .int .i64 c.ballot, .int .i64 c.origin, .bool c.full, .string c.bytes] 23)
     have x4 : St.RdS vtL (w3.alloc (.cells #[.int .i64 c.slot, .int .i64 c.ballot, .int .i64 c.origin, .bool c.full, .string c.bytes] 23)) [] (.slice (some ⟨w3.heap.size, 0, none⟩) 1 1) [c] := St.RdS.new w3 [] [c] _ rfl (by simp) (by simp [maxLen]) _
     generalize w3.alloc (.cells #[.int .i64 c.slot, .int .i64 c.ballot, .int .i64 c.origin, .bool c.full, .string c.bytes] 23) = w4 at hB4 x4 ⊢
     refine hK.out _ _ trivial (fun hHeld => ?_)
     clear hK K
     ((try simp only [Act.put]); (try simp only [List.setIfInBounds_toArray]); (try simp only [List.set_cons_succ]); (try simp only [List.set_cons_zero]))
     clear hc1
     have hc4 := HCA.out _ hB4
     refine wpAnyH_ready (rs := [1]) (by kernel_rfl) (by simp) ?_
     refine AllReadyH.cons (o := _) (by (try simp only [List.getElem?_toArray]); (try simp only [List.getElem?_cons_succ]); (try simp only [List.getElem?_cons_zero]); rfl) (fun K hK => ?_) AllReadyH.nil
     go_simp
     refine hK.out _ _ trivial (fun hHeld => ?_)
     clear hK K
     ((try simp only [Act.put]); (try simp only [List.setIfInBounds_toArray]); (try simp only [List.set_cons_succ]); (try simp only [List.set_cons_zero]))
     clear hc4
     have o4 := HW.out.2.1.below hB4
     refine wpAnyH_ready (rs := [5]) (by kernel_rfl) (by simp) ?_
     refine AllReadyH.cons (o := _) (by (try simp only [List.getElem?_toArray]); (try simp only [List.getElem?_cons_succ]); (try simp only [List.getElem?_cons_zero]); rfl) (fun K hK => ?_) AllReadyH.nil
     refine St.step_app vlOk vlS rfl (.tmp 38) (.tmp 41) rfl (by simp [Act.eval]) o4 (by simp [Act.eval]) x4 l1 l2 (Nat.le_trans (HW.out.2.2.size) hB4.size) ?_
     intro v5 w5 p5 g5 _
     obtain ⟨A5, c5, rfl, -, -⟩ := (p5.rd (S := []) (by simp)).shape
     have hk5 : Kp [g6] wd w5 := (HW.out.2.2.bel hB4).trans (Kp.grown (S := (Value.slice A n cc).ownBlock.toList) g5 fun k e => by rw [e]; simp) fun k hk => .inr (by
      have := o4.ge k (by simpa using hk)
      omega)
     have hI5 : msD.In g6 ⟨⟨n0, n1, n2, n3, n4, vv⟩, A, n, cc⟩ w5 := (HW.out.1.up hB4).kept (g5.block g6 (Nat.lt_of_lt_of_le HGW.out hB4.size) fun e => by
      have := o4.ge g6 e.symm
      have := HGD.out
      omega)
     have hc5 := (MxAt.of hI5).cA
     have hf5 := hI5.fz 10
     simp only at hc5
     refine hK.out _ _ trivial (fun hHeld => ?_)
     clear hK K
     ((try simp only [Act.put]); (try simp only [List.setIfInBounds_toArray]); (try simp only [List.set_cons_succ]); (try simp only [List.set_cons_zero]))
     refine takeL 6 (h := ?_)
     have hP := St.Sp.Set.part (i := 10) (u := .slice A5 (F ++ [c]).length c5) (y := ⟨⟨n0, n1, n2, n3, n4, vv⟩, A5, (F ++ [c]).length, c5⟩) hI5 rfl
     have hk6 := hk5.trans (Kp.set (S := [g6]) w5 (p := ⟨g6, 10, none⟩) (by simp) (.slice A5 (F ++ [c]).length c5)) fun k h => .inl h
     have ho6 : St.OwS vtL (w5.setCell ⟨g6, 10, none⟩ (.slice A5 (F ++ [c]).length c5)) wd.heap.size (.slice A5 (F ++ [c]).length c5) (F ++ [c]) := p5.kept (row := some g6) ⟨rfl, rfl, rfl, by simp [World.setCell], fun k _ hk => heap_setCell_other _ _ _ _ (by simpa using fun e => hk (by rw [e]))⟩ fun k hk e => by
      have := p5.ge k hk
      have := HGD.out
      injection e with e
      omega
     have HN := Lib.hid (show msD.In g6 ⟨⟨n0, n1, n2, n3, n4, vv⟩, A5, (F ++ [c]).length, c5⟩ (w5.setCell ⟨g6, 10, none⟩ (.slice A5 (F ++ [c]).length c5)) ∧ St.OwS vtL (w5.setCell ⟨g6, 10, none⟩ (.slice A5 (F ++ [c]).length c5)) wd.heap.size (.slice A5 (F ++ [c]).length c5) (F ++ [c]) ∧ Kp [g6] wd (w5.setCell ⟨g6, 10, none⟩ (.slice A5 (F ++ [c]).length c5)) from ⟨hP.i, ho6, hk6⟩)
     clear hP hk6 ho6 hk5 hI5 p5 g5 o4 x4
     generalize (F ++ [c]).length = n5 at *
     refine wpAnyH_ready (rs := [7]) (by kernel_rfl) (by simp) ?_
     refine AllReadyH.cons (o := _) (by (try simp only [List.getElem?_toArray]); (try simp only [List.getElem?_cons_succ]); (try simp only [List.getElem?_cons_zero]); rfl) (fun K hK => ?_) AllReadyH.nil
     go_simp
     generalize w5.setCell ⟨g6, 10, none⟩ (.slice A5 n5 c5) = w6 at HN ⊢
     refine hK.out _ _ trivial (fun hHeld => ?_)
     clear hK K
     ((try simp only [Act.put]); (try simp only [List.setIfInBounds_toArray]); (try simp only [List.set_cons_succ]); (try simp only [List.set_cons_zero]))
     refine wpAnyH_done (by kernel_rfl) ?_ _
     go_wp2_with fail
     go_roundw
     case rel => exact ⟨k + 1, A5, n5, c5, by omega, by go_num, Lib.hid (by rw [HTK.out]; exact HN.out)⟩
     case measure => simp [intOf]; omega
  ·obtain rfl : k = T.length := by omega
   rw [List.take_length] at HW
   have hJ := HW.out.1
   have hI := HId.out.kept (HW.out.2.2.block _ HId.out.lt (by have := H0.out; have := HLT.out; simp; omega))
   have HBo : Hid (Below w.heap.size w wo) := Lib.hid (HBd.out.trans (HW.out.2.2.below (by have := H0.out; have := HLT.out; simp; omega) HBd.out.size))
   have HO := Lib.hid HW.out.2.1
   have HGD : Hid (w.heap.size < wd.heap.size) := Lib.hid HId.out.lt
   clear HW
   go_wp2_with (first | (refine St.load msOk rfl (.tmp 6) rfl rfl hJ ?_) | (refine St.store msOk (c := ⟨⟨n0, n1, n2, n3, n4, vv⟩, A, n, cc⟩) rfl (.tmp 2) (.tmp 45) rfl rfl rfl hI ?_))
   constructor
   intro we hse
   have HS := Lib.hid hse
   have HOE : Hid (St.OwS vtL we wd.heap.size (.slice A n cc) (T.map fun t => vof t.data.toList)) := Lib.hid (HO.out.kept (row := some w.heap.size) ⟨hse.b.os, hse.b.tape, hse.b.output, by rw [hse.z]; exact Nat.le_refl _, fun k _ hk => hse.o k fun e => hk (by rw [e])⟩ fun k hk e => by
    have := HO.out.ge k hk
    have := HGD.out
    injection e with e
    omega)
   clear hse hI hJ
   go_wp2_with fail
   refine bodyPost_ret (St.res1 msOk Try.results31 rfl HS.out.i) rfl ⟨_, rfl, ⟨?_, ?_⟩, HS.out.bel HBo.out (Nat.le_refl _)⟩
   ·rw [HTX.out]
    exact HRH.out.symm
   ·rw [HTX.out]
    exact HOE.out.mono (Nat.le_of_lt HGD.out)
end Go.Proofs.Ytpmlfhgdhnofbaa.Ce
