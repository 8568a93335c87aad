/- Layer 18's law LogCompacts, over package log's contracts. -/
import Derived.Test.YtaddbhdkgneiaaaGreatLgG
set_option maxHeartbeats 8000000
set_option maxRecDepth 100000
namespace Go.Proofs.YtaddbhdkgneiaaaGreat.Ce
open Go.RowKit Dk
structure CoR (Own : World → Value → Nat → Lg → List Nat → Prop) (w3 : World) (d : Value) (cap lb n k : Nat) (wr : World) : Prop where
 ex : ∃ o g S, LogAt Own wr w3.heap.size d cap o lb g S ∧ (byt o).length ≤ n * k
 bel : Below w3.heap.size w3 wr
theorem logCompacts_gen {Own : World → Value → Nat → Lg → List Nat → Prop} (I : LogI Own) (v : Value) (L : List A18) (w : World) (hv : RdA18 w v L) : Calls Tryz.prog 5 #[v] w fun e w' => e = .returned (.bool true) ∧ Below w.heap.size w w' := by
 obtain ⟨A, cp, rfl, hc, hm⟩ := hv.rd.shape
 unfold maxLen at hm
 have HV := Lib.hid hv
 clear hv
 go_enter Tryz.func5, Tryz.ntmps5
 go_wp2_with fail
 refine (awake18_ok I _).mono ?_
 rintro e w1 ⟨rfl, hb1⟩
 go_wp2_with fail
 refine (few18_any _ L _ (HV.out.bel hb1).rd).mono ?_
 rintro e w2 ⟨⟨q, rfl, hq⟩, rfl⟩
 cases q
 case false =>
  go_wp2_with fail
  refine (awake18_ok I _).mono ?_
  rintro e w3 ⟨rfl, hb3⟩
  have hw3 := bwstep hb1 hb3
  clear hb1 hb3 hq
  go_wp2_with fail
  go_ret
  exact ⟨rfl, hw3⟩
 have HF := Lib.hid (hq rfl).1
 have HW := Lib.hid hb1
 clear hq hb1
 go_wp2_with fail
 refine (dnew_any 65536 _ (by omega) (by omega)).mono ?_
 rintro e w4 ⟨db, mb, rfl, hd4, hb4⟩
 have hd4 : DiskAt w4 w1.heap.size (.pointer (some ⟨db, 0, none⟩)) db mb 65536 0 [] := hd4
 go_wp2_with fail
 refine (I.fresh hd4 (by omega) hb4.size).mono ?_
 rintro e w5 ⟨lb, S5, rfl, hl5, -, hb5⟩
 have HR5 : Hid (CoR Own w1 (.pointer (some ⟨db, 0, none⟩)) 65536 lb 576 0 w5) := Lib.hid ⟨⟨_, _, _, hl5, by simp [byt]⟩, hb4.trans hb5⟩
 clear hd4 hb4 hb5 hl5
 go_wp2_with fail
 go_loopw [5] (fun i wr => ∃ k : Nat, k ≤ L.length ∧ i = .int .i64 (k : Int) ∧ Hid (CoR Own w1 (.pointer (some ⟨db, 0, none⟩)) 65536 lb 576 k wr)) (fun i _ => L.length - (intOf i).toNat)
 case atStart => exact ⟨0, by omega, rfl, HR5⟩
 case round =>
  obtain ⟨k, hk, rfl, HR⟩ := hrel
  clear HR5
  by_cases hlt : k < L.length
  ·obtain ⟨b, off, rfl, -, -⟩ := HV.out.rd.open_ (by omega)
   have hh3 : (0 : Int) ≤ (k : Int) := by omega
   have hh4 : (k : Int) < (L.length : Int) := by omega
   have hfk : L[k]? = some (L[k]'hlt) := List.getElem?_eq_getElem _
   generalize L[k]'hlt = f at hfk
   have HA := Lib.hid fun z (hz : Below w1.heap.size w1 z) => (HV.out.bel (HW.out.trans (hz.mono HW.out.size))).at_ hfk
   clear hfk
   obtain ⟨⟨o, g, S, hl, hsz⟩, hb⟩ := HR.out
   have c1 := (HA.out _ hb).c1
   have HSZ := Lib.hid hsz
   clear HR hsz
   obtain ⟨wo, hwo⟩ : ∃ wo, wo = wr := ⟨_, rfl⟩
   subst hwo
   go_wp2_with fail
   refine (I.prom f.ballot hl).mono ?_
   rintro e w6 ⟨E, o6, g6, rfl, hE, S6, hl6, hk6, hs6⟩
   have HZ6 : Hid ((byt o6).length ≤ 576 * k + 20) := Lib.hid (by have := hE.most.2; have := HSZ.out; omega)
   have hb6 := hb.trans (hk6.below hl.ge hl.caps.2.2)
   have hvt := (HA.out _ hb6).v
   have HVT := Lib.hid hvt
   clear hE hl hb hk6 hs6 c1 HSZ hvt
   go_wp2_with (refine St.loadAt vtOk rfl (.tmp 46) rfl _ rfl HVT.out ?_)
   refine (I.vote f.vote hl6).mono ?_
   rintro e w7 ⟨E7, o7, g7, rfl, hE, S7, hl7, hk7, hs7⟩
   have HR7 : Hid (CoR Own w1 (.pointer (some ⟨db, 0, none⟩)) 65536 lb 576 (k + 1) w7) := Lib.hid ⟨⟨_, _, _, hl7, by have := hE.most.2; have := HZ6.out; omega⟩, hb6.trans (hk7.below hl6.ge hl6.caps.2.2)⟩
   clear hE hl6 hk7 hs7 HZ6 hb6 hl7 HVT HA
   go_wp2_with fail
   go_roundw
   case rel => exact ⟨k + 1, by omega, by go_num, HR7⟩
   case measure => simp [intOf]; omega
  ·obtain ⟨⟨o, g, S, hl, hsz⟩, hb⟩ := HR.out
   have HSZ : Hid ((byt o).length ≤ 23040) := Lib.hid (by have := HF.out; have : 576 * k ≤ 576 * 40 := Nat.mul_le_mul_left _ (by omega); omega)
   have HOK := Lib.hid hl.wf.ok
   have HVL := Lib.hid hl.wf.ok.len
   have HCL := Lib.hid hl.wf.comp_le
   have HWF : Hid (LogWf (some (compB g)) (compG g)) := Lib.hid (LogWf.comp hl.wf.ok)
   have HCM := Lib.hid (compG_most hl.wf.ok)
   have HCV := Lib.hid (compG_votes hl.wf.ok)
   have HCA := Lib.hid (compB_again hl.wf.ok)
   have hwr20 : IntKind.i64.wrap (((byt o).length : Int) + 20) = ((byt o).length : Int) + 20 := IntWalk.i64_in _ (by have := HSZ.out; omega)
   have hgt : ¬ (((byt o).length : Int) + 20 < ((compB g).length : Int)) := by have := HCL.out; omega
   have hge : L.length ≤ k := by omega
   clear HR hsz hlt HF
   obtain ⟨wo, hwo⟩ : ∃ wo, wo = wr := ⟨_, rfl⟩
   subst hwo
   obtain ⟨km, hkm⟩ : ∃ km, km = k := ⟨_, rfl⟩
   subst hkm
   go_wp2_with fail
   refine (I.promised hl).mono ?_
   rintro e w6 ⟨rfl, hb6⟩
   have hl6 := hl.up I hb6
   have hw6 := bwstep hb hb6
   clear hl hb hb6
   go_wp2_with fail
   refine (I.votes hl6).mono ?_
   rintro e w7 ⟨⟨x, rfl, hx⟩, hb7⟩
   have hlt6 := hl6.lt I
   have HX7 := Lib.hid (hx.rd (S := S) hlt6)
   have hl7 := hl6.up I hb7
   have hw7 := bwstep hw6 hb7
   clear hl6 hw6 hb7 hx hlt6
   go_wp2_with fail
   refine (I.size hl7).mono ?_
   rintro e w8 ⟨rfl, hb8⟩
   have HX8 := Lib.hid (HX7.out.bel hb8)
   have hl8 := hl7.up I hb8
   have hw8 := bwstep hw7 hb8
   clear hl7 hw7 hb8 HX7
   go_wp2_with fail
   refine (I.comp hl8).mono ?_
   rintro e w9 ⟨E, o9, g9, rfl, hE, S9, hl9, hk9, hs9⟩
   obtain ⟨rfl, rfl, rfl⟩ := hE.yes (by have := HCL.out; have := HSZ.out; omega)
   have HX9 := Lib.hid (HX8.out.up hk9 hs9)
   have hw9 := hw8.trans (hk9.below hl8.ge hl8.caps.2.2)
   clear hE hl8 hw8 hk9 hs9 HX8
   obtain ⟨db9, mb9, L9, T9, hld, how, hwf, hap, rfl⟩ := hl9
   have hlt9 : ∀ k ∈ T9 ++ fp db9 mb9 L9, k < w9.heap.size := LogAt.lt I (⟨db9, mb9, L9, T9, hld, how, hwf, hap, rfl⟩ : LogAt Own w9 _ _ _ _ lb (compG g) _)
   have HL9 : Hid (LogAt Own w9 w1.heap.size (.pointer (some ⟨db, 0, none⟩)) 65536 (some (compB g)) lb (compG g) (T9 ++ fp db9 mb9 L9)) := Lib.hid ⟨db9, mb9, L9, T9, hld, how, hwf, hap, rfl⟩
   generalize T9 ++ fp db9 mb9 L9 = S9 at *
   clear how hwf hap
   go_wp2_with fail
   refine hld.read_any.mono ?_
   rintro e w10 ⟨⟨a, Ea, rfl, ha⟩, hb10⟩
   have ha10 := ha.rdS (S := S9) hlt9
   obtain ⟨Aa, ca, rfl, -, -⟩ := ha10.1.shapeM
   have HA10 := Lib.hid ha10
   have HX10 := Lib.hid (HX9.out.bel hb10)
   have hl10 := HL9.out.up I hb10
   have hw10 := bwstep hw9 hb10
   clear hld hlt9 HL9 hw9 hb10 ha ha10 HX9
   go_wp2_with fail
   refine (I.again hl10).mono ?_
   rintro e w11 ⟨lb2, S11, S12, rfl, hm11, -, hk11, hs11, -⟩
   have HA11 := Lib.hid (HA10.out.up hk11 hs11)
   have HX11 := Lib.hid (HX10.out.up hk11 hs11)
   have hw11 := hw10.trans (hk11.below hl10.ge hl10.caps.2.2)
   clear hl10 hw10 hk11 hs11 HA10 HX10
   have hnn : (g.most != g.most) = false := by simp
   go_wp2_with fail
   have hp := I.promised hm11
   rw [HCM.out] at hp
   refine hp.mono ?_
   rintro e w12 ⟨rfl, hb12⟩
   have HA12 := Lib.hid (HA11.out.up (Kp.of_below hb12 _) fun _ h => .inl h)
   have HX12 := Lib.hid (HX11.out.bel hb12)
   have hm12 := hm11.up I hb12
   have hw12 := bwstep hw11 hb12
   clear hp hm11 hw11 hb12 HA11 HX11
   go_wp2_with fail
   refine (I.votes hm12).mono ?_
   rintro e w13 ⟨⟨y, rfl, hy⟩, hb13⟩
   have hy13 := hy.rd (S := []) (by simp)
   rw [HCV.out] at hy13
   have HY13 := Lib.hid hy13
   have HA13 := Lib.hid (HA12.out.up (Kp.of_below hb13 _) fun _ h => .inl h)
   have HX13 := Lib.hid (HX12.out.bel hb13)
   have hm13 := hm12.up I hb13
   have hw13 := bwstep hw12 hb13
   clear hm12 hw12 hb13 HA12 HX12 hy hy13
   go_wp2_with fail
   refine (rvsame_self _ _ _ _ HY13.out (HX13.out.less (by simp)) HVL.out).mono ?_
   rintro e w14 ⟨rfl, hb14⟩
   have HA14 := Lib.hid (HA13.out.up (Kp.of_below hb14 _) fun _ h => .inl h)
   have hm14 := hm13.up I hb14
   have hw14 := bwstep hw13 hb14
   clear hm13 hw13 hb14 HA13 HX13 HY13
   go_wp2_with fail
   refine (I.size hm14).mono ?_
   rintro e w15 ⟨rfl, hb15⟩
   have hbb : (byt (some (compB g))).length = (compB g).length := rfl
   rw [hbb]
   have HA15 := Lib.hid (HA14.out.up (Kp.of_below hb15 _) fun _ h => .inl h)
   have hm15 := hm14.up I hb15
   have hw15 := bwstep hw14 hb15
   clear hm14 hw14 hb15 HA14 hbb
   go_wp2_with fail
   refine (I.comp hm15).mono ?_
   rintro e w16 ⟨E, o16, g16, rfl, hE, S16, hl16, hk16, hs16⟩
   obtain ⟨rfl, rfl, rfl⟩ := hE.yes (by rw [HCA.out]; have := HCL.out; have := HSZ.out; show (compB g).length + _ ≤ _; omega)
   rw [HCA.out] at hl16
   have HA16 := Lib.hid (HA15.out.up hk16 hs16)
   have hw16 := hw15.trans (hk16.below hm15.ge hm15.caps.2.2)
   clear hE hm15 hw15 hk16 hs16 HA15
   obtain ⟨db17, mb17, L17, T17, hld, -, -, -, -⟩ := hl16
   go_wp2_with fail
   refine hld.read_any.mono ?_
   rintro e w17 ⟨⟨c, Ec, rfl, hcr⟩, hb17⟩
   have hcr := hcr.rd
   have HC17 := Lib.hid hcr
   have HA17 := Lib.hid (HA16.out.up (Kp.of_below hb17 _) fun _ h => .inl h)
   have hld17 := hld.keep (fun k hk => hb17.block k (hld.at_.lt k hk)) hb17.size
   have hw17 := bwstep hw16 hb17
   clear hld hw16 hb17 hcr HA16
   go_wp2_with fail
   refine (rsame_self _ _ _ _ HA17.out.1 HC17.out).mono ?_
   rintro e w18 ⟨rfl, hb18⟩
   have hld18 := hld17.keep (fun k hk => hb18.block k (hld17.at_.lt k hk)) hb18.size
   have hw18 := bwstep hw17 hb18
   clear hld17 hw17 hb18 HA17 HC17
   go_wp2_with fail
   refine (hld18.names_any (by simp)).mono ?_
   rintro e w19 ⟨⟨An, cn, rfl⟩, hb19⟩
   have hw19 := HW.out.trans ((bwstep hw18 hb19).mono HW.out.size)
   clear hld18 hw18 hb19
   go_wp2_with fail
   go_ret
   exact ⟨rfl, hw19⟩
end Go.Proofs.YtaddbhdkgneiaaaGreat.Ce
