/- Layer 18's law LogSynced, over package log's contracts. -/
import Derived.Test.YtaddbhdkgneiaaaGreatLgG
set_option maxHeartbeats 8000000
set_option maxRecDepth 100000
namespace Go.Proofs.YtaddbhdkgneiaaaGreat.Ce
open Go.RowKit Dk
theorem torn_ends {cap : Nat} {o : Option (List UInt8)} {g : Lg} {M' : List Dk.Fl} {E : Int} {torn : List UInt8} (hw : LogWf o g) (ht : torn.length ≤ 500)
  (h : (E = 4 ∧ M' = filesOf o ∧ cap < (byt o).length + (0 :: 0 :: 255 :: 255 :: torn).length) ∨ (E = 0 ∧ (byt o).length + (0 :: 0 :: 255 :: 255 :: torn).length ≤ cap ∧ ∃ s, s ≤ (byt o).length ∧ M' = [⟨logNm, byt o ++ (0 :: 0 :: 255 :: 255 :: torn), s⟩] ∧ (filesOf o = filesOf o → s = (byt o).length))) :
  (∃ o1, FilAt M' o1) ∧ ∀ ks, ∃ o2 R m, crash M' ks = filesOf o2 ∧ Frm.Scanned (byt o2) R m ∧ Lg.nil.reads R = g := by
 rcases h with ⟨-, rfl, -⟩ | ⟨-, -, s, -, rfl, hs⟩
 ·refine ⟨⟨o, FilAt.of o⟩, fun ks => ?_⟩
  obtain ⟨R, h1, h2⟩ := hw.scanned
  exact ⟨o, R, [], crash_filesOf o ks, h1, h2.symm⟩
 ·obtain rfl := hs rfl
  have hle : (byt o).length ≤ (byt o ++ (0 :: 0 :: 255 :: 255 :: torn)).length := by rw [List.length_append]; omega
  refine ⟨⟨_, FilAt.some _ _ hle⟩, fun ks => ?_⟩
  obtain ⟨t, h1, h2, h3⟩ := crash_some _ _ hle ks
  obtain ⟨R, m, h4, h5⟩ := hw.torn ht h1
  exact ⟨_, R, m, h3, h4, h5⟩
structure SyR (Own : World → Value → Nat → Lg → List Nat → Prop) (w3 : World) (d : Value) (cap lb : Nat) (wr : World) : Prop where
 ex : ∃ o g S, LogAt Own wr w3.heap.size d cap o lb g S
 bel : Below w3.heap.size w3 wr
theorem logSynced_gen {Own : World → Value → Nat → Lg → List Nat → Prop} (I : LogI Own) (v : Value) (L : List A18) (x : Value) (t : List UInt8) (y : Value) (ks : List Int) (w : World) (hv : RdA18 w v L) (hx : Rd w w.heap.size x (t.map bv)) (hy : Rd w w.heap.size y (ks.map iv)) (hks : ∀ q ∈ ks, inR q) :
  Calls Tryz.prog 4 #[v, x, y] w fun e w' => e = .returned (.bool true) ∧ Below w.heap.size w w' := by
 obtain ⟨A, cp, rfl, hc, hm⟩ := hv.rd.shape
 obtain ⟨Ax, cx, rfl, hcx, hmx⟩ := hx.shapeM
 obtain ⟨Ay, cy, rfl, hcy, hmy⟩ := hy.shapeM
 unfold maxLen at hm hmx hmy
 have HV := Lib.hid hv
 have HX := Lib.hid hx
 have HY := Lib.hid hy
 have HKS := Lib.hid hks
 clear hv hx hy hks
 go_enter Tryz.func4, Tryz.ntmps4
 go_wp2_with fail
 refine (awake18_ok I _).mono ?_
 rintro e w1 ⟨rfl, hb1⟩
 go_wp2_with fail
 refine (few18_any _ L _ (HV.out.bel hb1).rd).mono ?_
 rintro e w2 ⟨⟨q, rfl, hq⟩, rfl⟩
 by_cases hbad : q = false ∨ (500 : Int) < (t.length : Int) ∨ (10 : Int) < (ks.length : Int)
 case pos =>
  have ende : ∀ (e : Ending) (w3 : World), (e = .returned (.bool true) ∧ Below w1.heap.size w1 w3) → e = .returned (.bool true) ∧ Below w.heap.size w w3 := fun e w3 h => ⟨h.1, bwstep hb1 h.2⟩
  cases q
  ·go_wp2_with fail
   refine (awake18_ok I _).mono ?_
   rintro e w3 h3
   obtain ⟨rfl, hw3⟩ := ende e w3 h3
   clear h3 ende hb1 hq hbad
   go_wp2_with fail
   go_ret
   exact ⟨rfl, hw3⟩
  ·by_cases h500 : (500 : Int) < (t.length : Int)
   ·go_wp2_with fail
    refine (awake18_ok I _).mono ?_
    rintro e w3 h3
    obtain ⟨rfl, hw3⟩ := ende e w3 h3
    clear h3 ende hb1 hq hbad
    go_wp2_with fail
    go_ret
    exact ⟨rfl, hw3⟩
   ·have h10 : (10 : Int) < (ks.length : Int) := by
     rcases hbad with h | h | h
     ·cases h
     ·exact absurd h h500
     ·exact h
    go_wp2_with fail
    refine (awake18_ok I _).mono ?_
    rintro e w3 h3
    obtain ⟨rfl, hw3⟩ := ende e w3 h3
    clear h3 ende hb1 hq hbad
    go_wp2_with fail
    go_ret
    exact ⟨rfl, hw3⟩
 have h500 : ¬ (500 : Int) < (t.length : Int) := fun h => hbad (.inr (.inl h))
 have h10 : ¬ (10 : Int) < (ks.length : Int) := fun h => hbad (.inr (.inr h))
 have hqt : q = true := by cases q; exact absurd (.inl rfl) hbad; rfl
 subst hqt
 have HF := Lib.hid (hq rfl).1
 have HW := Lib.hid hb1
 clear hq hb1 hbad
 go_wp2_with fail
 refine (dnew_any 60000 _ (by omega) (by omega)).mono ?_
 rintro e w4 ⟨db, mb, rfl, hd4, hb4⟩
 have hd4 : DiskAt w4 w1.heap.size (.pointer (some ⟨db, 0, none⟩)) db mb 60000 0 [] := hd4
 go_wp2_with fail
 refine (I.fresh hd4 (by omega) hb4.size).mono ?_
 rintro e w5 ⟨lb, S5, rfl, hl5, -, hb5⟩
 have HR5 : Hid (SyR Own w1 (.pointer (some ⟨db, 0, none⟩)) 60000 lb w5) := Lib.hid ⟨⟨_, _, _, hl5⟩, hb4.trans hb5⟩
 clear hd4 hb4 hb5 hl5
 go_wp2_with fail
 go_loopw [9] (fun i wr => ∃ k : Nat, k ≤ L.length ∧ i = .int .i64 (k : Int) ∧ Hid (SyR Own w1 (.pointer (some ⟨db, 0, none⟩)) 60000 lb wr)) (fun i _ => L.length - (intOf i).toNat)
 case atStart => exact ⟨0, by omega, rfl, HR5⟩
 case round =>
  obtain ⟨k, hk, rfl, HR⟩ := hrel
  clear HR5
  by_cases hlt : k < L.length
  ·obtain ⟨b, off, rfl, -, -⟩ := HV.out.rd.open_ (by omega)
   have hh3 : (0 : Int) ≤ (k : Int) := by omega
   have hh4 : (k : Int) < (L.length : Int) := by omega
   have hfk : L[k]? = some (L[k]'hlt) := List.getElem?_eq_getElem _
   generalize L[k]'hlt = f at hfk
   have HA := Lib.hid fun z (hz : Below w1.heap.size w1 z) => (HV.out.bel (HW.out.trans (hz.mono HW.out.size))).at_ hfk
   clear hfk
   obtain ⟨⟨o, g, S, hl⟩, hb⟩ := HR.out
   clear HR
   obtain ⟨wo, hwo⟩ : ∃ wo, wo = wr := ⟨_, rfl⟩
   subst hwo
   go_wp2_with fail
   refine (I.promised hl).mono ?_
   rintro e w6 ⟨rfl, hb6⟩
   have hl6 := hl.up I hb6
   have hw6 := bwstep hb hb6
   have hA6 := HA.out _ hw6
   have c0 := hA6.c0
   have c1 := hA6.c1
   have HVT := Lib.hid hA6.v
   clear hl hb hb6 hA6 HA
   by_cases h0 : f.do_ = 0
   ·rw [h0] at c0
    clear h0
    go_wp2_with fail
    refine (I.prom f.ballot hl6).mono ?_
    rintro e w7 ⟨E, o7, g7, rfl, hE, S7, hl7, hk7, hs7⟩
    have hge : ¬ g7.most < g.most := by have := hE.most.1; omega
    have hw7 := hw6.trans (hk7.below hl6.ge hl6.caps.2.2)
    clear hE hl6 hw6 hk7 hs7 c0 c1 HVT
    go_wp2_with fail
    refine (I.promised hl7).mono ?_
    rintro e w8 ⟨rfl, hb8⟩
    have HR8 : Hid (SyR Own w1 (.pointer (some ⟨db, 0, none⟩)) 60000 lb w8) := Lib.hid ⟨⟨_, _, _, hl7.up I hb8⟩, bwstep hw7 hb8⟩
    clear hl7 hw7 hb8
    go_wp2_with fail
    go_roundw
    case rel => exact ⟨k + 1, by omega, by go_num, HR8⟩
    case measure => simp [intOf]; omega
   ·have d0 : (f.do_ == 0) = false := by simpa using h0
    by_cases h3 : f.do_ = 3
    ·rw [h3] at c0
     clear h3 d0 h0
     go_wp2_with fail
     refine (I.comp hl6).mono ?_
     rintro e w7 ⟨E, o7, g7, rfl, hE, S7, hl7, hk7, hs7⟩
     have hge : ¬ g7.most < g.most := by have := hE.most hl6.wf.ok; omega
     have hw7 := hw6.trans (hk7.below hl6.ge hl6.caps.2.2)
     clear hE hl6 hw6 hk7 hs7 c0 c1 HVT
     go_wp2_with fail
     refine (I.promised hl7).mono ?_
     rintro e w8 ⟨rfl, hb8⟩
     have HR8 : Hid (SyR Own w1 (.pointer (some ⟨db, 0, none⟩)) 60000 lb w8) := Lib.hid ⟨⟨_, _, _, hl7.up I hb8⟩, bwstep hw7 hb8⟩
     clear hl7 hw7 hb8
     go_wp2_with fail
     go_roundw
     case rel => exact ⟨k + 1, by omega, by go_num, HR8⟩
     case measure => simp [intOf]; omega
    ·have d3 : (f.do_ == 3) = false := by simpa using h3
     go_wp2_with (refine St.loadAt vtOk rfl (.tmp 72) rfl _ rfl HVT.out ?_)
     refine (I.vote f.vote hl6).mono ?_
     rintro e w7 ⟨E, o7, g7, rfl, hE, S7, hl7, hk7, hs7⟩
     have hge : ¬ g7.most < g.most := by have := hE.most.1; omega
     have hw7 := hw6.trans (hk7.below hl6.ge hl6.caps.2.2)
     clear hE hl6 hw6 hk7 hs7 c0 c1 HVT
     go_wp2_with fail
     refine (I.promised hl7).mono ?_
     rintro e w8 ⟨rfl, hb8⟩
     have HR8 : Hid (SyR Own w1 (.pointer (some ⟨db, 0, none⟩)) 60000 lb w8) := Lib.hid ⟨⟨_, _, _, hl7.up I hb8⟩, bwstep hw7 hb8⟩
     clear hl7 hw7 hb8
     go_wp2_with fail
     go_roundw
     case rel => exact ⟨k + 1, by omega, by go_num, HR8⟩
     case measure => simp [intOf]; omega
  ·obtain ⟨⟨o, g, S, hl⟩, hb⟩ := HR.out
   have HVL := Lib.hid hl.wf.ok.len
   have HWF := Lib.hid hl.wf
   have hge : L.length ≤ k := by omega
   clear HR hlt HF
   obtain ⟨wo, hwo⟩ : ∃ wo, wo = wr := ⟨_, rfl⟩
   subst hwo
   obtain ⟨km, hkm⟩ : ∃ km, km = k := ⟨_, rfl⟩
   subst hkm
   go_wp2_with fail
   refine (I.promised hl).mono ?_
   rintro e w6 ⟨rfl, hb6⟩
   have hl6 := hl.up I hb6
   have hw6 := bwstep hb hb6
   clear hl hb hb6
   go_wp2_with fail
   refine (I.votes hl6).mono ?_
   rintro e w7 ⟨⟨z, rfl, hz⟩, hb7⟩
   have hz7 := hz.rd (S := S) (hl6.lt I)
   have hl7 := hl6.up I hb7
   have hw7 := bwstep hw6 hb7
   clear hl6 hw6 hb7 hz
   obtain ⟨db', mb', L7, T7, hld, -, -, -, rfl⟩ := hl7
   have HZ7 := Lib.hid (hz7.less (S' := fp db' mb' L7) (fun k hk => by simp [hk]))
   have HDK := Lib.hid hld.dk
   have HLT := Lib.hid hld.at_.lt
   clear hz7 hld
   have HJ : Hid (([0, 0, 255, 255] ++ t : List UInt8) = 0 :: 0 :: 255 :: 255 :: t) := Lib.hid rfl
   have hx7 := HX.out.up (HW.out.trans (hw7.mono HW.out.size))
   have bz := bwalloc (bwrefl w7) (.cells #[.int .u8 0, .int .u8 0, .int .u8 255, .int .u8 255] 5)
   have o8 : Ow (w7.alloc (.cells #[.int .u8 0, .int .u8 0, .int .u8 255, .int .u8 255] 5)) w7.heap.size 5 (.slice (some ⟨w7.heap.size, 0, none⟩) 4 4) (([0, 0, 255, 255] : List UInt8).map bv) := Ow.new w7 #[.int .u8 0, .int .u8 0, .int .u8 255, .int .u8 255] rfl (by simp [maxLen]) rfl (Nat.le_refl _)
   have x8 := hx7.up bz
   have z8 : ([0, 0, 255, 255] : List UInt8).length + t.length ≤ 140737488355328 := by simp; omega
   clear hx7
   go_wp2_with (at_builtin; refine wpList_appB bytesT rfl (.tmp 84) (.tmp 85) rfl rfl o8 rfl x8 z8 bz.size ?_; intro v9 w9 o9 g9 _; have b9 := bz.grown g9 bz.size o8.ge; have O9 := Lib.hid o9; have B9 := Lib.hid b9; clear o9 g9 b9)
   rw [HJ.out] at O9
   have hdk9 : DkAt w9 w1.heap.size (.pointer (some ⟨db, 0, none⟩)) 60000 (filesOf o) db' mb' L7 := ⟨HDK.out.at_.below B9.out, HDK.out.fil, HDK.out.cap_le, HDK.out.len_le, Nat.le_trans HDK.out.hB B9.out.size⟩
   have hx9 := O9.out.rdS (S := fp db' mb' L7) HLT.out
   have HZ9 := Lib.hid (HZ7.out.bel B9.out)
   have HW9 := Lib.hid (bwstep hw7 B9.out)
   clear o8 x8 z8 bz HJ O9 B9 HDK HZ7 HLT hw7
   refine (hdk9.append (FilAt.of o) hx9 (by simp; omega)).mono ?_
   rintro e w10 ⟨E, M10, rfl, ⟨L10, hdk10, hp10, hs10⟩, hE⟩
   obtain ⟨⟨o1, hf1⟩, hcr⟩ := torn_ends HWF.out (by omega) hE
   have HZ10 := Lib.hid (HZ9.out.up hp10 hs10)
   have HW10 := Lib.hid (HW9.out.trans (hp10.below hdk9.at_.ge hdk9.hB))
   clear hE hdk9 hx9 hp10 hs10 HZ9 HW9
   have hy10 : RdV w10 (fp db' mb' L10) (.slice Ay ks.length cy) (ks.map iv) := RdV.of_low ((HY.out.up HW.out).below HW10.out) HW10.out.size hdk10.at_.ge
   go_wp2_with fail
   refine (hdk10.crash hf1 hy10 HKS.out).mono ?_
   rintro e w11 ⟨rfl, L11, hdk11, hp11, hs11⟩
   obtain ⟨o2, R, m, hM2, hsc, hR⟩ := hcr ks
   rw [hM2] at hdk11
   have hld11 := hdk11.ld
   have HZ11 := Lib.hid (HZ10.out.up hp11 hs11)
   have HW11 := Lib.hid (HW10.out.trans (hp11.below hdk10.at_.ge hdk10.hB))
   clear hdk10 hf1 hy10 hdk11 hp11 hs11 HZ10 HW10 hcr hM2
   have hop := I.open_ hld11.at_ (by rw [hld11.fil]; exact FilAt.of o2) hld11.len_le hld11.cap_le hld11.hB hsc
   go_wp2_with fail
   refine hop.mono ?_
   rintro e w12 ⟨lb2, L12, T12, rfl, k1, k2, k3, k4, k5⟩
   have HL12 : Hid (LogAt Own w12 w1.heap.size (.pointer (some ⟨db, 0, none⟩)) 60000 (openO o2 R) lb2 g (T12 ++ fp db' mb' L12)) := Lib.hid ⟨db', mb', L12, T12, k1, by rw [← hR]; exact k2, by rw [← hR]; exact LogWf.opened hsc, fun k hk => ⟨(k3 k hk).2, Nat.le_trans hld11.hB (k3 k hk).1⟩, rfl⟩
   have HZ12 := Lib.hid ((HZ11.out.up k4 k5).less (S' := []) (by simp))
   have HW12 := Lib.hid (HW11.out.trans (k4.below hld11.at_.ge hld11.hB))
   clear hop hld11 k1 k2 k3 k4 k5 hsc hR HZ11 HW11
   have hnn : (g.most == g.most) = true := by simp
   go_wp2_with fail
   refine (I.promised HL12.out).mono ?_
   rintro e w13 ⟨rfl, hb13⟩
   have HL13 := Lib.hid (HL12.out.up I hb13)
   have HZ13 := Lib.hid (HZ12.out.bel hb13)
   have HW13 := Lib.hid (bwstep HW12.out hb13)
   clear HL12 HZ12 HW12 hb13
   go_wp2_with fail
   refine (I.votes HL13.out).mono ?_
   rintro e w14 ⟨⟨q, rfl, hq⟩, hb14⟩
   have HQ14 := Lib.hid (hq.rd (S := []) (by simp))
   have HZ14 := Lib.hid (HZ13.out.bel hb14)
   have HW14 := Lib.hid (bwstep HW13.out hb14)
   clear HL13 HZ13 HW13 hb14 hq
   go_wp2_with fail
   refine (rvsame_self _ _ _ _ HQ14.out HZ14.out HVL.out).mono ?_
   rintro e w15 ⟨rfl, hb15⟩
   have HW15 := Lib.hid (HW.out.trans ((bwstep HW14.out hb15).mono HW.out.size))
   clear HQ14 HZ14 HW14 hb15
   go_wp2_with fail
   go_ret
   exact ⟨rfl, HW15.out⟩
end Go.Proofs.YtaddbhdkgneiaaaGreat.Ce
