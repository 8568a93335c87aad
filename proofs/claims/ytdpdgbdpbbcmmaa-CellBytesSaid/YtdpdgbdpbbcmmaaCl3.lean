/- CellBytes' walk. -/
import Derived.Test.YtdpdgbdpbbcmmaaCaw
import Derived.Test.YtdpdgbdpbbcmmaaCrc
import Derived.Test.YtdpdgbdpbbcmmaaCne
namespace Go.Proofs.Ytdpdgbdpbbcmmaa
open Go.RowKit Ce

theorem Ce.bytes_no {l : List UInt8} (h : ¬ ∃ c m, Stands l c m) : rcC (l.drop 0) = Cl.zero ∧ rcN (l.drop 0) = 0 := by
  rw [List.drop_zero]
  exact rc_no fun hg => h (good_iff.1 hg)
theorem Ce.bytes_yes {l m : List UInt8} {d : Cl} (h : Stands l d m) : rcC (l.drop 0) = d ∧ rcN (l.drop 0) = (cellB d).length := by
  rw [List.drop_zero]
  exact rc_stands h
/-- two variables, and what stands behind them -/
structure BytS (w : World) (g k : Nat) (c d : Cl) (w' : World) : Prop where
  ig : InC g c w'
  ik : InC k d w'
  bel : Below w.heap.size w w'
theorem BytS.up {w : World} {g k : Nat} {c d : Cl} {x y : World} (h : BytS w g k c d x) (hb : Below x.heap.size x y) : BytS w g k c d y := ⟨h.ig.up hb, h.ik.up hb, bwstep h.bel hb⟩
set_option maxHeartbeats 8000000 in
set_option maxRecDepth 100000 in
theorem cellBytes_walk (c : Cl) (v : Value) (l : List UInt8) (w : World) (hv : Rd w w.heap.size v (l.map bv)) (hz : l.length ≤ 140737488351232) : Calls Try.prog 6 #[c.v, v] w fun e w' => e = .returned (.bool true) ∧ Below w.heap.size w w' := by
  obtain ⟨A, cp, rfl, hc, hm⟩ := hv.shapeM
  unfold maxLen at hm
  have HR := Lib.hid hv
  clear hv
  have hsa := fun w => small_any c w
  by_cases hl : l.length ≤ 2000
  · have hlb : decide (2000 < (l.length : Int)) = false := decide_eq_false (by omega)
    by_cases h1 : small c
    · rw [decide_eq_true h1] at hsa
      have hrr := fun w => rright_any c w
      clear h1
      go_enter Try.func6, Try.ntmps6
      go_wp2_with (refine boxC rfl (.tmp 0) c rfl rfl ?_)
      constructor
      intro w1 hI1 hb1 hz1
      clear hz1
      go_wp2_with fail
      refine (eawake_ok _).mono ?_
      rintro e w2 ⟨rfl, hb2⟩
      have HI2 := Lib.hid (hI1.up hb2)
      have HK2 := Lib.hid (bwstep hb1 hb2)
      clear hI1 hb1 hb2
      go_wp2_with (refine loadC rfl (.tmp 2) rfl rfl HI2.out ?_)
      refine (hsa _).mono ?_
      rintro e w3 ⟨rfl, hb3⟩
      have HI3 := Lib.hid (HI2.out.up hb3)
      have HK3 := Lib.hid (bwstep HK2.out hb3)
      clear hb3 HI2 HK2 hsa
      by_cases hok : c.ok
      · have HOK := Lib.hid hok
        rw [decide_eq_true hok] at hrr
        clear hok
        go_wp2_with (refine loadC rfl (.tmp 2) rfl rfl HI3.out ?_)
        refine (hrr _).mono ?_
        rintro e w4 ⟨rfl, hb4⟩
        have HI4 := Lib.hid (HI3.out.up hb4)
        have HK4 := Lib.hid (bwstep HK3.out hb4)
        clear hb4 HI3 HK3 hrr
        go_wp2_with (refine loadC rfl (.tmp 2) rfl rfl HI4.out ?_)
        refine (put_ok c _ HOK.out).mono ?_
        rintro e w5 ⟨⟨v5, rfl, h5⟩, hb5⟩
        have HI5 := Lib.hid (HI4.out.up hb5)
        have HK5 := Lib.hid (bwstep HK4.out hb5)
        have HP5 := Lib.hid (h5.mono HK4.out.size)
        have ba := bwalloc (bwrefl w5) (.cells #[] 5)
        have hr6 : Rd (w5.alloc (.cells #[] 5)) w5.heap.size v5 ((cellB c).map bv) := (h5.rd).below ba
        have o6 : Ow (w5.alloc (.cells #[] 5)) w5.heap.size 5 (.slice (some ⟨w5.heap.size, 0, none⟩) 0 0) (([] : List UInt8).map bv) := Ow.empty w5 (Nat.le_refl _) _
        have hcl := cellB_le HOK.out
        have z6 : ([] : List UInt8).length + (cellB c).length ≤ 140737488355328 := by simp; omega
        have z7 : (cellB c).length + l.length ≤ 140737488355328 := by omega
        have s6 := ba.size
        clear hb5 HI4 HK4 h5
        go_wp2_with (first
          | (at_builtin; refine wpList_appB bytesT rfl (.tmp 32) (.tmp 33) rfl rfl o6 rfl hr6 z6 s6 ?_; intro v7 w7 o7 g7 h7; rw [List.nil_append] at o7; have b57 := ba.grown g7 s6 o6.ge; have hr7 := HR.out.below (HK5.out.trans (b57.mono HK5.out.size)); have s7 := b57.size; clear h7 g7)
          | (at_builtin; refine wpList_appB bytesT rfl (.tmp 34) (.tmp 35) rfl rfl o7 rfl hr7 z7 s7 ?_; intro v8 w8 o8 g8 h8; have b58 := Lib.hid (b57.grown g8 s7 o7.ge); have O8 := Lib.hid o8; clear h8 g8 o8))
        clear o6 hr6 z6 z7 s6 o7 hr7 s7 b57 ba
        refine (cut_ok _ (cellB c ++ l) l c _ _ O8.out.rd (Nat.le_refl _) (by rw [List.length_append]; omega) ⟨HOK.out, rfl⟩).mono ?_
        rintro e w9 ⟨⟨v9, rfl, h9⟩, hb9⟩
        obtain ⟨A9, c9, rfl, -, -⟩ := h9.rd.shapeM
        have b59 := Lib.hid (b58.out.trans (hb9.mono b58.out.size))
        have HO9 := Lib.hid h9
        clear h9 hb9 O8
        go_wp2_with (refine allocC rfl rfl ?_)
        constructor
        intro w10 hI10 hb10 _hz10
        clear _hz10
        go_wp2_with (refine storeC (c := c) rfl (.tmp 6) (.tmp 38) rfl rfl rfl hI10 ?_)
        constructor
        intro w11 hs11
        have b511 := Lib.hid (hs11.bel (bwstep b59.out hb10) b59.out.size)
        have HI11 := Lib.hid hs11.i
        have HC11 := Lib.hid (HI5.out.up b511.out)
        have HR11 := Lib.hid (((HO9.out.rd.below (hb10.trans (hs11.b.mono (Nat.le_refl _)))).mono (Nat.le_trans hb10.size (Nat.le_of_eq hs11.z.symm))))
        have HP11 := Lib.hid ((HP5.out.below b511.out).rd)
        have HK11 := Lib.hid (HK5.out.trans (b511.out.mono HK5.out.size))
        clear hI10 hb10 hs11 b59 HO9 HP5 HK5 HI5 b58 b511
        go_wp2_with (refine loadC rfl (.tmp 2) rfl rfl HC11.out ?_)
        refine (rput_ok c _ HOK.out).mono ?_
        rintro e w12 ⟨⟨v12, rfl, h12⟩, hb12⟩
        have HI12 := Lib.hid (HI11.out.up hb12)
        have HC12 := Lib.hid (HC11.out.up hb12)
        have HR12 := Lib.hid (HR11.out.up hb12)
        have HK12 := Lib.hid (bwstep HK11.out hb12)
        have hs1 := rsame_any v5 v12 (cellB c) (cellB c) _ _ w12 (HP11.out.up hb12) h12.rd
        rw [sameB_self] at hs1
        have hs2 := rsame_any (.slice A9 l.length c9) (.slice A l.length cp) l l _ _ w12 HR12.out (HR.out.below HK12.out)
        rw [sameB_self] at hs2
        have HS2 := Lib.hid hs2
        clear hb12 HI11 HC11 HR11 HK11 HP11 h12 hs2
        go_wp2_with fail
        refine hs1.mono ?_
        rintro e w13 ⟨rfl, rfl⟩
        clear hs1
        go_wp2_with (first
          | (refine loadC rfl (.tmp 6) rfl rfl HI12.out ?_)
          | (refine loadC rfl (.tmp 2) rfl rfl HC12.out ?_)
          | (refine neC rfl (.tmp 51) (.tmp 52) _ rfl c c rfl rfl (b := false) (by simp) ?_))
        refine HS2.out.mono ?_
        rintro e w14 ⟨rfl, rfl⟩
        have HK := HK12
        clear HK12 HI12 HC12 HR12 HS2 hcl
        have hr8 := HR.out.below HK.out
        have hB8 := HK.out.size
        by_cases hst : ∃ d m, Stands l d m
        · obtain ⟨d, m, hst⟩ := hst
          have HST := Lib.hid hst
          obtain ⟨e1, e2⟩ := bytes_yes hst
          have HRC := Lib.hid (And.intro e1 e2)
          have hpos : 0 < (cellB d).length := by rw [cellB_len]; omega
          have hle : (cellB d).length ≤ l.length := by rw [hst.2, List.length_append]; omega
          have HDR : Hid (l.drop (cellB d).length = m) := Lib.hid (by rw [hst.2, List.drop_left])
          clear hst e1 e2
          generalize (cellB d).length = n at *
          have hn0 : ((n : Int) == 0) = false := by simp; omega
          have hn1 : (0 : Int) ≤ (n : Int) := by omega
          have hn2 : (n : Int) ≤ (l.length : Int) := by omega
          have hn3 : (n : Int) ≤ (cp : Int) := by omega
          go_wp2_with fail
          refine (cut_ok _ l m d w.heap.size _ hr8 hB8 (by omega) HST.out).mono ?_
          rintro e w20 ⟨⟨r, rfl, h20⟩, hb20⟩
          have HR20 := Lib.hid h20
          have HK20 := Lib.hid (bwstep HK.out hb20)
          obtain ⟨Ar, cr, rfl, -, -⟩ := h20.rd.shapeM
          clear h20 hb20 hr8 hB8
          go_wp2_with (refine allocC rfl rfl ?_)
          constructor
          intro w21 hI21 hb21 _hz21
          clear _hz21
          go_wp2_with (refine storeC (c := d) rfl (.tmp 9) (.tmp 64) rfl rfl rfl hI21 ?_)
          constructor
          intro w22 hs22
          have HK22 := Lib.hid (hs22.bel (bwstep HK20.out hb21) HK20.out.size)
          have HI22 := Lib.hid hs22.i
          have hge := hb21.size
          have HR22 : Hid (Rd w22 w22.heap.size (.slice Ar m.length cr) (m.map bv)) := Lib.hid ((((HR20.out.rd).below (hb21.trans (hs22.b.mono (Nat.le_refl _)))).mono (Nat.le_trans hge (Nat.le_of_eq hs22.z.symm))))
          clear hI21 hb21 hs22 hge
          have hrc := fun w' hr => rcut_any (.slice A l.length cp) l 0 w.heap.size w' hr
          rw [HRC.out.1, HRC.out.2] at hrc
          go_wp2_with fail
          refine (hrc _ (HR.out.below HK22.out) HK22.out.size (by omega) (by omega)).mono ?_
          rintro e w23 ⟨rfl, hb23⟩
          have HI23 := Lib.hid (HI22.out.up hb23)
          have HR23 := Lib.hid (HR22.out.up hb23)
          have HK23 := Lib.hid (bwstep HK22.out hb23)
          clear hb23 HI22 HR22 HK22 hrc
          go_wp2_with (refine allocC rfl rfl ?_)
          constructor
          intro w24 hI24 hb24 _hz24
          clear _hz24
          have hne := Nat.ne_of_lt HI23.out.lt
          go_wp2_with (refine storeC (c := d) rfl (.tmp 12) (.tmp 70) rfl rfl rfl hI24 ?_)
          constructor
          intro w25 hs25
          have HB25 : Hid (BytS w w20.heap.size w23.heap.size d d w25) := Lib.hid ⟨hs25.up (HI23.out.up hb24) hne, hs25.i, hs25.bel (bwstep HK23.out hb24) HK23.out.size⟩
          have HR25 := Lib.hid (((HR23.out.below (hb24.trans (hs25.b.mono (Nat.le_refl _)))).mono (Nat.le_trans hb24.size (Nat.le_of_eq hs25.z.symm))))
          clear hI24 hb24 hs25 hne HI23 HR23 HK23
          have hb25 := HB25.out.bel
          by_cases hcn : cp = n
          · have hln : l.length = n := by omega
            have hm0 : m = [] := by rw [← HDR.out, List.drop_eq_nil_of_le (by omega)]
            have hsame := fun w => rsame_any (.slice Ar m.length cr) (.slice A 0 0) m m w25.heap.size w25.heap.size w
            rw [sameB_self] at hsame
            have hsv := hsame w25 HR25.out ⟨A, 0, by rw [hm0]; rfl, by rw [hm0]; exact Nat.le_refl _, by simp [maxLen], fun h => by rw [hm0] at h; exact absurd h (by simp)⟩
            clear hsame hb25 hm0
            subst hcn
            rw [hln] at *
            go_wp2_with (first
              | (refine loadC rfl (.tmp 9) rfl rfl HB25.out.ig ?_)
              | (refine loadC rfl (.tmp 12) rfl rfl HB25.out.ik ?_)
              | (refine eqC rfl (.tmp 88) (.tmp 89) _ rfl d d rfl rfl (decide_eq_true rfl) ?_))
            refine hsv.mono ?_
            rintro e w26 ⟨rfl, rfl⟩
            go_wp2_with fail
            go_ret
            exact ⟨rfl, HB25.out.bel⟩
          · have hrd := (HR.out.below hb25).from_ hle hcn
            rw [← List.map_drop, HDR.out] at hrd
            have hml : l.length - n = m.length := by rw [← HDR.out, List.length_drop]
            have hsame := rsame_any (.slice Ar m.length cr) _ m m w25.heap.size w.heap.size w25 HR25.out hrd
            rw [sameB_self] at hsame
            have HSM := Lib.hid hsame
            clear hrd hml hb25 hsame
            go_wp2_with (first
              | (refine loadC rfl (.tmp 9) rfl rfl HB25.out.ig ?_)
              | (refine loadC rfl (.tmp 12) rfl rfl HB25.out.ik ?_)
              | (refine eqC rfl (.tmp 88) (.tmp 89) _ rfl d d rfl rfl (decide_eq_true rfl) ?_))
            refine HSM.out.mono ?_
            rintro e w26 ⟨rfl, rfl⟩
            go_wp2_with fail
            go_ret
            exact ⟨rfl, HB25.out.bel⟩
        · obtain ⟨e1, e2⟩ := bytes_no hst
          have HRC := Lib.hid (And.intro e1 e2)
          clear e1 e2
          go_wp2_with fail
          refine (cut_no _ l w.heap.size _ hr8 hB8 (by omega) hst).mono ?_
          rintro e w20 ⟨rfl, hb20⟩
          have HK20 := Lib.hid (bwstep HK.out hb20)
          clear hb20 hr8 hB8 hst
          go_wp2_with (refine allocC rfl rfl ?_)
          constructor
          intro w21 hI21 hb21 _hz21
          clear _hz21
          go_wp2_with (refine storeC (c := Cl.zero) rfl (.tmp 9) (.tmp 64) rfl rfl rfl hI21 ?_)
          constructor
          intro w22 hs22
          have HK22 := Lib.hid (hs22.bel (bwstep HK20.out hb21) HK20.out.size)
          have HI22 := Lib.hid hs22.i
          clear hI21 hb21 hs22
          have hrc := fun w' hr => rcut_any (.slice A l.length cp) l 0 w.heap.size w' hr
          rw [HRC.out.1, HRC.out.2] at hrc
          go_wp2_with fail
          refine (hrc _ (HR.out.below HK22.out) HK22.out.size (by omega) (by omega)).mono ?_
          rintro e w23 ⟨rfl, hb23⟩
          have HI23 := Lib.hid (HI22.out.up hb23)
          have HK23 := Lib.hid (bwstep HK22.out hb23)
          clear hb23 HI22 HK22 hrc
          go_wp2_with (refine allocC rfl rfl ?_)
          constructor
          intro w24 hI24 hb24 _hz24
          clear _hz24
          have hne := Nat.ne_of_lt HI23.out.lt
          go_wp2_with (refine storeC (c := Cl.zero) rfl (.tmp 12) (.tmp 70) rfl rfl rfl hI24 ?_)
          constructor
          intro w25 hs25
          have HB25 : Hid (BytS w w20.heap.size w23.heap.size Cl.zero Cl.zero w25) := Lib.hid ⟨hs25.up (HI23.out.up hb24) hne, hs25.i, hs25.bel (bwstep HK23.out hb24) HK23.out.size⟩
          clear hI24 hb24 hs25 hne HI23 HK23
          go_wp2_with (first
            | (refine loadC rfl (.tmp 9) rfl rfl HB25.out.ig ?_)
            | (refine eqC rfl (.tmp 77) (.tmp 78) _ rfl Cl.zero Cl.zero rfl rfl (decide_eq_true rfl) ?_))
          go_ret
          exact ⟨rfl, HB25.out.bel⟩
      · rw [decide_eq_false hok] at hrr
        clear hok
        go_wp2_with (refine loadC rfl (.tmp 2) rfl rfl HI3.out ?_)
        refine (hrr _).mono ?_
        rintro e w4 ⟨rfl, hb4⟩
        have HK := Lib.hid (bwstep HK3.out hb4)
        clear hb4 HI3 HK3 hrr
        have hr8 := HR.out.below HK.out
        have hB8 := HK.out.size
        by_cases hst : ∃ d m, Stands l d m
        · obtain ⟨d, m, hst⟩ := hst
          have HST := Lib.hid hst
          obtain ⟨e1, e2⟩ := bytes_yes hst
          have HRC := Lib.hid (And.intro e1 e2)
          have hpos : 0 < (cellB d).length := by rw [cellB_len]; omega
          have hle : (cellB d).length ≤ l.length := by rw [hst.2, List.length_append]; omega
          have HDR : Hid (l.drop (cellB d).length = m) := Lib.hid (by rw [hst.2, List.drop_left])
          clear hst e1 e2
          generalize (cellB d).length = n at *
          have hn0 : ((n : Int) == 0) = false := by simp; omega
          have hn1 : (0 : Int) ≤ (n : Int) := by omega
          have hn2 : (n : Int) ≤ (l.length : Int) := by omega
          have hn3 : (n : Int) ≤ (cp : Int) := by omega
          go_wp2_with fail
          refine (cut_ok _ l m d w.heap.size _ hr8 hB8 (by omega) HST.out).mono ?_
          rintro e w20 ⟨⟨r, rfl, h20⟩, hb20⟩
          have HR20 := Lib.hid h20
          have HK20 := Lib.hid (bwstep HK.out hb20)
          obtain ⟨Ar, cr, rfl, -, -⟩ := h20.rd.shapeM
          clear h20 hb20 hr8 hB8
          go_wp2_with (refine allocC rfl rfl ?_)
          constructor
          intro w21 hI21 hb21 _hz21
          clear _hz21
          go_wp2_with (refine storeC (c := d) rfl (.tmp 9) (.tmp 64) rfl rfl rfl hI21 ?_)
          constructor
          intro w22 hs22
          have HK22 := Lib.hid (hs22.bel (bwstep HK20.out hb21) HK20.out.size)
          have HI22 := Lib.hid hs22.i
          have hge := hb21.size
          have HR22 : Hid (Rd w22 w22.heap.size (.slice Ar m.length cr) (m.map bv)) := Lib.hid ((((HR20.out.rd).below (hb21.trans (hs22.b.mono (Nat.le_refl _)))).mono (Nat.le_trans hge (Nat.le_of_eq hs22.z.symm))))
          clear hI21 hb21 hs22 hge
          have hrc := fun w' hr => rcut_any (.slice A l.length cp) l 0 w.heap.size w' hr
          rw [HRC.out.1, HRC.out.2] at hrc
          go_wp2_with fail
          refine (hrc _ (HR.out.below HK22.out) HK22.out.size (by omega) (by omega)).mono ?_
          rintro e w23 ⟨rfl, hb23⟩
          have HI23 := Lib.hid (HI22.out.up hb23)
          have HR23 := Lib.hid (HR22.out.up hb23)
          have HK23 := Lib.hid (bwstep HK22.out hb23)
          clear hb23 HI22 HR22 HK22 hrc
          go_wp2_with (refine allocC rfl rfl ?_)
          constructor
          intro w24 hI24 hb24 _hz24
          clear _hz24
          have hne := Nat.ne_of_lt HI23.out.lt
          go_wp2_with (refine storeC (c := d) rfl (.tmp 12) (.tmp 70) rfl rfl rfl hI24 ?_)
          constructor
          intro w25 hs25
          have HB25 : Hid (BytS w w20.heap.size w23.heap.size d d w25) := Lib.hid ⟨hs25.up (HI23.out.up hb24) hne, hs25.i, hs25.bel (bwstep HK23.out hb24) HK23.out.size⟩
          have HR25 := Lib.hid (((HR23.out.below (hb24.trans (hs25.b.mono (Nat.le_refl _)))).mono (Nat.le_trans hb24.size (Nat.le_of_eq hs25.z.symm))))
          clear hI24 hb24 hs25 hne HI23 HR23 HK23
          have hb25 := HB25.out.bel
          by_cases hcn : cp = n
          · have hln : l.length = n := by omega
            have hm0 : m = [] := by rw [← HDR.out, List.drop_eq_nil_of_le (by omega)]
            have hsame := fun w => rsame_any (.slice Ar m.length cr) (.slice A 0 0) m m w25.heap.size w25.heap.size w
            rw [sameB_self] at hsame
            have hsv := hsame w25 HR25.out ⟨A, 0, by rw [hm0]; rfl, by rw [hm0]; exact Nat.le_refl _, by simp [maxLen], fun h => by rw [hm0] at h; exact absurd h (by simp)⟩
            clear hsame hb25 hm0
            subst hcn
            rw [hln] at *
            go_wp2_with (first
              | (refine loadC rfl (.tmp 9) rfl rfl HB25.out.ig ?_)
              | (refine loadC rfl (.tmp 12) rfl rfl HB25.out.ik ?_)
              | (refine eqC rfl (.tmp 88) (.tmp 89) _ rfl d d rfl rfl (decide_eq_true rfl) ?_))
            refine hsv.mono ?_
            rintro e w26 ⟨rfl, rfl⟩
            go_wp2_with fail
            go_ret
            exact ⟨rfl, HB25.out.bel⟩
          · have hrd := (HR.out.below hb25).from_ hle hcn
            rw [← List.map_drop, HDR.out] at hrd
            have hml : l.length - n = m.length := by rw [← HDR.out, List.length_drop]
            have hsame := rsame_any (.slice Ar m.length cr) _ m m w25.heap.size w.heap.size w25 HR25.out hrd
            rw [sameB_self] at hsame
            have HSM := Lib.hid hsame
            clear hrd hml hb25 hsame
            go_wp2_with (first
              | (refine loadC rfl (.tmp 9) rfl rfl HB25.out.ig ?_)
              | (refine loadC rfl (.tmp 12) rfl rfl HB25.out.ik ?_)
              | (refine eqC rfl (.tmp 88) (.tmp 89) _ rfl d d rfl rfl (decide_eq_true rfl) ?_))
            refine HSM.out.mono ?_
            rintro e w26 ⟨rfl, rfl⟩
            go_wp2_with fail
            go_ret
            exact ⟨rfl, HB25.out.bel⟩
        · obtain ⟨e1, e2⟩ := bytes_no hst
          have HRC := Lib.hid (And.intro e1 e2)
          clear e1 e2
          go_wp2_with fail
          refine (cut_no _ l w.heap.size _ hr8 hB8 (by omega) hst).mono ?_
          rintro e w20 ⟨rfl, hb20⟩
          have HK20 := Lib.hid (bwstep HK.out hb20)
          clear hb20 hr8 hB8 hst
          go_wp2_with (refine allocC rfl rfl ?_)
          constructor
          intro w21 hI21 hb21 _hz21
          clear _hz21
          go_wp2_with (refine storeC (c := Cl.zero) rfl (.tmp 9) (.tmp 64) rfl rfl rfl hI21 ?_)
          constructor
          intro w22 hs22
          have HK22 := Lib.hid (hs22.bel (bwstep HK20.out hb21) HK20.out.size)
          have HI22 := Lib.hid hs22.i
          clear hI21 hb21 hs22
          have hrc := fun w' hr => rcut_any (.slice A l.length cp) l 0 w.heap.size w' hr
          rw [HRC.out.1, HRC.out.2] at hrc
          go_wp2_with fail
          refine (hrc _ (HR.out.below HK22.out) HK22.out.size (by omega) (by omega)).mono ?_
          rintro e w23 ⟨rfl, hb23⟩
          have HI23 := Lib.hid (HI22.out.up hb23)
          have HK23 := Lib.hid (bwstep HK22.out hb23)
          clear hb23 HI22 HK22 hrc
          go_wp2_with (refine allocC rfl rfl ?_)
          constructor
          intro w24 hI24 hb24 _hz24
          clear _hz24
          have hne := Nat.ne_of_lt HI23.out.lt
          go_wp2_with (refine storeC (c := Cl.zero) rfl (.tmp 12) (.tmp 70) rfl rfl rfl hI24 ?_)
          constructor
          intro w25 hs25
          have HB25 : Hid (BytS w w20.heap.size w23.heap.size Cl.zero Cl.zero w25) := Lib.hid ⟨hs25.up (HI23.out.up hb24) hne, hs25.i, hs25.bel (bwstep HK23.out hb24) HK23.out.size⟩
          clear hI24 hb24 hs25 hne HI23 HK23
          go_wp2_with (first
            | (refine loadC rfl (.tmp 9) rfl rfl HB25.out.ig ?_)
            | (refine eqC rfl (.tmp 77) (.tmp 78) _ rfl Cl.zero Cl.zero rfl rfl (decide_eq_true rfl) ?_))
          go_ret
          exact ⟨rfl, HB25.out.bel⟩
    · rw [decide_eq_false h1] at hsa
      clear h1
      go_enter Try.func6, Try.ntmps6
      go_wp2_with (refine boxC rfl (.tmp 0) c rfl rfl ?_)
      constructor
      intro w1 hI1 hb1 hz1
      clear hz1
      go_wp2_with fail
      refine (eawake_ok _).mono ?_
      rintro e w2 ⟨rfl, hb2⟩
      have HI2 := Lib.hid (hI1.up hb2)
      have HK2 := Lib.hid (bwstep hb1 hb2)
      clear hI1 hb1 hb2
      go_wp2_with (refine loadC rfl (.tmp 2) rfl rfl HI2.out ?_)
      refine (hsa _).mono ?_
      rintro e w3 ⟨rfl, hb3⟩
      have HI3 := Lib.hid (HI2.out.up hb3)
      have HK3 := Lib.hid (bwstep HK2.out hb3)
      clear hb3 HI2 HK2 hsa
      go_wp2_with fail
      refine (eawake_ok _).mono ?_
      rintro e w9 ⟨rfl, hb9⟩
      have H9 := Lib.hid (bwstep HK3.out hb9)
      clear hb9
      go_wp2_with fail
      go_ret
      exact ⟨rfl, H9.out⟩
  · have hl' : decide (2000 < (l.length : Int)) = true := decide_eq_true (by omega)
    clear hl
    go_enter Try.func6, Try.ntmps6
    go_wp2_with (refine boxC rfl (.tmp 0) c rfl rfl ?_)
    constructor
    intro w1 hI1 hb1 hz1
    clear hz1
    go_wp2_with fail
    refine (eawake_ok _).mono ?_
    rintro e w2 ⟨rfl, hb2⟩
    have HI2 := Lib.hid (hI1.up hb2)
    have HK2 := Lib.hid (bwstep hb1 hb2)
    clear hI1 hb1 hb2
    go_wp2_with fail
    refine (eawake_ok _).mono ?_
    rintro e w9 ⟨rfl, hb9⟩
    have H9 := Lib.hid (bwstep HK2.out hb9)
    clear hb9
    go_wp2_with fail
    go_ret
    exact ⟨rfl, H9.out⟩
end Go.Proofs.Ytdpdgbdpbbcmmaa
