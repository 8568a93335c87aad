/- The contract of the reference's Cut of layer 8. -/
import Derived.Test.YtpflcnndloielaaCcut
import Derived.Test.YtpflcnndloielaaCrb
namespace Go.Proofs.Ytpflcnndloielaa.Ce
open Go.RowKit

def Good (D : List UInt8) : Prop := spOk D = true ∧ (spC D).ok
noncomputable def rcC (D : List UInt8) : Cl := @ite _ (Good D) (Classical.propDecidable _) (spC D) Cl.zero
noncomputable def rcN (D : List UInt8) : Nat := @ite _ (Good D) (Classical.propDecidable _) (cellB (spC D)).length 0
theorem rc_no {D : List UInt8} (h : ¬ Good D) : rcC D = Cl.zero ∧ rcN D = 0 := by unfold rcC rcN; rw [if_neg h, if_neg h]; exact ⟨rfl, rfl⟩
theorem rc_yes {D : List UInt8} (h : Good D) : rcC D = spC D ∧ rcN D = (cellB (spC D)).length := by unfold rcC rcN; rw [if_pos h, if_pos h]; exact ⟨rfl, rfl⟩
theorem good_iff {D : List UInt8} : Good D ↔ ∃ c m, Stands D c m := stands_iff.symm
theorem rc_stands {D m : List UInt8} {c : Cl} (h : Stands D c m) : rcC D = c ∧ rcN D = (cellB c).length := by
  have hg := good_iff.2 ⟨c, m, h⟩
  obtain ⟨h1, h2⟩ := rc_yes hg
  obtain ⟨-, h3, -⟩ := split_of h.1 m
  rw [← h.2] at h3
  rw [h3] at h1 h2
  exact ⟨h1, h2⟩
/-! the parts of what stands at a place -/
theorem ok_size {D : List UInt8} (h : textOk D) : textSize D = 4 + numOf D ∧ textThere D = ⟨(textOf D).toArray⟩ ∧ D.drop (textSize D) = textRest D ∧ 4 ≤ textSize D ∧ textSize D ≤ D.length ∧ ctOk D = true ∧ ctS D = textThere D ∧ ctR D = textRest D ∧ (textThere D).size + 4 = textSize D := by
  have h1 := ctOk_iff.2 h
  have hlen : (textOf D).length = numOf D := by unfold textOf; have := h.2; simp; omega
  have hsz : (⟨(textOf D).toArray⟩ : ByteArray).size = numOf D := by rw [← hlen]; rfl
  unfold textSize textThere ctS ctR
  rw [if_pos h, if_pos h, if_pos h1, if_pos h1]
  have h4 := h.1
  have h5 := h.2
  refine ⟨rfl, rfl, ?_, by omega, by omega, h1, rfl, rfl, by omega⟩
  unfold textRest
  rw [List.drop_drop]
theorem no_size {D : List UInt8} (h : ¬ textOk D) : textSize D = 0 ∧ ctOk D = false := by
  refine ⟨by unfold textSize; rw [if_neg h], ?_⟩
  cases hq : ctOk D with
  | true => exact absurd (ctOk_iff.1 hq) h
  | false => rfl
theorem ctR_no {D : List UInt8} (h : ctOk D = false) : ctR D = [] := by unfold ctR; rw [h]; simp
theorem not_good {D : List UInt8} (h : sp4 D = []) : ¬ Good D := fun hg => by
  have h1 : ctOk (sp4 D) = true := hg.1
  rw [h, ctOk_nil] at h1
  cases h1
set_option maxHeartbeats 4000000 in
set_option maxRecDepth 100000 in
theorem rcut_any (x : Value) (l : List UInt8) (at_ B : Nat) (w : World) (hr : Rd w B x (l.map bv)) (hB : B ≤ w.heap.size) (hl : l.length ≤ 1000000000) (ha : at_ ≤ 1000000000) :
    Calls Try.prog 35 #[x, .int .i64 (at_ : Int)] w fun e w' => e = .returned (.tuple #[(rcC (l.drop at_)).v, .int .i64 (rcN (l.drop at_) : Int)]) ∧ Below w.heap.size w w' := by
  obtain ⟨A, cp, rfl, hc, hm⟩ := hr.shapeM
  unfold maxLen at hm
  go_enter Try.func35, Try.ntmps35
  go_wp2_with (refine allocC rfl rfl ?_)
  constructor
  intro w0 hI0 hb0 hz0
  have hr := hr.below (hb0.mono hB)
  have hB0 : B ≤ w0.heap.size := by omega
  have HB0 := Lib.hid hb0
  clear hz0 hb0
  go_wp2_with fail
  refine (rtextAt_any _ l at_ B _ hB0 hr (by omega) (by omega)).mono ?_
  rintro e w1 ⟨rfl, hb1⟩
  have hI1 := hI0.up hb1
  have hr := hr.below (hb1.mono hB0)
  have hB1 := Nat.le_trans hB0 hb1.size
  have HB1 := Lib.hid (bwstep HB0.out hb1)
  clear hb1 hI0 HB0
  by_cases h0 : textOk (l.drop at_)
  · obtain ⟨a1, a2, a3, a4, a5, a6, a7, a8, a9⟩ := ok_size h0
    rw [List.drop_drop] at a3
    rw [List.length_drop] at a5
    have e1 : sp1 (l.drop at_) = l.drop (at_ + textSize (l.drop at_)) := a8.trans a3.symm
    have E1 := Lib.hid e1
    have A9 := Lib.hid a9
    have A7 := Lib.hid a7
    clear a1 a2 a3 a6 a7 a8 h0 e1 a9
    generalize textSize (l.drop at_) = n at *
    generalize textThere (l.drop at_) = s0 at *
    have hn0 : ¬ (n : Int) = 0 := by omega
    go_wp2_with fail
    refine (rtextAt_any _ l (at_ + n) B _ hB1 hr (by omega) (by omega)).mono ?_
    rintro e w2 ⟨rfl, hb2⟩
    have hI2 := hI1.up hb2
    have hr := hr.below (hb2.mono hB1)
    have hB2 := Nat.le_trans hB1 hb2.size
    have HB2 := Lib.hid (bwstep HB1.out hb2)
    clear hb2 hI1 HB1
    by_cases h1 : textOk (l.drop (at_ + n))
    · obtain ⟨a1, a2, a3, a4', a5', a6, a7, a8, a9⟩ := ok_size h1
      rw [List.drop_drop] at a3
      rw [List.length_drop] at a5'
      have e2 : sp2 (l.drop at_) = l.drop (at_ + n + textSize (l.drop (at_ + n))) := by unfold sp2; rw [E1.out]; exact a8.trans a3.symm
      have E2 := Lib.hid e2
      have B9 := Lib.hid a9
      have B7 : Hid (ctS (sp1 (l.drop at_)) = textThere (l.drop (at_ + n))) := Lib.hid (by rw [E1.out]; exact a7)
      clear a1 a2 a3 a6 a7 a8 h1 e2 a9
      generalize textSize (l.drop (at_ + n)) = m at *
      generalize textThere (l.drop (at_ + n)) = s1 at *
      have hm0 : ¬ (m : Int) = 0 := by omega
      have hk1 : at_ + n + m ≤ l.length := by omega
      by_cases h2 : at_ + n + m + 4 ≤ l.length
      · have hcn : cnN (sp2 (l.drop at_)) = numOf (l.drop (at_ + n + m)) ∧ cnR (sp2 (l.drop at_)) = l.drop (at_ + n + m + 4) := by
          rw [E2.out]
          unfold cnN cnR
          rw [List.length_drop, if_pos (by omega), if_pos (by omega), List.drop_drop]
          exact ⟨rfl, rfl⟩
        have HCN := Lib.hid hcn
        have hlt := numOf_lt (l.drop (at_ + n + m))
        clear hcn
        obtain ⟨k, hk⟩ : ∃ k, k = at_ + n + m := ⟨_, rfl⟩
        rw [← hk] at HCN hlt h2 hk1
        have hki : (at_ : Int) + (n : Int) + (m : Int) = (k : Int) := by omega
        have hrat := fun v B w hr => rat_ok v l k B w hr h2 (by omega)
        generalize numOf (l.drop k) = t at *
        have ht0 : ¬ (t : Int) < 0 := by omega
        have E2k : Hid (sp2 (l.drop at_) = l.drop k) := Lib.hid (by rw [hk]; exact E2.out)
        have HK := Lib.hid hk
        clear hk E2
        go_wp2_with fail
        refine (hrat _ _ _ hr).mono ?_
        rintro e w3 ⟨rfl, hb3⟩
        have hI3 := hI2.up hb3
        have hr := hr.below (hb3.mono hB2)
        have hB3 := Nat.le_trans hB2 hb3.size
        have HB3 := Lib.hid (bwstep HB2.out hb3)
        clear hb3 hI2 HB2 hrat
        by_cases h3 : k + 4 < l.length
        · obtain ⟨b, off, rfl, hbB, hcell⟩ := hr.cellM (by omega)
          have c4 := hcell (k + 4) h3
          have hd : l.drop (k + 4) = l[k + 4] :: l.drop (k + 5) := List.drop_eq_getElem_cons h3
          have HD := Lib.hid hd
          clear hd hcell
          generalize l[k + 4] = f at *
          unfold bv at c4
          have hf8 := f.toNat_lt
          have h3' : ¬ ((l.length : Int) ≤ (k : Int) + 4) := by omega
          have h3n : ¬ (l.length ≤ k + 4) := by omega
          by_cases hf : (f.toNat : Int) ≤ 1
          · have hfb : decide (1 < (f.toNat : Int)) = false := by simp; omega
            have e4 : sp4 (l.drop at_) = l.drop (k + 5) ∧ cfB (sp3 (l.drop at_)) = ((f.toNat : Int) == 1) := by
              unfold sp4 sp3
              rw [HCN.out.2, HD.out]
              refine ⟨by show (if f.toNat ≤ 1 then l.drop (k + 5) else []) = _; rw [if_pos (by omega)], ?_⟩
              show decide (f.toNat = 1) = _
              rw [Bool.eq_iff_iff]
              simp
              omega
            have E4 := Lib.hid e4
            clear e4 HD
            go_wp2_with fail
            refine (rtextAt_any _ l (k + 5) B _ hB3 hr (by omega) (by omega)).mono ?_
            rintro e w4 ⟨rfl, hb4⟩
            have hI4 := hI3.up hb4
            have hr := hr.below (hb4.mono hB3)
            have hB4 := Nat.le_trans hB3 hb4.size
            have HB4 := Lib.hid (bwstep HB3.out hb4)
            have c4 := (hb4.cell (p := ⟨b, off + (k + 4), none⟩) (by show b < _; omega)).trans c4
            clear hb4 hI3 HB3
            obtain ⟨q, hq⟩ : ∃ q, q = textSize (l.drop (k + 5)) := ⟨_, rfl⟩
            obtain ⟨s2, hs2⟩ : ∃ s2, s2 = textThere (l.drop (k + 5)) := ⟨_, rfl⟩
            have hql : q ≤ 5000000000 := by
              rw [hq]
              unfold textSize
              have := numOf_lt (l.drop (k + 5))
              split
              · omega
              · omega
            rw [← hq, ← hs2]
            have HQ := Lib.hid hq
            have HS2 := Lib.hid hs2
            clear hq hs2
            obtain ⟨cc, hcc⟩ : ∃ cc : Cl, cc = ⟨s0, s1, (t : Int), s2, ((f.toNat : Int) == 1)⟩ := ⟨_, rfl⟩
            have HCC := Lib.hid hcc
            have hccv : (Value.agg #[.string s0, .string s1, .int .i64 (t : Int), .string s2, .bool ((f.toNat : Int) == 1)]) = cc.v := by rw [hcc]; rfl
            have HV := Lib.hid hccv
            clear hcc hccv
            go_wp2_with (refine allocC rfl rfl ?_)
            constructor
            intro w5 hI5 hb5 hz5
            have hlt := hI4.lt
            have hI4 := hI4.up hb5
            have hne : w4.heap.size ≠ w.heap.size := by omega
            have HB5 := Lib.hid (bwstep HB4.out hb5)
            clear hb5 hz5 c4
            go_wp2_with (refine storeC (c := cc) rfl (.tmp 14) (.tmp 78) rfl rfl HV.out hI5 ?_)
            constructor
            intro w6 hs6
            have HC6 := Lib.hid (CutS.mk (hs6.up hI4 hne.symm) hs6.i hne (Nat.le_refl _) (hs6.bel HB5.out HB4.out.size))
            clear hs6 hI4 hI5
            by_cases h4 : textOk (l.drop (k + 5))
            · obtain ⟨b1, b2, b3, b4, b5, b6, b7, b8, b9⟩ := ok_size h4
              have hq0 : ¬ (q : Int) = 0 := by rw [HQ.out]; omega
              have hqb : ((q : Int) == 0) = false := by simpa using hq0
              have hsp : spC (l.drop at_) = cc := by
                unfold spC
                rw [HCC.out, A7.out, B7.out, E4.out.1, E4.out.2, b7, ← HS2.out, HCN.out.1]
              have hso : spOk (l.drop at_) = true := by unfold spOk; rw [E4.out.1]; exact b6
              have hsz : s2.size + 4 = q := by rw [HQ.out, HS2.out]; exact b9
              have HSP := Lib.hid hsp
              have HSO := Lib.hid hso
              have HSZ := Lib.hid hsz
              clear b1 b2 b3 b4 b5 b6 b7 b8 b9 hsp hso hsz h4
              have hr2 := fun w => rright_any cc w
              by_cases hok : cc.ok
              · rw [decide_eq_true hok] at hr2
                go_wp2_with (refine loadC rfl (.tmp 14) rfl rfl HC6.out.ik ?_)
                refine (hr2 _).mono ?_
                rintro e w7 ⟨rfl, hb7⟩
                have HC7 := Lib.hid (HC6.out.up hb7)
                clear hb7 HC6 hr2
                go_wp2_with (first
                  | (refine loadC rfl (.tmp 14) rfl rfl HC7.out.ik ?_)
                  | (refine storeC (c := cc) rfl (.tmp 4) (.tmp 87) rfl rfl rfl HC7.out.ig ?_))
                constructor
                intro w9 hs9
                have HS := Lib.hid hs9
                clear hs9
                go_wp2_with fail
                refine bodyPost_ret (res2 Try.results35 rfl HS.out.i) rfl ⟨?_, HS.out.bel HC7.out.bel (Nat.le_refl _)⟩
                have hg : Good (l.drop at_) := ⟨HSO.out, by rw [HSP.out]; exact hok⟩
                rw [(rc_yes hg).1, (rc_yes hg).2, HSP.out]
                refine ret2 rfl ?_
                have hl4 := cellB_len cc
                have p1 := A9.out
                have p2 := B9.out
                have p3 := HSZ.out
                have r1 : cc.row = s0 := by rw [HCC.out]
                have r2 : cc.col = s1 := by rw [HCC.out]
                have r3 : cc.val = s2 := by rw [HCC.out]
                rw [r1, r2, r3] at hl4
                show Value.int .i64 _ = Value.int .i64 _
                exact vi (by omega)
              · have HG := Lib.hid (rc_no (D := l.drop at_) (fun hg => hok (by rw [← HSP.out]; exact hg.2)))
                rw [decide_eq_false hok] at hr2
                go_wp2_with (refine loadC rfl (.tmp 14) rfl rfl HC6.out.ik ?_)
                refine (hr2 _).mono ?_
                rintro e w7 ⟨rfl, hb7⟩
                have HC7 := Lib.hid (HC6.out.up hb7)
                clear hb7 HC6 hr2
                go_wp2_with (refine storeC (c := Cl.zero) rfl (.tmp 4) (.tmp 86) rfl rfl rfl HC7.out.ig ?_)
                constructor
                intro w9 hs9
                have HS := Lib.hid hs9
                clear hs9
                go_wp2_with fail
                exact bodyPost_ret (res2 Try.results35 rfl HS.out.i) rfl ⟨by rw [HG.out.1, HG.out.2]; rfl, HS.out.bel HC7.out.bel (Nat.le_refl _)⟩
            · obtain ⟨b1, b2⟩ := no_size h4
              have HG := Lib.hid (rc_no (D := l.drop at_) (fun hg => by
                have := hg.1
                unfold spOk at this
                rw [E4.out.1, b2] at this
                cases this))
              have hq0 : (q : Int) = 0 := by rw [HQ.out, b1]; rfl
              clear b1 b2 h4
              obtain rfl : q = 0 := by omega
              clear hq0
              go_wp2_with (refine storeC (c := Cl.zero) rfl (.tmp 4) (.tmp 86) rfl rfl rfl HC6.out.ig ?_)
              constructor
              intro w9 hs9
              have HS := Lib.hid hs9
              clear hs9
              go_wp2_with fail
              exact bodyPost_ret (res2 Try.results35 rfl HS.out.i) rfl ⟨by rw [HG.out.1, HG.out.2]; rfl, HS.out.bel HC6.out.bel (Nat.le_refl _)⟩
          · have HG := Lib.hid (rc_no (not_good (D := l.drop at_) (by unfold sp4 sp3; rw [HCN.out.2, HD.out]; show (if f.toNat ≤ 1 then l.drop (k + 5) else []) = _; rw [if_neg (by omega)])))
            have hfb : decide (1 < (f.toNat : Int)) = true := by simp; omega
            go_wp2_with (refine storeC (c := Cl.zero) rfl (.tmp 4) (.tmp 60) rfl rfl rfl hI3 ?_)
            constructor
            intro w9 hs9
            have HS := Lib.hid hs9
            clear hs9
            go_wp2_with fail
            exact bodyPost_ret (res2 Try.results35 rfl HS.out.i) rfl ⟨by rw [HG.out.1, HG.out.2]; rfl, HS.out.bel HB3.out (Nat.le_refl _)⟩
        · have hd : l.drop (k + 4) = [] := List.drop_eq_nil_of_le (by omega)
          have HG := Lib.hid (rc_no (not_good (D := l.drop at_) (by unfold sp4 sp3; rw [HCN.out.2, hd]; rfl)))
          have h3' : ((l.length : Int) ≤ (k : Int) + 4) := by omega
          clear hd h3
          go_wp2_with (refine storeC (c := Cl.zero) rfl (.tmp 4) (.tmp 60) rfl rfl rfl hI3 ?_)
          constructor
          intro w9 hs9
          have HS := Lib.hid hs9
          clear hs9
          go_wp2_with fail
          exact bodyPost_ret (res2 Try.results35 rfl HS.out.i) rfl ⟨by rw [HG.out.1, HG.out.2]; rfl, HS.out.bel HB3.out (Nat.le_refl _)⟩
      · have hng : ¬ Good (l.drop at_) := not_good (by
          unfold sp4 sp3
          rw [E2.out]
          unfold cnR
          rw [List.length_drop, if_neg (by omega)]
          rfl)
        have HG := Lib.hid (rc_no hng)
        obtain ⟨k, hk⟩ : ∃ k, k = at_ + n + m := ⟨_, rfl⟩
        have hki : (at_ : Int) + (n : Int) + (m : Int) = (k : Int) := by omega
        have hrat := fun v B w hr => rat_no v l k B w hr (by omega) (by omega)
        clear hng h2 hk
        go_wp2_with fail
        refine (hrat _ _ _ hr).mono ?_
        rintro e w3 ⟨rfl, rfl⟩
        go_wp2_with (refine storeC (c := Cl.zero) rfl (.tmp 4) (.tmp 60) rfl rfl rfl hI2 ?_)
        constructor
        intro w9 hs9
        have HS := Lib.hid hs9
        clear hs9
        go_wp2_with fail
        exact bodyPost_ret (res2 Try.results35 rfl HS.out.i) rfl ⟨by rw [HG.out.1, HG.out.2]; rfl, HS.out.bel HB2.out (Nat.le_refl _)⟩
    · obtain ⟨a1, a2⟩ := no_size h1
      have HG := Lib.hid (rc_no (not_good (D := l.drop at_) (by unfold sp4 sp3 sp2; rw [E1.out, ctR_no a2]; rfl)))
      rw [a1]
      clear a1 a2 h1
      go_wp2_with (refine storeC (c := Cl.zero) rfl (.tmp 4) (.tmp 34) rfl rfl rfl hI2 ?_)
      constructor
      intro w9 hs9
      have HS := Lib.hid hs9
      clear hs9
      go_wp2_with fail
      exact bodyPost_ret (res2 Try.results35 rfl HS.out.i) rfl ⟨by rw [HG.out.1, HG.out.2]; rfl, HS.out.bel HB2.out (Nat.le_refl _)⟩
  · obtain ⟨a1, a2⟩ := no_size h0
    have HG := Lib.hid (rc_no (not_good (D := l.drop at_) (by unfold sp4 sp3 sp2 sp1; rw [ctR_no a2]; unfold ctR; rw [ctOk_nil]; rfl)))
    rw [a1]
    clear a1 a2 h0
    go_wp2_with (refine storeC (c := Cl.zero) rfl (.tmp 4) (.tmp 23) rfl rfl rfl hI1 ?_)
    constructor
    intro w2 hs2
    have HS := Lib.hid hs2
    clear hs2
    go_wp2_with fail
    exact bodyPost_ret (res2 Try.results35 rfl HS.out.i) rfl ⟨by rw [HG.out.1, HG.out.2]; rfl, HS.out.bel HB1.out (Nat.le_refl _)⟩
end Go.Proofs.Ytpflcnndloielaa.Ce
