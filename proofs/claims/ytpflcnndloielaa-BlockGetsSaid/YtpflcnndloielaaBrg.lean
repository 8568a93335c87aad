/- The contract of the reference's Get of layer 10. -/
import Derived.Test.YtpflcnndloielaaBce
import Derived.Test.YtpflcnndloielaaFrmQ
import Derived.Test.YtpflcnndloielaaCrc
import Derived.Test.YtpflcnndloielaaCpo
namespace Go.Proofs.Ytpflcnndloielaa.Ce
open Go.RowKit Frm

def RGetEnd (b : List UInt8) (w : World) (e : Ending) (w' : World) : Prop :=
  ((∃ L m x, BlkAt b L m ∧ e = .returned (.tuple #[x, .int .i64 ((12 + (recB L).length : Nat) : Int)]) ∧ OwL w' w.heap.size x L) ∨ ((¬ ∃ L m, BlkAt b L m) ∧ e = .returned (.tuple #[.slice none 0 0, .int .i64 0]))) ∧ Below w.heap.size w w'
theorem drop_left {r left : List UInt8} {A : List Cl} (h : CellsS r A left) : r.drop (4 + (flatC A).length) = left := by
  rw [← List.drop_drop, h.e, List.drop_left]
set_option maxHeartbeats 4000000 in
set_option maxRecDepth 100000 in
theorem rbget_any (v : Value) (b : List UInt8) (w : World) (hr : Rd w w.heap.size v (b.map bv)) (hl : b.length ≤ 1000000000) :
    Calls Try.prog 19 #[v] w (RGetEnd b w) := by
  obtain ⟨R, m, hs⟩ := scan_ex b.length b (Nat.le_refl _)
  have hsc := rscan_any v b m R w hr hs (by omega)
  cases hR : R with
  | nil =>
    subst hR
    have HN : Hid (¬ ∃ L m, BlkAt b L m) := Lib.hid (by
      rintro ⟨L, m', h⟩
      have hw := blkAt_whole h
      have e := hs.1
      rw [flat_nil, List.nil_append] at e
      rw [e] at hw
      exact hs.2.2 hw)
    clear hs hr
    go_enter Try.func19, Try.ntmps19
    go_wp2_with fail
    refine hsc.mono ?_
    rintro e w1 ⟨⟨x, vs, rfl, ho⟩, hb1⟩
    have HB1 := Lib.hid hb1
    obtain ⟨Ax, cx, rfl, -, -⟩ := ho.rd.shape
    clear ho hb1 hsc
    go_wp2_with fail
    go_ret2
    exact ⟨.inr ⟨HN.out, rfl⟩, HB1.out⟩
  | cons r R' =>
    subst hR
    have hr5 : r.length ≤ 65535 := hs.2.1 r (by simp)
    have hbf : b = frm r ++ (flat R' ++ m) := by rw [← List.append_assoc, ← flat_cons]; exact hs.1
    have HYES := Lib.hid (fun L => blkAt_of (L := L) hbf hr5)
    have HNO := Lib.hid (blkAt_no hbf hr5)
    clear hs hr hbf
    go_enter Try.func19, Try.ntmps19
    go_wp2_with fail
    refine hsc.mono ?_
    rintro e w1 ⟨⟨x, vs, rfl, ho⟩, hb1⟩
    have HB1 := Lib.hid hb1
    have hrd := ho.rd
    obtain ⟨Ax, cx, rfl, hxc, hxm⟩ := hrd.shape
    obtain ⟨xb, xo, rfl, hxb⟩ := hrd.open_ (by simp)
    obtain ⟨Ar, cr, hcell, hrc, hrm, hrr⟩ := hrd.row (j := 0) (by simp)
    have hg0 : gl (r :: R') 0 = r := rfl
    rw [hg0] at hcell hrc hrr
    rw [Nat.add_zero] at hcell
    unfold maxLen at hrm hxm
    have HR := Lib.hid hrr
    have hxl : (0 : Int) < ((r :: R').length : Int) := by simp only [List.length_cons]; omega
    have hxl2 : (((r :: R').length : Int) == 0) = false := beq_false_of_ne (by simp only [List.length_cons]; omega)
    generalize (r :: R').length = nx at *
    clear ho hb1 hsc hrd hg0 hrr
    by_cases h4 : 4 ≤ r.length
    · obtain ⟨n, hn⟩ : ∃ n, n = numOf r := ⟨_, rfl⟩
      have hat := rat_ok _ r 0 _ w1 HR.out (by omega) (by omega)
      rw [List.drop_zero, ← hn] at hat
      have HN := Lib.hid hn
      have hnl : n ≤ 4294967295 := by have := numOf_lt r; omega
      have H4 := Lib.hid h4
      clear hn h4
      go_wp2_with fail
      refine hat.mono ?_
      rintro e w2 ⟨rfl, hb2⟩
      have HR2 := Lib.hid (HR.out.up hb2)
      have HB2 := Lib.hid (bwstep HB1.out hb2)
      clear hb2 hat hcell hxb hxl hxl2 hxc hxm
      go_wp2_with fail
      go_loopw [8, 9, 10] (fun p l i wr => ∃ (k a : Nat) (A : List Cl) (left : List UInt8), k ≤ n ∧ i = .int .i64 (k : Int) ∧ p = .int .i64 (a : Int) ∧ a ≤ 65539 ∧ Hid (a = 4 + (flatC A).length) ∧ Hid (A.length = k) ∧ Hid (OwL wr w2.heap.size l A) ∧ Hid (CellsS r A left) ∧ Hid (Below w2.heap.size w2 wr)) (fun _ _ i _ => n - (intOf i).toNat)
      case atStart => exact ⟨0, 4, [], r.drop 4, by omega, rfl, rfl, by omega, Lib.hid rfl, Lib.hid rfl, Lib.hid (OwL.nil _ _), Lib.hid ⟨rfl, fun c hc => by cases hc⟩, Lib.hid (Below.refl _ _)⟩
      case round =>
        obtain ⟨k, a, A, left, hk, rfl, rfl, hap, HA, HKK, HO, HS, HBW⟩ := hrel
        have hle := HS.out.le
        rw [HKK.out] at hle
        have HF : Hid (Rd wr w2.heap.size (.slice Ar r.length cr) (r.map bv)) := Lib.hid (HR2.out.below HBW.out)
        by_cases hlt : k < n
        · have hcu := rcut_any _ r a _ wr HF.out HBW.out.size (by omega) (by omega)
          have hdl : r.drop a = left := by rw [HA.out]; exact drop_left HS.out
          rw [hdl] at hcu
          by_cases hst : ∃ c m, Stands left c m
          · obtain ⟨c, m', hs⟩ := hst
            obtain ⟨e1, e2⟩ := rc_stands hs
            rw [e1, e2] at hcu
            have HT := Lib.hid (HS.out.step hs)
            have hml := congrArg List.length hs.2
            rw [List.length_append] at hml
            have HA2 : Hid (a + (cellB c).length = 4 + (flatC (A ++ [c])).length) := Lib.hid (by rw [flatC_app, flatC_one, List.length_append, HA.out]; omega)
            have hap2 : a + (cellB c).length ≤ 65539 := by
              have h1 := congrArg List.length HT.out.e
              rw [List.length_drop, List.length_append] at h1
              have := HA2.out
              omega
            have hge := cellB_ge hs.1
            have hlA : A.length + [c].length ≤ 2199023255552 := by rw [HKK.out]; simp; omega
            clear hs e1 e2 hml hdl
            generalize (cellB c).length = z at *
            have hz1 : ((z : Int) == 0) = false := beq_false_of_ne (by omega)
            go_wp2_with fail
            refine hcu.mono ?_
            rintro e w3 ⟨rfl, hb3⟩
            have HB3 := Lib.hid hb3
            clear hb3 hcu
            go_wp2_with (refine allocC rfl rfl ?_)
            constructor
            intro w4 hI4 hb4 hz4
            go_wp2_with (refine storeC (c := c) rfl (.tmp 11) (.tmp 35) rfl rfl rfl hI4 ?_)
            constructor
            intro w5 hs5
            have HI5 := Lib.hid hs5.i
            have HB5 := Lib.hid (bwstep HB3.out (hs5.bel hb4 (Nat.le_refl _)))
            have HO5 := Lib.hid (HO.out.below HB5.out)
            clear hI4 hb4 hz4 hs5
            obtain ⟨c0, c1, c2, c3, c4⟩ := HI5.out.five
            have bA := bwalloc (bwrefl w5) (.cells #[.string c.row, .string c.col, .int .i64 c.at_, .string c.val, .bool c.gone] 46)
            have hx1 := RdL.one w5 [] c (by simp) 46
            have ho1 := HO5.out.below bA
            have hB1 := Nat.le_trans HBW.out.size (Nat.le_trans HB5.out.size bA.size)
            have hBA := (bwstep HB5.out bA).mono HBW.out.size
            clear bA
            go_wp2_with (at_builtin; refine wpList_appL rfl (.tmp 39) (.tmp 41) rfl rfl ho1 rfl hx1 hlA hB1 ?_; intro v6 w6 o6 g6 h6; have HO6 := Lib.hid o6; have HB6 := Lib.hid (hBA.grown g6 hB1 (fun k hk => (ho1.lt k hk).1)); clear o6 g6 h6 ho1 hx1)
            go_roundw
            case rel => exact ⟨k + 1, a + z, A ++ [c], m', by omega, by go_num, by go_num, hap2, HA2, Lib.hid (by rw [List.length_append, HKK.out]; rfl), HO6, HT, Lib.hid (HBW.out.trans HB6.out)⟩
            case measure => simp [intOf]; omega
          · obtain ⟨e1, e2⟩ := rc_no (fun h => hst (good_iff.1 h))
            rw [e1, e2] at hcu
            have HX := Lib.hid (rec_stop (by omega) HS.out.ok (by rw [HKK.out, ← HN.out]; exact hlt) HS.out.e hst)
            clear hst e1 e2 hdl
            go_wp2_with fail
            refine hcu.mono ?_
            rintro e w3 ⟨rfl, hb3⟩
            have HB3 := Lib.hid (bwtrans HB2.out (HBW.out.trans (hb3.mono HBW.out.size)) (Nat.le_refl _))
            clear hb3 hcu
            go_wp2_with (refine allocC rfl rfl ?_)
            constructor
            intro w4 hI4 hb4 hz4
            go_wp2_with (refine storeC (c := Cl.zero) rfl (.tmp 11) (.tmp 35) rfl rfl rfl hI4 ?_)
            constructor
            intro w5 hs5
            have HB5 := Lib.hid (bwstep HB3.out (hs5.bel hb4 (Nat.le_refl _)))
            clear hI4 hb4 hz4 hs5
            go_wp2_with fail
            go_ret2
            exact ⟨.inr ⟨HNO.out HX.out, rfl⟩, HB5.out⟩
        · obtain rfl : k = n := by omega
          have HE := Lib.hid (bwtrans HB2.out HBW.out (Nat.le_refl _))
          have hrd := HO.out.rd (S := []) (fun _ h => by cases h)
          have HRD := Lib.hid hrd
          obtain ⟨Al, cl, rfl, -, -⟩ := HRD.out.shape
          have hkk := HKK.out
          clear HKK hrd
          subst hkk
          by_cases h0 : A.length = 0
          · have HX : Hid (¬ ∃ L, IsRec r L) := Lib.hid (by
              rintro ⟨L, h⟩
              obtain ⟨rfl, -⟩ := rec_end (by omega) HS.out.ok HN.out HS.out.e h
              exact h.ne (List.eq_nil_of_length_eq_zero h0))
            rw [h0]
            clear h0
            go_wp2_with fail
            go_ret2
            exact ⟨.inr ⟨HNO.out HX.out, rfl⟩, HE.out⟩
          · have hk1 : decide ((A.length : Int) < 1) = false := decide_eq_false (by omega)
            by_cases h1 : left = []
            · have hal : a = r.length := by
                have h2 := congrArg List.length HS.out.e
                rw [h1, List.append_nil, List.length_drop] at h2
                have := HA.out
                have := H4.out
                omega
              have hab : ((a : Int) != (r.length : Int)) = false := by rw [hal]; simp
              have hso := rsorted_any _ A wr HRD.out (by omega) (fun c hc => (HS.out.ok c hc).sh)
              by_cases hsr : Sorted A
              · have HY := Lib.hid (rec_yes H4.out HN.out (by rw [HS.out.e, h1]) hsr (fun e => h0 (by rw [e]; rfl)))
                rw [sortedB_true hsr] at hso
                have HLN : Hid ((12 : Int) + (r.length : Int) = ((12 + (recB A).length : Nat) : Int)) := Lib.hid (by rw [← HY.out.e]; omega)
                clear hsr h1 hal h0
                go_wp2_with fail
                refine hso.mono ?_
                rintro e w3 ⟨rfl, hb3⟩
                have HO3 := Lib.hid ((HO.out.below hb3).mono HB2.out.size)
                have HE3 := Lib.hid (bwstep HE.out hb3)
                clear hb3 hso
                go_wp2_with fail
                go_ret2
                exact ⟨.inl ⟨A, _, _, HYES.out A HY.out, ret2 rfl (vi HLN.out), HO3.out⟩, HE3.out⟩
              · have HX : Hid (¬ ∃ L, IsRec r L) := Lib.hid (by
                  rintro ⟨L, h⟩
                  obtain ⟨rfl, -⟩ := rec_end (by omega) HS.out.ok HN.out HS.out.e h
                  exact hsr h.s)
                rw [sortedB_false hsr] at hso
                clear hsr h1 hal h0
                go_wp2_with fail
                refine hso.mono ?_
                rintro e w3 ⟨rfl, hb3⟩
                have HE3 := Lib.hid (bwstep HE.out hb3)
                clear hb3 hso
                go_wp2_with fail
                go_ret2
                exact ⟨.inr ⟨HNO.out HX.out, rfl⟩, HE3.out⟩
            · have HX : Hid (¬ ∃ L, IsRec r L) := Lib.hid (by
                rintro ⟨L, h⟩
                obtain ⟨-, e⟩ := rec_end (by omega) HS.out.ok HN.out HS.out.e h
                exact h1 e)
              have hal : a ≠ r.length := fun e => by
                have h2 := congrArg List.length HS.out.e
                rw [List.length_append, List.length_drop] at h2
                have := HA.out
                have := H4.out
                exact h1 (List.eq_nil_of_length_eq_zero (by omega))
              have hab : ((a : Int) != (r.length : Int)) = true := bne_iff_ne.2 (by omega)
              clear h1 hal h0
              go_wp2_with fail
              go_ret2
              exact ⟨.inr ⟨HNO.out HX.out, rfl⟩, HE.out⟩
    · have hat := rat_no _ r 0 _ w1 HR.out (by omega) (by omega)
      have HX : Hid (¬ ∃ L, IsRec r L) := Lib.hid (by
        rintro ⟨L, h⟩
        exact h4 (rec_num h (by omega)).1)
      clear h4
      go_wp2_with fail
      refine hat.mono ?_
      rintro e w2 ⟨rfl, rfl⟩
      clear hat hcell
      go_wp2_with fail
      go_loopw [10] (fun i wr => i = .int .i64 0 ∧ w1 = wr) (fun _ _ => 0)
      case atStart => exact ⟨rfl, rfl⟩
      case round =>
        obtain ⟨rfl, rfl⟩ := hrel
        go_wp2_with fail
        go_ret2
        exact ⟨.inr ⟨HNO.out HX.out, rfl⟩, HB1.out⟩
end Go.Proofs.Ytpflcnndloielaa.Ce
