/- CellOrder's walk. -/
import Derived.Test.YtdpdgbdpbbcmmaaCaw
namespace Go.Proofs.Ytdpdgbdpbbcmmaa
open Go.RowKit Ce

theorem Ce.ord3 {a b c : Cl} (h : ccmp a b ≤ 0) (k : ccmp b c ≤ 0) : ccmp a c ≤ 0 ∧ (ccmp a c < 0 ∨ (ccmp a b = 0 ∧ ccmp b c = 0)) := by
  rcases ccmp_le.1 h with h1 | h1
  · rcases ccmp_le.1 k with k1 | k1
    · have := ccmp_lt.2 (klt_trans h1 k1)
      exact ⟨by omega, .inl (by omega)⟩
    · have := ccmp_lt.2 (klt_eq h1 k1)
      exact ⟨by omega, .inl (by omega)⟩
  · rcases ccmp_le.1 k with k1 | k1
    · have := ccmp_lt.2 (eq_klt h1 k1)
      exact ⟨by omega, .inl (by omega)⟩
    · have := ccmp_eq.2 (keq_trans h1 k1)
      exact ⟨by omega, .inr ⟨ccmp_eq.2 h1, ccmp_eq.2 k1⟩⟩
/-- three boxes -/
structure Tri (w : World) (g1 g2 g3 : Nat) (a b c : Cl) (w' : World) : Prop where
  ia : InC g1 a w'
  ib : InC g2 b w'
  ic : InC g3 c w'
  bel : Below w.heap.size w w'
theorem Tri.up {w : World} {g1 g2 g3 : Nat} {a b c : Cl} {x y : World} (h : Tri w g1 g2 g3 a b c x) (hb : Below x.heap.size x y) : Tri w g1 g2 g3 a b c y := ⟨h.ia.up hb, h.ib.up hb, h.ic.up hb, bwstep h.bel hb⟩
set_option maxHeartbeats 8000000 in
set_option maxRecDepth 100000 in
theorem cellOrder_walk (a b c : Cl) (w : World) : Calls Try.prog 5 #[a.v, b.v, c.v] w fun e w' => e = .returned (.bool true) ∧ Below w.heap.size w w' := by
  have hsa := fun w => small_any a w
  have hsb := fun w => small_any b w
  have hsc := fun w => small_any c w
  by_cases h1 : small a
  · rw [decide_eq_true h1] at hsa
    by_cases h2 : small b
    · rw [decide_eq_true h2] at hsb
      by_cases h3 : small c
      · rw [decide_eq_true h3] at hsc
        clear h1 h2 h3
        have hab := fun w => compare_any a b w
        have hbc := fun w => compare_any b c w
        have hba := fun w => compare_any b a w
        have hac := fun w => compare_any a c w
        rw [ccmp_neg b a] at hba
        have HO : Hid (ccmp a b ≤ 0 → ccmp b c ≤ 0 → ccmp a c ≤ 0 ∧ (ccmp a c < 0 ∨ (ccmp a b = 0 ∧ ccmp b c = 0))) := Lib.hid fun h k => ord3 h k
        have HX : Hid (ccmp a b = 0 ↔ keq a b) := Lib.hid ccmp_eq
        obtain ⟨rx1, rx2⟩ := ccmp_range a b
        obtain ⟨ry1, ry2⟩ := ccmp_range b c
        obtain ⟨rz1, rz2⟩ := ccmp_range a c
        generalize ccmp a b = x at *
        generalize ccmp b c = y at *
        generalize ccmp a c = z at *
        have hnn : IntKind.i64.wrap (- -x) = x := by rw [Int.neg_neg]; exact IntWalk.i64_in _ (by omega)
        have hnx : IntKind.i64.wrap x = x := IntWalk.i64_in _ (by omega)
        have hxx : (x != x) = false := by simp
        go_enter Try.func5, Try.ntmps5
        go_wp2_with (refine boxC rfl (.tmp 0) a rfl rfl ?_)
        constructor
        intro w1 hI1 hb1 hz1
        clear hz1
        go_wp2_with (refine boxC rfl (.tmp 1) b rfl rfl ?_)
        constructor
        intro w2 hI2 hb2 hz2
        clear hz2
        go_wp2_with (refine boxC rfl (.tmp 2) c rfl rfl ?_)
        constructor
        intro w3 hI3 hb3 hz3
        clear hz3
        have HD := Lib.hid (Tri.mk ((hI1.up hb2).up hb3) (hI2.up hb3) hI3 (bwstep (bwstep hb1 hb2) hb3))
        clear hI1 hI2 hI3 hb1 hb2 hb3
        go_wp2_with fail
        refine (eawake_ok _).mono ?_
        rintro e w4 ⟨rfl, hb4⟩
        have H4 := Lib.hid (HD.out.up hb4)
        clear hb4 HD
        go_wp2_with (refine loadC rfl (.tmp 3) rfl rfl H4.out.ia ?_)
        refine (hsa _).mono ?_
        rintro e w5 ⟨rfl, hb5⟩
        have H5 := Lib.hid (H4.out.up hb5)
        clear hb5 H4
        go_wp2_with (refine loadC rfl (.tmp 4) rfl rfl H5.out.ib ?_)
        refine (hsb _).mono ?_
        rintro e w6 ⟨rfl, hb6⟩
        have H6 := Lib.hid (H5.out.up hb6)
        clear hb6 H5
        go_wp2_with (refine loadC rfl (.tmp 5) rfl rfl H6.out.ic ?_)
        refine (hsc _).mono ?_
        rintro e w7 ⟨rfl, hb7⟩
        have H7 := Lib.hid (H6.out.up hb7)
        clear hb7 H6
        clear hsa hsb hsc
        go_wp2_with (first | (refine loadC rfl (.tmp 3) rfl rfl H7.out.ia ?_) | (refine loadC rfl (.tmp 4) rfl rfl H7.out.ib ?_))
        refine (hab _).mono ?_
        rintro e w8 ⟨rfl, hb8⟩
        have H8 := Lib.hid (H7.out.up hb8)
        clear hb8 H7
        go_wp2_with (first | (refine loadC rfl (.tmp 4) rfl rfl H8.out.ib ?_) | (refine loadC rfl (.tmp 5) rfl rfl H8.out.ic ?_))
        refine (hbc _).mono ?_
        rintro e w9 ⟨rfl, hb9⟩
        have H9 := Lib.hid (H8.out.up hb9)
        clear hb9 H8
        go_wp2_with (first | (refine loadC rfl (.tmp 4) rfl rfl H9.out.ib ?_) | (refine loadC rfl (.tmp 3) rfl rfl H9.out.ia ?_))
        refine (hba _).mono ?_
        rintro e w10 ⟨rfl, hb10⟩
        have H10 := Lib.hid (H9.out.up hb10)
        clear hb10 H9
        obtain ⟨p0, p1, p2, -, -⟩ := H10.out.ia.five
        obtain ⟨q0, q1, q2, -, -⟩ := H10.out.ib.five
        by_cases hr : a.row = b.row
        · have e0 := str_eq hr
          by_cases hcl : a.col = b.col
          · have e1 := str_eq hcl
            by_cases hat : a.at_ = b.at_
            · have e2 : (a.at_ == b.at_) = true := by simpa using hat
              have hx0 := HX.out.2 ⟨hr, hcl, hat⟩
              have hx9 : (x == 0) = true := by simpa using hx0
              clear hr hcl hat
              by_cases hx : x ≤ 0
              · have hxb : decide (x ≤ 0) = true := decide_eq_true hx
                by_cases hy : y ≤ 0
                · have hyb : decide (y ≤ 0) = true := decide_eq_true hy
                  obtain ⟨hz, hz2⟩ := HO.out hx hy
                  have hzb : decide (z ≤ 0) = true := decide_eq_true hz
                  by_cases hz1 : z < 0
                  · have hzc : decide (z < 0) = true := decide_eq_true hz1
                    clear hx hy hz hz2 hz1
                    go_wp2_with (first | (refine loadC rfl (.tmp 3) rfl rfl H10.out.ia ?_) | (refine loadC rfl (.tmp 5) rfl rfl H10.out.ic ?_))
                    refine (hac _).mono ?_
                    rintro e w11 ⟨rfl, hb11⟩
                    have H11 := Lib.hid (H10.out.up hb11)
                    clear hb11 H10
                    go_wp2_with (first | (refine loadC rfl (.tmp 3) rfl rfl H11.out.ia ?_) | (refine loadC rfl (.tmp 5) rfl rfl H11.out.ic ?_))
                    refine (hac _).mono ?_
                    rintro e w12 ⟨rfl, hb12⟩
                    have H12 := Lib.hid (H11.out.up hb12)
                    clear hb12 H11
                    go_wp2_with fail
                    go_ret
                    exact ⟨rfl, H12.out.bel⟩
                  · have hzc : decide (z < 0) = false := decide_eq_false hz1
                    obtain ⟨hx0, hy0⟩ := hz2.resolve_left hz1
                    have hx1 : (x == 0) = true := by simpa using hx0
                    have hy1 : (y == 0) = true := by simpa using hy0
                    clear hx hy hz hz2 hz1 hx0 hy0
                    go_wp2_with (first | (refine loadC rfl (.tmp 3) rfl rfl H10.out.ia ?_) | (refine loadC rfl (.tmp 5) rfl rfl H10.out.ic ?_))
                    refine (hac _).mono ?_
                    rintro e w11 ⟨rfl, hb11⟩
                    have H11 := Lib.hid (H10.out.up hb11)
                    clear hb11 H10
                    go_wp2_with (first | (refine loadC rfl (.tmp 3) rfl rfl H11.out.ia ?_) | (refine loadC rfl (.tmp 5) rfl rfl H11.out.ic ?_))
                    refine (hac _).mono ?_
                    rintro e w12 ⟨rfl, hb12⟩
                    have H12 := Lib.hid (H11.out.up hb12)
                    clear hb12 H11
                    go_wp2_with fail
                    go_ret
                    exact ⟨rfl, H12.out.bel⟩
                · have hyb : decide (y ≤ 0) = false := decide_eq_false hy
                  clear hx hy
                  go_wp2_with fail
                  go_ret
                  exact ⟨rfl, H10.out.bel⟩
              · exact absurd (by omega) hx
            · have e2 : (a.at_ == b.at_) = false := by simpa using hat
              have hxn : ¬ x = 0 := fun h => hat (HX.out.1 h).2.2
              have hx9 : (x == 0) = false := by simpa using hxn
              clear hr hcl hat
              by_cases hx : x ≤ 0
              · have hxb : decide (x ≤ 0) = true := decide_eq_true hx
                by_cases hy : y ≤ 0
                · have hyb : decide (y ≤ 0) = true := decide_eq_true hy
                  obtain ⟨hz, hz2⟩ := HO.out hx hy
                  have hzb : decide (z ≤ 0) = true := decide_eq_true hz
                  by_cases hz1 : z < 0
                  · have hzc : decide (z < 0) = true := decide_eq_true hz1
                    clear hx hy hz hz2 hz1
                    go_wp2_with (first | (refine loadC rfl (.tmp 3) rfl rfl H10.out.ia ?_) | (refine loadC rfl (.tmp 5) rfl rfl H10.out.ic ?_))
                    refine (hac _).mono ?_
                    rintro e w11 ⟨rfl, hb11⟩
                    have H11 := Lib.hid (H10.out.up hb11)
                    clear hb11 H10
                    go_wp2_with (first | (refine loadC rfl (.tmp 3) rfl rfl H11.out.ia ?_) | (refine loadC rfl (.tmp 5) rfl rfl H11.out.ic ?_))
                    refine (hac _).mono ?_
                    rintro e w12 ⟨rfl, hb12⟩
                    have H12 := Lib.hid (H11.out.up hb12)
                    clear hb12 H11
                    go_wp2_with fail
                    go_ret
                    exact ⟨rfl, H12.out.bel⟩
                  · have hzc : decide (z < 0) = false := decide_eq_false hz1
                    obtain ⟨hx0, hy0⟩ := hz2.resolve_left hz1
                    exact absurd hx0 hxn
                · have hyb : decide (y ≤ 0) = false := decide_eq_false hy
                  clear hx hy
                  go_wp2_with fail
                  go_ret
                  exact ⟨rfl, H10.out.bel⟩
              · have hxb : decide (x ≤ 0) = false := decide_eq_false hx
                clear hx
                go_wp2_with fail
                go_ret
                exact ⟨rfl, H10.out.bel⟩
          · have e1 := str_ne hcl
            have hxn : ¬ x = 0 := fun h => hcl (HX.out.1 h).2.1
            have hx9 : (x == 0) = false := by simpa using hxn
            clear hr hcl
            by_cases hx : x ≤ 0
            · have hxb : decide (x ≤ 0) = true := decide_eq_true hx
              by_cases hy : y ≤ 0
              · have hyb : decide (y ≤ 0) = true := decide_eq_true hy
                obtain ⟨hz, hz2⟩ := HO.out hx hy
                have hzb : decide (z ≤ 0) = true := decide_eq_true hz
                by_cases hz1 : z < 0
                · have hzc : decide (z < 0) = true := decide_eq_true hz1
                  clear hx hy hz hz2 hz1
                  go_wp2_with (first | (refine loadC rfl (.tmp 3) rfl rfl H10.out.ia ?_) | (refine loadC rfl (.tmp 5) rfl rfl H10.out.ic ?_))
                  refine (hac _).mono ?_
                  rintro e w11 ⟨rfl, hb11⟩
                  have H11 := Lib.hid (H10.out.up hb11)
                  clear hb11 H10
                  go_wp2_with (first | (refine loadC rfl (.tmp 3) rfl rfl H11.out.ia ?_) | (refine loadC rfl (.tmp 5) rfl rfl H11.out.ic ?_))
                  refine (hac _).mono ?_
                  rintro e w12 ⟨rfl, hb12⟩
                  have H12 := Lib.hid (H11.out.up hb12)
                  clear hb12 H11
                  go_wp2_with fail
                  go_ret
                  exact ⟨rfl, H12.out.bel⟩
                · have hzc : decide (z < 0) = false := decide_eq_false hz1
                  obtain ⟨hx0, hy0⟩ := hz2.resolve_left hz1
                  exact absurd hx0 hxn
              · have hyb : decide (y ≤ 0) = false := decide_eq_false hy
                clear hx hy
                go_wp2_with fail
                go_ret
                exact ⟨rfl, H10.out.bel⟩
            · have hxb : decide (x ≤ 0) = false := decide_eq_false hx
              clear hx
              go_wp2_with fail
              go_ret
              exact ⟨rfl, H10.out.bel⟩
        · have e0 := str_ne hr
          have hxn : ¬ x = 0 := fun h => hr (HX.out.1 h).1
          have hx9 : (x == 0) = false := by simpa using hxn
          clear hr
          by_cases hx : x ≤ 0
          · have hxb : decide (x ≤ 0) = true := decide_eq_true hx
            by_cases hy : y ≤ 0
            · have hyb : decide (y ≤ 0) = true := decide_eq_true hy
              obtain ⟨hz, hz2⟩ := HO.out hx hy
              have hzb : decide (z ≤ 0) = true := decide_eq_true hz
              by_cases hz1 : z < 0
              · have hzc : decide (z < 0) = true := decide_eq_true hz1
                clear hx hy hz hz2 hz1
                go_wp2_with (first | (refine loadC rfl (.tmp 3) rfl rfl H10.out.ia ?_) | (refine loadC rfl (.tmp 5) rfl rfl H10.out.ic ?_))
                refine (hac _).mono ?_
                rintro e w11 ⟨rfl, hb11⟩
                have H11 := Lib.hid (H10.out.up hb11)
                clear hb11 H10
                go_wp2_with (first | (refine loadC rfl (.tmp 3) rfl rfl H11.out.ia ?_) | (refine loadC rfl (.tmp 5) rfl rfl H11.out.ic ?_))
                refine (hac _).mono ?_
                rintro e w12 ⟨rfl, hb12⟩
                have H12 := Lib.hid (H11.out.up hb12)
                clear hb12 H11
                go_wp2_with fail
                go_ret
                exact ⟨rfl, H12.out.bel⟩
              · have hzc : decide (z < 0) = false := decide_eq_false hz1
                obtain ⟨hx0, hy0⟩ := hz2.resolve_left hz1
                exact absurd hx0 hxn
            · have hyb : decide (y ≤ 0) = false := decide_eq_false hy
              clear hx hy
              go_wp2_with fail
              go_ret
              exact ⟨rfl, H10.out.bel⟩
          · have hxb : decide (x ≤ 0) = false := decide_eq_false hx
            clear hx
            go_wp2_with fail
            go_ret
            exact ⟨rfl, H10.out.bel⟩
      · rw [decide_eq_false h3] at hsc
        clear h1 h2 h3
        go_enter Try.func5, Try.ntmps5
        go_wp2_with (refine boxC rfl (.tmp 0) a rfl rfl ?_)
        constructor
        intro w1 hI1 hb1 hz1
        clear hz1
        go_wp2_with (refine boxC rfl (.tmp 1) b rfl rfl ?_)
        constructor
        intro w2 hI2 hb2 hz2
        clear hz2
        go_wp2_with (refine boxC rfl (.tmp 2) c rfl rfl ?_)
        constructor
        intro w3 hI3 hb3 hz3
        clear hz3
        have HD := Lib.hid (Tri.mk ((hI1.up hb2).up hb3) (hI2.up hb3) hI3 (bwstep (bwstep hb1 hb2) hb3))
        clear hI1 hI2 hI3 hb1 hb2 hb3
        go_wp2_with fail
        refine (eawake_ok _).mono ?_
        rintro e w4 ⟨rfl, hb4⟩
        have H4 := Lib.hid (HD.out.up hb4)
        clear hb4 HD
        go_wp2_with (refine loadC rfl (.tmp 3) rfl rfl H4.out.ia ?_)
        refine (hsa _).mono ?_
        rintro e w5 ⟨rfl, hb5⟩
        have H5 := Lib.hid (H4.out.up hb5)
        clear hb5 H4
        go_wp2_with (refine loadC rfl (.tmp 4) rfl rfl H5.out.ib ?_)
        refine (hsb _).mono ?_
        rintro e w6 ⟨rfl, hb6⟩
        have H6 := Lib.hid (H5.out.up hb6)
        clear hb6 H5
        go_wp2_with (refine loadC rfl (.tmp 5) rfl rfl H6.out.ic ?_)
        refine (hsc _).mono ?_
        rintro e w7 ⟨rfl, hb7⟩
        have H7 := Lib.hid (H6.out.up hb7)
        clear hb7 H6
        go_wp2_with fail
        refine (eawake_ok _).mono ?_
        rintro e w9 ⟨rfl, hb9⟩
        have H9 := Lib.hid (H7.out.up hb9)
        clear hb9 H7
        go_wp2_with fail
        go_ret
        exact ⟨rfl, H9.out.bel⟩
    · rw [decide_eq_false h2] at hsb
      clear h1 h2
      go_enter Try.func5, Try.ntmps5
      go_wp2_with (refine boxC rfl (.tmp 0) a rfl rfl ?_)
      constructor
      intro w1 hI1 hb1 hz1
      clear hz1
      go_wp2_with (refine boxC rfl (.tmp 1) b rfl rfl ?_)
      constructor
      intro w2 hI2 hb2 hz2
      clear hz2
      go_wp2_with (refine boxC rfl (.tmp 2) c rfl rfl ?_)
      constructor
      intro w3 hI3 hb3 hz3
      clear hz3
      have HD := Lib.hid (Tri.mk ((hI1.up hb2).up hb3) (hI2.up hb3) hI3 (bwstep (bwstep hb1 hb2) hb3))
      clear hI1 hI2 hI3 hb1 hb2 hb3
      go_wp2_with fail
      refine (eawake_ok _).mono ?_
      rintro e w4 ⟨rfl, hb4⟩
      have H4 := Lib.hid (HD.out.up hb4)
      clear hb4 HD
      go_wp2_with (refine loadC rfl (.tmp 3) rfl rfl H4.out.ia ?_)
      refine (hsa _).mono ?_
      rintro e w5 ⟨rfl, hb5⟩
      have H5 := Lib.hid (H4.out.up hb5)
      clear hb5 H4
      go_wp2_with (refine loadC rfl (.tmp 4) rfl rfl H5.out.ib ?_)
      refine (hsb _).mono ?_
      rintro e w6 ⟨rfl, hb6⟩
      have H6 := Lib.hid (H5.out.up hb6)
      clear hb6 H5
      go_wp2_with fail
      refine (eawake_ok _).mono ?_
      rintro e w9 ⟨rfl, hb9⟩
      have H9 := Lib.hid (H6.out.up hb9)
      clear hb9 H6
      go_wp2_with fail
      go_ret
      exact ⟨rfl, H9.out.bel⟩
  · rw [decide_eq_false h1] at hsa
    clear h1
    go_enter Try.func5, Try.ntmps5
    go_wp2_with (refine boxC rfl (.tmp 0) a rfl rfl ?_)
    constructor
    intro w1 hI1 hb1 hz1
    clear hz1
    go_wp2_with (refine boxC rfl (.tmp 1) b rfl rfl ?_)
    constructor
    intro w2 hI2 hb2 hz2
    clear hz2
    go_wp2_with (refine boxC rfl (.tmp 2) c rfl rfl ?_)
    constructor
    intro w3 hI3 hb3 hz3
    clear hz3
    have HD := Lib.hid (Tri.mk ((hI1.up hb2).up hb3) (hI2.up hb3) hI3 (bwstep (bwstep hb1 hb2) hb3))
    clear hI1 hI2 hI3 hb1 hb2 hb3
    go_wp2_with fail
    refine (eawake_ok _).mono ?_
    rintro e w4 ⟨rfl, hb4⟩
    have H4 := Lib.hid (HD.out.up hb4)
    clear hb4 HD
    go_wp2_with (refine loadC rfl (.tmp 3) rfl rfl H4.out.ia ?_)
    refine (hsa _).mono ?_
    rintro e w5 ⟨rfl, hb5⟩
    have H5 := Lib.hid (H4.out.up hb5)
    clear hb5 H4
    go_wp2_with fail
    refine (eawake_ok _).mono ?_
    rintro e w9 ⟨rfl, hb9⟩
    have H9 := Lib.hid (H5.out.up hb9)
    clear hb9 H5
    go_wp2_with fail
    go_ret
    exact ⟨rfl, H9.out.bel⟩
end Go.Proofs.Ytdpdgbdpbbcmmaa
