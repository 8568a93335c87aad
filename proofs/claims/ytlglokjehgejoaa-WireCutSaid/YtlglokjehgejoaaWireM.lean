/- The statements of layer 1: their walks, going on. -/
import Derived.Test.YtlglokjehgejoaaWireL
namespace Go.Proofs.Ytlglokjehgejoaa
open Go.RowKit

theorem textThere_ok (l : List UInt8) (h : textOk l) : textThere l = ⟨(textOf l).toArray⟩ ∧ textSize l = 4 + numOf l := by
  unfold textThere textSize; rw [if_pos h, if_pos h]; exact ⟨rfl, rfl⟩
theorem textThere_no (l : List UInt8) (h : ¬ textOk l) : textThere l = ⟨#[]⟩ ∧ textSize l = 0 := by
  unfold textThere textSize; rw [if_neg h, if_neg h]; exact ⟨rfl, rfl⟩
theorem textRest_eq (l : List UInt8) : textRest l = l.drop (4 + numOf l) := by
  unfold textRest; rw [List.drop_drop]

set_option maxHeartbeats 2000000 in
set_option maxRecDepth 100000 in
theorem wireCuts_walk (x : Value) (l : List UInt8) (w : World) (hx : Rd w w.heap.size x (l.map bv)) (_hl : l.length ≤ 140737488351232) :
    Calls Try.prog 4 #[x] w fun e w' => e = .returned (.bool true) ∧ Below w.heap.size w w' := by
  obtain ⟨A, c, rfl, hc, hm⟩ := hx.shapeM
  have hm' : c ≤ 9223372036854775807 := hm
  by_cases h3 : l.length ≤ 3000
  · by_cases h4 : 4 ≤ l.length
    · obtain ⟨b, off, rfl, -, -⟩ := hx.cellM (by omega)
      by_cases hok : textOk l
      · obtain ⟨e1, e2⟩ := textThere_ok l hok
        have HT := Lib.hid e1
        have HZ := Lib.hid e2
        have HR := Lib.hid (textRest_eq l)
        clear e1 e2
        have hn4 := hok.2
        by_cases hc4 : c = 4
        · subst hc4
          have hn0 : numOf l = 0 := by omega
          have HN := Lib.hid hn0
          have HZ4 : Hid (textSize l = 4) := by have := HZ.out; rw [hn0] at this; exact this
          have HR4 : Hid (textRest l = l.drop 4) := by have := HR.out; rw [hn0] at this; exact this
          clear hn0 HZ HR
          have HZ := HZ4
          have HR := HR4
          clear HZ4 HR4
          go_enter Try.func4, Try.ntmps4
          go_wp2_with fail
          refine (awake_ok _).mono ?_
          rintro e w1 ⟨rfl, hb1⟩
          have hX1 := hx.up hb1
          go_wp2_with fail
          refine (cutNum_ok _ l _ _ hX1 h4 (by omega)).mono ?_
          rintro e w2 ⟨r2, rfl, hr2, hb2⟩
          have hB2 := bwstep hb1 hb2
          have hX2 := hX1.up hb2
          have hR2 := hr2.rd
          clear hr2 hb1 hb2 hX1
          rw [HN.out]
          go_wp2_with fail
          refine (cutText_ok _ l _ _ hX2 hok (by omega)).mono ?_
          rintro e w3 ⟨r3, rfl, hr3, hb3⟩
          have hB3 := bwstep hB2 hb3
          have hX3 := hX2.up hb3
          have hR3 := hR2.up hb3
          have hQ3 := hr3.rd
          obtain ⟨A3, c3, rfl, -, -⟩ := hQ3.shapeM
          clear hr3 hb3 hX2 hB2 hR2
          go_wp2_with fail
          refine (rtextAt_any _ l 0 _ _ (Nat.le_refl _) hX3 (by omega) (by omega)).mono ?_
          rintro e w4 ⟨rfl, hb4⟩
          rw [List.drop_zero, HT.out, HZ.out]
          have hB4 := bwstep hB3 hb4
          have hX4 := hX3.up hb4
          have hR4 := hR3.up hb4
          have hQ4 := hQ3.up hb4
          clear hX3 hb4 hB3 hR3 hQ3
          go_wp2_with fail
          refine (rat_ok _ l 0 _ _ hX4 (by omega) (by omega)).mono ?_
          rintro e w5 ⟨rfl, hb5⟩
          rw [List.drop_zero]
          have hB5 := bwstep hB4 hb5
          have hX5 := hX4.up hb5
          have hR5 := hR4.up hb5
          have hQ5 := hQ4.up hb5
          clear hX4 hb5 hB4 hR4 hQ4
          rw [HN.out]
          go_wp2_with fail
          refine (rsame_any _ _ (l.drop 4) (l.drop 4) _ _ _ hR5 (by rw [List.map_drop]; exact hX5.fromEnd h4)).mono ?_
          rintro e w6 ⟨rfl, rfl⟩
          rw [sameB_self]
          clear hR5
          go_wp2_with fail
          refine (rsame_any _ _ (textRest l) (l.drop 4) _ _ _ hQ5 (by rw [List.map_drop]; exact hX5.fromEnd h4)).mono ?_
          rintro e w6 ⟨rfl, rfl⟩
          rw [HR.out, sameB_self]
          go_wp2_with fail
          go_ret
          exact ⟨rfl, hB5⟩
        · by_cases hcs : c = 4 + numOf l
          · subst hcs
            go_enter Try.func4, Try.ntmps4
            go_wp2_with fail
            refine (awake_ok _).mono ?_
            rintro e w1 ⟨rfl, hb1⟩
            have hX1 := hx.up hb1
            go_wp2_with fail
            refine (cutNum_ok _ l _ _ hX1 h4 (by omega)).mono ?_
            rintro e w2 ⟨r2, rfl, hr2, hb2⟩
            have hB2 := bwstep hb1 hb2
            have hX2 := hX1.up hb2
            have hR2 := hr2.rd
            clear hr2 hb1 hb2 hX1
            go_wp2_with fail
            refine (cutText_ok _ l _ _ hX2 hok (by omega)).mono ?_
            rintro e w3 ⟨r3, rfl, hr3, hb3⟩
            have hB3 := bwstep hB2 hb3
            have hX3 := hX2.up hb3
            have hR3 := hR2.up hb3
            have hQ3 := hr3.rd
            obtain ⟨A3, c3, rfl, -, -⟩ := hQ3.shapeM
            clear hr3 hb3 hX2 hB2 hR2
            go_wp2_with fail
            refine (rtextAt_any _ l 0 _ _ (Nat.le_refl _) hX3 (by omega) (by omega)).mono ?_
            rintro e w4 ⟨rfl, hb4⟩
            rw [List.drop_zero, HT.out, HZ.out]
            have hB4 := bwstep hB3 hb4
            have hX4 := hX3.up hb4
            have hR4 := hR3.up hb4
            have hQ4 := hQ3.up hb4
            clear hX3 hb4 hB3 hR3 hQ3
            go_wp2_with fail
            refine (rat_ok _ l 0 _ _ hX4 (by omega) (by omega)).mono ?_
            rintro e w5 ⟨rfl, hb5⟩
            rw [List.drop_zero]
            have hB5 := bwstep hB4 hb5
            have hX5 := hX4.up hb5
            have hR5 := hR4.up hb5
            have hQ5 := hQ4.up hb5
            clear hX4 hb5 hB4 hR4 hQ4
            go_wp2_with fail
            refine (rsame_any _ _ (l.drop 4) (l.drop 4) _ _ _ hR5 (by rw [List.map_drop]; have h := hX5.fromC h4 hc4; rw [Nat.add_sub_cancel_left] at h; exact h)).mono ?_
            rintro e w6 ⟨rfl, rfl⟩
            rw [sameB_self]
            clear hR5
            go_wp2_with fail
            refine (rsame_any _ _ (textRest l) (l.drop (4 + numOf l)) _ _ _ hQ5 (by rw [List.map_drop]; exact hX5.fromEnd (by omega))).mono ?_
            rintro e w6 ⟨rfl, rfl⟩
            rw [HR.out, sameB_self]
            go_wp2_with fail
            go_ret
            exact ⟨rfl, hB5⟩
          · skip
            go_enter Try.func4, Try.ntmps4
            go_wp2_with fail
            refine (awake_ok _).mono ?_
            rintro e w1 ⟨rfl, hb1⟩
            have hX1 := hx.up hb1
            go_wp2_with fail
            refine (cutNum_ok _ l _ _ hX1 h4 (by omega)).mono ?_
            rintro e w2 ⟨r2, rfl, hr2, hb2⟩
            have hB2 := bwstep hb1 hb2
            have hX2 := hX1.up hb2
            have hR2 := hr2.rd
            clear hr2 hb1 hb2 hX1
            go_wp2_with fail
            refine (cutText_ok _ l _ _ hX2 hok (by omega)).mono ?_
            rintro e w3 ⟨r3, rfl, hr3, hb3⟩
            have hB3 := bwstep hB2 hb3
            have hX3 := hX2.up hb3
            have hR3 := hR2.up hb3
            have hQ3 := hr3.rd
            obtain ⟨A3, c3, rfl, -, -⟩ := hQ3.shapeM
            clear hr3 hb3 hX2 hB2 hR2
            go_wp2_with fail
            refine (rtextAt_any _ l 0 _ _ (Nat.le_refl _) hX3 (by omega) (by omega)).mono ?_
            rintro e w4 ⟨rfl, hb4⟩
            rw [List.drop_zero, HT.out, HZ.out]
            have hB4 := bwstep hB3 hb4
            have hX4 := hX3.up hb4
            have hR4 := hR3.up hb4
            have hQ4 := hQ3.up hb4
            clear hX3 hb4 hB3 hR3 hQ3
            go_wp2_with fail
            refine (rat_ok _ l 0 _ _ hX4 (by omega) (by omega)).mono ?_
            rintro e w5 ⟨rfl, hb5⟩
            rw [List.drop_zero]
            have hB5 := bwstep hB4 hb5
            have hX5 := hX4.up hb5
            have hR5 := hR4.up hb5
            have hQ5 := hQ4.up hb5
            clear hX4 hb5 hB4 hR4 hQ4
            go_wp2_with fail
            refine (rsame_any _ _ (l.drop 4) (l.drop 4) _ _ _ hR5 (by rw [List.map_drop]; exact hX5.fromC h4 hc4)).mono ?_
            rintro e w6 ⟨rfl, rfl⟩
            rw [sameB_self]
            clear hR5
            go_wp2_with fail
            refine (rsame_any _ _ (textRest l) (l.drop (4 + numOf l)) _ _ _ hQ5 (by rw [List.map_drop]; exact hX5.fromC (by omega) hcs)).mono ?_
            rintro e w6 ⟨rfl, rfl⟩
            rw [HR.out, sameB_self]
            go_wp2_with fail
            go_ret
            exact ⟨rfl, hB5⟩
      · obtain ⟨e1, e2⟩ := textThere_no l hok
        have HT := Lib.hid e1
        have HZ := Lib.hid e2
        clear e1 e2
        by_cases hc4 : c = 4
        · subst hc4
          go_enter Try.func4, Try.ntmps4
          go_wp2_with fail
          refine (awake_ok _).mono ?_
          rintro e w1 ⟨rfl, hb1⟩
          have hX1 := hx.up hb1
          go_wp2_with fail
          refine (cutNum_ok _ l _ _ hX1 h4 (by omega)).mono ?_
          rintro e w2 ⟨r2, rfl, hr2, hb2⟩
          have hB2 := bwstep hb1 hb2
          have hX2 := hX1.up hb2
          have hR2 := hr2.rd
          clear hr2 hb1 hb2 hX1
          go_wp2_with fail
          refine (cutText_no _ l _ _ hX2 hok).mono ?_
          rintro e w3 ⟨r3, rfl, hr3, hb3⟩
          have hB3 := bwstep hB2 hb3
          have hX3 := hX2.up hb3
          have hR3 := hR2.up hb3
          have hQ3 := hr3.rd
          obtain ⟨A3, c3, rfl, -, -⟩ := hQ3.shapeM
          clear hr3 hb3 hX2 hB2 hR2
          go_wp2_with fail
          refine (rtextAt_any _ l 0 _ _ (Nat.le_refl _) hX3 (by omega) (by omega)).mono ?_
          rintro e w4 ⟨rfl, hb4⟩
          rw [List.drop_zero, HT.out, HZ.out]
          have hB4 := bwstep hB3 hb4
          have hX4 := hX3.up hb4
          have hR4 := hR3.up hb4
          have hQ4 := hQ3.up hb4
          clear hX3 hb4 hB3 hR3 hQ3
          go_wp2_with fail
          refine (rat_ok _ l 0 _ _ hX4 (by omega) (by omega)).mono ?_
          rintro e w5 ⟨rfl, hb5⟩
          rw [List.drop_zero]
          have hB5 := bwstep hB4 hb5
          have hX5 := hX4.up hb5
          have hR5 := hR4.up hb5
          have hQ5 := hQ4.up hb5
          clear hX4 hb5 hB4 hR4 hQ4
          go_wp2_with fail
          refine (rsame_any _ _ (l.drop 4) (l.drop 4) _ _ _ hR5 (by rw [List.map_drop]; exact hX5.fromEnd h4)).mono ?_
          rintro e w6 ⟨rfl, rfl⟩
          rw [sameB_self]
          clear hR5
          go_wp2_with fail
          go_ret
          exact ⟨rfl, hB5⟩
        · skip
          go_enter Try.func4, Try.ntmps4
          go_wp2_with fail
          refine (awake_ok _).mono ?_
          rintro e w1 ⟨rfl, hb1⟩
          have hX1 := hx.up hb1
          go_wp2_with fail
          refine (cutNum_ok _ l _ _ hX1 h4 (by omega)).mono ?_
          rintro e w2 ⟨r2, rfl, hr2, hb2⟩
          have hB2 := bwstep hb1 hb2
          have hX2 := hX1.up hb2
          have hR2 := hr2.rd
          clear hr2 hb1 hb2 hX1
          go_wp2_with fail
          refine (cutText_no _ l _ _ hX2 hok).mono ?_
          rintro e w3 ⟨r3, rfl, hr3, hb3⟩
          have hB3 := bwstep hB2 hb3
          have hX3 := hX2.up hb3
          have hR3 := hR2.up hb3
          have hQ3 := hr3.rd
          obtain ⟨A3, c3, rfl, -, -⟩ := hQ3.shapeM
          clear hr3 hb3 hX2 hB2 hR2
          go_wp2_with fail
          refine (rtextAt_any _ l 0 _ _ (Nat.le_refl _) hX3 (by omega) (by omega)).mono ?_
          rintro e w4 ⟨rfl, hb4⟩
          rw [List.drop_zero, HT.out, HZ.out]
          have hB4 := bwstep hB3 hb4
          have hX4 := hX3.up hb4
          have hR4 := hR3.up hb4
          have hQ4 := hQ3.up hb4
          clear hX3 hb4 hB3 hR3 hQ3
          go_wp2_with fail
          refine (rat_ok _ l 0 _ _ hX4 (by omega) (by omega)).mono ?_
          rintro e w5 ⟨rfl, hb5⟩
          rw [List.drop_zero]
          have hB5 := bwstep hB4 hb5
          have hX5 := hX4.up hb5
          have hR5 := hR4.up hb5
          have hQ5 := hQ4.up hb5
          clear hX4 hb5 hB4 hR4 hQ4
          go_wp2_with fail
          refine (rsame_any _ _ (l.drop 4) (l.drop 4) _ _ _ hR5 (by rw [List.map_drop]; exact hX5.fromC h4 hc4)).mono ?_
          rintro e w6 ⟨rfl, rfl⟩
          rw [sameB_self]
          clear hR5
          go_wp2_with fail
          go_ret
          exact ⟨rfl, hB5⟩
    · have hok : ¬ textOk l := fun h => h4 h.1
      obtain ⟨e1, e2⟩ := textThere_no l hok
      have HT := Lib.hid e1
      have HZ := Lib.hid e2
      clear e1 e2
      go_enter Try.func4, Try.ntmps4
      go_wp2_with fail
      refine (awake_ok _).mono ?_
      rintro e w1 ⟨rfl, hb1⟩
      have hX1 := hx.up hb1
      go_wp2_with fail
      refine (cutNum_no _ l _ _ hX1 (by omega)).mono ?_
      rintro e w2 ⟨r2, rfl, hr2, hb2⟩
      have hB2 := bwstep hb1 hb2
      have hX2 := hX1.up hb2
      have hR2 := hr2.rd
      obtain ⟨A2, c2, rfl, -, -⟩ := hR2.shapeM
      clear hr2 hb1 hb2 hX1
      go_wp2_with fail
      refine (cutText_no _ l _ _ hX2 hok).mono ?_
      rintro e w3 ⟨r3, rfl, hr3, hb3⟩
      have hB3 := bwstep hB2 hb3
      have hX3 := hX2.up hb3
      have hQ3 := hr3.rd
      obtain ⟨A3, c3, rfl, -, -⟩ := hQ3.shapeM
      clear hr3 hb3 hX2 hB2
      go_wp2_with fail
      refine (rtextAt_any _ l 0 _ _ (Nat.le_refl _) hX3 (by omega) (by omega)).mono ?_
      rintro e w4 ⟨rfl, hb4⟩
      rw [List.drop_zero, HT.out, HZ.out]
      have hB4 := bwstep hB3 hb4
      go_wp2_with fail
      go_ret
      exact ⟨rfl, hB4⟩
  · go_enter Try.func4, Try.ntmps4
    go_wp2_with fail
    refine (awake_ok _).mono ?_
    rintro e w1 ⟨rfl, hb1⟩
    go_wp2_with fail
    refine (awake_ok _).mono ?_
    rintro e w2 ⟨rfl, hb2⟩
    go_wp2_with fail
    go_ret
    exact ⟨rfl, bwstep hb1 hb2⟩
end Go.Proofs.Ytlglokjehgejoaa
