/- The contracts of package frame: where no frame stands. -/
import Derived.Test.YtpflcnndloielaaFrmS
namespace Go.Proofs.Ytpflcnndloielaa
open Go.RowKit Crc Frm

theorem sameB_ne {a b : List UInt8} (h : a ≠ b) : sameB a b = false := by simp [sameB, h]
set_option maxHeartbeats 4000000 in
set_option maxRecDepth 100000 in
theorem split_no (v : Value) (b : List UInt8) (w : World) (B : Nat) (hr : Rd w B v (b.map bv)) (hB : B ≤ w.heap.size) (hno : ¬ Whole b) (hl : b.length ≤ 1000000000000) :
    Calls Try.prog 45 #[v] w fun e w' => e = .returned (.tuple #[.slice none 0 0, .slice none 0 0, .bool false]) ∧ Below w.heap.size w w' := by
  obtain ⟨A, c, rfl, hc, hm⟩ := hr.shapeM
  by_cases g1 : 12 ≤ b.length
  · obtain ⟨b0, off, rfl, hb0, -⟩ := hr.cellM (by omega)
    have r4 : Rd w B (.slice (some ⟨b0, off, none⟩) 4 c) ((b.take 4).map bv) := by
      have := hr.cutTo (hi := 4) (by omega)
      rw [← List.map_take] at this
      exact this
    have r48 : Rd w B (.slice (some ⟨b0, off + 4, none⟩) 4 (c - 4)) (((b.take 8).drop 4).map bv) := by
      have := hr.midC (lo := 4) (hi := 8) (by omega) (by omega) (by omega)
      rw [← List.map_take, ← List.map_drop] at this
      exact this
    have r812 : Rd w B (.slice (some ⟨b0, off + 8, none⟩) 4 (c - 8)) (((b.take 12).drop 8).map bv) := by
      have := hr.midC (lo := 8) (hi := 12) (by omega) (by omega) (by omega)
      rw [← List.map_take, ← List.map_drop] at this
      exact this
    have hN := numOf_take4 b (by omega)
    unfold maxLen at hm
    obtain ⟨n, hn⟩ : ∃ n, n = numOf b := ⟨_, rfl⟩
    unfold Whole at hno
    rw [← hn] at hno hN
    have HN := Lib.hid hN
    clear hn hN
    by_cases g2 : n ≤ 65535 ∧ 12 + n ≤ b.length
    · obtain ⟨g2, g3⟩ := g2
      by_cases g4 : (b.take 8).drop 4 = sumB (b.take 4)
      · have g5 : ¬ (b.take 12).drop 8 = sumB ((b.drop 12).take n) := fun g5 => hno ⟨g1, g2, g3, g4, g5⟩
        have HE := Lib.hid (show sameB ((b.take 8).drop 4) (sumB (b.take 4)) = true by rw [g4]; exact sameB_self _)
        have HF := Lib.hid (sameB_ne g5)
        clear g4 g5 hno
        by_cases hc12 : c = 12
        · subst hc12
          have hbl : b.length = 12 := by omega
          obtain rfl : n = 0 := by omega
          have rrec : Rd w B (.slice (some ⟨b0, off, none⟩) 0 0) (((b.drop 12).take 0).map bv) := ⟨_, 0, rfl, Nat.le_refl _, by simp [maxLen], fun h => absurd h (by simp)⟩
          go_enter Try.func45, Try.ntmps45
          go_wp2_with fail
          go_quiet (fail)
          have hbq := bwN (w := w) nq
          generalize hw0 : w.drewN nq = w0 at *
          clear hw0
          go_wp2_with fail
          refine (cutNum_ok _ (b.take 4) _ _ (r4.below (hbq.mono hB)) (by rw [List.length_take]; omega) (by rw [List.length_take]; omega)).mono ?_
          rintro e w1 ⟨q, rfl, -, hb1⟩
          rw [HN.out]
          have hbb := bwstep hbq hb1
          clear hbq hb1
          go_wp2_with fail
          refine (fsum_any _ _ _ _ (r4.below (hbb.mono hB)) (by rw [List.length_take]; omega)).mono ?_
          rintro e w2 ⟨q2, rfl, hq2, hb2⟩
          have hbb := bwstep hbb hb2
          clear hb2
          go_wp2_with fail
          refine (equal_any _ _ _ _ _ _ _ (r48.below (hbb.mono hB)) hq2.rd).mono ?_
          rintro e w3 ⟨rfl, rfl⟩
          rw [HE.out]
          clear hq2
          go_wp2_with fail
          go_quiet (fail)
          have hbb := bwstep hbb (bwN nq)
          generalize hw0 : w3.drewN nq = w4 at *
          clear hw0
          go_wp2_with fail
          refine (fsum_any _ ((b.drop 12).take 0) _ _ (rrec.below (hbb.mono hB)) (by rw [List.length_take]; omega)).mono ?_
          rintro e w5 ⟨q3, rfl, hq3, hb3⟩
          have hbb := bwstep hbb hb3
          clear hb3
          go_wp2_with fail
          refine (equal_any _ _ _ _ _ _ _ (r812.below (hbb.mono hB)) hq3.rd).mono ?_
          rintro e w6 ⟨rfl, rfl⟩
          rw [HF.out]
          clear hq3
          go_wp2_with fail
          go_ret3
          exact ⟨rfl, hbb⟩
        · have rrest : Rd w B (.slice (some ⟨b0, off + 12, none⟩) (b.length - 12) (c - 12)) ((b.drop 12).map bv) := by
            have := hr.fromC (lo := 12) (by omega) hc12
            rw [← List.map_drop] at this
            exact this
          have rrec : Rd w B (.slice (some ⟨b0, off + 12, none⟩) n (c - 12)) (((b.drop 12).take n).map bv) := by
            have := rrest.cutTo (hi := n) (by omega)
            rw [← List.map_take] at this
            exact this
          clear rrest
          by_cases hcn : c - 12 = n
          · have hbl : b.length - 12 = n := by omega
            rw [hcn] at rrec
            go_enter Try.func45, Try.ntmps45
            go_wp2_with fail
            go_quiet (fail)
            have hbq := bwN (w := w) nq
            generalize hw0 : w.drewN nq = w0 at *
            clear hw0
            go_wp2_with fail
            refine (cutNum_ok _ (b.take 4) _ _ (r4.below (hbq.mono hB)) (by rw [List.length_take]; omega) (by rw [List.length_take]; omega)).mono ?_
            rintro e w1 ⟨q, rfl, -, hb1⟩
            rw [HN.out]
            have hbb := bwstep hbq hb1
            clear hbq hb1
            go_wp2_with fail
            refine (fsum_any _ _ _ _ (r4.below (hbb.mono hB)) (by rw [List.length_take]; omega)).mono ?_
            rintro e w2 ⟨q2, rfl, hq2, hb2⟩
            have hbb := bwstep hbb hb2
            clear hb2
            go_wp2_with fail
            refine (equal_any _ _ _ _ _ _ _ (r48.below (hbb.mono hB)) hq2.rd).mono ?_
            rintro e w3 ⟨rfl, rfl⟩
            rw [HE.out]
            clear hq2
            go_wp2_with fail
            go_quiet (fail)
            have hbb := bwstep hbb (bwN nq)
            generalize hw0 : w3.drewN nq = w4 at *
            clear hw0
            go_wp2_with fail
            refine (fsum_any _ ((b.drop 12).take n) _ _ (rrec.below (hbb.mono hB)) (by rw [List.length_take]; omega)).mono ?_
            rintro e w5 ⟨q3, rfl, hq3, hb3⟩
            have hbb := bwstep hbb hb3
            clear hb3
            go_wp2_with fail
            refine (equal_any _ _ _ _ _ _ _ (r812.below (hbb.mono hB)) hq3.rd).mono ?_
            rintro e w6 ⟨rfl, rfl⟩
            rw [HF.out]
            clear hq3
            go_wp2_with fail
            go_ret3
            exact ⟨rfl, hbb⟩
          · skip
            go_enter Try.func45, Try.ntmps45
            go_wp2_with fail
            go_quiet (fail)
            have hbq := bwN (w := w) nq
            generalize hw0 : w.drewN nq = w0 at *
            clear hw0
            go_wp2_with fail
            refine (cutNum_ok _ (b.take 4) _ _ (r4.below (hbq.mono hB)) (by rw [List.length_take]; omega) (by rw [List.length_take]; omega)).mono ?_
            rintro e w1 ⟨q, rfl, -, hb1⟩
            rw [HN.out]
            have hbb := bwstep hbq hb1
            clear hbq hb1
            go_wp2_with fail
            refine (fsum_any _ _ _ _ (r4.below (hbb.mono hB)) (by rw [List.length_take]; omega)).mono ?_
            rintro e w2 ⟨q2, rfl, hq2, hb2⟩
            have hbb := bwstep hbb hb2
            clear hb2
            go_wp2_with fail
            refine (equal_any _ _ _ _ _ _ _ (r48.below (hbb.mono hB)) hq2.rd).mono ?_
            rintro e w3 ⟨rfl, rfl⟩
            rw [HE.out]
            clear hq2
            go_wp2_with fail
            go_quiet (fail)
            have hbb := bwstep hbb (bwN nq)
            generalize hw0 : w3.drewN nq = w4 at *
            clear hw0
            go_wp2_with fail
            refine (fsum_any _ ((b.drop 12).take n) _ _ (rrec.below (hbb.mono hB)) (by rw [List.length_take]; omega)).mono ?_
            rintro e w5 ⟨q3, rfl, hq3, hb3⟩
            have hbb := bwstep hbb hb3
            clear hb3
            go_wp2_with fail
            refine (equal_any _ _ _ _ _ _ _ (r812.below (hbb.mono hB)) hq3.rd).mono ?_
            rintro e w6 ⟨rfl, rfl⟩
            rw [HF.out]
            clear hq3
            go_wp2_with fail
            go_ret3
            exact ⟨rfl, hbb⟩
      · have HE := Lib.hid (sameB_ne g4)
        clear g4 hno
        by_cases hc12 : c = 12
        · subst hc12
          have hbl : b.length = 12 := by omega
          obtain rfl : n = 0 := by omega
          go_enter Try.func45, Try.ntmps45
          go_wp2_with fail
          go_quiet (fail)
          have hbq := bwN (w := w) nq
          generalize hw0 : w.drewN nq = w0 at *
          clear hw0
          go_wp2_with fail
          refine (cutNum_ok _ (b.take 4) _ _ (r4.below (hbq.mono hB)) (by rw [List.length_take]; omega) (by rw [List.length_take]; omega)).mono ?_
          rintro e w1 ⟨q, rfl, -, hb1⟩
          rw [HN.out]
          have hbb := bwstep hbq hb1
          clear hbq hb1
          go_wp2_with fail
          refine (fsum_any _ _ _ _ (r4.below (hbb.mono hB)) (by rw [List.length_take]; omega)).mono ?_
          rintro e w2 ⟨q2, rfl, hq2, hb2⟩
          have hbb := bwstep hbb hb2
          clear hb2
          go_wp2_with fail
          refine (equal_any _ _ _ _ _ _ _ (r48.below (hbb.mono hB)) hq2.rd).mono ?_
          rintro e w3 ⟨rfl, rfl⟩
          rw [HE.out]
          clear hq2
          go_wp2_with fail
          go_ret3
          exact ⟨rfl, hbb⟩
        · skip
          go_enter Try.func45, Try.ntmps45
          go_wp2_with fail
          go_quiet (fail)
          have hbq := bwN (w := w) nq
          generalize hw0 : w.drewN nq = w0 at *
          clear hw0
          go_wp2_with fail
          refine (cutNum_ok _ (b.take 4) _ _ (r4.below (hbq.mono hB)) (by rw [List.length_take]; omega) (by rw [List.length_take]; omega)).mono ?_
          rintro e w1 ⟨q, rfl, -, hb1⟩
          rw [HN.out]
          have hbb := bwstep hbq hb1
          clear hbq hb1
          go_wp2_with fail
          refine (fsum_any _ _ _ _ (r4.below (hbb.mono hB)) (by rw [List.length_take]; omega)).mono ?_
          rintro e w2 ⟨q2, rfl, hq2, hb2⟩
          have hbb := bwstep hbb hb2
          clear hb2
          go_wp2_with fail
          refine (equal_any _ _ _ _ _ _ _ (r48.below (hbb.mono hB)) hq2.rd).mono ?_
          rintro e w3 ⟨rfl, rfl⟩
          rw [HE.out]
          clear hq2
          go_wp2_with fail
          go_ret3
          exact ⟨rfl, hbb⟩
    · clear hno
      by_cases g3 : n ≤ 65535
      · have g2 : ¬ 12 + n ≤ b.length := fun h => g2 ⟨g3, h⟩
        by_cases hc12 : c = 12
        · subst hc12
          have hbl : b.length = 12 := by omega
          have hn0 : 0 < n := by omega
          go_enter Try.func45, Try.ntmps45
          go_wp2_with fail
          go_quiet (fail)
          have hbq := bwN (w := w) nq
          generalize hw0 : w.drewN nq = w0 at *
          clear hw0
          go_wp2_with fail
          refine (cutNum_ok _ (b.take 4) _ _ (r4.below (hbq.mono hB)) (by rw [List.length_take]; omega) (by rw [List.length_take]; omega)).mono ?_
          rintro e w1 ⟨q, rfl, -, hb1⟩
          rw [HN.out]
          have hbb := bwstep hbq hb1
          clear hbq hb1
          go_wp2_with fail
          go_ret3
          exact ⟨rfl, hbb⟩
        · skip
          go_enter Try.func45, Try.ntmps45
          go_wp2_with fail
          go_quiet (fail)
          have hbq := bwN (w := w) nq
          generalize hw0 : w.drewN nq = w0 at *
          clear hw0
          go_wp2_with fail
          refine (cutNum_ok _ (b.take 4) _ _ (r4.below (hbq.mono hB)) (by rw [List.length_take]; omega) (by rw [List.length_take]; omega)).mono ?_
          rintro e w1 ⟨q, rfl, -, hb1⟩
          rw [HN.out]
          have hbb := bwstep hbq hb1
          clear hbq hb1
          go_wp2_with fail
          go_ret3
          exact ⟨rfl, hbb⟩
      · clear g2
        by_cases hc12 : c = 12
        · subst hc12
          have hbl : b.length = 12 := by omega
          go_enter Try.func45, Try.ntmps45
          go_wp2_with fail
          go_quiet (fail)
          have hbq := bwN (w := w) nq
          generalize hw0 : w.drewN nq = w0 at *
          clear hw0
          go_wp2_with fail
          refine (cutNum_ok _ (b.take 4) _ _ (r4.below (hbq.mono hB)) (by rw [List.length_take]; omega) (by rw [List.length_take]; omega)).mono ?_
          rintro e w1 ⟨q, rfl, -, hb1⟩
          rw [HN.out]
          have hbb := bwstep hbq hb1
          clear hbq hb1
          go_wp2_with fail
          go_ret3
          exact ⟨rfl, hbb⟩
        · skip
          go_enter Try.func45, Try.ntmps45
          go_wp2_with fail
          go_quiet (fail)
          have hbq := bwN (w := w) nq
          generalize hw0 : w.drewN nq = w0 at *
          clear hw0
          go_wp2_with fail
          refine (cutNum_ok _ (b.take 4) _ _ (r4.below (hbq.mono hB)) (by rw [List.length_take]; omega) (by rw [List.length_take]; omega)).mono ?_
          rintro e w1 ⟨q, rfl, -, hb1⟩
          rw [HN.out]
          have hbb := bwstep hbq hb1
          clear hbq hb1
          go_wp2_with fail
          go_ret3
          exact ⟨rfl, hbb⟩
  · go_enter Try.func45, Try.ntmps45
    go_wp2_with fail
    go_ret3
    exact ⟨rfl, bwrefl _⟩
end Go.Proofs.Ytpflcnndloielaa
