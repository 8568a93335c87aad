/- The contracts of package frame: a frame that is split off. -/
import Derived.Test.YtpflcnndloielaaFrm
namespace Go.Proofs.Ytpflcnndloielaa
open Go.RowKit Crc Frm

theorem Rd.ofm {w : World} {B : Nat} {v : Value} {b c : List UInt8} (h : Rd w B v (b.map bv)) (e : b = c) : Rd w B v (c.map bv) := e ▸ h
set_option maxHeartbeats 2000000 in
set_option maxRecDepth 100000 in
theorem split_ok (v : Value) (b r m : List UInt8) (w : World) (B : Nat) (hr : Rd w B v (b.map bv)) (hB : B ≤ w.heap.size) (hb : b = frm r ++ m) (hr5 : r.length ≤ 65535) (hl : b.length ≤ 1000000000000) :
    Calls Try.prog 45 #[v] w fun e w' => (∃ x y, e = .returned (.tuple #[x, y, .bool true]) ∧ Rd w' B x (r.map bv) ∧ Rd w' B y (m.map bv)) ∧ Below w.heap.size w w' := by
  obtain ⟨A, c, rfl, hc, hm⟩ := hr.shapeM
  obtain ⟨⟨g1, g2, g3, g4, g5⟩, hn, h4, h12⟩ := whole_frm r m hr5
  rw [← hb] at g1 g2 g3 g4 g5 hn h4 h12
  rw [h12, hn, List.take_left] at g5
  obtain ⟨b0, off, rfl, hb0, -⟩ := hr.cellM (by omega)
  have r4 : Rd w B (.slice (some ⟨b0, off, none⟩) 4 c) ((numB r.length).map bv) := by
    have := hr.cutTo (hi := 4) (by omega)
    rw [← List.map_take, h4] at this
    exact this
  have r48 : Rd w B (.slice (some ⟨b0, off + 4, none⟩) 4 (c - 4)) ((sumB (numB r.length)).map bv) := by
    have := hr.midC (lo := 4) (hi := 8) (by omega) (by omega) (by omega)
    rw [← List.map_take, ← List.map_drop, g4, h4] at this
    exact this
  have r812 : Rd w B (.slice (some ⟨b0, off + 8, none⟩) 4 (c - 8)) ((sumB r).map bv) := by
    have := hr.midC (lo := 8) (hi := 12) (by omega) (by omega) (by omega)
    rw [← List.map_take, ← List.map_drop, g5] at this
    exact this
  have hlen : b.length = 12 + r.length + m.length := by rw [hb, List.length_append, frm_len]
  have hle : 12 + r.length ≤ b.length := by omega
  have hN : numOf (numB r.length) = r.length := by have := numOf_numB r.length (by omega) []; rwa [List.append_nil] at this
  have HN := Lib.hid hN
  unfold maxLen at hm
  by_cases hc12 : c = 12
  · subst hc12
    have hbl : b.length = 12 := by omega
    obtain rfl : r = [] := List.eq_nil_of_length_eq_zero (by omega)
    obtain rfl : m = [] := List.eq_nil_of_length_eq_zero (by omega)
    have rrec : Rd w B (.slice (some ⟨b0, off, none⟩) 0 0) (([] : List UInt8).map bv) := ⟨_, 0, rfl, Nat.le_refl _, by simp [maxLen], fun h => absurd h (by simp)⟩
    have rleft := rrec
    clear hb g2 g3 g4 g5 hn h4 h12 hN hlen
    go_enter Try.func45, Try.ntmps45
    go_wp2_with fail
    go_quiet (fail)
    have hbq := bwN (w := w) nq
    generalize hw0 : w.drewN nq = w0 at *
    clear hw0
    go_wp2_with fail
    refine (cutNum_ok _ (numB ([] : List UInt8).length) _ _ (r4.below (hbq.mono hB)) (by rw [numB_len]; omega) (by rw [numB_len]; omega)).mono ?_
    rintro e w1 ⟨q, rfl, -, hb1⟩
    rw [HN.out]
    have hbb := bwstep hbq hb1
    clear hbq hb1
    go_wp2_with fail
    refine (fsum_any _ _ _ _ (r4.below (hbb.mono hB)) (by rw [numB_len]; omega)).mono ?_
    rintro e w2 ⟨q2, rfl, hq2, hb2⟩
    have hbb := bwstep hbb hb2
    clear hb2
    go_wp2_with fail
    refine (equal_any _ _ _ _ _ _ _ (r48.below (hbb.mono hB)) hq2.rd).mono ?_
    rintro e w3 ⟨rfl, rfl⟩
    rw [sameB_self]
    clear hq2
    go_wp2_with fail
    go_quiet (fail)
    have hbb := bwstep hbb (bwN nq)
    generalize hw0 : w3.drewN nq = w4 at *
    clear hw0
    go_wp2_with fail
    refine (fsum_any _ _ _ _ (rrec.below (hbb.mono hB)) (by omega)).mono ?_
    rintro e w5 ⟨q3, rfl, hq3, hb3⟩
    have hbb := bwstep hbb hb3
    clear hb3
    go_wp2_with fail
    refine (equal_any _ _ _ _ _ _ _ (r812.below (hbb.mono hB)) hq3.rd).mono ?_
    rintro e w6 ⟨rfl, rfl⟩
    rw [sameB_self]
    clear hq3
    go_wp2_with fail
    go_ret3
    exact ⟨⟨_, _, rfl, rrec.below (hbb.mono hB), rleft.below (hbb.mono hB)⟩, hbb⟩
  · have rrest : Rd w B (.slice (some ⟨b0, off + 12, none⟩) (b.length - 12) (c - 12)) ((r ++ m).map bv) := by
      have := hr.fromC (lo := 12) (by omega) hc12
      rw [← List.map_drop, h12] at this
      exact this
    have rrec : Rd w B (.slice (some ⟨b0, off + 12, none⟩) r.length (c - 12)) (r.map bv) := by
      have := rrest.cutTo (hi := r.length) (by omega)
      rw [← List.map_take, List.take_left] at this
      exact this
    by_cases hcn : c - 12 = r.length
    · obtain rfl : m = [] := List.eq_nil_of_length_eq_zero (by omega)
      have hbl : b.length - 12 = r.length := by simp at hlen; omega
      have rleft : Rd w B (.slice (some ⟨b0, off + 12, none⟩) 0 0) (([] : List UInt8).map bv) := ⟨_, 0, rfl, Nat.le_refl _, by simp [maxLen], fun h => absurd h (by simp)⟩
      rw [hcn] at rrec
      clear hb g2 g3 g4 g5 hn h4 h12 hN hlen rrest
      go_enter Try.func45, Try.ntmps45
      go_wp2_with fail
      go_quiet (fail)
      have hbq := bwN (w := w) nq
      generalize hw0 : w.drewN nq = w0 at *
      clear hw0
      go_wp2_with fail
      refine (cutNum_ok _ (numB r.length) _ _ (r4.below (hbq.mono hB)) (by rw [numB_len]; omega) (by rw [numB_len]; omega)).mono ?_
      rintro e w1 ⟨q, rfl, -, hb1⟩
      rw [HN.out]
      have hbb := bwstep hbq hb1
      clear hbq hb1
      go_wp2_with fail
      refine (fsum_any _ _ _ _ (r4.below (hbb.mono hB)) (by rw [numB_len]; omega)).mono ?_
      rintro e w2 ⟨q2, rfl, hq2, hb2⟩
      have hbb := bwstep hbb hb2
      clear hb2
      go_wp2_with fail
      refine (equal_any _ _ _ _ _ _ _ (r48.below (hbb.mono hB)) hq2.rd).mono ?_
      rintro e w3 ⟨rfl, rfl⟩
      rw [sameB_self]
      clear hq2
      go_wp2_with fail
      go_quiet (fail)
      have hbb := bwstep hbb (bwN nq)
      generalize hw0 : w3.drewN nq = w4 at *
      clear hw0
      go_wp2_with fail
      refine (fsum_any _ _ _ _ (rrec.below (hbb.mono hB)) (by omega)).mono ?_
      rintro e w5 ⟨q3, rfl, hq3, hb3⟩
      have hbb := bwstep hbb hb3
      clear hb3
      go_wp2_with fail
      refine (equal_any _ _ _ _ _ _ _ (r812.below (hbb.mono hB)) hq3.rd).mono ?_
      rintro e w6 ⟨rfl, rfl⟩
      rw [sameB_self]
      clear hq3
      go_wp2_with fail
      go_ret3
      exact ⟨⟨_, _, rfl, rrec.below (hbb.mono hB), rleft.below (hbb.mono hB)⟩, hbb⟩
    · have rleft : Rd w B (.slice (some ⟨b0, off + 12 + r.length, none⟩) (b.length - 12 - r.length) (c - 12 - r.length)) (m.map bv) := by
        have := rrest.fromC (lo := r.length) (by omega) hcn
        rw [← List.map_drop, List.drop_left] at this
        exact this
      clear hb g2 g3 g4 g5 hn h4 h12 hN hlen rrest
      go_enter Try.func45, Try.ntmps45
      go_wp2_with fail
      go_quiet (fail)
      have hbq := bwN (w := w) nq
      generalize hw0 : w.drewN nq = w0 at *
      clear hw0
      go_wp2_with fail
      refine (cutNum_ok _ (numB r.length) _ _ (r4.below (hbq.mono hB)) (by rw [numB_len]; omega) (by rw [numB_len]; omega)).mono ?_
      rintro e w1 ⟨q, rfl, -, hb1⟩
      rw [HN.out]
      have hbb := bwstep hbq hb1
      clear hbq hb1
      go_wp2_with fail
      refine (fsum_any _ _ _ _ (r4.below (hbb.mono hB)) (by rw [numB_len]; omega)).mono ?_
      rintro e w2 ⟨q2, rfl, hq2, hb2⟩
      have hbb := bwstep hbb hb2
      clear hb2
      go_wp2_with fail
      refine (equal_any _ _ _ _ _ _ _ (r48.below (hbb.mono hB)) hq2.rd).mono ?_
      rintro e w3 ⟨rfl, rfl⟩
      rw [sameB_self]
      clear hq2
      go_wp2_with fail
      go_quiet (fail)
      have hbb := bwstep hbb (bwN nq)
      generalize hw0 : w3.drewN nq = w4 at *
      clear hw0
      go_wp2_with fail
      refine (fsum_any _ _ _ _ (rrec.below (hbb.mono hB)) (by omega)).mono ?_
      rintro e w5 ⟨q3, rfl, hq3, hb3⟩
      have hbb := bwstep hbb hb3
      clear hb3
      go_wp2_with fail
      refine (equal_any _ _ _ _ _ _ _ (r812.below (hbb.mono hB)) hq3.rd).mono ?_
      rintro e w6 ⟨rfl, rfl⟩
      rw [sameB_self]
      clear hq3
      go_wp2_with fail
      go_ret3
      exact ⟨⟨_, _, rfl, rrec.below (hbb.mono hB), rleft.below (hbb.mono hB)⟩, hbb⟩
end Go.Proofs.Ytpflcnndloielaa
