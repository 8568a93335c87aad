/- Plain lemmas of frames: what is framed is cut off again as it was, what is cut off was framed, what a turned byte does. Of no function in particular. The contracts of package frame: sums, one frame cut off. The contracts of package frame: a frame that is split off. The contracts of package frame: where no frame stands. The contracts of package frame: Put, All, Cut, Scan. -/
import Derived.Test.YtpmlfhgdhnofbaaLow
set_option maxHeartbeats 8000000
set_option maxRecDepth 100000
namespace Go.Proofs.Ytpmlfhgdhnofbaa
open Go.RowKit Crc
namespace Frm
def sumB (l : List UInt8) : List UInt8 := numB (vw (sum l))
def frm (r : List UInt8) : List UInt8 := numB r.length ++ (sumB (numB r.length) ++ (sumB r ++ r))
def flat (L : List (List UInt8)) : List UInt8 := L.flatMap frm
theorem sumB_len (l : List UInt8) : (sumB l).length = 4 := rfl
theorem frm_len (r : List UInt8) : (frm r).length = 12 + r.length := by
 unfold frm
 simp only [List.length_append, numB_len, sumB_len]
 omega
theorem flat_cons (r : List UInt8) (L : List (List UInt8)) : flat (r :: L) = frm r ++ flat L := rfl
theorem flat_app (L M : List (List UInt8)) : flat (L ++ M) = flat L ++ flat M := by unfold flat; rw [List.flatMap_append]
theorem flat_one (r : List UInt8) : flat [r] = frm r := by unfold flat; simp
theorem flat_drop (L : List (List UInt8)) (k : Nat) (h : k < L.length) : flat (L.drop k) = frm L[k] ++ flat (L.drop (k + 1)) := by
 rw [List.drop_eq_getElem_cons h, flat_cons]
theorem flat_split (L : List (List UInt8)) (k : Nat) : flat L = flat (L.take k) ++ flat (L.drop k) := by rw [← flat_app, List.take_append_drop]
theorem flat_take_le (L : List (List UInt8)) (k : Nat) : (flat (L.take k)).length ≤ (flat L).length := by
 have := congrArg List.length (flat_split L k)
 rw [List.length_append] at this
 omega
def tot (L : List (List UInt8)) : Nat := (L.map List.length).sum
theorem flat_len (L : List (List UInt8)) : (flat L).length = 12 * L.length + tot L := by
 induction L with
 | nil => rfl
 | cons r L ih =>
  rw [flat_cons, List.length_append, ih, frm_len]
  simp [tot]
  omega
theorem numOf_numB (n : Nat) (h : n ≤ 4294967295) (more : List UInt8) : numOf (numB n ++ more) = n := by
 unfold numOf numB
 simp
 omega
theorem numB_numOf (l : List UInt8) (h : l.length = 4) : numB (numOf l) = l := by
 match l, h with
 | [a, b, c, d], _ =>
  have ha := a.toNat_lt
  have hb := b.toNat_lt
  have hc := c.toNat_lt
  have hd := d.toNat_lt
  unfold numB numOf
  simp only [List.getD_cons_zero, List.getD_cons_succ]
  congr 1
  ·apply UInt8.toNat_inj.1
   rw [UInt8.toNat_ofNat']
   omega
  ·congr 1
   ·apply UInt8.toNat_inj.1
    rw [UInt8.toNat_ofNat']
    omega
   ·congr 1
    ·apply UInt8.toNat_inj.1
     rw [UInt8.toNat_ofNat']
     omega
    ·congr 1
     apply UInt8.toNat_inj.1
     rw [UInt8.toNat_ofNat']
     omega
theorem numOf_take4 (l : List UInt8) (h : 4 ≤ l.length) : numOf (l.take 4) = numOf l := by
 match l, h with
 | a :: b :: c :: d :: m, _ => rfl
theorem numB_inj {a b : Nat} (ha : a ≤ 4294967295) (hb : b ≤ 4294967295) (h : numB a = numB b) : a = b := by
 have h1 := numOf_numB a ha []
 have h2 := numOf_numB b hb []
 rw [List.append_nil] at h1 h2
 rw [← h1, ← h2, h]
theorem vw_le (a : W) : vw a ≤ 4294967295 := by have := vw_lt a; omega
theorem sumB_inj {a b : List UInt8} (h : sumB a = sumB b) : sum a = sum b := vw_inj (numB_inj (vw_le _) (vw_le _) h)
def Whole (b : List UInt8) : Prop :=
 12 ≤ b.length ∧ numOf b ≤ 65535 ∧ 12 + numOf b ≤ b.length ∧ (b.take 8).drop 4 = sumB (b.take 4) ∧ (b.take 12).drop 8 = sumB ((b.drop 12).take (numOf b))
theorem whole_frm (r m : List UInt8) (h : r.length ≤ 65535) : Whole (frm r ++ m) ∧ numOf (frm r ++ m) = r.length ∧ (frm r ++ m).take 4 = numB r.length ∧ (frm r ++ m).drop 12 = r ++ m := by
 have e : frm r ++ m = numB r.length ++ (sumB (numB r.length) ++ (sumB r ++ (r ++ m))) := by unfold frm; simp only [List.append_assoc]
 have hn : numOf (frm r ++ m) = r.length := by rw [e]; exact numOf_numB _ (by omega) _
 have h4 : (frm r ++ m).take 4 = numB r.length := by rw [e]; rfl
 have h12 : (frm r ++ m).drop 12 = r ++ m := by rw [e]; rfl
 have hl : (frm r ++ m).length = 12 + r.length + m.length := by rw [List.length_append, frm_len]
 refine ⟨⟨by omega, by omega, by omega, ?_, ?_⟩, hn, h4, h12⟩
 ·rw [h4, e]; rfl
 ·rw [h12, hn, List.take_left, e]; rfl
theorem whole_is {b : List UInt8} (h : Whole b) : b = frm ((b.drop 12).take (numOf b)) ++ (b.drop 12).drop (numOf b) ∧ ((b.drop 12).take (numOf b)).length = numOf b := by
 obtain ⟨h1, h2, h3, h4, h5⟩ := h
 have hl : ((b.drop 12).take (numOf b)).length = numOf b := by
  rw [List.length_take, List.length_drop]
  omega
 refine ⟨?_, hl⟩
 have e4 : numB (numOf b) = b.take 4 := by
  rw [← numOf_take4 b (by omega)]
  exact numB_numOf _ (by rw [List.length_take]; omega)
 unfold frm
 rw [hl, e4, ← h4, ← h5, List.append_assoc, List.append_assoc, List.append_assoc, List.take_append_drop]
 have a1 : b = b.take 4 ++ b.drop 4 := (List.take_append_drop _ _).symm
 have a2 : b.drop 4 = (b.take 8).drop 4 ++ b.drop 8 := by
  conv => lhs; rw [show b = b.take 8 ++ b.drop 8 from (List.take_append_drop _ _).symm]
  rw [List.drop_append_of_le_length (by rw [List.length_take]; omega)]
 have a3 : b.drop 8 = (b.take 12).drop 8 ++ b.drop 12 := by
  conv => lhs; rw [show b = b.take 12 ++ b.drop 12 from (List.take_append_drop _ _).symm]
  rw [List.drop_append_of_le_length (by rw [List.length_take]; omega)]
 rw [← a3, ← a2, ← a1]
theorem whole_iff {b : List UInt8} : Whole b ↔ ∃ r m, b = frm r ++ m ∧ r.length ≤ 65535 := by
 constructor
 ·intro h
  obtain ⟨h1, h2⟩ := whole_is h
  exact ⟨_, _, h1, by rw [h2]; exact h.2.1⟩
 ·rintro ⟨r, m, rfl, h⟩
  exact (whole_frm r m h).1
theorem frm_inj {r r' m m' : List UInt8} (h : frm r ++ m = frm r' ++ m') (hr : r.length ≤ 65535) (hr' : r'.length ≤ 65535) : r = r' ∧ m = m' := by
 obtain ⟨-, n1, -, d1⟩ := whole_frm r m hr
 obtain ⟨-, n2, -, d2⟩ := whole_frm r' m' hr'
 rw [h] at n1 d1
 have hl : r.length = r'.length := by omega
 exact List.append_inj (d1.symm.trans d2) hl
theorem sum_turn (l : List UInt8) (j : Nat) (t : UInt8) (hj : j < l.length) (ht : t ≠ 0) : sum (l.set j (l[j] ^^^ t)) ≠ sum l := by
 have el : l = l.take j ++ l[j] :: l.drop (j + 1) := by rw [← List.drop_eq_getElem_cons hj, List.take_append_drop]
 have e2 : l.set j (l[j] ^^^ t) = l.take j ++ (l[j] ^^^ t) :: l.drop (j + 1) := by rw [List.set_eq_take_append_cons_drop, if_pos hj]
 generalize l[j] = c at *
 have hb : bw t ≠ 0#32 := fun e => ht (by
  have h1 : (bw t).toNat = 0 := by rw [e]; rfl
  unfold bw at h1
  rw [BitVec.toNat_ofNat] at h1
  have := t.toNat_lt
  exact UInt8.toNat_inj.1 (by simp; omega))
 have e3 : sum (l.take j ++ (c ^^^ t) :: l.drop (j + 1)) = sum (l.take j ++ c :: l.drop (j + 1)) ^^^ steps (8 * (l.drop (j + 1)).length) (steps 8 (bw t)) := by
  unfold sum
  rw [eats_app, eats_app, eats_cons, eats_cons]
  have : eat (eats ones (l.take j)) (c ^^^ t) = eat (eats ones (l.take j)) c ^^^ steps 8 (bw t) := by
   unfold eat
   rw [bw_xor, ← steps_xor, BitVec.xor_assoc]
  rw [this, eats_xorw, BitVec.xor_assoc, BitVec.xor_comm (steps _ _), ← BitVec.xor_assoc]
 rw [e2, e3, ← el]
 exact xor_self_ne _ _ (steps_ne _ _ (steps_ne _ _ hb))
theorem ne_turn (l : List UInt8) (j : Nat) (t : UInt8) (hj : j < l.length) (ht : t ≠ 0) : l.set j (l[j] ^^^ t) ≠ l := fun e => sum_turn l j t hj ht (by rw [e])
theorem not_whole_turn (r m : List UInt8) (j : Nat) (t : UInt8) (hr : r.length ≤ 65535) (hj : j < 12 + r.length) (ht : t ≠ 0) (b : List UInt8)
  (hb : b = (frm r ++ m).set j ((frm r ++ m).getD j 0 ^^^ t)) : ¬ Whole b := by
 intro hw
 obtain ⟨-, h2, h3, h4, h5⟩ := hw
 obtain ⟨⟨g1, g2, g3, g4, g5⟩, hn, ht4, hd⟩ := whole_frm r m hr
 generalize hf : frm r ++ m = f at *
 have hfl : 12 + r.length ≤ f.length := by omega
 have hjf : j < f.length := by omega
 have hget : f.getD j 0 = f[j] := by simp [List.getD, hjf]
 rw [hget] at hb
 have hlen : b.length = f.length := by rw [hb, List.length_set]
 have part : ∀ (x y : Nat), (b.take y).drop x = if x ≤ j ∧ j < y then ((f.take y).drop x).set (j - x) (f[j] ^^^ t) else (f.take y).drop x := by
  intro x y
  rw [hb, List.take_set, List.drop_set]
  by_cases h1 : j < x
  ·rw [if_pos h1, if_neg (by omega)]
  ·rw [if_neg h1]
   by_cases h2 : j < y
   ·rw [if_pos ⟨by omega, h2⟩]
   ·rw [if_neg (by omega)]
    exact List.set_eq_of_length_le (by rw [List.length_drop, List.length_take]; omega)
 have pne : ∀ (x y : Nat), x ≤ j → j < y → ((f.take y).drop x).set (j - x) (f[j] ^^^ t) ≠ (f.take y).drop x ∧ sum (((f.take y).drop x).set (j - x) (f[j] ^^^ t)) ≠ sum ((f.take y).drop x) := by
  intro x y hx hy
  have hl : j - x < ((f.take y).drop x).length := by rw [List.length_drop, List.length_take]; omega
  have e : ((f.take y).drop x)[j - x] = f[j] := by
   rw [List.getElem_drop, List.getElem_take]
   congr 1
   omega
  rw [← e]
  exact ⟨ne_turn _ _ t hl ht, sum_turn _ _ t hl ht⟩
 have p04 := part 0 4
 simp only [List.drop_zero] at p04
 by_cases c1 : j < 4
 ·have p48 := part 4 8
  rw [if_neg (by omega)] at p48
  rw [if_pos ⟨by omega, c1⟩] at p04
  have := (pne 0 4 (by omega) c1).2
  simp only [List.drop_zero] at this
  rw [p04, p48, g4] at h4
  exact this (sumB_inj h4).symm
 ·rw [if_neg (by omega)] at p04
  have hnb : numOf b = r.length := by rw [← numOf_take4 b (by omega), p04, numOf_take4 f (by omega), hn]
  by_cases c2 : j < 8
  ·have p48 := part 4 8
   rw [if_pos ⟨by omega, c2⟩] at p48
   have := (pne 4 8 (by omega) c2).1
   rw [p04, p48, ← g4] at h4
   exact this h4
  ·have prec : (b.drop 12).take (numOf b) = (b.take (12 + r.length)).drop 12 := by rw [hnb, List.drop_take]; congr 1; omega
   have frec : (f.drop 12).take (numOf f) = (f.take (12 + r.length)).drop 12 := by rw [hn, List.drop_take]; congr 1; omega
   rw [prec] at h5
   rw [frec] at g5
   by_cases c3 : j < 12
   ·have p812 := part 8 12
    rw [if_pos ⟨by omega, c3⟩] at p812
    have pr := part 12 (12 + r.length)
    rw [if_neg (by omega)] at pr
    have := (pne 8 12 (by omega) c3).1
    rw [pr, p812, ← g5] at h5
    exact this h5
   ·have p812 := part 8 12
    rw [if_neg (by omega)] at p812
    have pr := part 12 (12 + r.length)
    rw [if_pos ⟨by omega, hj⟩] at pr
    have := (pne 12 (12 + r.length) (by omega) hj).2
    rw [pr, p812, g5] at h5
    exact this (sumB_inj h5).symm
end Frm
def gl (L : List (List UInt8)) (i : Nat) : List UInt8 := L.getD i []
end Go.Proofs.Ytpmlfhgdhnofbaa
namespace Go.Proofs.Ytpmlfhgdhnofbaa
open Go.RowKit Crc Frm
theorem fsum_any (v : Value) (l : List UInt8) (w : World) (B : Nat) (hr : Rd w B v (l.map bv)) (hl : l.length ≤ 1000000000000) :
  Calls Try.prog 35 #[v] w fun e w' => ∃ x, e = .returned x ∧ Ow w' w.heap.size 5 x ((sumB l).map bv) ∧ Below w.heap.size w w' := by
 have hv := vw_le (sum l)
 go_enter Try.func35, Try.ntmps35
 go_wp2_with fail
 refine (sum_any _ l _ _ hr (by omega)).mono ?_
 rintro e w' ⟨rfl, rfl⟩
 go_wp2_with fail
 refine (num_ok _ _ hv).mono ?_
 rintro e w1 ⟨x, rfl, ho, hb⟩
 go_wp2_with fail
 go_ret
 exact ⟨x, rfl, ho, hb⟩
end Go.Proofs.Ytpmlfhgdhnofbaa
namespace Go.Proofs.Ytpmlfhgdhnofbaa
open Go.RowKit Crc Frm
theorem split_ok (v : Value) (b r m : List UInt8) (w : World) (B : Nat) (hr : Rd w B v (b.map bv)) (hB : B ≤ w.heap.size) (hb : b = frm r ++ m) (hr5 : r.length ≤ 65535) (hl : b.length ≤ 1000000000000) :
  Calls Try.prog 42 #[v] w fun e w' => (∃ x y, e = .returned (.tuple #[x, y, .bool true]) ∧ Rd w' B x (r.map bv) ∧ Rd w' B y (m.map bv)) ∧ Below w.heap.size w w' := by
 obtain ⟨A, c, rfl, hc, hm⟩ := hr.shapeM
 obtain ⟨⟨g1, g2, g3, g4, g5⟩, hn, h4, h12⟩ := whole_frm r m hr5
 rw [← hb] at g1 g2 g3 g4 g5 hn h4 h12
 rw [h12, hn, List.take_left] at g5
 obtain ⟨b0, off, rfl, hb0, -⟩ := hr.cellM (by omega)
 have r4 : Rd w B (.slice (some ⟨b0, off, none⟩) 4 c) ((numB r.length).map bv) := by
  have := hr.cutTo (hi := 4) (by omega)
  rw [← List.map_take, h4] at this
  exact this
 have r48 : Rd w B (.slice (some ⟨b0, off + 4, none⟩) 4 (c - 4)) ((sumB (numB r.length)).map bv) := by
  have := hr.midC (lo := 4) (hi := 8) (by omega) (by omega) (by omega)
  rw [← List.map_take, ← List.map_drop, g4, h4] at this
  exact this
 have r812 : Rd w B (.slice (some ⟨b0, off + 8, none⟩) 4 (c - 8)) ((sumB r).map bv) := by
  have := hr.midC (lo := 8) (hi := 12) (by omega) (by omega) (by omega)
  rw [← List.map_take, ← List.map_drop, g5] at this
  exact this
 have hlen : b.length = 12 + r.length + m.length := by rw [hb, List.length_append, frm_len]
 have hle : 12 + r.length ≤ b.length := by omega
 have hN : numOf (numB r.length) = r.length := by have := numOf_numB r.length (by omega) []; rwa [List.append_nil] at this
 have HN := Lib.hid hN
 unfold maxLen at hm
 by_cases hc12 : c = 12
 ·subst hc12
  have hbl : b.length = 12 := by omega
  obtain rfl : r = [] := List.eq_nil_of_length_eq_zero (by omega)
  obtain rfl : m = [] := List.eq_nil_of_length_eq_zero (by omega)
  have rrec : Rd w B (.slice (some ⟨b0, off, none⟩) 0 0) (([] : List UInt8).map bv) := ⟨_, 0, rfl, Nat.le_refl _, by simp [maxLen], fun h => absurd h (by simp)⟩
  have rleft := rrec
  clear hb g2 g3 g4 g5 hn h4 h12 hN hlen
  go_enter Try.func42, Try.ntmps42
  go_wp2_with fail
  go_quiet (fail)
  have hbq := bwN (w := w) nq
  generalize hw0 : w.drewN nq = w0 at *
  clear hw0
  go_wp2_with fail
  refine (cutNum_ok _ (numB ([] : List UInt8).length) _ _ (r4.below (hbq.mono hB)) (by rw [numB_len]; omega) (by rw [numB_len]; omega)).mono ?_
  rintro e w1 ⟨q, rfl, -, hb1⟩
  rw [HN.out]
  have hbb := bwstep hbq hb1
  clear hbq hb1
  go_wp2_with fail
  refine (fsum_any _ _ _ _ (r4.below (hbb.mono hB)) (by rw [numB_len]; omega)).mono ?_
  rintro e w2 ⟨q2, rfl, hq2, hb2⟩
  have hbb := bwstep hbb hb2
  clear hb2
  go_wp2_with fail
  refine (equal_any _ _ _ _ _ _ _ (r48.below (hbb.mono hB)) hq2.rd).mono ?_
  rintro e w3 ⟨rfl, rfl⟩
  rw [sameB_self]
  clear hq2
  go_wp2_with fail
  go_quiet (fail)
  have hbb := bwstep hbb (bwN nq)
  generalize hw0 : w3.drewN nq = w4 at *
  clear hw0
  go_wp2_with fail
  refine (fsum_any _ _ _ _ (rrec.below (hbb.mono hB)) (by omega)).mono ?_
  rintro e w5 ⟨q3, rfl, hq3, hb3⟩
  have hbb := bwstep hbb hb3
  clear hb3
  go_wp2_with fail
  refine (equal_any _ _ _ _ _ _ _ (r812.below (hbb.mono hB)) hq3.rd).mono ?_
  rintro e w6 ⟨rfl, rfl⟩
  rw [sameB_self]
  clear hq3
  go_wp2_with fail
  go_ret3
  exact ⟨⟨_, _, rfl, rrec.below (hbb.mono hB), rleft.below (hbb.mono hB)⟩, hbb⟩
 ·have rrest : Rd w B (.slice (some ⟨b0, off + 12, none⟩) (b.length - 12) (c - 12)) ((r ++ m).map bv) := by
   have := hr.fromC (lo := 12) (by omega) hc12
   rw [← List.map_drop, h12] at this
   exact this
  have rrec : Rd w B (.slice (some ⟨b0, off + 12, none⟩) r.length (c - 12)) (r.map bv) := by
   have := rrest.cutTo (hi := r.length) (by omega)
   rw [← List.map_take, List.take_left] at this
   exact this
  by_cases hcn : c - 12 = r.length
  ·obtain rfl : m = [] := List.eq_nil_of_length_eq_zero (by omega)
   have hbl : b.length - 12 = r.length := by simp at hlen; omega
   have rleft : Rd w B (.slice (some ⟨b0, off + 12, none⟩) 0 0) (([] : List UInt8).map bv) := ⟨_, 0, rfl, Nat.le_refl _, by simp [maxLen], fun h => absurd h (by simp)⟩
   rw [hcn] at rrec
   clear hb g2 g3 g4 g5 hn h4 h12 hN hlen rrest
   go_enter Try.func42, Try.ntmps42
   go_wp2_with fail
   go_quiet (fail)
   have hbq := bwN (w := w) nq
   generalize hw0 : w.drewN nq = w0 at *
   clear hw0
   go_wp2_with fail
   refine (cutNum_ok _ (numB r.length) _ _ (r4.below (hbq.mono hB)) (by rw [numB_len]; omega) (by rw [numB_len]; omega)).mono ?_
   rintro e w1 ⟨q, rfl, -, hb1⟩
   rw [HN.out]
   have hbb := bwstep hbq hb1
   clear hbq hb1
   go_wp2_with fail
   refine (fsum_any _ _ _ _ (r4.below (hbb.mono hB)) (by rw [numB_len]; omega)).mono ?_
   rintro e w2 ⟨q2, rfl, hq2, hb2⟩
   have hbb := bwstep hbb hb2
   clear hb2
   go_wp2_with fail
   refine (equal_any _ _ _ _ _ _ _ (r48.below (hbb.mono hB)) hq2.rd).mono ?_
   rintro e w3 ⟨rfl, rfl⟩
   rw [sameB_self]
   clear hq2
   go_wp2_with fail
   go_quiet (fail)
   have hbb := bwstep hbb (bwN nq)
   generalize hw0 : w3.drewN nq = w4 at *
   clear hw0
   go_wp2_with fail
   refine (fsum_any _ _ _ _ (rrec.below (hbb.mono hB)) (by omega)).mono ?_
   rintro e w5 ⟨q3, rfl, hq3, hb3⟩
   have hbb := bwstep hbb hb3
   clear hb3
   go_wp2_with fail
   refine (equal_any _ _ _ _ _ _ _ (r812.below (hbb.mono hB)) hq3.rd).mono ?_
   rintro e w6 ⟨rfl, rfl⟩
   rw [sameB_self]
   clear hq3
   go_wp2_with fail
   go_ret3
   exact ⟨⟨_, _, rfl, rrec.below (hbb.mono hB), rleft.below (hbb.mono hB)⟩, hbb⟩
  ·have rleft : Rd w B (.slice (some ⟨b0, off + 12 + r.length, none⟩) (b.length - 12 - r.length) (c - 12 - r.length)) (m.map bv) := by
    have := rrest.fromC (lo := r.length) (by omega) hcn
    rw [← List.map_drop, List.drop_left] at this
    exact this
   clear hb g2 g3 g4 g5 hn h4 h12 hN hlen rrest
   go_enter Try.func42, Try.ntmps42
   go_wp2_with fail
   go_quiet (fail)
   have hbq := bwN (w := w) nq
   generalize hw0 : w.drewN nq = w0 at *
   clear hw0
   go_wp2_with fail
   refine (cutNum_ok _ (numB r.length) _ _ (r4.below (hbq.mono hB)) (by rw [numB_len]; omega) (by rw [numB_len]; omega)).mono ?_
   rintro e w1 ⟨q, rfl, -, hb1⟩
   rw [HN.out]
   have hbb := bwstep hbq hb1
   clear hbq hb1
   go_wp2_with fail
   refine (fsum_any _ _ _ _ (r4.below (hbb.mono hB)) (by rw [numB_len]; omega)).mono ?_
   rintro e w2 ⟨q2, rfl, hq2, hb2⟩
   have hbb := bwstep hbb hb2
   clear hb2
   go_wp2_with fail
   refine (equal_any _ _ _ _ _ _ _ (r48.below (hbb.mono hB)) hq2.rd).mono ?_
   rintro e w3 ⟨rfl, rfl⟩
   rw [sameB_self]
   clear hq2
   go_wp2_with fail
   go_quiet (fail)
   have hbb := bwstep hbb (bwN nq)
   generalize hw0 : w3.drewN nq = w4 at *
   clear hw0
   go_wp2_with fail
   refine (fsum_any _ _ _ _ (rrec.below (hbb.mono hB)) (by omega)).mono ?_
   rintro e w5 ⟨q3, rfl, hq3, hb3⟩
   have hbb := bwstep hbb hb3
   clear hb3
   go_wp2_with fail
   refine (equal_any _ _ _ _ _ _ _ (r812.below (hbb.mono hB)) hq3.rd).mono ?_
   rintro e w6 ⟨rfl, rfl⟩
   rw [sameB_self]
   clear hq3
   go_wp2_with fail
   go_ret3
   exact ⟨⟨_, _, rfl, rrec.below (hbb.mono hB), rleft.below (hbb.mono hB)⟩, hbb⟩
end Go.Proofs.Ytpmlfhgdhnofbaa
namespace Go.Proofs.Ytpmlfhgdhnofbaa
open Go.RowKit Crc Frm
theorem sameB_ne {a b : List UInt8} (h : a ≠ b) : sameB a b = false := by simp [sameB, h]
theorem split_no (v : Value) (b : List UInt8) (w : World) (B : Nat) (hr : Rd w B v (b.map bv)) (hB : B ≤ w.heap.size) (hno : ¬ Whole b) (hl : b.length ≤ 1000000000000) :
  Calls Try.prog 42 #[v] w fun e w' => e = .returned (.tuple #[.slice none 0 0, .slice none 0 0, .bool false]) ∧ Below w.heap.size w w' := by
 obtain ⟨A, c, rfl, hc, hm⟩ := hr.shapeM
 by_cases g1 : 12 ≤ b.length
 ·obtain ⟨b0, off, rfl, hb0, -⟩ := hr.cellM (by omega)
  have r4 : Rd w B (.slice (some ⟨b0, off, none⟩) 4 c) ((b.take 4).map bv) := by
   have := hr.cutTo (hi := 4) (by omega)
   rw [← List.map_take] at this
   exact this
  have r48 : Rd w B (.slice (some ⟨b0, off + 4, none⟩) 4 (c - 4)) (((b.take 8).drop 4).map bv) := by
   have := hr.midC (lo := 4) (hi := 8) (by omega) (by omega) (by omega)
   rw [← List.map_take, ← List.map_drop] at this
   exact this
  have r812 : Rd w B (.slice (some ⟨b0, off + 8, none⟩) 4 (c - 8)) (((b.take 12).drop 8).map bv) := by
   have := hr.midC (lo := 8) (hi := 12) (by omega) (by omega) (by omega)
   rw [← List.map_take, ← List.map_drop] at this
   exact this
  have hN := numOf_take4 b (by omega)
  unfold maxLen at hm
  obtain ⟨n, hn⟩ : ∃ n, n = numOf b := ⟨_, rfl⟩
  unfold Whole at hno
  rw [← hn] at hno hN
  have HN := Lib.hid hN
  clear hn hN
  by_cases g2 : n ≤ 65535 ∧ 12 + n ≤ b.length
  ·obtain ⟨g2, g3⟩ := g2
   by_cases g4 : (b.take 8).drop 4 = sumB (b.take 4)
   ·have g5 : ¬ (b.take 12).drop 8 = sumB ((b.drop 12).take n) := fun g5 => hno ⟨g1, g2, g3, g4, g5⟩
    have HE := Lib.hid (show sameB ((b.take 8).drop 4) (sumB (b.take 4)) = true by rw [g4]; exact sameB_self _)
    have HF := Lib.hid (sameB_ne g5)
    clear g4 g5 hno
    by_cases hc12 : c = 12
    ·subst hc12
     have hbl : b.length = 12 := by omega
     obtain rfl : n = 0 := by omega
     have rrec : Rd w B (.slice (some ⟨b0, off, none⟩) 0 0) (((b.drop 12).take 0).map bv) := ⟨_, 0, rfl, Nat.le_refl _, by simp [maxLen], fun h => absurd h (by simp)⟩
     go_enter Try.func42, Try.ntmps42
     go_wp2_with fail
     go_quiet (fail)
     have hbq := bwN (w := w) nq
     generalize hw0 : w.drewN nq = w0 at *
     clear hw0
     go_wp2_with fail
     refine (cutNum_ok _ (b.take 4) _ _ (r4.below (hbq.mono hB)) (by rw [List.length_take]; omega) (by rw [List.length_take]; omega)).mono ?_
     rintro e w1 ⟨q, rfl, -, hb1⟩
     rw [HN.out]
     have hbb := bwstep hbq hb1
     clear hbq hb1
     go_wp2_with fail
     refine (fsum_any _ _ _ _ (r4.below (hbb.mono hB)) (by rw [List.length_take]; omega)).mono ?_
     rintro e w2 ⟨q2, rfl, hq2, hb2⟩
     have hbb := bwstep hbb hb2
     clear hb2
     go_wp2_with fail
     refine (equal_any _ _ _ _ _ _ _ (r48.below (hbb.mono hB)) hq2.rd).mono ?_
     rintro e w3 ⟨rfl, rfl⟩
     rw [HE.out]
     clear hq2
     go_wp2_with fail
     go_quiet (fail)
     have hbb := bwstep hbb (bwN nq)
     generalize hw0 : w3.drewN nq = w4 at *
     clear hw0
     go_wp2_with fail
     refine (fsum_any _ ((b.drop 12).take 0) _ _ (rrec.below (hbb.mono hB)) (by rw [List.length_take]; omega)).mono ?_
     rintro e w5 ⟨q3, rfl, hq3, hb3⟩
     have hbb := bwstep hbb hb3
     clear hb3
     go_wp2_with fail
     refine (equal_any _ _ _ _ _ _ _ (r812.below (hbb.mono hB)) hq3.rd).mono ?_
     rintro e w6 ⟨rfl, rfl⟩
     rw [HF.out]
     clear hq3
     go_wp2_with fail
     go_ret3
     exact ⟨rfl, hbb⟩
    ·have rrest : Rd w B (.slice (some ⟨b0, off + 12, none⟩) (b.length - 12) (c - 12)) ((b.drop 12).map bv) := by
      have := hr.fromC (lo := 12) (by omega) hc12
      rw [← List.map_drop] at this
      exact this
     have rrec : Rd w B (.slice (some ⟨b0, off + 12, none⟩) n (c - 12)) (((b.drop 12).take n).map bv) := by
      have := rrest.cutTo (hi := n) (by omega)
      rw [← List.map_take] at this
      exact this
     clear rrest
     by_cases hcn : c - 12 = n
     ·have hbl : b.length - 12 = n := by omega
      rw [hcn] at rrec
      go_enter Try.func42, Try.ntmps42
      go_wp2_with fail
      go_quiet (fail)
      have hbq := bwN (w := w) nq
      generalize hw0 : w.drewN nq = w0 at *
      clear hw0
      go_wp2_with fail
      refine (cutNum_ok _ (b.take 4) _ _ (r4.below (hbq.mono hB)) (by rw [List.length_take]; omega) (by rw [List.length_take]; omega)).mono ?_
      rintro e w1 ⟨q, rfl, -, hb1⟩
      rw [HN.out]
      have hbb := bwstep hbq hb1
      clear hbq hb1
      go_wp2_with fail
      refine (fsum_any _ _ _ _ (r4.below (hbb.mono hB)) (by rw [List.length_take]; omega)).mono ?_
      rintro e w2 ⟨q2, rfl, hq2, hb2⟩
      have hbb := bwstep hbb hb2
      clear hb2
      go_wp2_with fail
      refine (equal_any _ _ _ _ _ _ _ (r48.below (hbb.mono hB)) hq2.rd).mono ?_
      rintro e w3 ⟨rfl, rfl⟩
      rw [HE.out]
      clear hq2
      go_wp2_with fail
      go_quiet (fail)
      have hbb := bwstep hbb (bwN nq)
      generalize hw0 : w3.drewN nq = w4 at *
      clear hw0
      go_wp2_with fail
      refine (fsum_any _ ((b.drop 12).take n) _ _ (rrec.below (hbb.mono hB)) (by rw [List.length_take]; omega)).mono ?_
      rintro e w5 ⟨q3, rfl, hq3, hb3⟩
      have hbb := bwstep hbb hb3
      clear hb3
      go_wp2_with fail
      refine (equal_any _ _ _ _ _ _ _ (r812.below (hbb.mono hB)) hq3.rd).mono ?_
      rintro e w6 ⟨rfl, rfl⟩
      rw [HF.out]
      clear hq3
      go_wp2_with fail
      go_ret3
      exact ⟨rfl, hbb⟩
     ·skip
      go_enter Try.func42, Try.ntmps42
      go_wp2_with fail
      go_quiet (fail)
      have hbq := bwN (w := w) nq
      generalize hw0 : w.drewN nq = w0 at *
      clear hw0
      go_wp2_with fail
      refine (cutNum_ok _ (b.take 4) _ _ (r4.below (hbq.mono hB)) (by rw [List.length_take]; omega) (by rw [List.length_take]; omega)).mono ?_
      rintro e w1 ⟨q, rfl, -, hb1⟩
      rw [HN.out]
      have hbb := bwstep hbq hb1
      clear hbq hb1
      go_wp2_with fail
      refine (fsum_any _ _ _ _ (r4.below (hbb.mono hB)) (by rw [List.length_take]; omega)).mono ?_
      rintro e w2 ⟨q2, rfl, hq2, hb2⟩
      have hbb := bwstep hbb hb2
      clear hb2
      go_wp2_with fail
      refine (equal_any _ _ _ _ _ _ _ (r48.below (hbb.mono hB)) hq2.rd).mono ?_
      rintro e w3 ⟨rfl, rfl⟩
      rw [HE.out]
      clear hq2
      go_wp2_with fail
      go_quiet (fail)
      have hbb := bwstep hbb (bwN nq)
      generalize hw0 : w3.drewN nq = w4 at *
      clear hw0
      go_wp2_with fail
      refine (fsum_any _ ((b.drop 12).take n) _ _ (rrec.below (hbb.mono hB)) (by rw [List.length_take]; omega)).mono ?_
      rintro e w5 ⟨q3, rfl, hq3, hb3⟩
      have hbb := bwstep hbb hb3
      clear hb3
      go_wp2_with fail
      refine (equal_any _ _ _ _ _ _ _ (r812.below (hbb.mono hB)) hq3.rd).mono ?_
      rintro e w6 ⟨rfl, rfl⟩
      rw [HF.out]
      clear hq3
      go_wp2_with fail
      go_ret3
      exact ⟨rfl, hbb⟩
   ·have HE := Lib.hid (sameB_ne g4)
    clear g4 hno
    by_cases hc12 : c = 12
    ·subst hc12
     have hbl : b.length = 12 := by omega
     obtain rfl : n = 0 := by omega
     go_enter Try.func42, Try.ntmps42
     go_wp2_with fail
     go_quiet (fail)
     have hbq := bwN (w := w) nq
     generalize hw0 : w.drewN nq = w0 at *
     clear hw0
     go_wp2_with fail
     refine (cutNum_ok _ (b.take 4) _ _ (r4.below (hbq.mono hB)) (by rw [List.length_take]; omega) (by rw [List.length_take]; omega)).mono ?_
     rintro e w1 ⟨q, rfl, -, hb1⟩
     rw [HN.out]
     have hbb := bwstep hbq hb1
     clear hbq hb1
     go_wp2_with fail
     refine (fsum_any _ _ _ _ (r4.below (hbb.mono hB)) (by rw [List.length_take]; omega)).mono ?_
     rintro e w2 ⟨q2, rfl, hq2, hb2⟩
     have hbb := bwstep hbb hb2
     clear hb2
     go_wp2_with fail
     refine (equal_any _ _ _ _ _ _ _ (r48.below (hbb.mono hB)) hq2.rd).mono ?_
     rintro e w3 ⟨rfl, rfl⟩
     rw [HE.out]
     clear hq2
     go_wp2_with fail
     go_ret3
     exact ⟨rfl, hbb⟩
    ·skip
     go_enter Try.func42, Try.ntmps42
     go_wp2_with fail
     go_quiet (fail)
     have hbq := bwN (w := w) nq
     generalize hw0 : w.drewN nq = w0 at *
     clear hw0
     go_wp2_with fail
     refine (cutNum_ok _ (b.take 4) _ _ (r4.below (hbq.mono hB)) (by rw [List.length_take]; omega) (by rw [List.length_take]; omega)).mono ?_
     rintro e w1 ⟨q, rfl, -, hb1⟩
     rw [HN.out]
     have hbb := bwstep hbq hb1
     clear hbq hb1
     go_wp2_with fail
     refine (fsum_any _ _ _ _ (r4.below (hbb.mono hB)) (by rw [List.length_take]; omega)).mono ?_
     rintro e w2 ⟨q2, rfl, hq2, hb2⟩
     have hbb := bwstep hbb hb2
     clear hb2
     go_wp2_with fail
     refine (equal_any _ _ _ _ _ _ _ (r48.below (hbb.mono hB)) hq2.rd).mono ?_
     rintro e w3 ⟨rfl, rfl⟩
     rw [HE.out]
     clear hq2
     go_wp2_with fail
     go_ret3
     exact ⟨rfl, hbb⟩
  ·clear hno
   by_cases g3 : n ≤ 65535
   ·have g2 : ¬ 12 + n ≤ b.length := fun h => g2 ⟨g3, h⟩
    by_cases hc12 : c = 12
    ·subst hc12
     have hbl : b.length = 12 := by omega
     have hn0 : 0 < n := by omega
     go_enter Try.func42, Try.ntmps42
     go_wp2_with fail
     go_quiet (fail)
     have hbq := bwN (w := w) nq
     generalize hw0 : w.drewN nq = w0 at *
     clear hw0
     go_wp2_with fail
     refine (cutNum_ok _ (b.take 4) _ _ (r4.below (hbq.mono hB)) (by rw [List.length_take]; omega) (by rw [List.length_take]; omega)).mono ?_
     rintro e w1 ⟨q, rfl, -, hb1⟩
     rw [HN.out]
     have hbb := bwstep hbq hb1
     clear hbq hb1
     go_wp2_with fail
     go_ret3
     exact ⟨rfl, hbb⟩
    ·skip
     go_enter Try.func42, Try.ntmps42
     go_wp2_with fail
     go_quiet (fail)
     have hbq := bwN (w := w) nq
     generalize hw0 : w.drewN nq = w0 at *
     clear hw0
     go_wp2_with fail
     refine (cutNum_ok _ (b.take 4) _ _ (r4.below (hbq.mono hB)) (by rw [List.length_take]; omega) (by rw [List.length_take]; omega)).mono ?_
     rintro e w1 ⟨q, rfl, -, hb1⟩
     rw [HN.out]
     have hbb := bwstep hbq hb1
     clear hbq hb1
     go_wp2_with fail
     go_ret3
     exact ⟨rfl, hbb⟩
   ·clear g2
    by_cases hc12 : c = 12
    ·subst hc12
     have hbl : b.length = 12 := by omega
     go_enter Try.func42, Try.ntmps42
     go_wp2_with fail
     go_quiet (fail)
     have hbq := bwN (w := w) nq
     generalize hw0 : w.drewN nq = w0 at *
     clear hw0
     go_wp2_with fail
     refine (cutNum_ok _ (b.take 4) _ _ (r4.below (hbq.mono hB)) (by rw [List.length_take]; omega) (by rw [List.length_take]; omega)).mono ?_
     rintro e w1 ⟨q, rfl, -, hb1⟩
     rw [HN.out]
     have hbb := bwstep hbq hb1
     clear hbq hb1
     go_wp2_with fail
     go_ret3
     exact ⟨rfl, hbb⟩
    ·skip
     go_enter Try.func42, Try.ntmps42
     go_wp2_with fail
     go_quiet (fail)
     have hbq := bwN (w := w) nq
     generalize hw0 : w.drewN nq = w0 at *
     clear hw0
     go_wp2_with fail
     refine (cutNum_ok _ (b.take 4) _ _ (r4.below (hbq.mono hB)) (by rw [List.length_take]; omega) (by rw [List.length_take]; omega)).mono ?_
     rintro e w1 ⟨q, rfl, -, hb1⟩
     rw [HN.out]
     have hbb := bwstep hbq hb1
     clear hbq hb1
     go_wp2_with fail
     go_ret3
     exact ⟨rfl, hbb⟩
 ·go_enter Try.func42, Try.ntmps42
  go_wp2_with fail
  go_ret3
  exact ⟨rfl, bwrefl _⟩
end Go.Proofs.Ytpmlfhgdhnofbaa
namespace Go.Proofs.Ytpmlfhgdhnofbaa
open Go.RowKit Crc Frm
theorem RdM.build4 {w : World} {a b c d : Value} {x y z u : List UInt8} (e : Nat) (ha : Rd w w.heap.size a (x.map bv)) (hb : Rd w w.heap.size b (y.map bv)) (hc : Rd w w.heap.size c (z.map bv)) (hd : Rd w w.heap.size d (u.map bv)) :
  RdM (w.alloc (.cells #[a, b, c, d] e)) (w.alloc (.cells #[a, b, c, d] e)).heap.size (.slice (some ⟨w.heap.size, 0, none⟩) 4 4) 4 (gl [x, y, z, u]) := by
 have hal := bwalloc (bwrefl w) (.cells #[a, b, c, d] e)
 refine ⟨fun i => [a, b, c, d].getD i undef, Rd.newW w e #[a, b, c, d] rfl (by simp [maxLen]) rfl, fun j hj => ?_⟩
 match j, hj with
 | 0, _ => exact ha.up hal
 | 1, _ => exact hb.up hal
 | 2, _ => exact hc.up hal
 | 3, _ => exact hd.up hal
theorem flatG4 (x y z u : List UInt8) : flatG (gl [x, y, z, u]) 4 = x ++ (y ++ (z ++ u)) := by
 show ((([] ++ x) ++ y) ++ z) ++ u = _
 simp
theorem fput_ok (v : Value) (r : List UInt8) (w : World) (hr : Rd w w.heap.size v (r.map bv)) (hl : r.length ≤ 65535) :
  Calls Try.prog 17 #[v] w fun e w' => (∃ x, e = .returned x ∧ Ow w' w.heap.size 5 x ((frm r).map bv)) ∧ Below w.heap.size w w' := by
 obtain ⟨A, c, rfl, hc, hm⟩ := hr.shapeM
 unfold maxLen at hm
 go_enter Try.func17, Try.ntmps17
 go_wp2_with fail
 refine (num_ok _ _ (by omega)).mono ?_
 rintro e w1 ⟨q1, rfl, h1, hb1⟩
 go_wp2_with fail
 refine (fsum_any _ _ _ _ h1.rd (by rw [numB_len]; omega)).mono ?_
 rintro e w2 ⟨q2, rfl, h2, hb2⟩
 have hbb := bwstep hb1 hb2
 go_wp2_with fail
 refine (fsum_any _ _ _ _ (hr.up hbb) (by omega)).mono ?_
 rintro e w3 ⟨q3, rfl, h3, hb3⟩
 have hm4 := RdM.build4 29 (h1.rd.up (bwstep hb2 hb3)) (h2.rd.up hb3) h3.rd ((hr.up hbb).up hb3)
 have hbb := bwstep hbb hb3
 have hfl : (flatG (gl [numB r.length, sumB (numB r.length), sumB r, r]) 4).length = 12 + r.length := by rw [flatG4]; exact frm_len r
 obtain ⟨A1, c1, rfl, -, -⟩ := h1.rd.shapeM
 obtain ⟨A2, c2, rfl, -, -⟩ := h2.rd.shapeM
 obtain ⟨A3, c3, rfl, -, -⟩ := h3.rd.shapeM
 have hbl := bwalloc hbb (.cells #[.slice A1 (numB r.length).length c1, .slice A2 (sumB (numB r.length)).length c2, .slice A3 (sumB r).length c3, .slice A r.length c] 29)
 have hcc := concatG_any _ 4 _ _ hm4 (by omega) (by omega) (by omega)
 clear h1 h2 h3 hb1 hb2 hb3 hm4 hbb hr hfl
 go_wp2_with fail
 refine hcc.mono ?_
 rintro e w4 ⟨⟨q4, rfl, h4⟩, hb4⟩
 go_wp2_with fail
 go_ret
 rw [flatG4] at h4
 exact ⟨⟨_, rfl, h4.mono hbl.size⟩, bwstep hbl hb4⟩
theorem cut_ok (v : Value) (b r m : List UInt8) (w : World) (B : Nat) (hr : Rd w B v (b.map bv)) (hB : B ≤ w.heap.size) (hb : b = frm r ++ m) (hr5 : r.length ≤ 65535) (hl : b.length ≤ 1000000000000) :
  Calls Try.prog 30 #[v] w fun e w' => (∃ x y, e = .returned (.tuple #[x, y, .bool true]) ∧ Ow w' w.heap.size 5 x (r.map bv) ∧ Ow w' w.heap.size 5 y (m.map bv)) ∧ Below w.heap.size w w' := by
 have hlen : r.length ≤ 1000000000000 ∧ m.length ≤ 1000000000000 := by
  rw [hb, List.length_append, frm_len] at hl
  omega
 go_enter Try.func30, Try.ntmps30
 go_wp2_with fail
 refine (split_ok _ b r m _ _ hr hB hb hr5 hl).mono ?_
 rintro e w1 ⟨⟨x, y, rfl, hx, hy⟩, hb1⟩
 have hB1 := Nat.le_trans hB hb1.size
 go_wp2_with fail
 refine (bclone_any _ _ _ _ hx hB1 hlen.1).mono ?_
 rintro e w2 ⟨x2, rfl, hx2, hb2⟩
 go_wp2_with fail
 refine (bclone_any _ _ _ _ (hy.below (hb2.mono hB1)) (Nat.le_trans hB1 hb2.size) hlen.2).mono ?_
 rintro e w3 ⟨y2, rfl, hy2, hb3⟩
 go_wp2_with fail
 go_ret3
 exact ⟨⟨_, _, rfl, (hx2.below hb3).mono hb1.size, hy2.mono (bwstep hb1 hb2).size⟩, bwstep (bwstep hb1 hb2) hb3⟩
theorem cut_no (v : Value) (b : List UInt8) (w : World) (B : Nat) (hr : Rd w B v (b.map bv)) (hB : B ≤ w.heap.size) (hno : ¬ Whole b) (hl : b.length ≤ 1000000000000) :
  Calls Try.prog 30 #[v] w fun e w' => (∃ x y, e = .returned (.tuple #[x, y, .bool false]) ∧ Ow w' w.heap.size 5 x (([] : List UInt8).map bv) ∧ Ow w' w.heap.size 5 y (([] : List UInt8).map bv)) ∧ Below w.heap.size w w' := by
 have hcl := fun w => bclone_any (.slice none 0 0) [] w 0 (Rd.nil _ _) (Nat.zero_le _) (by simp)
 go_enter Try.func30, Try.ntmps30
 go_wp2_with fail
 refine (split_no _ b _ _ hr hB hno hl).mono ?_
 rintro e w1 ⟨rfl, hb1⟩
 go_wp2_with fail
 refine (hcl _).mono ?_
 rintro e w2 ⟨x2, rfl, hx2, hb2⟩
 go_wp2_with fail
 refine (hcl _).mono ?_
 rintro e w3 ⟨y2, rfl, hy2, hb3⟩
 go_wp2_with fail
 go_ret3
 exact ⟨⟨_, _, rfl, (hx2.below hb3).mono hb1.size, hy2.mono (bwstep hb1 hb2).size⟩, bwstep (bwstep hb1 hb2) hb3⟩
end Go.Proofs.Ytpmlfhgdhnofbaa
