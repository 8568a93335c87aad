/- Plain lemmas of frames: what is framed is cut off again as it was, what is cut off was framed, what a turned byte does. Of no function in particular. The contracts of package frame: sums, one frame cut off. The contracts of package frame: a frame that is split off. The contracts of package frame: where no frame stands. The contracts of package frame: Put, All, Cut, Scan. -/
import Derived.Test.YtaddbhdkgneiaaaLow
set_option maxHeartbeats 8000000
set_option maxRecDepth 100000
namespace Go.Proofs.Ytaddbhdkgneiaaa
open Go.RowKit Crc
namespace Frm
def sumB (l : List UInt8) : List UInt8 := numB (vw (sum l))
def frm (r : List UInt8) : List UInt8 := numB r.length ++ (sumB (numB r.length) ++ (sumB r ++ r))
def flat (L : List (List UInt8)) : List UInt8 := L.flatMap frm
theorem sumB_len (l : List UInt8) : (sumB l).length = 4 := rfl
theorem frm_len (r : List UInt8) : (frm r).length = 12 + r.length := by
 unfold frm
 simp only [List.length_append, numB_len, sumB_len]
 omega
theorem flat_nil : flat [] = [] := rfl
theorem flat_cons (r : List UInt8) (L : List (List UInt8)) : flat (r :: L) = frm r ++ flat L := rfl
theorem flat_app (L M : List (List UInt8)) : flat (L ++ M) = flat L ++ flat M := by unfold flat; rw [List.flatMap_append]
theorem flat_one (r : List UInt8) : flat [r] = frm r := by unfold flat; simp
theorem flat_snoc (L : List (List UInt8)) (k : Nat) (h : k < L.length) : flat (L.take (k + 1)) = flat (L.take k) ++ frm L[k] := by
 rw [List.take_succ_eq_append_getElem h, flat_app, flat_one]
theorem flat_drop (L : List (List UInt8)) (k : Nat) (h : k < L.length) : flat (L.drop k) = frm L[k] ++ flat (L.drop (k + 1)) := by
 rw [List.drop_eq_getElem_cons h, flat_cons]
theorem flat_split (L : List (List UInt8)) (k : Nat) : flat L = flat (L.take k) ++ flat (L.drop k) := by rw [← flat_app, List.take_append_drop]
theorem flat_take_le (L : List (List UInt8)) (k : Nat) : (flat (L.take k)).length ≤ (flat L).length := by
 have := congrArg List.length (flat_split L k)
 rw [List.length_append] at this
 omega
def tot (L : List (List UInt8)) : Nat := (L.map List.length).sum
theorem flat_len (L : List (List UInt8)) : (flat L).length = 12 * L.length + tot L := by
 induction L with
 | nil => rfl
 | cons r L ih =>
  rw [flat_cons, List.length_append, ih, frm_len]
  simp [tot]
  omega
theorem len_le_tot {L : List (List UInt8)} {r : List UInt8} (h : r ∈ L) : r.length ≤ tot L := by
 induction L with
 | nil => cases h
 | cons t L ih =>
  rcases List.mem_cons.1 h with rfl | h
  ·simp [tot]
  ·have := ih h
   simp [tot] at this ⊢
   omega
theorem numOf_numB (n : Nat) (h : n ≤ 4294967295) (more : List UInt8) : numOf (numB n ++ more) = n := by
 unfold numOf numB
 simp
 omega
theorem numB_numOf (l : List UInt8) (h : l.length = 4) : numB (numOf l) = l := by
 match l, h with
 | [a, b, c, d], _ =>
  have ha := a.toNat_lt
  have hb := b.toNat_lt
  have hc := c.toNat_lt
  have hd := d.toNat_lt
  unfold numB numOf
  simp only [List.getD_cons_zero, List.getD_cons_succ]
  congr 1
  ·apply UInt8.toNat_inj.1
   rw [UInt8.toNat_ofNat']
   omega
  ·congr 1
   ·apply UInt8.toNat_inj.1
    rw [UInt8.toNat_ofNat']
    omega
   ·congr 1
    ·apply UInt8.toNat_inj.1
     rw [UInt8.toNat_ofNat']
     omega
    ·congr 1
     apply UInt8.toNat_inj.1
     rw [UInt8.toNat_ofNat']
     omega
theorem numOf_take4 (l : List UInt8) (h : 4 ≤ l.length) : numOf (l.take 4) = numOf l := by
 match l, h with
 | a :: b :: c :: d :: m, _ => rfl
theorem vw_le (a : W) : vw a ≤ 4294967295 := by have := vw_lt a; omega
def Whole (b : List UInt8) : Prop :=
 12 ≤ b.length ∧ numOf b ≤ 65535 ∧ 12 + numOf b ≤ b.length ∧ (b.take 8).drop 4 = sumB (b.take 4) ∧ (b.take 12).drop 8 = sumB ((b.drop 12).take (numOf b))
theorem whole_frm (r m : List UInt8) (h : r.length ≤ 65535) : Whole (frm r ++ m) ∧ numOf (frm r ++ m) = r.length ∧ (frm r ++ m).take 4 = numB r.length ∧ (frm r ++ m).drop 12 = r ++ m := by
 have e : frm r ++ m = numB r.length ++ (sumB (numB r.length) ++ (sumB r ++ (r ++ m))) := by unfold frm; simp only [List.append_assoc]
 have hn : numOf (frm r ++ m) = r.length := by rw [e]; exact numOf_numB _ (by omega) _
 have h4 : (frm r ++ m).take 4 = numB r.length := by rw [e]; rfl
 have h12 : (frm r ++ m).drop 12 = r ++ m := by rw [e]; rfl
 have hl : (frm r ++ m).length = 12 + r.length + m.length := by rw [List.length_append, frm_len]
 refine ⟨⟨by omega, by omega, by omega, ?_, ?_⟩, hn, h4, h12⟩
 ·rw [h4, e]; rfl
 ·rw [h12, hn, List.take_left, e]; rfl
theorem whole_is {b : List UInt8} (h : Whole b) : b = frm ((b.drop 12).take (numOf b)) ++ (b.drop 12).drop (numOf b) ∧ ((b.drop 12).take (numOf b)).length = numOf b := by
 obtain ⟨h1, h2, h3, h4, h5⟩ := h
 have hl : ((b.drop 12).take (numOf b)).length = numOf b := by
  rw [List.length_take, List.length_drop]
  omega
 refine ⟨?_, hl⟩
 have e4 : numB (numOf b) = b.take 4 := by
  rw [← numOf_take4 b (by omega)]
  exact numB_numOf _ (by rw [List.length_take]; omega)
 unfold frm
 rw [hl, e4, ← h4, ← h5, List.append_assoc, List.append_assoc, List.append_assoc, List.take_append_drop]
 have a1 : b = b.take 4 ++ b.drop 4 := (List.take_append_drop _ _).symm
 have a2 : b.drop 4 = (b.take 8).drop 4 ++ b.drop 8 := by
  conv => lhs; rw [show b = b.take 8 ++ b.drop 8 from (List.take_append_drop _ _).symm]
  rw [List.drop_append_of_le_length (by rw [List.length_take]; omega)]
 have a3 : b.drop 8 = (b.take 12).drop 8 ++ b.drop 12 := by
  conv => lhs; rw [show b = b.take 12 ++ b.drop 12 from (List.take_append_drop _ _).symm]
  rw [List.drop_append_of_le_length (by rw [List.length_take]; omega)]
 rw [← a3, ← a2, ← a1]
theorem whole_iff {b : List UInt8} : Whole b ↔ ∃ r m, b = frm r ++ m ∧ r.length ≤ 65535 := by
 constructor
 ·intro h
  obtain ⟨h1, h2⟩ := whole_is h
  exact ⟨_, _, h1, by rw [h2]; exact h.2.1⟩
 ·rintro ⟨r, m, rfl, h⟩
  exact (whole_frm r m h).1
theorem frm_inj {r r' m m' : List UInt8} (h : frm r ++ m = frm r' ++ m') (hr : r.length ≤ 65535) (hr' : r'.length ≤ 65535) : r = r' ∧ m = m' := by
 obtain ⟨-, n1, -, d1⟩ := whole_frm r m hr
 obtain ⟨-, n2, -, d2⟩ := whole_frm r' m' hr'
 rw [h] at n1 d1
 have hl : r.length = r'.length := by omega
 exact List.append_inj (d1.symm.trans d2) hl
def Scanned (b : List UInt8) (R : List (List UInt8)) (m : List UInt8) : Prop := b = flat R ++ m ∧ (∀ r ∈ R, r.length ≤ 65535) ∧ ¬ Whole m
theorem scan_one {R R' : List (List UInt8)} {m m' : List UInt8} (h : flat R ++ m = flat R' ++ m') (h1 : ∀ r ∈ R, r.length ≤ 65535) (h2 : ¬ Whole m) (h1' : ∀ r ∈ R', r.length ≤ 65535) (h2' : ¬ Whole m') : R = R' ∧ m = m' := by
 induction R generalizing R' with
 | nil =>
  cases R' with
  | nil => exact ⟨rfl, h⟩
  | cons r R' =>
   exfalso
   apply h2
   rw [flat_nil, List.nil_append] at h
   rw [h, flat_cons, List.append_assoc]
   exact (whole_frm _ _ (h1' r List.mem_cons_self)).1
 | cons r R ih =>
  cases R' with
  | nil =>
   exfalso
   apply h2'
   rw [flat_nil, List.nil_append] at h
   rw [← h, flat_cons, List.append_assoc]
   exact (whole_frm _ _ (h1 r List.mem_cons_self)).1
  | cons r' R' =>
   rw [flat_cons, flat_cons, List.append_assoc, List.append_assoc] at h
   obtain ⟨rfl, e⟩ := frm_inj h (h1 r List.mem_cons_self) (h1' r' List.mem_cons_self)
   obtain ⟨rfl, rfl⟩ := ih e (fun x hx => h1 x (List.mem_cons_of_mem _ hx)) (fun x hx => h1' x (List.mem_cons_of_mem _ hx))
   exact ⟨rfl, rfl⟩
theorem scanned_one {b : List UInt8} {R R' : List (List UInt8)} {m m' : List UInt8} (h : Scanned b R m) (h' : Scanned b R' m') : R = R' ∧ m = m' :=
 scan_one (h.1.symm.trans h'.1) h.2.1 h.2.2 h'.2.1 h'.2.2
theorem scan_ex (n : Nat) (b : List UInt8) (h : b.length ≤ n) : ∃ R m, Scanned b R m := by
 induction n generalizing b with
 | zero =>
  refine ⟨[], b, rfl, fun r hr => (List.not_mem_nil hr).elim, fun hw => ?_⟩
  have := hw.1
  omega
 | succ n ih =>
  by_cases hw : Whole b
  ·obtain ⟨r, m, rfl, hr⟩ := whole_iff.1 hw
   rw [List.length_append, frm_len] at h
   obtain ⟨R, m', e, h1, h2⟩ := ih m (by omega)
   refine ⟨r :: R, m', by rw [flat_cons, List.append_assoc, ← e], fun x hx => ?_, h2⟩
   rcases List.mem_cons.1 hx with rfl | hx
   ·exact hr
   ·exact h1 x hx
  ·exact ⟨[], b, rfl, fun r hr => (List.not_mem_nil hr).elim, hw⟩
theorem not_whole_short {m : List UInt8} (h : m.length < 12) : ¬ Whole m := fun hw => by have := hw.1; omega
theorem scanned_flat {R : List (List UInt8)} (h : ∀ r ∈ R, r.length ≤ 65535) : Scanned (flat R) R [] := ⟨by simp, h, not_whole_short (by simp)⟩
end Frm
def gl (L : List (List UInt8)) (i : Nat) : List UInt8 := L.getD i []
theorem gl_at (L : List (List UInt8)) {i : Nat} (h : i < L.length) : gl L i = L[i] := by simp [gl, List.getD, h]
end Go.Proofs.Ytaddbhdkgneiaaa
namespace Go.Proofs.Ytaddbhdkgneiaaa
open Go.RowKit Crc Frm
theorem fsum_any (v : Value) (l : List UInt8) (w : World) (B : Nat) (hr : Rd w B v (l.map bv)) (hl : l.length ≤ 1000000000000) :
  Calls Try.prog 62 #[v] w fun e w' => ∃ x, e = .returned x ∧ Ow w' w.heap.size 5 x ((sumB l).map bv) ∧ Below w.heap.size w w' := by
 have hv := vw_le (sum l)
 go_enter Try.func62, Try.ntmps62
 go_wp2_with fail
 refine (sum_any _ l _ _ hr (by omega)).mono ?_
 rintro e w' ⟨rfl, rfl⟩
 go_wp2_with fail
 refine (num_ok _ _ hv).mono ?_
 rintro e w1 ⟨x, rfl, ho, hb⟩
 go_wp2_with fail
 go_ret
 exact ⟨x, rfl, ho, hb⟩
end Go.Proofs.Ytaddbhdkgneiaaa
namespace Go.Proofs.Ytaddbhdkgneiaaa
open Go.RowKit Crc Frm
theorem split_ok (v : Value) (b r m : List UInt8) (w : World) (B : Nat) (hr : Rd w B v (b.map bv)) (hB : B ≤ w.heap.size) (hb : b = frm r ++ m) (hr5 : r.length ≤ 65535) (hl : b.length ≤ 1000000000000) :
  Calls Try.prog 57 #[v] w fun e w' => (∃ x y, e = .returned (.tuple #[x, y, .bool true]) ∧ Rd w' B x (r.map bv) ∧ Rd w' B y (m.map bv)) ∧ Below w.heap.size w w' := by
 obtain ⟨A, c, rfl, hc, hm⟩ := hr.shapeM
 obtain ⟨⟨g1, g2, g3, g4, g5⟩, hn, h4, h12⟩ := whole_frm r m hr5
 rw [← hb] at g1 g2 g3 g4 g5 hn h4 h12
 rw [h12, hn, List.take_left] at g5
 obtain ⟨b0, off, rfl, hb0, -⟩ := hr.cellM (by omega)
 have r4 : Rd w B (.slice (some ⟨b0, off, none⟩) 4 c) ((numB r.length).map bv) := by
  have := hr.cutTo (hi := 4) (by omega)
  rw [← List.map_take, h4] at this
  exact this
 have r48 : Rd w B (.slice (some ⟨b0, off + 4, none⟩) 4 (c - 4)) ((sumB (numB r.length)).map bv) := by
  have := hr.midC (lo := 4) (hi := 8) (by omega) (by omega) (by omega)
  rw [← List.map_take, ← List.map_drop, g4, h4] at this
  exact this
 have r812 : Rd w B (.slice (some ⟨b0, off + 8, none⟩) 4 (c - 8)) ((sumB r).map bv) := by
  have := hr.midC (lo := 8) (hi := 12) (by omega) (by omega) (by omega)
  rw [← List.map_take, ← List.map_drop, g5] at this
  exact this
 have hlen : b.length = 12 + r.length + m.length := by rw [hb, List.length_append, frm_len]
 have hle : 12 + r.length ≤ b.length := by omega
 have hN : numOf (numB r.length) = r.length := by have := numOf_numB r.length (by omega) []; rwa [List.append_nil] at this
 have HN := Lib.hid hN
 unfold maxLen at hm
 by_cases hc12 : c = 12
 ·subst hc12
  have hbl : b.length = 12 := by omega
  obtain rfl : r = [] := List.eq_nil_of_length_eq_zero (by omega)
  obtain rfl : m = [] := List.eq_nil_of_length_eq_zero (by omega)
  have rrec : Rd w B (.slice (some ⟨b0, off, none⟩) 0 0) (([] : List UInt8).map bv) := ⟨_, 0, rfl, Nat.le_refl _, by simp [maxLen], fun h => absurd h (by simp)⟩
  have rleft := rrec
  clear hb g2 g3 g4 g5 hn h4 h12 hN hlen
  go_enter Try.func57, Try.ntmps57
  go_wp2_with fail
  go_quiet (fail)
  have hbq := bwN (w := w) nq
  generalize hw0 : w.drewN nq = w0 at *
  clear hw0
  go_wp2_with fail
  refine (cutNum_ok _ (numB ([] : List UInt8).length) _ _ (r4.below (hbq.mono hB)) (by rw [numB_len]; omega) (by rw [numB_len]; omega)).mono ?_
  rintro e w1 ⟨q, rfl, -, hb1⟩
  rw [HN.out]
  have hbb := bwstep hbq hb1
  clear hbq hb1
  go_wp2_with fail
  refine (fsum_any _ _ _ _ (r4.below (hbb.mono hB)) (by rw [numB_len]; omega)).mono ?_
  rintro e w2 ⟨q2, rfl, hq2, hb2⟩
  have hbb := bwstep hbb hb2
  clear hb2
  go_wp2_with fail
  refine (equal_any _ _ _ _ _ _ _ (r48.below (hbb.mono hB)) hq2.rd).mono ?_
  rintro e w3 ⟨rfl, rfl⟩
  rw [sameB_self]
  clear hq2
  go_wp2_with fail
  go_quiet (fail)
  have hbb := bwstep hbb (bwN nq)
  generalize hw0 : w3.drewN nq = w4 at *
  clear hw0
  go_wp2_with fail
  refine (fsum_any _ _ _ _ (rrec.below (hbb.mono hB)) (by omega)).mono ?_
  rintro e w5 ⟨q3, rfl, hq3, hb3⟩
  have hbb := bwstep hbb hb3
  clear hb3
  go_wp2_with fail
  refine (equal_any _ _ _ _ _ _ _ (r812.below (hbb.mono hB)) hq3.rd).mono ?_
  rintro e w6 ⟨rfl, rfl⟩
  rw [sameB_self]
  clear hq3
  go_wp2_with fail
  go_ret3
  exact ⟨⟨_, _, rfl, rrec.below (hbb.mono hB), rleft.below (hbb.mono hB)⟩, hbb⟩
 ·have rrest : Rd w B (.slice (some ⟨b0, off + 12, none⟩) (b.length - 12) (c - 12)) ((r ++ m).map bv) := by
   have := hr.fromC (lo := 12) (by omega) hc12
   rw [← List.map_drop, h12] at this
   exact this
  have rrec : Rd w B (.slice (some ⟨b0, off + 12, none⟩) r.length (c - 12)) (r.map bv) := by
   have := rrest.cutTo (hi := r.length) (by omega)
   rw [← List.map_take, List.take_left] at this
   exact this
  by_cases hcn : c - 12 = r.length
  ·obtain rfl : m = [] := List.eq_nil_of_length_eq_zero (by omega)
   have hbl : b.length - 12 = r.length := by simp at hlen; omega
   have rleft : Rd w B (.slice (some ⟨b0, off + 12, none⟩) 0 0) (([] : List UInt8).map bv) := ⟨_, 0, rfl, Nat.le_refl _, by simp [maxLen], fun h => absurd h (by simp)⟩
   rw [hcn] at rrec
   clear hb g2 g3 g4 g5 hn h4 h12 hN hlen rrest
   go_enter Try.func57, Try.ntmps57
   go_wp2_with fail
   go_quiet (fail)
   have hbq := bwN (w := w) nq
   generalize hw0 : w.drewN nq = w0 at *
   clear hw0
   go_wp2_with fail
   refine (cutNum_ok _ (numB r.length) _ _ (r4.below (hbq.mono hB)) (by rw [numB_len]; omega) (by rw [numB_len]; omega)).mono ?_
   rintro e w1 ⟨q, rfl, -, hb1⟩
   rw [HN.out]
   have hbb := bwstep hbq hb1
   clear hbq hb1
   go_wp2_with fail
   refine (fsum_any _ _ _ _ (r4.below (hbb.mono hB)) (by rw [numB_len]; omega)).mono ?_
   rintro e w2 ⟨q2, rfl, hq2, hb2⟩
   have hbb := bwstep hbb hb2
   clear hb2
   go_wp2_with fail
   refine (equal_any _ _ _ _ _ _ _ (r48.below (hbb.mono hB)) hq2.rd).mono ?_
   rintro e w3 ⟨rfl, rfl⟩
   rw [sameB_self]
   clear hq2
   go_wp2_with fail
   go_quiet (fail)
   have hbb := bwstep hbb (bwN nq)
   generalize hw0 : w3.drewN nq = w4 at *
   clear hw0
   go_wp2_with fail
   refine (fsum_any _ _ _ _ (rrec.below (hbb.mono hB)) (by omega)).mono ?_
   rintro e w5 ⟨q3, rfl, hq3, hb3⟩
   have hbb := bwstep hbb hb3
   clear hb3
   go_wp2_with fail
   refine (equal_any _ _ _ _ _ _ _ (r812.below (hbb.mono hB)) hq3.rd).mono ?_
   rintro e w6 ⟨rfl, rfl⟩
   rw [sameB_self]
   clear hq3
   go_wp2_with fail
   go_ret3
   exact ⟨⟨_, _, rfl, rrec.below (hbb.mono hB), rleft.below (hbb.mono hB)⟩, hbb⟩
  ·have rleft : Rd w B (.slice (some ⟨b0, off + 12 + r.length, none⟩) (b.length - 12 - r.length) (c - 12 - r.length)) (m.map bv) := by
    have := rrest.fromC (lo := r.length) (by omega) hcn
    rw [← List.map_drop, List.drop_left] at this
    exact this
   clear hb g2 g3 g4 g5 hn h4 h12 hN hlen rrest
   go_enter Try.func57, Try.ntmps57
   go_wp2_with fail
   go_quiet (fail)
   have hbq := bwN (w := w) nq
   generalize hw0 : w.drewN nq = w0 at *
   clear hw0
   go_wp2_with fail
   refine (cutNum_ok _ (numB r.length) _ _ (r4.below (hbq.mono hB)) (by rw [numB_len]; omega) (by rw [numB_len]; omega)).mono ?_
   rintro e w1 ⟨q, rfl, -, hb1⟩
   rw [HN.out]
   have hbb := bwstep hbq hb1
   clear hbq hb1
   go_wp2_with fail
   refine (fsum_any _ _ _ _ (r4.below (hbb.mono hB)) (by rw [numB_len]; omega)).mono ?_
   rintro e w2 ⟨q2, rfl, hq2, hb2⟩
   have hbb := bwstep hbb hb2
   clear hb2
   go_wp2_with fail
   refine (equal_any _ _ _ _ _ _ _ (r48.below (hbb.mono hB)) hq2.rd).mono ?_
   rintro e w3 ⟨rfl, rfl⟩
   rw [sameB_self]
   clear hq2
   go_wp2_with fail
   go_quiet (fail)
   have hbb := bwstep hbb (bwN nq)
   generalize hw0 : w3.drewN nq = w4 at *
   clear hw0
   go_wp2_with fail
   refine (fsum_any _ _ _ _ (rrec.below (hbb.mono hB)) (by omega)).mono ?_
   rintro e w5 ⟨q3, rfl, hq3, hb3⟩
   have hbb := bwstep hbb hb3
   clear hb3
   go_wp2_with fail
   refine (equal_any _ _ _ _ _ _ _ (r812.below (hbb.mono hB)) hq3.rd).mono ?_
   rintro e w6 ⟨rfl, rfl⟩
   rw [sameB_self]
   clear hq3
   go_wp2_with fail
   go_ret3
   exact ⟨⟨_, _, rfl, rrec.below (hbb.mono hB), rleft.below (hbb.mono hB)⟩, hbb⟩
end Go.Proofs.Ytaddbhdkgneiaaa
namespace Go.Proofs.Ytaddbhdkgneiaaa
open Go.RowKit Crc Frm
theorem sameB_ne {a b : List UInt8} (h : a ≠ b) : sameB a b = false := by simp [sameB, h]
theorem split_no (v : Value) (b : List UInt8) (w : World) (B : Nat) (hr : Rd w B v (b.map bv)) (hB : B ≤ w.heap.size) (hno : ¬ Whole b) (hl : b.length ≤ 1000000000000) :
  Calls Try.prog 57 #[v] w fun e w' => e = .returned (.tuple #[.slice none 0 0, .slice none 0 0, .bool false]) ∧ Below w.heap.size w w' := by
 obtain ⟨A, c, rfl, hc, hm⟩ := hr.shapeM
 by_cases g1 : 12 ≤ b.length
 ·obtain ⟨b0, off, rfl, hb0, -⟩ := hr.cellM (by omega)
  have r4 : Rd w B (.slice (some ⟨b0, off, none⟩) 4 c) ((b.take 4).map bv) := by
   have := hr.cutTo (hi := 4) (by omega)
   rw [← List.map_take] at this
   exact this
  have r48 : Rd w B (.slice (some ⟨b0, off + 4, none⟩) 4 (c - 4)) (((b.take 8).drop 4).map bv) := by
   have := hr.midC (lo := 4) (hi := 8) (by omega) (by omega) (by omega)
   rw [← List.map_take, ← List.map_drop] at this
   exact this
  have r812 : Rd w B (.slice (some ⟨b0, off + 8, none⟩) 4 (c - 8)) (((b.take 12).drop 8).map bv) := by
   have := hr.midC (lo := 8) (hi := 12) (by omega) (by omega) (by omega)
   rw [← List.map_take, ← List.map_drop] at this
   exact this
  have hN := numOf_take4 b (by omega)
  unfold maxLen at hm
  obtain ⟨n, hn⟩ : ∃ n, n = numOf b := ⟨_, rfl⟩
  unfold Whole at hno
  rw [← hn] at hno hN
  have HN := Lib.hid hN
  clear hn hN
  by_cases g2 : n ≤ 65535 ∧ 12 + n ≤ b.length
  ·obtain ⟨g2, g3⟩ := g2
   by_cases g4 : (b.take 8).drop 4 = sumB (b.take 4)
   ·have g5 : ¬ (b.take 12).drop 8 = sumB ((b.drop 12).take n) := fun g5 => hno ⟨g1, g2, g3, g4, g5⟩
    have HE := Lib.hid (show sameB ((b.take 8).drop 4) (sumB (b.take 4)) = true by rw [g4]; exact sameB_self _)
    have HF := Lib.hid (sameB_ne g5)
    clear g4 g5 hno
    by_cases hc12 : c = 12
    ·subst hc12
     have hbl : b.length = 12 := by omega
     obtain rfl : n = 0 := by omega
     have rrec : Rd w B (.slice (some ⟨b0, off, none⟩) 0 0) (((b.drop 12).take 0).map bv) := ⟨_, 0, rfl, Nat.le_refl _, by simp [maxLen], fun h => absurd h (by simp)⟩
     go_enter Try.func57, Try.ntmps57
     go_wp2_with fail
     go_quiet (fail)
     have hbq := bwN (w := w) nq
     generalize hw0 : w.drewN nq = w0 at *
     clear hw0
     go_wp2_with fail
     refine (cutNum_ok _ (b.take 4) _ _ (r4.below (hbq.mono hB)) (by rw [List.length_take]; omega) (by rw [List.length_take]; omega)).mono ?_
     rintro e w1 ⟨q, rfl, -, hb1⟩
     rw [HN.out]
     have hbb := bwstep hbq hb1
     clear hbq hb1
     go_wp2_with fail
     refine (fsum_any _ _ _ _ (r4.below (hbb.mono hB)) (by rw [List.length_take]; omega)).mono ?_
     rintro e w2 ⟨q2, rfl, hq2, hb2⟩
     have hbb := bwstep hbb hb2
     clear hb2
     go_wp2_with fail
     refine (equal_any _ _ _ _ _ _ _ (r48.below (hbb.mono hB)) hq2.rd).mono ?_
     rintro e w3 ⟨rfl, rfl⟩
     rw [HE.out]
     clear hq2
     go_wp2_with fail
     go_quiet (fail)
     have hbb := bwstep hbb (bwN nq)
     generalize hw0 : w3.drewN nq = w4 at *
     clear hw0
     go_wp2_with fail
     refine (fsum_any _ ((b.drop 12).take 0) _ _ (rrec.below (hbb.mono hB)) (by rw [List.length_take]; omega)).mono ?_
     rintro e w5 ⟨q3, rfl, hq3, hb3⟩
     have hbb := bwstep hbb hb3
     clear hb3
     go_wp2_with fail
     refine (equal_any _ _ _ _ _ _ _ (r812.below (hbb.mono hB)) hq3.rd).mono ?_
     rintro e w6 ⟨rfl, rfl⟩
     rw [HF.out]
     clear hq3
     go_wp2_with fail
     go_ret3
     exact ⟨rfl, hbb⟩
    ·have rrest : Rd w B (.slice (some ⟨b0, off + 12, none⟩) (b.length - 12) (c - 12)) ((b.drop 12).map bv) := by
      have := hr.fromC (lo := 12) (by omega) hc12
      rw [← List.map_drop] at this
      exact this
     have rrec : Rd w B (.slice (some ⟨b0, off + 12, none⟩) n (c - 12)) (((b.drop 12).take n).map bv) := by
      have := rrest.cutTo (hi := n) (by omega)
      rw [← List.map_take] at this
      exact this
     clear rrest
     by_cases hcn : c - 12 = n
     ·have hbl : b.length - 12 = n := by omega
      rw [hcn] at rrec
      go_enter Try.func57, Try.ntmps57
      go_wp2_with fail
      go_quiet (fail)
      have hbq := bwN (w := w) nq
      generalize hw0 : w.drewN nq = w0 at *
      clear hw0
      go_wp2_with fail
      refine (cutNum_ok _ (b.take 4) _ _ (r4.below (hbq.mono hB)) (by rw [List.length_take]; omega) (by rw [List.length_take]; omega)).mono ?_
      rintro e w1 ⟨q, rfl, -, hb1⟩
      rw [HN.out]
      have hbb := bwstep hbq hb1
      clear hbq hb1
      go_wp2_with fail
      refine (fsum_any _ _ _ _ (r4.below (hbb.mono hB)) (by rw [List.length_take]; omega)).mono ?_
      rintro e w2 ⟨q2, rfl, hq2, hb2⟩
      have hbb := bwstep hbb hb2
      clear hb2
      go_wp2_with fail
      refine (equal_any _ _ _ _ _ _ _ (r48.below (hbb.mono hB)) hq2.rd).mono ?_
      rintro e w3 ⟨rfl, rfl⟩
      rw [HE.out]
      clear hq2
      go_wp2_with fail
      go_quiet (fail)
      have hbb := bwstep hbb (bwN nq)
      generalize hw0 : w3.drewN nq = w4 at *
      clear hw0
      go_wp2_with fail
      refine (fsum_any _ ((b.drop 12).take n) _ _ (rrec.below (hbb.mono hB)) (by rw [List.length_take]; omega)).mono ?_
      rintro e w5 ⟨q3, rfl, hq3, hb3⟩
      have hbb := bwstep hbb hb3
      clear hb3
      go_wp2_with fail
      refine (equal_any _ _ _ _ _ _ _ (r812.below (hbb.mono hB)) hq3.rd).mono ?_
      rintro e w6 ⟨rfl, rfl⟩
      rw [HF.out]
      clear hq3
      go_wp2_with fail
      go_ret3
      exact ⟨rfl, hbb⟩
     ·skip
      go_enter Try.func57, Try.ntmps57
      go_wp2_with fail
      go_quiet (fail)
      have hbq := bwN (w := w) nq
      generalize hw0 : w.drewN nq = w0 at *
      clear hw0
      go_wp2_with fail
      refine (cutNum_ok _ (b.take 4) _ _ (r4.below (hbq.mono hB)) (by rw [List.length_take]; omega) (by rw [List.length_take]; omega)).mono ?_
      rintro e w1 ⟨q, rfl, -, hb1⟩
      rw [HN.out]
      have hbb := bwstep hbq hb1
      clear hbq hb1
      go_wp2_with fail
      refine (fsum_any _ _ _ _ (r4.below (hbb.mono hB)) (by rw [List.length_take]; omega)).mono ?_
      rintro e w2 ⟨q2, rfl, hq2, hb2⟩
      have hbb := bwstep hbb hb2
      clear hb2
      go_wp2_with fail
      refine (equal_any _ _ _ _ _ _ _ (r48.below (hbb.mono hB)) hq2.rd).mono ?_
      rintro e w3 ⟨rfl, rfl⟩
      rw [HE.out]
      clear hq2
      go_wp2_with fail
      go_quiet (fail)
      have hbb := bwstep hbb (bwN nq)
      generalize hw0 : w3.drewN nq = w4 at *
      clear hw0
      go_wp2_with fail
      refine (fsum_any _ ((b.drop 12).take n) _ _ (rrec.below (hbb.mono hB)) (by rw [List.length_take]; omega)).mono ?_
      rintro e w5 ⟨q3, rfl, hq3, hb3⟩
      have hbb := bwstep hbb hb3
      clear hb3
      go_wp2_with fail
      refine (equal_any _ _ _ _ _ _ _ (r812.below (hbb.mono hB)) hq3.rd).mono ?_
      rintro e w6 ⟨rfl, rfl⟩
      rw [HF.out]
      clear hq3
      go_wp2_with fail
      go_ret3
      exact ⟨rfl, hbb⟩
   ·have HE := Lib.hid (sameB_ne g4)
    clear g4 hno
    by_cases hc12 : c = 12
    ·subst hc12
     have hbl : b.length = 12 := by omega
     obtain rfl : n = 0 := by omega
     go_enter Try.func57, Try.ntmps57
     go_wp2_with fail
     go_quiet (fail)
     have hbq := bwN (w := w) nq
     generalize hw0 : w.drewN nq = w0 at *
     clear hw0
     go_wp2_with fail
     refine (cutNum_ok _ (b.take 4) _ _ (r4.below (hbq.mono hB)) (by rw [List.length_take]; omega) (by rw [List.length_take]; omega)).mono ?_
     rintro e w1 ⟨q, rfl, -, hb1⟩
     rw [HN.out]
     have hbb := bwstep hbq hb1
     clear hbq hb1
     go_wp2_with fail
     refine (fsum_any _ _ _ _ (r4.below (hbb.mono hB)) (by rw [List.length_take]; omega)).mono ?_
     rintro e w2 ⟨q2, rfl, hq2, hb2⟩
     have hbb := bwstep hbb hb2
     clear hb2
     go_wp2_with fail
     refine (equal_any _ _ _ _ _ _ _ (r48.below (hbb.mono hB)) hq2.rd).mono ?_
     rintro e w3 ⟨rfl, rfl⟩
     rw [HE.out]
     clear hq2
     go_wp2_with fail
     go_ret3
     exact ⟨rfl, hbb⟩
    ·skip
     go_enter Try.func57, Try.ntmps57
     go_wp2_with fail
     go_quiet (fail)
     have hbq := bwN (w := w) nq
     generalize hw0 : w.drewN nq = w0 at *
     clear hw0
     go_wp2_with fail
     refine (cutNum_ok _ (b.take 4) _ _ (r4.below (hbq.mono hB)) (by rw [List.length_take]; omega) (by rw [List.length_take]; omega)).mono ?_
     rintro e w1 ⟨q, rfl, -, hb1⟩
     rw [HN.out]
     have hbb := bwstep hbq hb1
     clear hbq hb1
     go_wp2_with fail
     refine (fsum_any _ _ _ _ (r4.below (hbb.mono hB)) (by rw [List.length_take]; omega)).mono ?_
     rintro e w2 ⟨q2, rfl, hq2, hb2⟩
     have hbb := bwstep hbb hb2
     clear hb2
     go_wp2_with fail
     refine (equal_any _ _ _ _ _ _ _ (r48.below (hbb.mono hB)) hq2.rd).mono ?_
     rintro e w3 ⟨rfl, rfl⟩
     rw [HE.out]
     clear hq2
     go_wp2_with fail
     go_ret3
     exact ⟨rfl, hbb⟩
  ·clear hno
   by_cases g3 : n ≤ 65535
   ·have g2 : ¬ 12 + n ≤ b.length := fun h => g2 ⟨g3, h⟩
    by_cases hc12 : c = 12
    ·subst hc12
     have hbl : b.length = 12 := by omega
     have hn0 : 0 < n := by omega
     go_enter Try.func57, Try.ntmps57
     go_wp2_with fail
     go_quiet (fail)
     have hbq := bwN (w := w) nq
     generalize hw0 : w.drewN nq = w0 at *
     clear hw0
     go_wp2_with fail
     refine (cutNum_ok _ (b.take 4) _ _ (r4.below (hbq.mono hB)) (by rw [List.length_take]; omega) (by rw [List.length_take]; omega)).mono ?_
     rintro e w1 ⟨q, rfl, -, hb1⟩
     rw [HN.out]
     have hbb := bwstep hbq hb1
     clear hbq hb1
     go_wp2_with fail
     go_ret3
     exact ⟨rfl, hbb⟩
    ·skip
     go_enter Try.func57, Try.ntmps57
     go_wp2_with fail
     go_quiet (fail)
     have hbq := bwN (w := w) nq
     generalize hw0 : w.drewN nq = w0 at *
     clear hw0
     go_wp2_with fail
     refine (cutNum_ok _ (b.take 4) _ _ (r4.below (hbq.mono hB)) (by rw [List.length_take]; omega) (by rw [List.length_take]; omega)).mono ?_
     rintro e w1 ⟨q, rfl, -, hb1⟩
     rw [HN.out]
     have hbb := bwstep hbq hb1
     clear hbq hb1
     go_wp2_with fail
     go_ret3
     exact ⟨rfl, hbb⟩
   ·clear g2
    by_cases hc12 : c = 12
    ·subst hc12
     have hbl : b.length = 12 := by omega
     go_enter Try.func57, Try.ntmps57
     go_wp2_with fail
     go_quiet (fail)
     have hbq := bwN (w := w) nq
     generalize hw0 : w.drewN nq = w0 at *
     clear hw0
     go_wp2_with fail
     refine (cutNum_ok _ (b.take 4) _ _ (r4.below (hbq.mono hB)) (by rw [List.length_take]; omega) (by rw [List.length_take]; omega)).mono ?_
     rintro e w1 ⟨q, rfl, -, hb1⟩
     rw [HN.out]
     have hbb := bwstep hbq hb1
     clear hbq hb1
     go_wp2_with fail
     go_ret3
     exact ⟨rfl, hbb⟩
    ·skip
     go_enter Try.func57, Try.ntmps57
     go_wp2_with fail
     go_quiet (fail)
     have hbq := bwN (w := w) nq
     generalize hw0 : w.drewN nq = w0 at *
     clear hw0
     go_wp2_with fail
     refine (cutNum_ok _ (b.take 4) _ _ (r4.below (hbq.mono hB)) (by rw [List.length_take]; omega) (by rw [List.length_take]; omega)).mono ?_
     rintro e w1 ⟨q, rfl, -, hb1⟩
     rw [HN.out]
     have hbb := bwstep hbq hb1
     clear hbq hb1
     go_wp2_with fail
     go_ret3
     exact ⟨rfl, hbb⟩
 ·go_enter Try.func57, Try.ntmps57
  go_wp2_with fail
  go_ret3
  exact ⟨rfl, bwrefl _⟩
end Go.Proofs.Ytaddbhdkgneiaaa
namespace Go.Proofs.Ytaddbhdkgneiaaa
open Go.RowKit Crc Frm
theorem RdM.build4 {w : World} {a b c d : Value} {x y z u : List UInt8} (e : Nat) (ha : Rd w w.heap.size a (x.map bv)) (hb : Rd w w.heap.size b (y.map bv)) (hc : Rd w w.heap.size c (z.map bv)) (hd : Rd w w.heap.size d (u.map bv)) :
  RdM (w.alloc (.cells #[a, b, c, d] e)) (w.alloc (.cells #[a, b, c, d] e)).heap.size (.slice (some ⟨w.heap.size, 0, none⟩) 4 4) 4 (gl [x, y, z, u]) := by
 have hal := bwalloc (bwrefl w) (.cells #[a, b, c, d] e)
 refine ⟨fun i => [a, b, c, d].getD i undef, Rd.newW w e #[a, b, c, d] rfl (by simp [maxLen]) rfl, fun j hj => ?_⟩
 match j, hj with
 | 0, _ => exact ha.up hal
 | 1, _ => exact hb.up hal
 | 2, _ => exact hc.up hal
 | 3, _ => exact hd.up hal
theorem flatG4 (x y z u : List UInt8) : flatG (gl [x, y, z, u]) 4 = x ++ (y ++ (z ++ u)) := by
 show ((([] ++ x) ++ y) ++ z) ++ u = _
 simp
theorem fput_ok (v : Value) (r : List UInt8) (w : World) (hr : Rd w w.heap.size v (r.map bv)) (hl : r.length ≤ 65535) :
  Calls Try.prog 42 #[v] w fun e w' => (∃ x, e = .returned x ∧ Ow w' w.heap.size 5 x ((frm r).map bv)) ∧ Below w.heap.size w w' := by
 obtain ⟨A, c, rfl, hc, hm⟩ := hr.shapeM
 unfold maxLen at hm
 go_enter Try.func42, Try.ntmps42
 go_wp2_with fail
 refine (num_ok _ _ (by omega)).mono ?_
 rintro e w1 ⟨q1, rfl, h1, hb1⟩
 go_wp2_with fail
 refine (fsum_any _ _ _ _ h1.rd (by rw [numB_len]; omega)).mono ?_
 rintro e w2 ⟨q2, rfl, h2, hb2⟩
 have hbb := bwstep hb1 hb2
 go_wp2_with fail
 refine (fsum_any _ _ _ _ (hr.up hbb) (by omega)).mono ?_
 rintro e w3 ⟨q3, rfl, h3, hb3⟩
 have hm4 := RdM.build4 22 (h1.rd.up (bwstep hb2 hb3)) (h2.rd.up hb3) h3.rd ((hr.up hbb).up hb3)
 have hbb := bwstep hbb hb3
 have hfl : (flatG (gl [numB r.length, sumB (numB r.length), sumB r, r]) 4).length = 12 + r.length := by rw [flatG4]; exact frm_len r
 obtain ⟨A1, c1, rfl, -, -⟩ := h1.rd.shapeM
 obtain ⟨A2, c2, rfl, -, -⟩ := h2.rd.shapeM
 obtain ⟨A3, c3, rfl, -, -⟩ := h3.rd.shapeM
 have hbl := bwalloc hbb (.cells #[.slice A1 (numB r.length).length c1, .slice A2 (sumB (numB r.length)).length c2, .slice A3 (sumB r).length c3, .slice A r.length c] 22)
 have hcc := concatG_any _ 4 _ _ hm4 (by omega) (by omega) (by omega)
 clear h1 h2 h3 hb1 hb2 hb3 hm4 hbb hr hfl
 go_wp2_with fail
 refine hcc.mono ?_
 rintro e w4 ⟨⟨q4, rfl, h4⟩, hb4⟩
 go_wp2_with fail
 go_ret
 rw [flatG4] at h4
 exact ⟨⟨_, rfl, h4.mono hbl.size⟩, bwstep hbl hb4⟩
theorem all_any (v : Value) (L : List (List UInt8)) (w : World) (hr : RdM w w.heap.size v L.length (gl L)) (hl : ∀ r ∈ L, r.length ≤ 65535) (hf : (flat L).length ≤ 1000000000000) :
  Calls Try.prog 36 #[v] w fun e w' => (∃ x, e = .returned x ∧ Ow w' w.heap.size 5 x ((flat L).map bv)) ∧ Below w.heap.size w w' := by
 obtain ⟨A, c, rfl, hc, hcm⟩ := hr.shape
 unfold maxLen at hcm
 go_enter Try.func36, Try.ntmps36
 go_wp2_with fail
 go_loopw [3, 5, 8] (fun p _ i wr => ∃ k : Nat, k ≤ L.length ∧ i = .int .i64 (k : Int) ∧ Ow wr w.heap.size 5 p ((flat (L.take k)).map bv) ∧ Below w.heap.size w wr) (fun _ _ i _ => L.length - (intOf i).toNat)
 case atStart => exact ⟨0, by omega, rfl, Ow.nilB _ _ _, Below.refl _ _⟩
 case round =>
  obtain ⟨k, hk, rfl, ho, hbw⟩ := hrel
  by_cases hlt : k < L.length
  ·obtain ⟨b, off, rfl, -⟩ := hr.open_ (by omega)
   obtain ⟨A1, c1, hcell1, h1c, h1m, hr1⟩ := (hr.up hbw).row hlt
   have hg := gl_at L hlt
   rw [hg] at hcell1 hr1 h1c
   have hrl := hl _ (List.getElem_mem hlt)
   have HS := Lib.hid (flat_snoc L k hlt)
   have hle : (flat (L.take k)).length + (frm L[k]).length ≤ 140737488355328 := by
    have := Frm.flat_take_le L (k + 1)
    rw [HS.out, List.length_append] at this
    omega
   clear hg
   go_wp2_with fail
   refine (fput_ok _ _ _ hr1 hrl).mono ?_
   rintro e w1 ⟨⟨q, rfl, hq⟩, hb1⟩
   have hsz := (bwstep hbw hb1).size
   have hbw := bwstep hbw hb1
   have ho := ho.below hb1
   have hqr := hq.rd
   clear hr1 hcell1
   go_wp2_with (at_builtin; refine wpList_appB bytesT rfl (.tmp 12) (.tmp 14) rfl rfl ho rfl hqr hle hsz ?_; intro v' w' ho3 hg h3; have HB := Lib.hid (hbw.grown hg hsz ho.ge); have HO := Lib.hid ho3; clear ho3 hg h3)
   go_roundw
   case rel => exact ⟨k + 1, by omega, by go_num, by rw [HS.out]; exact HO.out, HB.out⟩
   case measure => simp [intOf]; omega
  ·obtain rfl : k = L.length := by omega
   rw [List.take_length] at ho
   go_wp2_with fail
   go_ret
   exact ⟨⟨_, rfl, ho⟩, hbw⟩
theorem scan_any (v : Value) (b m : List UInt8) (R : List (List UInt8)) (w : World) (hr : Rd w w.heap.size v (b.map bv)) (hs : Scanned b R m) (hl : b.length ≤ 1000000000000) :
  Calls Try.prog 40 #[v] w fun e w' => (∃ x vs, e = .returned (.tuple #[x, .int .i64 ((flat R).length : Int)]) ∧ OwM w' w.heap.size x vs R.length (gl R)) ∧ Below w.heap.size w w' := by
 obtain ⟨A, c, rfl, hc, hcm⟩ := hr.shapeM
 obtain ⟨hbR, hR, hno⟩ := hs
 have hbl : b.length = (flat R).length + m.length := by rw [hbR, List.length_append]
 have HBL := Lib.hid hbl
 have hfl := flat_len R
 have hRl : R.length ≤ 1000000000000 := by omega
 clear hbl hfl
 have HB0 := Lib.hid (show b = flat (R.drop 0) ++ m from hbR)
 clear hbR
 unfold maxLen at hcm
 go_enter Try.func40, Try.ntmps40
 go_wp2_with fail
 go_loopw [4, 5, 6, 7, 8] (fun p q _ _ _ wr => ∃ (k : Nat) (t : List UInt8), k ≤ R.length ∧ (∃ vs, OwM wr w.heap.size p vs k (gl R)) ∧ Rd wr w.heap.size q (t.map bv) ∧ Hid (t = flat (R.drop k) ++ m) ∧ Below w.heap.size w wr) (fun _ q _ _ _ _ => slen q)
 case atStart => exact ⟨0, b, by omega, ⟨_, OwM.nil _ _ _⟩, hr, HB0, Below.refl _ _⟩
 case round =>
  clear hr
  obtain ⟨k, t, hk, ⟨vs, ho⟩, hq, HT, hbw⟩ := hrel
  have hsz := hbw.size
  by_cases hlt : k < R.length
  ·obtain ⟨t2, ht2⟩ : ∃ t2, t2 = flat (R.drop (k + 1)) ++ m := ⟨_, rfl⟩
   obtain ⟨r, hr⟩ : ∃ r, r = R[k] := ⟨_, rfl⟩
   have e1 : t = frm r ++ t2 := by rw [HT.out, ht2, hr, flat_drop R k hlt, List.append_assoc]
   have hrk : r.length ≤ 65535 := by rw [hr]; exact hR _ (List.getElem_mem hlt)
   have hll : t.length ≤ 1000000000000 := by
    have := HBL.out
    rw [flat_split R k, List.length_append] at this
    rw [HT.out, List.length_append]
    omega
   have hlt2 : t2.length < t.length := by rw [e1, List.length_append, frm_len]; omega
   obtain ⟨A1, c1, rfl, -, -⟩ := hq.shapeM
   have hsp := split_ok _ _ _ _ _ _ hq hsz e1 hrk hll
   have HE := Lib.hid (show r = gl R k by rw [hr, gl_at R hlt])
   have HT2 := Lib.hid ht2
   clear e1 hll hq hr ht2
   go_wp2_with fail
   refine hsp.mono ?_
   rintro e w1 ⟨⟨x, y, rfl, hx, hy⟩, hb1⟩
   go_wp2_with fail
   refine (bclone_any _ _ _ _ hx (Nat.le_trans hsz hb1.size) (by omega)).mono ?_
   rintro e w2 ⟨u, rfl, hu, hb2⟩
   have hy := hy.below (hb2.mono (Nat.le_trans hsz hb1.size))
   have hb2 := bwstep hb1 hb2
   have hu := hu.mono hb1.size
   have hB0 := Bld.of ho hbw hu hb2
   obtain ⟨Au, cu, rfl, -, -⟩ := hu.rd.shapeM
   obtain ⟨Ay, cy, rfl, -, -⟩ := hy.shapeM
   have hone : One [Value.slice Au r.length cu] := one_one rfl
   have hrd : Rd (w2.alloc (.cells #[.slice Au r.length cu] 22)) _ (.slice (some ⟨w2.heap.size, 0, none⟩) 1 1) [.slice Au r.length cu] := Rd.newW w2 22 #[.slice Au r.length cu] rfl (by simp [maxLen]) rfl
   have hy := hy.below (((Below.refl w.heap.size w2).alloc (Nat.le_trans hsz hb2.size) (.cells #[.slice Au r.length cu] 22)))
   have hB2 := hB0.up (bwalloc (Below.refl _ _) (.cells #[.slice Au r.length cu] 22))
   have hs2 := hB2.bel.size
   have hl1 : ((List.range k).map vs).length + [Value.slice Au r.length cu].length ≤ maxLen := (by simp [maxLen]; omega)
   have hl2 : (((List.range k).map vs).length + [Value.slice Au r.length cu].length) * 24 ≤ 140737488355328 := (by simp; omega)
   have HY := Lib.hid (fun (w' : World) (h : Below w.heap.size (w2.alloc (.cells #[.slice Au r.length cu] 22)) w') => hy.below h)
   clear ho hbw hu hb2 hx hb1 hB0 hy
   go_wp2_with (at_builtin; refine wpList_app rowsT rfl rfl (.tmp 24) (.tmp 27) rfl rfl hB2.om.out rfl hrd hone hl1 hl2 hs2 ?_; intro v' w' ho hg h3; have HB := Lib.hid (hB2.push ho hg h3); have HG := Lib.hid (HY.out w' ((Below.refl w.heap.size _).grown hg hs2 hB2.om.out.ge)); clear ho hg h3 hrd hB2 hone HY)
   go_roundw
   case rel => exact ⟨k + 1, t2, by omega, ⟨_, HB.out.1.congr fun i hi => by
    by_cases e : i = k
    ·subst e; rw [if_pos rfl, HE.out]
    ·rw [if_neg e]⟩, HG.out, HT2, HB.out.2⟩
   case measure => simpa [slen] using hlt2
  ·obtain rfl : k = R.length := by omega
   obtain rfl : t = m := by rw [HT.out, List.drop_length, flat_nil, List.nil_append]
   obtain ⟨A1, c1, rfl, -, -⟩ := hq.shapeM
   have hml : t.length ≤ 1000000000000 := by have := HBL.out; omega
   have hsp := split_no _ _ _ _ hq hsz hno hml
   have HD := Lib.hid (show (b.length : Int) - (t.length : Int) = ((flat R).length : Int) by have := HBL.out; omega)
   go_wp2_with fail
   refine hsp.mono ?_
   rintro e w1 ⟨rfl, hb1⟩
   go_wp2_with fail
   go_ret2
   exact ⟨⟨_, vs, ret2 rfl (vi HD.out), ho.below hb1⟩, bwstep hbw hb1⟩
end Go.Proofs.Ytaddbhdkgneiaaa
