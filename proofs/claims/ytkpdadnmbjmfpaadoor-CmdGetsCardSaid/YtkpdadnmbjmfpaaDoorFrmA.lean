/- Plain lemmas of frames: what is framed is cut off again as it was, what is cut off was framed, what a turned byte does. Of no function in particular. The contracts of package frame: sums, one frame cut off. The contracts of package frame: a frame that is split off. The contracts of package frame: where no frame stands. The contracts of package frame: Put, All, Cut, Scan. -/
import Derived.Test.YtkpdadnmbjmfpaaDoorSumA
import Derived.Test.YtkpdadnmbjmfpaaDoorWir
import Derived.Test.YtkpdadnmbjmfpaaDoorRef1
import Derived.Test.YtkpdadnmbjmfpaaDoorGrC
namespace Go.Proofs.YtkpdadnmbjmfpaaDoor
open Go.RowKit Crc

namespace Frm
/-- the number that is the bytes' sum -/
def sumB (l : List UInt8) : List UInt8 := numB (vw (sum l))
/-- a record's frame -/
def frm (r : List UInt8) : List UInt8 := numB r.length ++ (sumB (numB r.length) ++ (sumB r ++ r))
def flat (L : List (List UInt8)) : List UInt8 := L.flatMap frm
theorem sumB_len (l : List UInt8) : (sumB l).length = 4 := rfl
theorem frm_len (r : List UInt8) : (frm r).length = 12 + r.length := by
  unfold frm
  simp only [List.length_append, numB_len, sumB_len]
  omega
theorem flat_nil : flat [] = [] := rfl
theorem flat_cons (r : List UInt8) (L : List (List UInt8)) : flat (r :: L) = frm r ++ flat L := rfl
theorem flat_app (L M : List (List UInt8)) : flat (L ++ M) = flat L ++ flat M := by unfold flat; rw [List.flatMap_append]
theorem flat_one (r : List UInt8) : flat [r] = frm r := by unfold flat; simp
theorem flat_snoc (L : List (List UInt8)) (k : Nat) (h : k < L.length) : flat (L.take (k + 1)) = flat (L.take k) ++ frm L[k] := by
  rw [List.take_succ_eq_append_getElem h, flat_app, flat_one]
theorem flat_drop (L : List (List UInt8)) (k : Nat) (h : k < L.length) : flat (L.drop k) = frm L[k] ++ flat (L.drop (k + 1)) := by
  rw [List.drop_eq_getElem_cons h, flat_cons]
theorem flat_split (L : List (List UInt8)) (k : Nat) : flat L = flat (L.take k) ++ flat (L.drop k) := by rw [← flat_app, List.take_append_drop]
theorem flat_take_le (L : List (List UInt8)) (k : Nat) : (flat (L.take k)).length ≤ (flat L).length := by
  have := congrArg List.length (flat_split L k)
  rw [List.length_append] at this
  omega
/-- how many bytes records have together -/
def tot (L : List (List UInt8)) : Nat := (L.map List.length).sum
theorem tot_snoc (L : List (List UInt8)) (k : Nat) (h : k < L.length) : tot (L.take (k + 1)) = tot (L.take k) + L[k].length := by
  unfold tot
  rw [List.take_succ_eq_append_getElem h, List.map_append, List.sum_append]
  simp
theorem tot_app (L M : List (List UInt8)) : tot (L ++ M) = tot L + tot M := by unfold tot; simp
theorem flat_len (L : List (List UInt8)) : (flat L).length = 12 * L.length + tot L := by
  induction L with
  | nil => rfl
  | cons r L ih =>
    rw [flat_cons, List.length_append, ih, frm_len]
    simp [tot]
    omega
theorem len_le_tot {L : List (List UInt8)} {r : List UInt8} (h : r ∈ L) : r.length ≤ tot L := by
  induction L with
  | nil => cases h
  | cons t L ih =>
    rcases List.mem_cons.1 h with rfl | h
    · simp [tot]
    · have := ih h
      simp [tot] at this ⊢
      omega

theorem numOf_numB (n : Nat) (h : n ≤ 4294967295) (more : List UInt8) : numOf (numB n ++ more) = n := by
  unfold numOf numB
  simp
  omega
theorem numB_numOf (l : List UInt8) (h : l.length = 4) : numB (numOf l) = l := by
  match l, h with
  | [a, b, c, d], _ =>
    have ha := a.toNat_lt
    have hb := b.toNat_lt
    have hc := c.toNat_lt
    have hd := d.toNat_lt
    unfold numB numOf
    simp only [List.getD_cons_zero, List.getD_cons_succ]
    congr 1
    · apply UInt8.toNat_inj.1
      rw [UInt8.toNat_ofNat']
      omega
    · congr 1
      · apply UInt8.toNat_inj.1
        rw [UInt8.toNat_ofNat']
        omega
      · congr 1
        · apply UInt8.toNat_inj.1
          rw [UInt8.toNat_ofNat']
          omega
        · congr 1
          apply UInt8.toNat_inj.1
          rw [UInt8.toNat_ofNat']
          omega
theorem numOf_take4 (l : List UInt8) (h : 4 ≤ l.length) : numOf (l.take 4) = numOf l := by
  match l, h with
  | a :: b :: c :: d :: m, _ => rfl
theorem numB_inj {a b : Nat} (ha : a ≤ 4294967295) (hb : b ≤ 4294967295) (h : numB a = numB b) : a = b := by
  have h1 := numOf_numB a ha []
  have h2 := numOf_numB b hb []
  rw [List.append_nil] at h1 h2
  rw [← h1, ← h2, h]
theorem vw_le (a : W) : vw a ≤ 4294967295 := by have := vw_lt a; omega
theorem sumB_inj {a b : List UInt8} (h : sumB a = sumB b) : sum a = sum b := vw_inj (numB_inj (vw_le _) (vw_le _) h)

/-- a frame stands at the beginning of b: its record -/
def Whole (b : List UInt8) : Prop :=
  12 ≤ b.length ∧ numOf b ≤ 65535 ∧ 12 + numOf b ≤ b.length ∧ (b.take 8).drop 4 = sumB (b.take 4) ∧ (b.take 12).drop 8 = sumB ((b.drop 12).take (numOf b))
theorem whole_frm (r m : List UInt8) (h : r.length ≤ 65535) : Whole (frm r ++ m) ∧ numOf (frm r ++ m) = r.length ∧ (frm r ++ m).take 4 = numB r.length ∧ (frm r ++ m).drop 12 = r ++ m := by
  have e : frm r ++ m = numB r.length ++ (sumB (numB r.length) ++ (sumB r ++ (r ++ m))) := by unfold frm; simp only [List.append_assoc]
  have hn : numOf (frm r ++ m) = r.length := by rw [e]; exact numOf_numB _ (by omega) _
  have h4 : (frm r ++ m).take 4 = numB r.length := by rw [e]; rfl
  have h12 : (frm r ++ m).drop 12 = r ++ m := by rw [e]; rfl
  have hl : (frm r ++ m).length = 12 + r.length + m.length := by rw [List.length_append, frm_len]
  refine ⟨⟨by omega, by omega, by omega, ?_, ?_⟩, hn, h4, h12⟩
  · rw [h4, e]; rfl
  · rw [h12, hn, List.take_left, e]; rfl
/-- what is cut off was framed -/
theorem whole_is {b : List UInt8} (h : Whole b) : b = frm ((b.drop 12).take (numOf b)) ++ (b.drop 12).drop (numOf b) ∧ ((b.drop 12).take (numOf b)).length = numOf b := by
  obtain ⟨h1, h2, h3, h4, h5⟩ := h
  have hl : ((b.drop 12).take (numOf b)).length = numOf b := by
    rw [List.length_take, List.length_drop]
    omega
  refine ⟨?_, hl⟩
  have e4 : numB (numOf b) = b.take 4 := by
    rw [← numOf_take4 b (by omega)]
    exact numB_numOf _ (by rw [List.length_take]; omega)
  unfold frm
  rw [hl, e4, ← h4, ← h5, List.append_assoc, List.append_assoc, List.append_assoc, List.take_append_drop]
  have a1 : b = b.take 4 ++ b.drop 4 := (List.take_append_drop _ _).symm
  have a2 : b.drop 4 = (b.take 8).drop 4 ++ b.drop 8 := by
    conv => lhs; rw [show b = b.take 8 ++ b.drop 8 from (List.take_append_drop _ _).symm]
    rw [List.drop_append_of_le_length (by rw [List.length_take]; omega)]
  have a3 : b.drop 8 = (b.take 12).drop 8 ++ b.drop 12 := by
    conv => lhs; rw [show b = b.take 12 ++ b.drop 12 from (List.take_append_drop _ _).symm]
    rw [List.drop_append_of_le_length (by rw [List.length_take]; omega)]
  rw [← a3, ← a2, ← a1]
theorem whole_iff {b : List UInt8} : Whole b ↔ ∃ r m, b = frm r ++ m ∧ r.length ≤ 65535 := by
  constructor
  · intro h
    obtain ⟨h1, h2⟩ := whole_is h
    exact ⟨_, _, h1, by rw [h2]; exact h.2.1⟩
  · rintro ⟨r, m, rfl, h⟩
    exact (whole_frm r m h).1
theorem frm_inj {r r' m m' : List UInt8} (h : frm r ++ m = frm r' ++ m') (hr : r.length ≤ 65535) (hr' : r'.length ≤ 65535) : r = r' ∧ m = m' := by
  obtain ⟨-, n1, -, d1⟩ := whole_frm r m hr
  obtain ⟨-, n2, -, d2⟩ := whole_frm r' m' hr'
  rw [h] at n1 d1
  have hl : r.length = r'.length := by omega
  exact List.append_inj (d1.symm.trans d2) hl

/-- b is the frames of R, and what is left, which begins with none -/
def Scanned (b : List UInt8) (R : List (List UInt8)) (m : List UInt8) : Prop := b = flat R ++ m ∧ (∀ r ∈ R, r.length ≤ 65535) ∧ ¬ Whole m
theorem scan_one {R R' : List (List UInt8)} {m m' : List UInt8} (h : flat R ++ m = flat R' ++ m') (h1 : ∀ r ∈ R, r.length ≤ 65535) (h2 : ¬ Whole m) (h1' : ∀ r ∈ R', r.length ≤ 65535) (h2' : ¬ Whole m') : R = R' ∧ m = m' := by
  induction R generalizing R' with
  | nil =>
    cases R' with
    | nil => exact ⟨rfl, h⟩
    | cons r R' =>
      exfalso
      apply h2
      rw [flat_nil, List.nil_append] at h
      rw [h, flat_cons, List.append_assoc]
      exact (whole_frm _ _ (h1' r List.mem_cons_self)).1
  | cons r R ih =>
    cases R' with
    | nil =>
      exfalso
      apply h2'
      rw [flat_nil, List.nil_append] at h
      rw [← h, flat_cons, List.append_assoc]
      exact (whole_frm _ _ (h1 r List.mem_cons_self)).1
    | cons r' R' =>
      rw [flat_cons, flat_cons, List.append_assoc, List.append_assoc] at h
      obtain ⟨rfl, e⟩ := frm_inj h (h1 r List.mem_cons_self) (h1' r' List.mem_cons_self)
      obtain ⟨rfl, rfl⟩ := ih e (fun x hx => h1 x (List.mem_cons_of_mem _ hx)) (fun x hx => h1' x (List.mem_cons_of_mem _ hx))
      exact ⟨rfl, rfl⟩
theorem scanned_one {b : List UInt8} {R R' : List (List UInt8)} {m m' : List UInt8} (h : Scanned b R m) (h' : Scanned b R' m') : R = R' ∧ m = m' :=
  scan_one (h.1.symm.trans h'.1) h.2.1 h.2.2 h'.2.1 h'.2.2
theorem scan_ex (n : Nat) (b : List UInt8) (h : b.length ≤ n) : ∃ R m, Scanned b R m := by
  induction n generalizing b with
  | zero =>
    refine ⟨[], b, rfl, fun r hr => (List.not_mem_nil hr).elim, fun hw => ?_⟩
    have := hw.1
    omega
  | succ n ih =>
    by_cases hw : Whole b
    · obtain ⟨r, m, rfl, hr⟩ := whole_iff.1 hw
      rw [List.length_append, frm_len] at h
      obtain ⟨R, m', e, h1, h2⟩ := ih m (by omega)
      refine ⟨r :: R, m', by rw [flat_cons, List.append_assoc, ← e], fun x hx => ?_, h2⟩
      rcases List.mem_cons.1 hx with rfl | hx
      · exact hr
      · exact h1 x hx
    · exact ⟨[], b, rfl, fun r hr => (List.not_mem_nil hr).elim, hw⟩
theorem not_whole_short {m : List UInt8} (h : m.length < 12) : ¬ Whole m := fun hw => by have := hw.1; omega
/-- frames alone -/
theorem scanned_flat {R : List (List UInt8)} (h : ∀ r ∈ R, r.length ≤ 65535) : Scanned (flat R) R [] := ⟨by simp, h, not_whole_short (by simp)⟩
/-- a beginning of a frame is no frame -/
theorem not_whole_take {r : List UInt8} (m : List UInt8) {k : Nat} (hr : r.length ≤ 65535) (hk : k < 12 + r.length) : ¬ Whole ((frm r ++ m).take k) := by
  intro hw
  have h1 := hw.1
  have h3 := hw.2.2.1
  rw [List.length_take] at h1 h3
  have hn : numOf ((frm r ++ m).take k) = r.length := by
    rw [← numOf_take4 _ (by rw [List.length_take]; omega), List.take_take, Nat.min_eq_left (by omega), numOf_take4 _ (by omega)]
    exact (whole_frm r m hr).2.1
  omega
/-- of a beginning of frames a beginning is scanned -/
theorem scanned_take (L : List (List UInt8)) (h : ∀ r ∈ L, r.length ≤ 65535) (k : Nat) (hk : k ≤ (flat L).length) :
    ∃ n m, n ≤ L.length ∧ Scanned ((flat L).take k) (L.take n) m ∧ (∀ hn : n < L.length, k < (flat (L.take n)).length + 12 + L[n].length) := by
  induction L generalizing k with
  | nil => exact ⟨0, [], Nat.le_refl _, ⟨by simp [flat_nil], by simp, not_whole_short (by simp)⟩, fun hn => by simp at hn⟩
  | cons r L ih =>
    have hr := h r List.mem_cons_self
    by_cases hlt : k < 12 + r.length
    · refine ⟨0, (flat (r :: L)).take k, by simp, ⟨by simp [flat_nil], by simp, ?_⟩, fun _ => by simp [flat_nil]; omega⟩
      rw [flat_cons]
      exact not_whole_take _ hr hlt
    · rw [flat_cons, List.length_append, frm_len] at hk
      obtain ⟨n, m, h1, ⟨h2, h3, h4⟩, h5⟩ := ih (fun x hx => h x (List.mem_cons_of_mem _ hx)) (k - (12 + r.length)) (by omega)
      refine ⟨n + 1, m, by simp; omega, ⟨?_, fun x hx => ?_, h4⟩, fun hn => ?_⟩
      · rw [flat_cons, List.take_append, List.take_of_length_le (by rw [frm_len]; omega), frm_len, h2, List.take_succ_cons, flat_cons, List.append_assoc]
      · rw [List.take_succ_cons] at hx
        rcases List.mem_cons.1 hx with rfl | hx
        · exact hr
        · exact h3 x hx
      · have := h5 (by simpa using hn)
        rw [List.take_succ_cons, flat_cons, List.length_append, frm_len, List.getElem_cons_succ]
        omega

/-- one byte turned is another sum -/
theorem sum_turn (l : List UInt8) (j : Nat) (t : UInt8) (hj : j < l.length) (ht : t ≠ 0) : sum (l.set j (l[j] ^^^ t)) ≠ sum l := by
  have el : l = l.take j ++ l[j] :: l.drop (j + 1) := by rw [← List.drop_eq_getElem_cons hj, List.take_append_drop]
  have e2 : l.set j (l[j] ^^^ t) = l.take j ++ (l[j] ^^^ t) :: l.drop (j + 1) := by rw [List.set_eq_take_append_cons_drop, if_pos hj]
  generalize l[j] = c at *
  have hb : bw t ≠ 0#32 := fun e => ht (by
    have h1 : (bw t).toNat = 0 := by rw [e]; rfl
    unfold bw at h1
    rw [BitVec.toNat_ofNat] at h1
    have := t.toNat_lt
    exact UInt8.toNat_inj.1 (by simp; omega))
  have e3 : sum (l.take j ++ (c ^^^ t) :: l.drop (j + 1)) = sum (l.take j ++ c :: l.drop (j + 1)) ^^^ steps (8 * (l.drop (j + 1)).length) (steps 8 (bw t)) := by
    unfold sum
    rw [eats_app, eats_app, eats_cons, eats_cons]
    have : eat (eats ones (l.take j)) (c ^^^ t) = eat (eats ones (l.take j)) c ^^^ steps 8 (bw t) := by
      unfold eat
      rw [bw_xor, ← steps_xor, BitVec.xor_assoc]
    rw [this, eats_xorw, BitVec.xor_assoc, BitVec.xor_comm (steps _ _), ← BitVec.xor_assoc]
  rw [e2, e3, ← el]
  exact xor_self_ne _ _ (steps_ne _ _ (steps_ne _ _ hb))
theorem ne_turn (l : List UInt8) (j : Nat) (t : UInt8) (hj : j < l.length) (ht : t ≠ 0) : l.set j (l[j] ^^^ t) ≠ l := fun e => sum_turn l j t hj ht (by rw [e])
/-- with one byte of a frame turned it is none -/
theorem not_whole_turn (r m : List UInt8) (j : Nat) (t : UInt8) (hr : r.length ≤ 65535) (hj : j < 12 + r.length) (ht : t ≠ 0) (b : List UInt8)
    (hb : b = (frm r ++ m).set j ((frm r ++ m).getD j 0 ^^^ t)) : ¬ Whole b := by
  intro hw
  obtain ⟨-, h2, h3, h4, h5⟩ := hw
  obtain ⟨⟨g1, g2, g3, g4, g5⟩, hn, ht4, hd⟩ := whole_frm r m hr
  generalize hf : frm r ++ m = f at *
  have hfl : 12 + r.length ≤ f.length := by omega
  have hjf : j < f.length := by omega
  have hget : f.getD j 0 = f[j] := by simp [List.getD, hjf]
  rw [hget] at hb
  have hlen : b.length = f.length := by rw [hb, List.length_set]
  have part : ∀ (x y : Nat), (b.take y).drop x = if x ≤ j ∧ j < y then ((f.take y).drop x).set (j - x) (f[j] ^^^ t) else (f.take y).drop x := by
    intro x y
    rw [hb, List.take_set, List.drop_set]
    by_cases h1 : j < x
    · rw [if_pos h1, if_neg (by omega)]
    · rw [if_neg h1]
      by_cases h2 : j < y
      · rw [if_pos ⟨by omega, h2⟩]
      · rw [if_neg (by omega)]
        exact List.set_eq_of_length_le (by rw [List.length_drop, List.length_take]; omega)
  have pne : ∀ (x y : Nat), x ≤ j → j < y → ((f.take y).drop x).set (j - x) (f[j] ^^^ t) ≠ (f.take y).drop x ∧ sum (((f.take y).drop x).set (j - x) (f[j] ^^^ t)) ≠ sum ((f.take y).drop x) := by
    intro x y hx hy
    have hl : j - x < ((f.take y).drop x).length := by rw [List.length_drop, List.length_take]; omega
    have e : ((f.take y).drop x)[j - x] = f[j] := by
      rw [List.getElem_drop, List.getElem_take]
      congr 1
      omega
    rw [← e]
    exact ⟨ne_turn _ _ t hl ht, sum_turn _ _ t hl ht⟩
  have p04 := part 0 4
  simp only [List.drop_zero] at p04
  by_cases c1 : j < 4
  · have p48 := part 4 8
    rw [if_neg (by omega)] at p48
    rw [if_pos ⟨by omega, c1⟩] at p04
    have := (pne 0 4 (by omega) c1).2
    simp only [List.drop_zero] at this
    rw [p04, p48, g4] at h4
    exact this (sumB_inj h4).symm
  · rw [if_neg (by omega)] at p04
    have hnb : numOf b = r.length := by rw [← numOf_take4 b (by omega), p04, numOf_take4 f (by omega), hn]
    by_cases c2 : j < 8
    · have p48 := part 4 8
      rw [if_pos ⟨by omega, c2⟩] at p48
      have := (pne 4 8 (by omega) c2).1
      rw [p04, p48, ← g4] at h4
      exact this h4
    · have prec : (b.drop 12).take (numOf b) = (b.take (12 + r.length)).drop 12 := by rw [hnb, List.drop_take]; congr 1; omega
      have frec : (f.drop 12).take (numOf f) = (f.take (12 + r.length)).drop 12 := by rw [hn, List.drop_take]; congr 1; omega
      rw [prec] at h5
      rw [frec] at g5
      by_cases c3 : j < 12
      · have p812 := part 8 12
        rw [if_pos ⟨by omega, c3⟩] at p812
        have pr := part 12 (12 + r.length)
        rw [if_neg (by omega)] at pr
        have := (pne 8 12 (by omega) c3).1
        rw [pr, p812, ← g5] at h5
        exact this h5
      · have p812 := part 8 12
        rw [if_neg (by omega)] at p812
        have pr := part 12 (12 + r.length)
        rw [if_pos ⟨by omega, hj⟩] at pr
        have := (pne 12 (12 + r.length) (by omega) hj).2
        rw [pr, p812, g5] at h5
        exact this (sumB_inj h5).symm
/-- P6.3: those ahead are scanned, it and all behind it isn't -/
theorem scanned_turn (L : List (List UInt8)) (h : ∀ r ∈ L, r.length ≤ 65535) (n k : Nat) (t : UInt8) (hn : n < L.length) (h1 : (flat (L.take n)).length ≤ k) (h2 : k < (flat (L.take n)).length + 12 + L[n].length) (ht : t ≠ 0) :
    ∃ m, Scanned ((flat L).set k ((flat L).getD k 0 ^^^ t)) (L.take n) m := by
  have e : flat L = flat (L.take n) ++ (frm L[n] ++ flat (L.drop (n + 1))) := by rw [← flat_drop L n hn]; exact flat_split L n
  have hr : L[n].length ≤ 65535 := h _ (List.getElem_mem hn)
  have hj : k - (flat (L.take n)).length < 12 + L[n].length := by omega
  refine ⟨_, ?_, fun r hr => h r (List.mem_of_mem_take hr), not_whole_turn L[n] (flat (L.drop (n + 1))) (k - (flat (L.take n)).length) t hr hj ht _ rfl⟩
  rw [e, List.set_append_right _ _ h1]
  congr 2
  rw [List.getD_eq_getElem?_getD, List.getElem?_append_right h1, ← List.getD_eq_getElem?_getD]
/-- frames of two lists -/
theorem scanned_join {A B : List (List UInt8)} (h : ∀ r ∈ A, r.length ≤ 65535) (h' : ∀ r ∈ B, r.length ≤ 65535) : Scanned (flat A ++ flat B) (A ++ B) [] := by
  rw [← flat_app]
  exact scanned_flat fun r hr => by
    rcases List.mem_append.1 hr with hr | hr
    · exact h r hr
    · exact h' r hr
end Frm
/-- a list of rows, by their places -/
def gl (L : List (List UInt8)) (i : Nat) : List UInt8 := L.getD i []
theorem gl_at (L : List (List UInt8)) {i : Nat} (h : i < L.length) : gl L i = L[i] := by simp [gl, List.getD, h]
theorem gl_of (n : Nat) (g : Nat → List UInt8) : ((List.range n).map g).length = n ∧ ∀ j, j < n → g j = gl ((List.range n).map g) j := by
  refine ⟨by simp, fun j hj => ?_⟩
  rw [gl_at _ (by simpa using hj)]
  simp
end Go.Proofs.YtkpdadnmbjmfpaaDoor

namespace Go.Proofs.YtkpdadnmbjmfpaaDoor
open Go.RowKit Crc Frm

end Go.Proofs.YtkpdadnmbjmfpaaDoor

namespace Go.Proofs.YtkpdadnmbjmfpaaDoor
open Go.RowKit Crc Frm

theorem Rd.ofm {w : World} {B : Nat} {v : Value} {b c : List UInt8} (h : Rd w B v (b.map bv)) (e : b = c) : Rd w B v (c.map bv) := e ▸ h
end Go.Proofs.YtkpdadnmbjmfpaaDoor

namespace Go.Proofs.YtkpdadnmbjmfpaaDoor
open Go.RowKit Crc Frm

theorem sameB_ne {a b : List UInt8} (h : a ≠ b) : sameB a b = false := by simp [sameB, h]
end Go.Proofs.YtkpdadnmbjmfpaaDoor

namespace Go.Proofs.YtkpdadnmbjmfpaaDoor
open Go.RowKit Crc Frm

/-- '[][]byte{a, b, c, d}' -/
theorem RdM.build4 {w : World} {a b c d : Value} {x y z u : List UInt8} (e : Nat) (ha : Rd w w.heap.size a (x.map bv)) (hb : Rd w w.heap.size b (y.map bv)) (hc : Rd w w.heap.size c (z.map bv)) (hd : Rd w w.heap.size d (u.map bv)) :
    RdM (w.alloc (.cells #[a, b, c, d] e)) (w.alloc (.cells #[a, b, c, d] e)).heap.size (.slice (some ⟨w.heap.size, 0, none⟩) 4 4) 4 (gl [x, y, z, u]) := by
  have hal := bwalloc (bwrefl w) (.cells #[a, b, c, d] e)
  refine ⟨fun i => [a, b, c, d].getD i undef, Rd.newW w e #[a, b, c, d] rfl (by simp [maxLen]) rfl, fun j hj => ?_⟩
  match j, hj with
  | 0, _ => exact ha.up hal
  | 1, _ => exact hb.up hal
  | 2, _ => exact hc.up hal
  | 3, _ => exact hd.up hal
theorem RdM.build2 {w : World} {a b : Value} {x y : List UInt8} (e : Nat) (ha : Rd w w.heap.size a (x.map bv)) (hb : Rd w w.heap.size b (y.map bv)) :
    RdM (w.alloc (.cells #[a, b] e)) (w.alloc (.cells #[a, b] e)).heap.size (.slice (some ⟨w.heap.size, 0, none⟩) 2 2) 2 (gl [x, y]) := by
  have hal := bwalloc (bwrefl w) (.cells #[a, b] e)
  refine ⟨fun i => [a, b].getD i undef, Rd.newW w e #[a, b] rfl (by simp [maxLen]) rfl, fun j hj => ?_⟩
  match j, hj with
  | 0, _ => exact ha.up hal
  | 1, _ => exact hb.up hal
theorem flatG4 (x y z u : List UInt8) : flatG (gl [x, y, z, u]) 4 = x ++ (y ++ (z ++ u)) := by
  show ((([] ++ x) ++ y) ++ z) ++ u = _
  simp
end Go.Proofs.YtkpdadnmbjmfpaaDoor
