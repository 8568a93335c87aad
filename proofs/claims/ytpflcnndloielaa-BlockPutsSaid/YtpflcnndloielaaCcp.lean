/- What stands at the beginning of bytes: a cell, or none. Plain. -/
import Derived.Test.YtpflcnndloielaaCsp
import Derived.Test.YtpflcnndloielaaWireP
namespace Go.Proofs.Ytpflcnndloielaa.Ce
open Go.RowKit

theorem ct_inv {l : List UInt8} (h : ctOk l = true) : l = textB (ctS l) ++ ctR l := by
  have ht := ctOk_iff.1 h
  obtain ⟨h4, hn⟩ := ht
  unfold ctS ctR
  rw [if_pos h, if_pos h]
  have hlen : (textOf l).length = numOf l := by unfold textOf; simp; omega
  have hsz : (⟨(textOf l).toArray⟩ : ByteArray).size = numOf l := by rw [← hlen]; rfl
  unfold textB
  rw [hsz]
  have e4 : numB (numOf l) = l.take 4 := by
    have e : numOf l = numOf (l.take 4) := by
      unfold numOf
      simp only [List.getD_eq_getElem?_getD, List.getElem?_take]
      simp
    rw [e]
    exact Frm.numB_numOf _ (by simp; omega)
  rw [e4, List.append_assoc]
  show l = l.take 4 ++ (textOf l ++ textRest l)
  unfold textOf textRest
  rw [List.take_append_drop, List.take_append_drop]
theorem ct_of (s : ByteArray) (hs : s.size ≤ 4294967295) (m : List UInt8) : ctOk (textB s ++ m) = true ∧ ctS (textB s ++ m) = s ∧ ctR (textB s ++ m) = m := by
  have h := textOk_textB s hs m
  have h1 := ctOk_iff.2 h
  refine ⟨h1, ?_, ?_⟩
  · unfold ctS
    rw [if_pos h1, textOf_textB s hs m]
  · unfold ctR
    rw [if_pos h1, textRest_textB s hs m]
theorem ctOk_nil : ctOk [] = false := by
  cases h : ctOk [] with
  | false => rfl
  | true =>
    have := (ctOk_iff.1 h).1
    simp at this
theorem ctR_ne {l : List UInt8} (h : ctR l ≠ []) : ctOk l = true := by
  cases hq : ctOk l with
  | true => rfl
  | false =>
    exfalso
    apply h
    unfold ctR
    rw [hq]
    simp
theorem cn_inv {l : List UInt8} (h : cnR l ≠ []) : l = numB (cnN l) ++ cnR l ∧ cnN l ≤ 4294967295 := by
  by_cases h4 : 4 ≤ l.length
  · unfold cnN cnR
    rw [if_pos h4, if_pos h4]
    have hlt := numOf_lt l
    refine ⟨?_, by omega⟩
    have e : numOf l = numOf (l.take 4) := by
      unfold numOf
      simp only [List.getD_eq_getElem?_getD, List.getElem?_take]
      simp
    rw [e, Frm.numB_numOf _ (by simp; omega), List.take_append_drop]
  · exfalso
    apply h
    unfold cnR
    rw [if_neg h4]
theorem cf_inv {l : List UInt8} (h : cfR l ≠ [] ∨ cfOk l = true) : l = flagB (cfB l) ++ cfR l := by
  cases l with
  | nil =>
    rcases h with h | h
    · exact absurd rfl h
    · cases h
  | cons f m =>
    have hf : f.toNat ≤ 1 := by
      rcases h with h | h
      · by_cases hf : f.toNat ≤ 1
        · exact hf
        · exfalso
          apply h
          show (if f.toNat ≤ 1 then m else []) = []
          rw [if_neg hf]
      · simpa [cfOk] using h
    have e3 : cfR (f :: m) = m := by show (if f.toNat ≤ 1 then m else []) = m; rw [if_pos hf]
    rw [e3]
    show f :: m = [if decide (f.toNat = 1) = true then 1 else 0] ++ m
    by_cases h1 : f.toNat = 1
    · rw [decide_eq_true h1, if_pos rfl]
      have : f = 1 := UInt8.toNat_inj.1 (by rw [h1]; rfl)
      rw [this]; rfl
    · rw [decide_eq_false h1, if_neg (by simp)]
      have : f = 0 := UInt8.toNat_inj.1 (by rw [show f.toNat = 0 by omega]; rfl)
      rw [this]; rfl
theorem split_inv {l : List UInt8} (h : spOk l = true) : l = cellB (spC l) ++ spR l := by
  have h4 : ctOk (sp4 l) = true := h
  have n4 : sp4 l ≠ [] := fun e => by rw [e, ctOk_nil] at h4; cases h4
  have f3 := cf_inv (l := sp3 l) (.inl n4)
  have n3 : sp3 l ≠ [] := fun e => n4 (by unfold sp4; rw [e]; rfl)
  obtain ⟨f2, b2⟩ := cn_inv (l := sp2 l) n3
  have n2 : sp2 l ≠ [] := fun e => by
    apply n3
    unfold sp3 cnR
    rw [e]; rfl
  have h1 : ctOk (sp1 l) = true := ctR_ne n2
  have n1 : sp1 l ≠ [] := fun e => by rw [e, ctOk_nil] at h1; cases h1
  have h0 : ctOk l = true := ctR_ne n1
  have e0 := ct_inv h0
  have e1 := ct_inv h1
  have e4 := ct_inv h4
  unfold cellB
  show l = textB (ctS l) ++ (textB (ctS (sp1 l)) ++ (numB (cnN (sp2 l) : Int).toNat ++ (flagB (cfB (sp3 l)) ++ textB (ctS (sp4 l))))) ++ spR l
  rw [Int.toNat_natCast]
  simp only [List.append_assoc]
  have a4 : textB (ctS (sp4 l)) ++ spR l = sp4 l := e4.symm
  have a3 : flagB (cfB (sp3 l)) ++ sp4 l = sp3 l := f3.symm
  have a2 : numB (cnN (sp2 l)) ++ sp3 l = sp2 l := f2.symm
  have a1 : textB (ctS (sp1 l)) ++ sp2 l = sp1 l := e1.symm
  rw [a4, a3, a2, a1]
  exact e0
theorem cn_of (n : Nat) (h : n ≤ 4294967295) (m : List UInt8) : cnN (numB n ++ m) = n ∧ cnR (numB n ++ m) = m := by
  have h4 : 4 ≤ (numB n ++ m).length := by rw [List.length_append, numB_len]; omega
  unfold cnN cnR
  rw [if_pos h4, if_pos h4]
  exact ⟨numOf_numB n h m, rfl⟩
theorem cf_of (g : Bool) (m : List UInt8) : cfB (flagB g ++ m) = g ∧ cfR (flagB g ++ m) = m ∧ cfOk (flagB g ++ m) = true := by
  cases g
  · exact ⟨rfl, rfl, rfl⟩
  · exact ⟨rfl, rfl, rfl⟩
theorem split_of {c : Cl} (h : c.ok) (m : List UInt8) : spOk (cellB c ++ m) = true ∧ spC (cellB c ++ m) = c ∧ spR (cellB c ++ m) = m := by
  have l1 : c.row.size ≤ 4294967295 := by have := h.r2; omega
  have l2 : c.col.size ≤ 4294967295 := by have := h.c2; omega
  have l3 : c.val.size ≤ 4294967295 := by have := h.v; omega
  have l4 : c.at_.toNat ≤ 4294967295 := by have := h.a2; omega
  have e : cellB c ++ m = textB c.row ++ (textB c.col ++ (numB c.at_.toNat ++ (flagB c.gone ++ (textB c.val ++ m)))) := by unfold cellB; simp
  obtain ⟨a1, a2, a3⟩ := ct_of c.row l1 (textB c.col ++ (numB c.at_.toNat ++ (flagB c.gone ++ (textB c.val ++ m))))
  obtain ⟨b1, b2, b3⟩ := ct_of c.col l2 (numB c.at_.toNat ++ (flagB c.gone ++ (textB c.val ++ m)))
  obtain ⟨c1, c2⟩ := cn_of c.at_.toNat l4 (flagB c.gone ++ (textB c.val ++ m))
  obtain ⟨d1, d2, d3⟩ := cf_of c.gone (textB c.val ++ m)
  obtain ⟨e1, e2, e3⟩ := ct_of c.val l3 m
  rw [e]
  unfold spOk spC spR sp4 sp3 sp2 sp1
  rw [a3, b3, c2, d2, a2, b2, c1, d1, e2, e3]
  refine ⟨e1, ?_, rfl⟩
  rw [Int.toNat_of_nonneg h.a1]
/-- a cell stands at the beginning -/
def Stands (l : List UInt8) (c : Cl) (m : List UInt8) : Prop := c.ok ∧ l = cellB c ++ m
theorem Stands.one {l m m' : List UInt8} {c c' : Cl} (h : Stands l c m) (k : Stands l c' m') : c = c' ∧ m = m' := by
  obtain ⟨h1, h2⟩ := h
  obtain ⟨k1, k2⟩ := k
  obtain ⟨-, a, b⟩ := split_of h1 m
  obtain ⟨-, a', b'⟩ := split_of k1 m'
  rw [← h2] at a b
  rw [← k2] at a' b'
  exact ⟨a.symm.trans a', b.symm.trans b'⟩
theorem stands_iff {l : List UInt8} : (∃ c m, Stands l c m) ↔ spOk l = true ∧ (spC l).ok := by
  constructor
  · rintro ⟨c, m, h, rfl⟩
    obtain ⟨h1, h2, -⟩ := split_of h m
    exact ⟨h1, by rw [h2]; exact h⟩
  · rintro ⟨h1, h2⟩
    exact ⟨_, _, h2, split_inv h1⟩
theorem cellB_le {c : Cl} (h : c.ok) : (cellB c).length ≤ 401 := by
  rw [cellB_len]
  have := h.r2
  have := h.c2
  have := h.v
  omega
/-- of the first 401 bytes the same is told -/
theorem stands_head {l m : List UInt8} {c : Cl} (h : Stands l c m) : Stands (l.take 401) c (m.take (401 - (cellB c).length)) := by
  obtain ⟨h1, rfl⟩ := h
  have := cellB_le h1
  refine ⟨h1, ?_⟩
  rw [List.take_append, List.take_of_length_le (by omega)]
theorem head_stands {l m : List UInt8} {c : Cl} (h : Stands (l.take 401) c m) : Stands l c (m ++ l.drop 401) := by
  obtain ⟨h1, h2⟩ := h
  refine ⟨h1, ?_⟩
  rw [← List.append_assoc, ← h2, List.take_append_drop]
/-- what the program's Cut sees -/
theorem head_ok {l m : List UInt8} {c : Cl} (h : Stands l c m) : spOk (l.take 401) = true ∧ spC (l.take 401) = c ∧ (l.take 401).length - (spR (l.take 401)).length = (cellB c).length ∧ (spR (l.take 401)).length ≤ (l.take 401).length ∧ l.drop (cellB c).length = m := by
  have hs := stands_head h
  obtain ⟨h1, h2, h3⟩ := split_of hs.1 (m.take (401 - (cellB c).length))
  rw [← hs.2] at h1 h2 h3
  refine ⟨h1, h2, ?_, ?_, ?_⟩
  · rw [h3]
    have := congrArg List.length hs.2
    rw [List.length_append] at this
    omega
  · exact (sp_len _).2.2.2.2
  · rw [h.2, List.drop_left]
theorem head_no {l : List UInt8} (h : ¬ ∃ c m, Stands l c m) (h1 : spOk (l.take 401) = true) : ¬ (spC (l.take 401)).ok := fun h2 => by
  obtain ⟨c, m, hs⟩ := stands_iff.2 ⟨h1, h2⟩
  exact h ⟨c, _, head_stands hs⟩
end Go.Proofs.Ytpflcnndloielaa.Ce
