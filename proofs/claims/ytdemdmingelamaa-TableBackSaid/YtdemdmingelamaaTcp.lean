/- Where a footer says that its blocks begin, plain. -/
import Derived.Test.YtdemdmingelamaaTfi
namespace Go.Proofs.Ytdemdmingelamaa.Ce
open Go.RowKit Frm

/-- the blocks' places -/
def starts : List (List Cl) → Nat → List Nat
  | [], _ => []
  | M :: LL, a => a :: starts LL (a + (blkB M).length)
theorem starts_len : ∀ (LL : List (List Cl)) (a : Nat), (starts LL a).length = LL.length
  | [], _ => rfl
  | M :: LL, a => by rw [starts, List.length_cons, starts_len, List.length_cons]
theorem starts_at : ∀ {LL : List (List Cl)} {a k : Nat}, k < LL.length → (starts LL a)[k]? = some (a + (flatB (LL.take k)).length)
  | [], a, k, h => by simp at h
  | M :: LL, a, 0, _ => by simp [starts, flatB]
  | M :: LL, a, k + 1, h => by
    rw [starts, List.getElem?_cons_succ, starts_at (by simpa using h), List.take_succ_cons, flatB, List.length_append, Nat.add_assoc]
theorem entries_drop {LL : List (List Cl)} {k : Nat} {M : List Cl} (h : LL[k]? = some M) (a : Nat) : entries (LL.drop k) a = cellB (keyC (hd M)) ++ (numB a ++ entries (LL.drop (k + 1)) (a + (blkB M).length)) := by
  obtain ⟨hl, rfl⟩ := List.getElem?_eq_some_iff.1 h
  rw [List.drop_eq_getElem_cons hl, entries]
/-- the cell at the beginning of what is shown, and the number behind it -/
theorem entry_shown {left rest m : List UInt8} {c c' : Cl} {s : Nat} (hc : c.ok) (hk : (cellB c).length ≤ 145) (hs : s ≤ 4294967295) (h : left = cellB c ++ (numB s ++ rest)) (hS : Stands (left.take 149) c' m) :
    4 ≤ m.length ∧ numOf m = s ∧ (left.take 149).length - (m.drop 4).length = (cellB c).length + 4 ∧ left.drop ((cellB c).length + 4) = rest := by
  have h1 : left.take 149 = cellB c ++ (numB s ++ rest).take (149 - (cellB c).length) := by
    rw [h, List.take_append, List.take_of_length_le (by omega)]
  have h2 : (numB s ++ rest).take (149 - (cellB c).length) = numB s ++ rest.take (145 - (cellB c).length) := by
    rw [List.take_append, List.take_of_length_le (by rw [numB_len]; omega), numB_len]
    congr 2
    omega
  rw [h2] at h1
  obtain ⟨rfl, rfl⟩ := hS.one ⟨hc, h1⟩
  refine ⟨by rw [List.length_append, numB_len]; omega, Frm.numOf_numB s hs _, ?_, ?_⟩
  · rw [h1, List.length_append, List.length_append, numB_len, show (numB s ++ rest.take (145 - (cellB c').length)).drop 4 = rest.take (145 - (cellB c').length) from rfl]
    omega
  · rw [h, ← List.append_assoc, show (cellB c').length + 4 = (cellB c' ++ numB s).length by rw [List.length_append, numB_len], List.drop_left]
theorem entry_stands {left rest : List UInt8} {c : Cl} {s : Nat} (hc : c.ok) (hk : (cellB c).length ≤ 145) (h : left = cellB c ++ (numB s ++ rest)) : ∃ m, Stands (left.take 149) c m := by
  refine ⟨(numB s ++ rest).take (149 - (cellB c).length), hc, ?_⟩
  rw [h, List.take_append, List.take_of_length_le (by omega)]
/-- a footer, whatever stands behind its blocks -/
structure FootAt (l : List UInt8) (LL : List (List Cl)) (t : List UInt8) : Prop where
  e : l = numB LL.length ++ (entries LL 0 ++ t)
  ok : ∀ M ∈ LL, Sorted M ∧ M ≠ []
  n : LL.length ≤ 4294967295
  f : (flatB LL).length ≤ 4294967295
/-- k blocks' places are told, lf is left -/
def StartsTo (l : List UInt8) (k : Nat) (ss : List Nat) (lf : List UInt8) : Prop := ∀ LL t, FootAt l LL t → ss = (starts LL 0).take k ∧ lf = entries (LL.drop k) (flatB (LL.take k)).length ++ t
theorem startsTo_zero (l : List UInt8) : StartsTo l 0 [] (cnR l) := fun LL t h => by
  refine ⟨by simp, ?_⟩
  unfold cnR
  have hl : 4 ≤ l.length := by rw [h.e, List.length_append, numB_len]; omega
  rw [if_pos hl]
  conv => lhs; rw [h.e]
  rw [List.drop_zero, List.take_zero]
  rfl
theorem foot_num {l t : List UInt8} {LL : List (List Cl)} (h : FootAt l LL t) : cnN l = LL.length := by
  have hl : 4 ≤ l.length := by rw [h.e, List.length_append, numB_len]; omega
  unfold cnN
  rw [if_pos hl, h.e]
  exact Frm.numOf_numB _ h.n _
theorem foot_row {l t lf : List UInt8} {LL : List (List Cl)} {k : Nat} (h : FootAt l LL t) (hk : k < LL.length) (hlf : lf = entries (LL.drop k) (flatB (LL.take k)).length ++ t) :
    ∃ M, LL[k]? = some M ∧ (keyC (hd M)).ok ∧ (cellB (keyC (hd M))).length ≤ 145 ∧ (flatB (LL.take k)).length ≤ 4294967295 ∧ lf = cellB (keyC (hd M)) ++ (numB (flatB (LL.take k)).length ++ (entries (LL.drop (k + 1)) (flatB (LL.take (k + 1))).length ++ t)) := by
  have hfk : LL[k]? = some LL[k] := List.getElem?_eq_getElem hk
  generalize LL[k] = M at hfk
  obtain ⟨sM, nM⟩ := h.ok M (List.mem_of_getElem? hfk)
  have hok := sM.ok _ (hd_mem nM)
  refine ⟨M, hfk, keyC_ok hok, key_le2 hok, Nat.le_trans (flatB_take_le LL k) h.f, ?_⟩
  rw [hlf, entries_drop hfk, flatB_snoc hfk, List.length_append, List.append_assoc, List.append_assoc]
/-- a block more -/
theorem startsTo_more {l lf m : List UInt8} {k : Nat} {ss : List Nat} {c : Cl} (h : StartsTo l k ss lf) (hk : k < cnN l) (hS : Stands (lf.take 149) c m) : StartsTo l (k + 1) (ss ++ [numOf m]) (lf.drop ((lf.take 149).length - (m.drop 4).length)) := fun LL t hf => by
  obtain ⟨h1, h2⟩ := h LL t hf
  have hkl : k < LL.length := by rw [← foot_num hf]; exact hk
  obtain ⟨M, hM, ok, hle, hn, he⟩ := foot_row hf hkl h2
  obtain ⟨-, e2, e3, e4⟩ := entry_shown ok hle hn he hS
  rw [e2, e3, e4]
  refine ⟨?_, rfl⟩
  have hs := starts_at (a := 0) hkl
  rw [Nat.zero_add] at hs
  obtain ⟨hsl, hse⟩ := List.getElem?_eq_some_iff.1 hs
  rw [List.take_succ_eq_append_getElem hsl, hse, h1]
/-- where no cell stands, or no number behind it, there is no footer -/
theorem startsTo_none {l lf : List UInt8} {k : Nat} {ss : List Nat} (h : StartsTo l k ss lf) (hk : k < cnN l) (hno : ∀ c m, Stands (lf.take 149) c m → ¬ 4 ≤ m.length) (ss' : List Nat) (lf' : List UInt8) (j : Nat) : StartsTo l j ss' lf' := fun LL t hf => by
  exfalso
  obtain ⟨h1, h2⟩ := h LL t hf
  have hkl : k < LL.length := by rw [← foot_num hf]; exact hk
  obtain ⟨M, hM, ok, hle, hn, he⟩ := foot_row hf hkl h2
  obtain ⟨m, hm⟩ := entry_stands ok hle he
  obtain ⟨e1, -⟩ := entry_shown ok hle hn he hm
  exact hno _ _ hm e1
/-- at the end -/
theorem startsTo_all {l lf t : List UInt8} {ss : List Nat} {LL : List (List Cl)} (h : StartsTo l (cnN l) ss lf) (hf : FootAt l LL t) : ss = starts LL 0 ∧ lf = t := by
  obtain ⟨h1, h2⟩ := h LL t hf
  rw [foot_num hf] at h1 h2
  rw [List.take_of_length_le (by rw [starts_len]; omega)] at h1
  rw [List.drop_length] at h2
  exact ⟨h1, h2⟩
end Go.Proofs.Ytdemdmingelamaa.Ce
