/- Plain lemmas: what is put is cut off as it was. -/
import Derived.Test.YtpflcnndloielaaRefB
namespace Go.Proofs.Ytpflcnndloielaa
open Go.RowKit

theorem numOf_numB (n : Nat) (h : n ≤ 4294967295) (more : List UInt8) : numOf (numB n ++ more) = n := by
  unfold numOf numB
  simp
  omega
theorem drop4 (n : Nat) (more : List UInt8) : (numB n ++ more).drop 4 = more := rfl
theorem textOk_textB (s : ByteArray) (h : s.size ≤ 4294967295) (more : List UInt8) : textOk (textB s ++ more) := by
  unfold textOk textB
  rw [List.append_assoc, numOf_numB _ h]
  simp [numB_len]
theorem textOf_textB (s : ByteArray) (h : s.size ≤ 4294967295) (more : List UInt8) : textOf (textB s ++ more) = s.data.toList := by
  unfold textOf textB
  rw [List.append_assoc, numOf_numB _ h, drop4]
  have : s.data.toList.length = s.size := rfl
  rw [← this]
  exact List.take_left
theorem textRest_textB (s : ByteArray) (h : s.size ≤ 4294967295) (more : List UInt8) : textRest (textB s ++ more) = more := by
  unfold textRest textB
  rw [List.append_assoc, numOf_numB _ h, drop4]
  have : s.data.toList.length = s.size := rfl
  rw [← this]
  exact List.drop_left
theorem allB_cons (s : ByteArray) (l : List ByteArray) : allB (s :: l) = textB s ++ allB l := rfl
theorem takeTexts_allB (l : List ByteArray) (h : ∀ s ∈ l, s.size ≤ 4294967295) (more : List UInt8) (k : Nat) (hk : k ≤ l.length) :
    takeTexts k (allB l ++ more) = some (l.take k, allB (l.drop k) ++ more) := by
  induction k with
  | zero => rfl
  | succ k ih =>
    have hlt : k < l.length := by omega
    have hs := h _ (List.getElem_mem hlt)
    rw [takeTexts_succ (ih (by omega)), List.drop_eq_getElem_cons hlt, allB_cons, List.append_assoc, if_pos (textOk_textB _ hs _), textOf_textB _ hs, textRest_textB _ hs,
      List.take_succ_eq_append_getElem hlt]
theorem takeTexts_textsB (l : List ByteArray) (h0 : l.length ≤ 4294967295) (h : ∀ s ∈ l, s.size ≤ 4294967295) (more : List UInt8) :
    takeTexts (numOf (textsB l ++ more)) ((textsB l ++ more).drop 4) = some (l, more) := by
  unfold textsB
  rw [List.append_assoc, numOf_numB _ h0, drop4, takeTexts_allB l h more _ (Nat.le_refl _)]
  simp [allB]
theorem textsB_len (l : List ByteArray) : (textsB l).length = 4 + (allB l).length := by
  unfold textsB
  rw [List.length_append]; rfl
theorem allB_len (l : List ByteArray) : (allB l).length = 4 * l.length + sumS l := by
  induction l with
  | nil => rfl
  | cons s l ih =>
    rw [allB_cons, List.length_append, ih, textB_len]
    simp [sumS]
    omega
theorem size_le_sumS {l : List ByteArray} {s : ByteArray} (h : s ∈ l) : s.size ≤ sumS l := by
  induction l with
  | nil => cases h
  | cons t l ih =>
    rcases List.mem_cons.1 h with rfl | h
    · simp [sumS]
    · have := ih h
      simp [sumS] at this ⊢
      omega

theorem textRest_len (l : List UInt8) : (textRest l).length ≤ l.length := by
  unfold textRest
  rw [List.length_drop, List.length_drop]
  omega

/-! awake -/
theorem awakeP1 : numOf [0, 0, 1, 2, 9] = 258 := rfl
def ab : ByteArray := ⟨#[97, 98]⟩
def exs : List ByteArray := [⟨#[]⟩, ⟨#[120]⟩]
theorem awakeP2 : textOf (textB ab) = [97, 98] := rfl
theorem awakeP3 : textOk (textB ab) := by have := textOk_textB ab (by decide) []; rwa [List.append_nil] at this
theorem awakeP4 : takeTexts (numOf (textsB exs)) ((textsB exs).drop 4) = some (exs, []) := by have := takeTexts_textsB exs (by decide) (by decide) []; rwa [List.append_nil] at this
end Go.Proofs.Ytpflcnndloielaa
