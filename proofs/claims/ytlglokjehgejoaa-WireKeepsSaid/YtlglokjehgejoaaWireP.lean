/- Plain lemmas: what is put is cut off as it was. -/
import Derived.Test.YtlglokjehgejoaaRefB
namespace Go.Proofs.Ytlglokjehgejoaa
open Go.RowKit

theorem numOf_numB (n : Nat) (h : n ≤ 4294967295) (more : List UInt8) : numOf (numB n ++ more) = n := by
  unfold numOf numB
  simp
  omega
theorem drop4 (n : Nat) (more : List UInt8) : (numB n ++ more).drop 4 = more := rfl
theorem textB_len (s : ByteArray) : (textB s).length = 4 + s.size := by
  unfold textB
  rw [List.length_append]; rfl
theorem textOk_textB (s : ByteArray) (h : s.size ≤ 4294967295) (more : List UInt8) : textOk (textB s ++ more) := by
  unfold textOk textB
  rw [List.append_assoc, numOf_numB _ h]
  simp [numB_len]
theorem textOf_textB (s : ByteArray) (h : s.size ≤ 4294967295) (more : List UInt8) : textOf (textB s ++ more) = s.data.toList := by
  unfold textOf textB
  rw [List.append_assoc, numOf_numB _ h, drop4]
  have : s.data.toList.length = s.size := rfl
  rw [← this]
  exact List.take_left
theorem textRest_textB (s : ByteArray) (h : s.size ≤ 4294967295) (more : List UInt8) : textRest (textB s ++ more) = more := by
  unfold textRest textB
  rw [List.append_assoc, numOf_numB _ h, drop4]
  have : s.data.toList.length = s.size := rfl
  rw [← this]
  exact List.drop_left
theorem allB_cons (s : ByteArray) (l : List ByteArray) : allB (s :: l) = textB s ++ allB l := rfl
theorem takeTexts_allB (l : List ByteArray) (h : ∀ s ∈ l, s.size ≤ 4294967295) (more : List UInt8) (k : Nat) (hk : k ≤ l.length) :
    takeTexts k (allB l ++ more) = some (l.take k, allB (l.drop k) ++ more) := by
  induction k with
  | zero => rfl
  | succ k ih =>
    have hlt : k < l.length := by omega
    have hs := h _ (List.getElem_mem hlt)
    rw [takeTexts_succ (ih (by omega)), List.drop_eq_getElem_cons hlt, allB_cons, List.append_assoc, if_pos (textOk_textB _ hs _), textOf_textB _ hs, textRest_textB _ hs,
      List.take_succ_eq_append_getElem hlt]
theorem takeTexts_textsB (l : List ByteArray) (h0 : l.length ≤ 4294967295) (h : ∀ s ∈ l, s.size ≤ 4294967295) (more : List UInt8) :
    takeTexts (numOf (textsB l ++ more)) ((textsB l ++ more).drop 4) = some (l, more) := by
  unfold textsB
  rw [List.append_assoc, numOf_numB _ h0, drop4, takeTexts_allB l h more _ (Nat.le_refl _)]
  simp [allB]
theorem textsB_len (l : List ByteArray) : (textsB l).length = 4 + (allB l).length := by
  unfold textsB
  rw [List.length_append]; rfl
theorem allB_len (l : List ByteArray) : (allB l).length = 4 * l.length + sumS l := by
  induction l with
  | nil => rfl
  | cons s l ih =>
    rw [allB_cons, List.length_append, ih, textB_len]
    simp [sumS]
    omega
theorem size_le_sumS {l : List ByteArray} {s : ByteArray} (h : s ∈ l) : s.size ≤ sumS l := by
  induction l with
  | nil => cases h
  | cons t l ih =>
    rcases List.mem_cons.1 h with rfl | h
    · simp [sumS]
    · have := ih h
      simp [sumS] at this ⊢
      omega

theorem textRest_len (l : List UInt8) : (textRest l).length ≤ l.length := by
  unfold textRest
  rw [List.length_drop, List.length_drop]
  omega

/-! awake -/
theorem awakeP1 : numOf [0, 0, 1, 2, 9] = 258 := rfl
def ab : ByteArray := ⟨#[97, 98]⟩
def exs : List ByteArray := [⟨#[]⟩, ⟨#[120]⟩]
theorem awakeP2 : textOf (textB ab) = [97, 98] := rfl
theorem awakeP3 : textOk (textB ab) := by have := textOk_textB ab (by decide) []; rwa [List.append_nil] at this
theorem awakeP4 : takeTexts (numOf (textsB exs)) ((textsB exs).drop 4) = some (exs, []) := by have := takeTexts_textsB exs (by decide) (by decide) []; rwa [List.append_nil] at this
set_option maxHeartbeats 2000000 in
set_option maxRecDepth 100000 in
theorem awake_ok (w : World) : Calls Try.prog 9 #[] w fun e w' => e = .returned (.bool true) ∧ Below w.heap.size w w' := by
  have hin : ∀ (W : World) (o : Obj), Below w.heap.size w W → Below w.heap.size w (W.alloc o) := fun W o h => h.alloc h.size o
  have HI := Lib.hid hin
  clear hin
  go_enter Try.func9, Try.ntmps9
  go_wp2_with fail
  refine (cutNum_ok _ [0, 0, 1, 2, 9] _ _ (Rd.new _ _ _ rfl (by simp [maxLen]) rfl) (by simp) (by simp)).mono ?_
  rintro e w1 ⟨r1, rfl, hr1, hb1⟩
  rw [awakeP1]
  have hB1 := (HI.out w (.cells #[bv 0, bv 0, bv 1, bv 2, bv 9] 5) (Below.refl _ _)).trans (hb1.mono (by simp))
  have ho1 : Rd w1 w1.heap.size r1 ([9].map bv) := hr1.rd
  clear hr1 hb1
  go_wp2_with fail
  refine (text_ok ab _ (by decide)).mono ?_
  rintro e w2 ⟨r2, rfl, hr2, hb2⟩
  go_wp2_with fail
  refine (cutText_ok _ (textB ab) _ _ hr2.rd awakeP3 (by decide)).mono ?_
  rintro e w3 ⟨r3, rfl, hr3, hb3⟩
  rw [awakeP2]
  have hB3 := (hB1.trans (hb2.mono hB1.size)).trans (hb3.mono (Nat.le_trans hB1.size hb2.size))
  have ho3 := (ho1.below hb2).below (hb3.mono hb2.size)
  have hs3 := Nat.le_trans hb2.size hb3.size
  clear hr3 hb3 hr2 hb2 hB1 ho1
  go_wp2_with fail
  refine (texts_ok _ exs _ (Rd.newW w3 9 #[sv ⟨#[]⟩, sv ⟨#[120]⟩] rfl (by simp [maxLen]) rfl) (by decide) (by decide) (by decide)).mono ?_
  rintro e w4 ⟨r4, rfl, hr4, hb4⟩
  go_wp2_with fail
  refine (cutTexts_ok _ (textsB exs) _ _ (Nat.le_refl _) hr4.rd (by decide) (by decide) exs [] awakeP4).mono ?_
  rintro e w5 ⟨v5, r5, rfl, hv5, hr5, hb5⟩
  obtain ⟨A, c, rfl, hc, hm⟩ := hv5.shapeM
  have hB5 := ((HI.out w3 (.cells #[sv ⟨#[]⟩, sv ⟨#[120]⟩] 9) hB3).trans (hb4.mono (Nat.le_trans hB3.size (by simp)))).trans (hb5.mono (Nat.le_trans hB3.size (Nat.le_trans (by simp) hb4.size)))
  have ho5 : Rd w5 w1.heap.size r1 ([9].map bv) := ((ho3.below ((Below.refl _ w3).alloc hs3 (.cells #[sv ⟨#[]⟩, sv ⟨#[120]⟩] 9))).below (hb4.mono (Nat.le_trans hs3 (by simp)))).below (hb5.mono (Nat.le_trans hs3 (Nat.le_trans (by simp) hb4.size)))
  have hs5 : w1.heap.size ≤ w5.heap.size := Nat.le_trans hs3 (Nat.le_trans (by simp) (Nat.le_trans hb4.size hb5.size))
  clear hr4 hr5 hv5 hB3 ho3 hs3 hb4 hb5
  go_wp2_with fail
  refine (rsame_any _ _ [9] [9] w1.heap.size _ _ (ho5.below ((Below.refl _ _).alloc hs5 _)) (Rd.newW _ _ _ rfl (by simp [maxLen]) rfl)).mono ?_
  rintro e w6 ⟨rfl, hw6⟩
  subst hw6
  have hsm : sameB [9] [9] = true := rfl
  rw [hsm]
  clear hsm
  go_wp2_with fail
  refine (text_ok ab _ (by decide)).mono ?_
  rintro e w7 ⟨r7, rfl, hr7, hb7⟩
  obtain ⟨A7, c7, rfl, _, _⟩ := hr7.rd.shapeM
  have hB7 := (HI.out w5 _ hB5).trans (hb7.mono (Nat.le_trans hB5.size (by simp)))
  clear hr7 hb7 hB5 ho5 hs5
  go_wp2_with fail
  refine (num_bad (-1) _ (by decide)).mono ?_
  rintro e w8 ⟨rfl, rfl⟩
  go_wp2_with fail
  go_ret
  exact ⟨rfl, hB7⟩
end Go.Proofs.Ytlglokjehgejoaa
