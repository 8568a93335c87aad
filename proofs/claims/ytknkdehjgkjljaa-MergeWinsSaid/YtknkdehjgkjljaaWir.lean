/- The contracts of package wire. The contracts of package wire, going on: lists of texts. The contracts of package wire, going on: cutting. The contracts of package wire, going on: lists of texts that are cut off. -/
import Derived.Test.YtknkdehjgkjljaaBase
namespace Go.Proofs.Ytknkdehjgkjljaa
open Go.RowKit

/-- a number's four bytes -/
def numB (n : Nat) : List UInt8 := [UInt8.ofNat (n / 16777216), UInt8.ofNat (n / 65536), UInt8.ofNat (n / 256), UInt8.ofNat n]
theorem numB_len (n : Nat) : (numB n).length = 4 := rfl
theorem bv_num (n : Nat) (h : n ≤ 4294967295) : (numB n).map bv = [.int .u8 ((n:Int) / 16777216), .int .u8 ((n:Int) / 65536 % 256), .int .u8 ((n:Int) / 256 % 256), .int .u8 ((n:Int) % 256)] := by
  simp [numB, bv]; omega
def textB (s : ByteArray) : List UInt8 := numB s.size ++ s.data.toList
theorem textB_len (s : ByteArray) : (textB s).length = 4 + s.size := by
  unfold textB
  rw [List.length_append]; rfl

end Go.Proofs.Ytknkdehjgkjljaa

namespace Go.Proofs.Ytknkdehjgkjljaa
open Go.RowKit

def allB (l : List ByteArray) : List UInt8 := l.flatMap textB
def textsB (l : List ByteArray) : List UInt8 := numB l.length ++ allB l
theorem allB_snoc (l : List ByteArray) (k : Nat) (h : k < l.length) : allB (l.take (k + 1)) = allB (l.take k) ++ textB l[k] := by
  unfold allB
  rw [List.take_succ_eq_append_getElem h, List.flatMap_append]
  simp
theorem allB_take_le (l : List ByteArray) (k : Nat) : (allB (l.take k)).length ≤ (allB l).length := by
  have : allB l = allB (l.take k) ++ allB (l.drop k) := by
    unfold allB
    rw [← List.flatMap_append, List.take_append_drop]
  rw [this]; simp

end Go.Proofs.Ytknkdehjgkjljaa

namespace Go.Proofs.Ytknkdehjgkjljaa
open Go.RowKit

/-- the number at the beginning -/
def numOf (l : List UInt8) : Nat := 16777216 * (l.getD 0 0).toNat + 65536 * (l.getD 1 0).toNat + 256 * (l.getD 2 0).toNat + (l.getD 3 0).toNat

theorem numOf4 (l : List UInt8) (h : 4 ≤ l.length) : numOf l = 16777216 * l[0].toNat + 65536 * l[1].toNat + 256 * l[2].toNat + l[3].toNat := by
  unfold numOf
  simp [List.getD, List.getElem?_eq_getElem (show 0 < l.length by omega), List.getElem?_eq_getElem (show 1 < l.length by omega), List.getElem?_eq_getElem (show 2 < l.length by omega), List.getElem?_eq_getElem (show 3 < l.length by omega)]

/-- is a text whole at the beginning? -/
def textOk (l : List UInt8) : Prop := 4 ≤ l.length ∧ numOf l ≤ l.length - 4
instance (l : List UInt8) : Decidable (textOk l) := by unfold textOk; infer_instance
def textOf (l : List UInt8) : List UInt8 := (l.drop 4).take (numOf l)
def textRest (l : List UInt8) : List UInt8 := (l.drop 4).drop (numOf l)
theorem numOf_lt (l : List UInt8) : numOf l < 4294967296 := by
  unfold numOf
  have d0 := UInt8.toNat_lt (l.getD 0 0)
  have d1 := UInt8.toNat_lt (l.getD 1 0)
  have d2 := UInt8.toNat_lt (l.getD 2 0)
  have d3 := UInt8.toNat_lt (l.getD 3 0)
  omega

/-! own: the rest, copied -/
end Go.Proofs.Ytknkdehjgkjljaa

namespace Go.Proofs.Ytknkdehjgkjljaa
open Go.RowKit

/-- k texts off the beginning, and what is left -/
def takeTexts : Nat → List UInt8 → Option (List ByteArray × List UInt8)
  | 0, b => some ([], b)
  | k + 1, b => match takeTexts k b with
    | none => none
    | some (acc, m) => if textOk m then some (acc ++ [⟨(textOf m).toArray⟩], textRest m) else none

theorem takeTexts_none {k j : Nat} {b : List UInt8} (h : takeTexts k b = none) (hkj : k ≤ j) : takeTexts j b = none := by
  induction j with
  | zero => have : k = 0 := by omega
            subst this; exact h
  | succ j ih =>
    by_cases hk : k = j + 1
    · subst hk; exact h
    · simp only [takeTexts, ih (by omega)]
theorem takeTexts_len {k : Nat} {b m : List UInt8} {acc : List ByteArray} (h : takeTexts k b = some (acc, m)) : acc.length = k ∧ m.length + 4 * k ≤ b.length := by
  induction k generalizing acc m with
  | zero => simp only [takeTexts, Option.some.injEq, Prod.mk.injEq] at h; obtain ⟨rfl, rfl⟩ := h; simp
  | succ k ih =>
    simp only [takeTexts] at h
    split at h
    · cases h
    · rename_i acc' m' he
      obtain ⟨h1, h2⟩ := ih he
      split at h
      · rename_i hok
        simp only [Option.some.injEq, Prod.mk.injEq] at h
        obtain ⟨rfl, rfl⟩ := h
        have := hok.1
        refine ⟨by simp [h1], ?_⟩
        simp only [textRest, List.length_drop]
        omega
      · cases h
theorem takeTexts_succ {k : Nat} {b m : List UInt8} {acc : List ByteArray} (h : takeTexts k b = some (acc, m)) : takeTexts (k + 1) b = if textOk m then some (acc ++ [⟨(textOf m).toArray⟩], textRest m) else none := by
  simp only [takeTexts, h]

def Posts (p : Prop) : Prop := p

def TextsEnd (w : World) (B : Nat) (l : List UInt8) (e : Ending) (w' : World) : Prop :=
  match takeTexts (numOf l) (l.drop 4) with
  | none => e = .returned (.tuple #[.slice none 0 0, .slice none 0 0, .bool false]) ∧ Below w.heap.size w w'
  | some (acc, m) => ∃ v r, e = .returned (.tuple #[v, r, .bool true]) ∧ Ow w' w.heap.size 9 v (acc.map sv) ∧ Rd w' B r (m.map bv) ∧ Below w.heap.size w w'

/-! The exported calls. -/
end Go.Proofs.Ytknkdehjgkjljaa
