/- The contracts of cutFlag and split of package cell. -/
import Derived.Test.YtffkbepcdidnjaaCput
namespace Go.Proofs.Ytffkbepcdidnjaa.Ce
open Go.RowKit

/-! a text, a number, a byte at the beginning; nothing where there is none -/
noncomputable def ctOk (l : List UInt8) : Bool := @decide (textOk l) (Classical.propDecidable _)
noncomputable def ctS (l : List UInt8) : ByteArray := if ctOk l = true then ⟨(textOf l).toArray⟩ else ⟨#[]⟩
noncomputable def ctR (l : List UInt8) : List UInt8 := if ctOk l = true then textRest l else []
def cnN (l : List UInt8) : Nat := if 4 ≤ l.length then numOf l else 0
def cnR (l : List UInt8) : List UInt8 := if 4 ≤ l.length then l.drop 4 else []
def cfOk : List UInt8 → Bool
  | [] => false
  | f :: _ => decide (f.toNat ≤ 1)
def cfB : List UInt8 → Bool
  | [] => false
  | f :: _ => decide (f.toNat = 1)
def cfR : List UInt8 → List UInt8
  | [] => []
  | f :: m => if f.toNat ≤ 1 then m else []
theorem ctOk_iff {l : List UInt8} : ctOk l = true ↔ textOk l := by unfold ctOk; simp
theorem ctR_len (l : List UInt8) : (ctR l).length ≤ l.length := by
  unfold ctR textRest
  split
  · simp
  · simp
theorem cnR_len (l : List UInt8) : (cnR l).length ≤ l.length := by
  unfold cnR
  split
  · simp
  · simp
theorem cfR_len (l : List UInt8) : (cfR l).length ≤ l.length := by
  cases l with
  | nil => simp [cfR]
  | cons f m =>
    show (if f.toNat ≤ 1 then m else []).length ≤ m.length + 1
    split
    · simp
    · simp
theorem SetC.ow {g B e : Nat} {c : Cl} {w w' : World} {v : Value} {xs : List Value} (h : SetC g c w w') (ho : Ow w B e v xs) (hg : g < B) : Ow w' B e v xs := by
  obtain ⟨h1, h2⟩ := ho
  refine ⟨h1, ?_⟩
  rcases h2 with h2 | ⟨k, cap, cur, hv, hk, hh, r⟩
  · exact .inl h2
  · exact .inr ⟨k, cap, cur, hv, hk, by rw [h.o k (by omega)]; exact hh, r⟩
/-! split -/
noncomputable def sp1 (l : List UInt8) : List UInt8 := ctR l
noncomputable def sp2 (l : List UInt8) : List UInt8 := ctR (sp1 l)
noncomputable def sp3 (l : List UInt8) : List UInt8 := cnR (sp2 l)
noncomputable def sp4 (l : List UInt8) : List UInt8 := cfR (sp3 l)
noncomputable def spR (l : List UInt8) : List UInt8 := ctR (sp4 l)
noncomputable def spC (l : List UInt8) : Cl := ⟨ctS l, ctS (sp1 l), (cnN (sp2 l) : Int), ctS (sp4 l), cfB (sp3 l)⟩
noncomputable def spOk (l : List UInt8) : Bool := ctOk (sp4 l)
theorem sp_len (l : List UInt8) : (sp1 l).length ≤ l.length ∧ (sp2 l).length ≤ l.length ∧ (sp3 l).length ≤ l.length ∧ (sp4 l).length ≤ l.length ∧ (spR l).length ≤ l.length := by
  have h1 := ctR_len l
  have h2 := ctR_len (sp1 l)
  have h3 := cnR_len (sp2 l)
  have h4 := cfR_len (sp3 l)
  have h5 := ctR_len (sp4 l)
  unfold spR
  unfold sp4 at *
  unfold sp3 at *
  unfold sp2 at *
  unfold sp1 at *
  omega
end Go.Proofs.Ytffkbepcdidnjaa.Ce
