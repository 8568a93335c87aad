/- The contracts of Sorted of package cell, and of the reference's. -/
import Derived.Test.YtpmlfhgdhnofbaaCbA
namespace Go.Proofs.Ytpmlfhgdhnofbaa.Ce
open Go.RowKit
def TwoA (b o : Nat) (f : Cl) (b' o' : Nat) (t : Cl) (w0 w' : World) : Prop :=
 w'.cell? ⟨b, o, none⟩ = some (.string f.row) ∧ w'.cell? ⟨b, o + 1, none⟩ = some (.string f.col) ∧ w'.cell? ⟨b, o + 2, none⟩ = some (.int .i64 f.at_) ∧ w'.cell? ⟨b, o + 3, none⟩ = some (.string f.val) ∧ w'.cell? ⟨b, o + 4, none⟩ = some (.bool f.gone) ∧ w'.cell? ⟨b', o', none⟩ = some (.string t.row) ∧ w'.cell? ⟨b', o' + 1, none⟩ = some (.string t.col) ∧ w'.cell? ⟨b', o' + 2, none⟩ = some (.int .i64 t.at_) ∧ w'.cell? ⟨b', o' + 3, none⟩ = some (.string t.val) ∧ w'.cell? ⟨b', o' + 4, none⟩ = some (.bool t.gone) ∧ Below w0.heap.size w0 w'
theorem TwoA.of {b o b' o' : Nat} {f t : Cl} {w0 w' : World} (h : FiveAt b o f w0) (hb : b < w0.heap.size) (hi : FiveAt b' o' t w0) (hb' : b' < w0.heap.size) (hw : Below w0.heap.size w0 w') : TwoA b o f b' o' t w0 w' := by
 obtain ⟨a0, a1, a2, a3, a4⟩ := h.up hb hw
 obtain ⟨c0, c1, c2, c3, c4⟩ := hi.up hb' hw
 exact ⟨a0, a1, a2, a3, a4, c0, c1, c2, c3, c4, hw⟩
theorem TwoA.bel {b o b' o' : Nat} {f t : Cl} {w0 w' : World} (h : TwoA b o f b' o' t w0 w') : Below w0.heap.size w0 w' := h.2.2.2.2.2.2.2.2.2.2
def OneA (b o : Nat) (f : Cl) (w0 w' : World) : Prop := w'.cell? ⟨b, o, none⟩ = some (.string f.row) ∧ w'.cell? ⟨b, o + 1, none⟩ = some (.string f.col) ∧ w'.cell? ⟨b, o + 2, none⟩ = some (.int .i64 f.at_) ∧ w'.cell? ⟨b, o + 3, none⟩ = some (.string f.val) ∧ w'.cell? ⟨b, o + 4, none⟩ = some (.bool f.gone) ∧ Below w0.heap.size w0 w'
theorem OneA.of {b o : Nat} {f : Cl} {w0 w' : World} (h : FiveAt b o f w0) (hb : b < w0.heap.size) (hw : Below w0.heap.size w0 w') : OneA b o f w0 w' := by
 obtain ⟨a0, a1, a2, a3, a4⟩ := h.up hb hw
 exact ⟨a0, a1, a2, a3, a4, hw⟩
theorem OneA.bel {b o : Nat} {f : Cl} {w0 w' : World} (h : OneA b o f w0 w') : Below w0.heap.size w0 w' := h.2.2.2.2.2
end Go.Proofs.Ytpmlfhgdhnofbaa.Ce
