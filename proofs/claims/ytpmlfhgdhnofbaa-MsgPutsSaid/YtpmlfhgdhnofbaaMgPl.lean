/- Lists of cells in order: cells put in, in whatever order; two with the same cells are one. Plain. Merging as plain lists: lists of cells merged, cleaned, what is visible at a time. Plain. -/
import Derived.Test.YtpmlfhgdhnofbaaClA
namespace Go.Proofs.Ytpmlfhgdhnofbaa.Ce
open Go.RowKit
end Go.Proofs.Ytpmlfhgdhnofbaa.Ce
namespace Go.Proofs.Ytpmlfhgdhnofbaa.Ce
open Go.RowKit
def over (M acc : List Cl) : List Cl := M.foldl (fun s c => put1 c s) acc
def first (LL : List (List Cl)) (x : Cl) : Prop := ∃ (i : Nat) (M : List Cl), LL[i]? = some M ∧ x ∈ M ∧ ∀ (j : Nat) (A : List Cl), j < i → LL[j]? = some A → ∀ c ∈ A, ¬ keq x c
end Go.Proofs.Ytpmlfhgdhnofbaa.Ce
