/- Lists of cells in order: cells put in, in whatever order; two with the same cells are one. Plain. Merging as plain lists: lists of cells merged, cleaned, what is visible at a time. Plain. -/
import Derived.Test.YtaddbhdkgneiaaaGreatClA
namespace Go.Proofs.YtaddbhdkgneiaaaGreat.Ce
open Go.RowKit
theorem srt_ext : ∀ {A C : List Cl}, Srt A → Srt C → (∀ x, x ∈ A ↔ x ∈ C) → A = C
 | [], [], _, _, _ => rfl
 | [], c :: C, _, _, h => by have := (h c).2 (by simp); cases this
 | a :: A, [], _, _, h => by have := (h a).1 (by simp); cases this
 | a :: A, c :: C, hA, hC, h => by
  obtain ⟨a1, a2⟩ := List.pairwise_cons.1 hA
  obtain ⟨c1, c2⟩ := List.pairwise_cons.1 hC
  have e : a = c := by
   rcases List.mem_cons.1 ((h a).1 (by simp)) with e | ha
   ·exact e
   ·rcases List.mem_cons.1 ((h c).2 (by simp)) with e | hc
    ·exact e.symm
    ·exact absurd (klt_trans (a1 c hc) (c1 a ha)) (klt_irrefl _)
  subst e
  rw [srt_ext a2 c2 fun x => ?_]
  constructor
  ·intro hx
   rcases List.mem_cons.1 ((h x).1 (by simp [hx])) with e | q
   ·subst e; exact absurd (a1 x hx) (klt_irrefl _)
   ·exact q
  ·intro hx
   rcases List.mem_cons.1 ((h x).2 (by simp [hx])) with e | q
   ·subst e; exact absurd (c1 x hx) (klt_irrefl _)
   ·exact q
end Go.Proofs.YtaddbhdkgneiaaaGreat.Ce
namespace Go.Proofs.YtaddbhdkgneiaaaGreat.Ce
open Go.RowKit
def over (M acc : List Cl) : List Cl := M.foldl (fun s c => put1 c s) acc
def first (LL : List (List Cl)) (x : Cl) : Prop := ∃ (i : Nat) (M : List Cl), LL[i]? = some M ∧ x ∈ M ∧ ∀ (j : Nat) (A : List Cl), j < i → LL[j]? = some A → ∀ c ∈ A, ¬ keq x c
end Go.Proofs.YtaddbhdkgneiaaaGreat.Ce
