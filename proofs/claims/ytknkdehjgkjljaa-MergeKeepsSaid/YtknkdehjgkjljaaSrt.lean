/- Lists of cells in order: cells put in, in whatever order; two with the same cells are one. Plain. -/
import Derived.Test.YtknkdehjgkjljaaClA
namespace Go.Proofs.Ytknkdehjgkjljaa.Ce
open Go.RowKit

/-! cells of unlike keys, put in whatever order -/
theorem mem_put1_self (c : Cl) : ∀ L : List Cl, c ∈ put1 c L
  | [] => by simp [put1]
  | d :: r => by
    unfold put1
    split
    · exact List.mem_cons_of_mem _ (mem_put1_self c r)
    · split <;> simp
theorem mem_put1_old {c x : Cl} : ∀ {L : List Cl}, x ∈ L → ¬ keq x c → x ∈ put1 c L
  | d :: r, h, hn => by
    unfold put1
    rcases List.mem_cons.1 h with rfl | h
    · split
      · simp
      · split
        · rename_i h0
          exact absurd (ccmp_eq.1 h0) hn
        · simp
    · split
      · exact List.mem_cons_of_mem _ (mem_put1_old h hn)
      · split
        · exact List.mem_cons_of_mem _ h
        · exact List.mem_cons_of_mem _ (List.mem_cons_of_mem _ h)
def unl (a b : Cl) : Prop := ¬ keq a b
theorem unl_symm {a b : Cl} (h : unl a b) : unl b a := fun k => h (keq_symm k)
theorem mem_fold {x : Cl} : ∀ (M s : List Cl), (∀ c ∈ M, ∀ d ∈ s, unl d c) → M.Pairwise unl → (x ∈ M.foldl (fun s c => put1 c s) s ↔ x ∈ s ∨ x ∈ M)
  | [], s, _, _ => by simp
  | c :: M, s, h, hp => by
    obtain ⟨h1, h2⟩ := List.pairwise_cons.1 hp
    rw [List.foldl_cons, mem_fold M (put1 c s) (fun e he d hd => by
      rcases mem_put1 hd with rfl | hd
      · exact h1 e he
      · exact h e (by simp [he]) d hd) h2]
    constructor
    · rintro (h3 | h3)
      · rcases mem_put1 h3 with rfl | h3
        · exact .inr (by simp)
        · exact .inl h3
      · exact .inr (by simp [h3])
    · rintro (h3 | h3)
      · exact .inl (mem_put1_old h3 (h c (by simp) x h3))
      · rcases List.mem_cons.1 h3 with rfl | h3
        · exact .inl (mem_put1_self _ _)
        · exact .inr h3
theorem srt_ext : ∀ {A C : List Cl}, Srt A → Srt C → (∀ x, x ∈ A ↔ x ∈ C) → A = C
  | [], [], _, _, _ => rfl
  | [], c :: C, _, _, h => by have := (h c).2 (by simp); cases this
  | a :: A, [], _, _, h => by have := (h a).1 (by simp); cases this
  | a :: A, c :: C, hA, hC, h => by
    obtain ⟨a1, a2⟩ := List.pairwise_cons.1 hA
    obtain ⟨c1, c2⟩ := List.pairwise_cons.1 hC
    have e : a = c := by
      rcases List.mem_cons.1 ((h a).1 (by simp)) with e | ha
      · exact e
      · rcases List.mem_cons.1 ((h c).2 (by simp)) with e | hc
        · exact e.symm
        · exact absurd (klt_trans (a1 c hc) (c1 a ha)) (klt_irrefl _)
    subst e
    rw [srt_ext a2 c2 fun x => ?_]
    constructor
    · intro hx
      rcases List.mem_cons.1 ((h x).1 (by simp [hx])) with e | q
      · subst e; exact absurd (a1 x hx) (klt_irrefl _)
      · exact q
    · intro hx
      rcases List.mem_cons.1 ((h x).2 (by simp [hx])) with e | q
      · subst e; exact absurd (c1 x hx) (klt_irrefl _)
      · exact q
end Go.Proofs.Ytknkdehjgkjljaa.Ce
