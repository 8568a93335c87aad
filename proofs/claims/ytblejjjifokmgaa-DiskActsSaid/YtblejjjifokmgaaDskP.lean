/- Files in order of their names, as lists: put, struck, found. Plain. -/
import Derived.Test.YtblejjjifokmgaaBase
import Derived.Sort.KeysCollected
namespace Go.Proofs.Ytblejjjifokmgaa.Dk
open Go.RowKit

theorem lt_trans {a b c : List UInt8} (h : a < b) (k : b < c) : a < c := List.lt_trans h k
theorem lt_irrefl (a : List UInt8) : ¬ a < a := List.lt_irrefl a
theorem lt_tri {a b : List UInt8} (h : a ≠ b) (k : ¬ a < b) : b < a := by
  by_cases h2 : b < a
  · exact h2
  · exact absurd (List.le_antisymm (List.not_lt.1 h2) (List.not_lt.1 k)) h

section
variable {α β : Type} (k : α → List UInt8)
/-- put in among others -/
def ins (x : α) : List α → List α
  | [] => [x]
  | y :: r => if k x < k y then x :: y :: r else y :: ins x r
/-- without the name n -/
def wo (n : List UInt8) (L : List α) : List α := L.filter fun f => decide (k f ≠ n)
def put (x : α) (L : List α) : List α := ins k x (wo k (k x) L)
def fnd (n : List UInt8) (L : List α) : Option α := L.find? fun f => decide (k f = n)
def Srt (L : List α) : Prop := L.Pairwise fun a b => k a < k b
end

section
variable {α β : Type} {k : α → List UInt8} {k' : β → List UInt8} {g : α → β}
theorem map_ins (hk : ∀ x, k' (g x) = k x) (x : α) : ∀ L : List α, (ins k x L).map g = ins k' (g x) (L.map g)
  | [] => rfl
  | y :: r => by
    unfold ins
    simp only [List.map_cons, hk]
    split
    · rfl
    · rw [List.map_cons, map_ins hk x r]
theorem map_wo (hk : ∀ x, k' (g x) = k x) (n : List UInt8) (L : List α) : (wo k n L).map g = wo k' n (L.map g) := by
  unfold wo
  rw [List.filter_map]
  congr 1
  apply List.filter_congr
  intro x _
  simp [hk]
theorem map_put (hk : ∀ x, k' (g x) = k x) (x : α) (L : List α) : (put k x L).map g = put k' (g x) (L.map g) := by
  unfold put
  rw [map_ins hk, map_wo hk, hk]
theorem srt_map (hk : ∀ x, k' (g x) = k x) {L : List α} : Srt k' (L.map g) ↔ Srt k L := by
  unfold Srt
  rw [List.pairwise_map]
  simp only [hk]
theorem fnd_map (hk : ∀ x, k' (g x) = k x) (n : List UInt8) (L : List α) : fnd k' n (L.map g) = (fnd k n L).map g := by
  unfold fnd
  rw [List.find?_map]
  simp only [Function.comp_def, hk]
theorem mem_ins {x y : α} : ∀ {L : List α}, y ∈ ins k x L ↔ y = x ∨ y ∈ L
  | [] => by simp [ins]
  | z :: r => by
    unfold ins
    split
    · simp
    · simp only [List.mem_cons, mem_ins (L := r)]
      constructor <;> rintro (h | h | h) <;> simp [h]
theorem srt_ins {x : α} : ∀ {L : List α}, Srt k L → (∀ y ∈ L, k y ≠ k x) → Srt k (ins k x L)
  | [], _, _ => by simp [ins, Srt]
  | z :: r, h, hne => by
    obtain ⟨h1, h2⟩ := List.pairwise_cons.1 h
    unfold ins
    split
    · rename_i hlt
      refine List.pairwise_cons.2 ⟨fun y hy => ?_, h⟩
      rcases List.mem_cons.1 hy with rfl | hy
      · exact hlt
      · exact lt_trans hlt (h1 y hy)
    · rename_i hlt
      refine List.pairwise_cons.2 ⟨fun y hy => ?_, srt_ins h2 fun y hy => hne y (by simp [hy])⟩
      rcases mem_ins.1 hy with rfl | hy
      · exact lt_tri (hne z (by simp)).symm hlt
      · exact h1 y hy
theorem mem_wo {n : List UInt8} {y : α} {L : List α} : y ∈ wo k n L ↔ y ∈ L ∧ k y ≠ n := by simp [wo]
theorem srt_wo {n : List UInt8} {L : List α} (h : Srt k L) : Srt k (wo k n L) := List.Pairwise.filter _ h
theorem srt_put {x : α} {L : List α} (h : Srt k L) : Srt k (put k x L) := srt_ins (srt_wo h) fun _ hy => (mem_wo.1 hy).2
theorem mem_put {x y : α} {L : List α} : y ∈ put k x L ↔ y = x ∨ (y ∈ L ∧ k y ≠ k x) := by unfold put; rw [mem_ins, mem_wo]
/-- two lists in order that have the same members are one -/
theorem srt_ext {A B : List α} (ha : Srt k A) (hb : Srt k B) (h : ∀ x, x ∈ A ↔ x ∈ B) : A = B := by
  have nd : ∀ {L : List α}, Srt k L → L.Nodup := fun {L} hL => List.Pairwise.imp (S := fun a b => a ≠ b) (fun {a b} hab e => lt_irrefl (k a) (by subst e; exact hab)) hL
  exact ((List.perm_ext_iff_of_nodup (nd ha) (nd hb)).2 h).eq_of_pairwise (le := fun a b => k a < k b) (fun a b _ _ h1 h2 => absurd (lt_trans h1 h2) (lt_irrefl _)) ha hb
/-- a file at its place -/
theorem srt_mid {A B : List α} {f f' : α} (h : Srt k (A ++ f :: B)) (e : k f' = k f) : Srt k (A ++ f' :: B) := by
  have h' : Srt (fun l : List UInt8 => l) ((A ++ f :: B).map k) := by unfold Srt; rw [List.pairwise_map]; exact h
  have e2 : (A ++ f' :: B).map k = (A ++ f :: B).map k := by simp [e]
  rw [← e2] at h'
  unfold Srt at h'
  rw [List.pairwise_map] at h'
  exact h'
theorem srt_uniq {L : List α} (h : Srt k L) {x y : α} (hx : x ∈ L) (hy : y ∈ L) (e : k x = k y) : x = y := by
  by_cases hxy : x = y
  · exact hxy
  · exfalso
    have hp : L.Pairwise (fun a b => k a ≠ k b) := List.Pairwise.imp (S := fun a b => k a ≠ k b) (fun {a b} hab e => lt_irrefl (k b) (by rw [e] at hab; exact hab)) h
    obtain ⟨i, hi, rfl⟩ := List.getElem_of_mem hx
    obtain ⟨j, hj, rfl⟩ := List.getElem_of_mem hy
    have hij : i ≠ j := fun e => hxy (by subst e; rfl)
    rw [List.pairwise_iff_getElem] at hp
    rcases Nat.lt_or_gt_of_ne hij with h1 | h1
    · exact hp i j hi hj h1 e
    · exact hp j i hj hi h1 e.symm
theorem put_mid {A B : List α} {f f' : α} (h : Srt k (A ++ f :: B)) (e : k f' = k f) : put k f' (A ++ f :: B) = A ++ f' :: B := by
  refine srt_ext (srt_put h) (srt_mid h e) fun x => ?_
  rw [mem_put, e]
  constructor
  · rintro (rfl | ⟨hx, hne⟩)
    · simp
    · simp only [List.mem_append, List.mem_cons] at hx ⊢
      rcases hx with hx | rfl | hx
      · exact .inl hx
      · exact absurd rfl hne
      · exact .inr (.inr hx)
  · intro hx
    simp only [List.mem_append, List.mem_cons] at hx
    have other : ∀ y, (y ∈ A ∨ y ∈ B) → k y ≠ k f := fun y hy he => by
      have hp := (List.pairwise_append.1 h)
      rcases hy with hy | hy
      · have := hp.2.2 y hy f (by simp); rw [he] at this; exact lt_irrefl _ this
      · have := (List.pairwise_cons.1 hp.2.1).1 y hy; rw [he] at this; exact lt_irrefl _ this
    rcases hx with hx | rfl | hx
    · exact .inr ⟨by simp [hx], other x (.inl hx)⟩
    · exact .inl rfl
    · exact .inr ⟨by simp [hx], other x (.inr hx)⟩
theorem wo_mid {A B : List α} {f : α} (h : Srt k (A ++ f :: B)) : wo k (k f) (A ++ f :: B) = A ++ B := by
  have hp := (List.pairwise_append.1 h)
  unfold wo
  rw [List.filter_append, List.filter_cons]
  simp only [ne_eq, not_true_eq_false, decide_false, Bool.false_eq_true, if_false]
  rw [List.filter_eq_self.2, List.filter_eq_self.2]
  · intro y hy
    have := (List.pairwise_cons.1 hp.2.1).1 y hy
    exact decide_eq_true fun e => by rw [e] at this; exact lt_irrefl _ this
  · intro y hy
    have := hp.2.2 y hy f (by simp)
    exact decide_eq_true fun e => by rw [e] at this; exact lt_irrefl _ this
theorem wo_none {n : List UInt8} {L : List α} (h : fnd k n L = none) : wo k n L = L := by
  unfold fnd at h
  rw [List.find?_eq_none] at h
  exact List.filter_eq_self.2 fun y hy => decide_eq_true fun e => h y hy (decide_eq_true e)
theorem put_none {x : α} {L : List α} (h : fnd k (k x) L = none) : put k x L = ins k x L := by unfold put; rw [wo_none h]
/-- found, or not -/
theorem fnd_cases (k : α → List UInt8) (n : List UInt8) (L : List α) : fnd k n L = none ∨ ∃ A f B, L = A ++ f :: B ∧ k f = n ∧ fnd k n L = some f := by
  cases h : fnd k n L with
  | none => exact .inl rfl
  | some f =>
    have h1 : k f = n := by simpa [fnd] using List.find?_some h
    obtain ⟨A, B, e⟩ := List.append_of_mem (List.mem_of_find?_eq_some h)
    exact .inr ⟨A, f, B, e, h1, rfl⟩
theorem fnd_of_mem {L : List α} (h : Srt k L) {x : α} (hx : x ∈ L) : fnd k (k x) L = some x := by
  rcases fnd_cases k (k x) L with h1 | ⟨A, f, B, e, hf, h1⟩
  · unfold fnd at h1
    rw [List.find?_eq_none] at h1
    exact absurd (by simp) (h1 x hx)
  · rw [h1, srt_uniq h (x := f) (y := x) (by rw [e]; simp) hx hf]
theorem fnd_put {L : List α} (h : Srt k L) (x : α) : fnd k (k x) (put k x L) = some x := fnd_of_mem (srt_put h) (mem_put.2 (.inl rfl))
theorem ins_length (x : α) : ∀ L : List α, (ins k x L).length = L.length + 1
  | [] => rfl
  | y :: r => by
    unfold ins
    split
    · rfl
    · simp [ins_length x r]
theorem wo_length (n : List UInt8) (L : List α) : (wo k n L).length ≤ L.length := List.length_filter_le _ _
theorem put_length (x : α) (L : List α) : (put k x L).length ≤ L.length + 1 := by
  unfold put
  rw [ins_length]
  have := wo_length (k := k) (k x) L
  omega
/-- put in where those that stand below it end -/
theorem ins_at (x : α) : ∀ {L : List α} (a : Nat), a ≤ L.length → (∀ j (hj : j < L.length), j < a → k L[j] < k x) → (∀ (h : a < L.length), ¬ k L[a] < k x) → (∀ y ∈ L, k y ≠ k x) → ins k x L = L.take a ++ x :: L.drop a
  | [], a, _, _, _, _ => by simp [ins]
  | y :: r, 0, _, _, h2, hne => by
    have := h2 (by simp)
    simp only [List.getElem_cons_zero] at this
    unfold ins
    rw [if_pos (lt_tri (hne y (by simp)) this)]
    simp
  | y :: r, a + 1, ha, h1, h2, hne => by
    have h0 := h1 0 (by simp) (by omega)
    simp only [List.getElem_cons_zero] at h0
    unfold ins
    rw [if_neg fun hh => lt_irrefl _ (lt_trans h0 hh)]
    rw [ins_at x a (by simpa using ha) (fun j hj hja => by have := h1 (j + 1) (by simp; omega) (by omega); simpa using this) (fun h => by have := h2 (by simp; omega); simpa using this) (fun z hz => hne z (by simp [hz]))]
    simp
end

/-- a file: its name, its bytes, how many are synced -/
structure Fl where
  nm : ByteArray
  l : List UInt8
  s : Nat
def key (f : Fl) : List UInt8 := f.nm.data.toList
def total (L : List Fl) : Nat := (L.map fun f => f.l.length).sum
theorem total_app (A B : List Fl) : total (A ++ B) = total A + total B := by simp [total]
theorem total_cons (f : Fl) (B : List Fl) : total (f :: B) = f.l.length + total B := by simp [total]
theorem total_ins (f : Fl) : ∀ L : List Fl, total (ins key f L) = f.l.length + total L
  | [] => rfl
  | y :: r => by
    unfold ins
    split
    · rfl
    · simp only [total_cons, total_ins f r]; omega
theorem name_ext {a b : ByteArray} (h : a.data.toList = b.data.toList) : a = b := by
  cases a; cases b
  simp at h
  rw [h]
end Go.Proofs.Ytblejjjifokmgaa.Dk
