/- Sizes: cells of few bytes make a table, and one of few bytes. Plain. -/
import Derived.Test.YtdemdmingelamaaTabP
namespace Go.Proofs.Ytdemdmingelamaa.Ce
open Go.RowKit Frm

theorem key_le (c : Cl) : (cellB (keyC c)).length ≤ (cellB c).length := by
  rw [cellB_len, cellB_len]
  show 17 + c.row.size + c.col.size + 0 ≤ _
  omega
theorem key_le2 {c : Cl} (h : c.ok) : (cellB (keyC c)).length ≤ 145 := by
  rw [cellB_len]
  show 17 + c.row.size + c.col.size + 0 ≤ _
  have := h.r2
  have := h.c2
  omega
theorem hd_mem {M : List Cl} (h : M ≠ []) : hd M ∈ M := by
  cases M with
  | nil => exact absurd rfl h
  | cons a A => exact List.mem_cons_self
theorem hd_le {M : List Cl} (h : M ≠ []) : (cellB (hd M)).length ≤ (flatC M).length := by
  cases M with
  | nil => exact absurd rfl h
  | cons a A =>
    rw [flatC, List.length_append]
    show (cellB a).length ≤ _
    omega
theorem entries_flat : ∀ (LL : List (List Cl)) (a : Nat), (∀ M ∈ LL, M ≠ []) → (entries LL a).length ≤ (flatC LL.flatten).length + 4 * LL.length
  | [], _, _ => by simp [entries]
  | M :: LL, a, h => by
    have ih := entries_flat LL (a + (blkB M).length) fun A hA => h A (by simp [hA])
    have h1 := key_le (hd M)
    have h2 := hd_le (h M (by simp))
    rw [entries, List.length_append, List.length_append, numB_len, List.flatten_cons, flatC_app, List.length_append, List.length_cons]
    omega
theorem entries_145 : ∀ (LL : List (List Cl)) (a : Nat), (∀ M ∈ LL, Sorted M ∧ M ≠ []) → (entries LL a).length ≤ 149 * LL.length
  | [], _, _ => by simp [entries]
  | M :: LL, a, h => by
    have ih := entries_145 LL (a + (blkB M).length) fun A hA => h A (by simp [hA])
    obtain ⟨sM, nM⟩ := h M (by simp)
    have h1 := key_le2 (sM.ok _ (hd_mem nM))
    rw [entries, List.length_append, List.length_append, numB_len, List.length_cons]
    omega
theorem blocks_le : ∀ {LL : List (List Cl)}, (∀ M ∈ LL, M ≠ []) → LL.length ≤ LL.flatten.length
  | [], _ => by simp
  | M :: LL, h => by
    have ih := blocks_le (LL := LL) fun A hA => h A (by simp [hA])
    have h1 := List.length_pos_iff.2 (h M (by simp))
    rw [List.length_cons, List.flatten_cons, List.length_append]
    omega
theorem foot_len (S : List Cl) (LL : List (List Cl)) : (footR S LL).length = 8 + (entries LL 0).length + (filt S).length := by
  have h5 : (⟨(filt S).toArray⟩ : ByteArray).size = (filt S).length := by simp [ByteArray.size]
  unfold footR
  rw [List.length_append, List.length_append, numB_len, textB_len, h5]
  omega
theorem row_len {LL : List (List Cl)} {M : List Cl} (h : M ∈ LL) : (flatC M).length ≤ (flatC LL.flatten).length := by
  induction LL with
  | nil => simp at h
  | cons A LL ih =>
    rw [List.flatten_cons, flatC_app, List.length_append]
    rcases List.mem_cons.1 h with rfl | h
    · omega
    · have := ih h
      omega
/-- cells of few bytes make a table at whatever size -/
theorem tab_fit {S : List Cl} {size : Int} (hs : Sorted S) (hl : (flatC S).length ≤ 50000) (h1 : 1 ≤ size) : TabAt (tabB S (cutB size S)) S (cutB size S) ∧ (cutB size S).length ≤ S.length ∧ (tabB S (cutB size S)).length ≤ 160000 := by
  have hrow : ∀ M ∈ cutB size S, Sorted M ∧ M ≠ [] := fun M hM => by
    obtain ⟨j, hj⟩ := List.getElem?_of_mem hM
    exact ⟨cutB_sorted hs hj, (cutB_ok h1 hj).ne⟩
  have hb := blocks_le fun M hM => (hrow M hM).2
  have he := entries_flat (cutB size S) 0 fun M hM => (hrow M hM).2
  have hfl := flatB_len (cutB size S)
  rw [cutB_flat] at hb he hfl
  have hg := flatC_ge hs.ok
  have hf := filt_len S
  have hft := foot_len S (cutB size S)
  refine ⟨⟨rfl, hs, ⟨size, h1, rfl⟩, fun M hM => ?_, ?_⟩, hb, ?_⟩
  · have h2 := row_len hM
    rw [cutB_flat] at h2
    rw [recB_len]
    omega
  · omega
  · unfold tabB
    rw [List.length_append, List.length_append, frm_len, numB_len]
    omega
/-- few cells make a table of few bytes -/
theorem tab_few2 {S : List Cl} {size : Int} (hs : Sorted S) (hl : S.length ≤ 80) (h1 : 1 ≤ size) : (flatC S).length ≤ 50000 ∧ (tabB S (cutB size S)).length ≤ 50000 := by
  have hrow : ∀ M ∈ cutB size S, Sorted M ∧ M ≠ [] := fun M hM => by
    obtain ⟨j, hj⟩ := List.getElem?_of_mem hM
    exact ⟨cutB_sorted hs hj, (cutB_ok h1 hj).ne⟩
  have hb := blocks_le fun M hM => (hrow M hM).2
  have he := entries_145 (cutB size S) 0 hrow
  have hfl := flatB_len (cutB size S)
  rw [cutB_flat] at hb hfl
  have hg := flatC_le hs.ok
  have hf := filt_len S
  have hft := foot_len S (cutB size S)
  refine ⟨by omega, ?_⟩
  unfold tabB
  rw [List.length_append, List.length_append, frm_len, numB_len]
  omega
end Go.Proofs.Ytdemdmingelamaa.Ce
