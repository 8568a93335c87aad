/- How many keys lists have, counted list by list. Plain. -/
import Derived.Test.YtknkdehjgkjljaaMgP
namespace Go.Proofs.Ytknkdehjgkjljaa.Ce
open Go.RowKit

/-- no cell of a list has the key -/
def noKey (M : List Cl) (x : Cl) : Bool := M.all fun c => !decide (ccmp c x = 0)
def nk (A : List (List Cl)) (x : Cl) : Bool := A.all fun M => noKey M x
theorem noKey_iff {M : List Cl} {x : Cl} : noKey M x = true ↔ ∀ c ∈ M, ¬ keq x c := by
  unfold noKey
  rw [List.all_eq_true]
  refine ⟨fun h c hc hk => ?_, fun h c hc => ?_⟩
  · have h1 := h c hc
    have : ccmp c x = 0 := ccmp_eq.2 ⟨hk.1.symm, hk.2.1.symm, hk.2.2.symm⟩
    simp [this] at h1
  · simp only [Bool.not_eq_eq_eq_not, Bool.not_true, decide_eq_false_iff_not]
    intro h0
    have hk := ccmp_eq.1 h0
    exact h c hc ⟨hk.1.symm, hk.2.1.symm, hk.2.2.symm⟩
/-- the cells whose key no list ahead has -/
def frst (P : Cl → Bool) : List (List Cl) → Nat
  | [] => 0
  | M :: LL => (M.filter P).length + frst (fun x => P x && noKey M x) LL
theorem srt_nodup {L : List Cl} (h : Srt L) : L.Nodup := List.Pairwise.imp (fun {a b} hk e => by
  subst e
  exact klt_neq hk ⟨rfl, rfl, rfl⟩) h
theorem over_perm {M acc : List Cl} (hM : Srt M) (ha : Srt acc) : (over M acc).Perm (M ++ acc.filter (noKey M)) := by
  refine (List.perm_ext_iff_of_nodup (srt_nodup (srt_over ha)) ?_).2 fun x => ?_
  · refine List.nodup_append.2 ⟨srt_nodup hM, (srt_nodup ha).sublist List.filter_sublist, fun a h1 b h2 e => ?_⟩
    subst e
    exact noKey_iff.1 (List.mem_filter.1 h2).2 a h1 ⟨rfl, rfl, rfl⟩
  · rw [mem_over ha (srt_unl hM), List.mem_append, List.mem_filter, noKey_iff]
theorem frst_all : ∀ (LL : List (List Cl)) (P : Cl → Bool), (∀ M ∈ LL, Srt M) → ((allP LL).filter P).length = frst P LL
  | [], P, _ => rfl
  | M :: LL, P, h => by
    have ih := frst_all LL (fun x => P x && noKey M x) fun A hA => h A (by simp [hA])
    have hp := ((over_perm (h M (by simp)) (srt_all LL)).filter P).length_eq
    rw [allP_cons, hp, List.filter_append, List.length_append, List.filter_filter, frst, ← ih]
theorem frst_len (LL : List (List Cl)) (h : ∀ M ∈ LL, Srt M) : frst (nk []) LL = (allP LL).length := by
  rw [← frst_all LL _ h]
  congr 1
  rw [List.filter_eq_self]
  exact fun _ _ => rfl
/-- a list is counted, a list more -/
theorem frst_drop {LL : List (List Cl)} {i : Nat} {M : List Cl} (h : LL[i]? = some M) : frst (nk (LL.take i)) (LL.drop i) = (M.filter (nk (LL.take i))).length + frst (nk (LL.take (i + 1))) (LL.drop (i + 1)) := by
  obtain ⟨hl, rfl⟩ := List.getElem?_eq_some_iff.1 h
  rw [List.drop_eq_getElem_cons hl, frst, List.take_succ_eq_append_getElem hl]
  congr 2
  funext x
  unfold nk
  rw [List.all_append]
  simp
theorem frst_end (LL : List (List Cl)) : frst (nk (LL.take LL.length)) (LL.drop LL.length) = 0 := by
  rw [List.drop_length]
  rfl
/-- a cell is counted, a cell more -/
theorem count_drop {M : List Cl} {k : Nat} {f : Cl} (h : M[k]? = some f) (p : Cl → Bool) : ((M.drop k).filter p).length = (if p f = true then 1 else 0) + ((M.drop (k + 1)).filter p).length := by
  obtain ⟨hl, rfl⟩ := List.getElem?_eq_some_iff.1 h
  rw [List.drop_eq_getElem_cons hl, List.filter_cons]
  split
  · next hp => rw [List.length_cons]; omega
  · next hp => omega
/-- the key that is counted is the merged one's -/
theorem found_first {LL : List (List Cl)} {i k : Nat} {M : List Cl} {f : Cl} (hs : ∀ M ∈ LL, Srt M) (hM : LL[i]? = some M) (hf : M[k]? = some f) (hp : nk (LL.take i) f = true) : f ∈ allP LL := by
  refine (mem_all hs).2 ⟨i, M, hM, List.mem_of_getElem? hf, fun j A hj hA c hc => ?_⟩
  unfold nk at hp
  rw [List.all_eq_true] at hp
  exact noKey_iff.1 (hp A (List.mem_of_getElem? (by rw [List.getElem?_take, if_pos hj]; exact hA))) c hc
end Go.Proofs.Ytknkdehjgkjljaa.Ce
