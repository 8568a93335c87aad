/- The contract of Newest of package cell. -/
import Derived.Test.YtpflcnndloielaaCbs
namespace Go.Proofs.Ytpflcnndloielaa.Ce
open Go.RowKit

def tgt (row col : ByteArray) (at_ : Int) : Cl := ⟨row, col, at_, ⟨#[]⟩, false⟩
theorem place_exists {L : List Cl} (hs : Srt L) (t : Cl) : ∃ k, Place L t k := by
  have main : ∀ n, n ≤ L.length → (∀ j c, j < n → L[j]? = some c → klt c t) ∨ ∃ k, k < n ∧ (∀ j c, j < k → L[j]? = some c → klt c t) ∧ ∃ f, L[k]? = some f ∧ ¬ klt f t := by
    intro n
    induction n with
    | zero => exact fun _ => .inl fun j c hj => by omega
    | succ n ih =>
      intro hn
      rcases ih (by omega) with h | ⟨k, hk, h1, h2⟩
      · have hf : L[n]? = some (L[n]'(by omega)) := List.getElem?_eq_getElem _
        by_cases hlt : klt (L[n]'(by omega)) t
        · refine .inl fun j c hj hc => ?_
          by_cases e : j = n
          · subst e
            rw [hf] at hc
            injection hc with hc
            exact hc ▸ hlt
          · exact h j c (by omega) hc
        · exact .inr ⟨n, by omega, h, _, hf, hlt⟩
      · exact .inr ⟨k, by omega, h1, h2⟩
  rcases main L.length (Nat.le_refl _) with h | ⟨k, hk, h1, f, hf, h2⟩
  · exact ⟨L.length, Nat.le_refl _, h, fun j c hj hc => by have := (List.getElem?_eq_some_iff.1 hc).1; omega⟩
  · refine ⟨k, by omega, h1, fun j c hj hc hlt => ?_⟩
    by_cases e : k = j
    · subst e
      rw [hf] at hc
      injection hc with hc
      exact h2 (hc ▸ hlt)
    · exact h2 (klt_trans (srt_at hs (by omega) hf hc) hlt)
section
variable {L : List Cl} {row col : ByteArray} {at_ : Int} {k : Nat} {f : Cl}
theorem newest_some (hk : Place L (tgt row col at_) k) (hf : L[k]? = some f) (hr : f.row = row) (hc : f.col = col) : newest row col at_ L = some f := by
  unfold newest
  obtain ⟨hlt, hfe⟩ := List.getElem?_eq_some_iff.1 hf
  rw [List.find?_eq_some_iff_getElem]
  refine ⟨decide_eq_true (fits_iff.2 ⟨hr, hc, hk.ge k f (Nat.le_refl _) hf⟩), k, hlt, hfe, fun j hj => ?_⟩
  have hn := hk.lt j (L[j]'(by omega)) hj (List.getElem?_eq_getElem _)
  simp only [Bool.not_eq_true', decide_eq_false_iff_not]
  exact fun hfit => (fits_iff.1 hfit).2.2 hn
theorem newest_none_end (hk : Place L (tgt row col at_) L.length) : newest row col at_ L = none := by
  unfold newest
  rw [List.find?_eq_none]
  intro c hc
  obtain ⟨j, hj⟩ := List.getElem?_of_mem hc
  have hn := hk.lt j c (List.getElem?_eq_some_iff.1 hj).1 hj
  simp only [decide_eq_true_eq]
  exact fun hfit => (fits_iff.1 hfit).2.2 hn
theorem newest_none (hs : Srt L) (hk : Place L (tgt row col at_) k) (hf : L[k]? = some f) (hne : ¬ (f.row = row ∧ f.col = col)) : newest row col at_ L = none := by
  unfold newest
  rw [List.find?_eq_none]
  intro c hc
  obtain ⟨j, hj⟩ := List.getElem?_of_mem hc
  simp only [decide_eq_true_eq]
  intro hfit
  obtain ⟨h1, h2, h3⟩ := fits_iff.1 hfit
  have hge := hk.ge k f (Nat.le_refl _) hf
  by_cases hjk : j < k
  · exact h3 (hk.lt j c hjk hj)
  · by_cases e : j = k
    · subst e
      rw [hf] at hj
      injection hj with hj
      exact hne (hj ▸ ⟨h1, h2⟩)
    · have hlt := srt_at hs (show k < j by omega) hf hj
      by_cases hq : keq f (tgt row col at_)
      · exact hne ⟨hq.1, hq.2.1⟩
      · have hb := between (klt_total hge hq) (.inl hlt) (by rw [h1]; rfl) (by rw [h2]; rfl)
        exact hne ⟨hb.1.trans h1, hb.2.trans h2⟩
end
def nwC (row col : ByteArray) (at_ : Int) (L : List Cl) : Cl := (newest row col at_ L).getD Cl.zero
def nwB (row col : ByteArray) (at_ : Int) (L : List Cl) : Bool := (newest row col at_ L).isSome
end Go.Proofs.Ytpflcnndloielaa.Ce
