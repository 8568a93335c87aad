/- Tables as plain bytes: what a table of sorted cells is, that it is of one list alone, that none is a beginning of another, or another with one byte turned. Plain. -/
import Derived.Test.YtdemdmingelamaaBkP
import Derived.Test.YtdemdmingelamaaBlmA
namespace Go.Proofs.Ytdemdmingelamaa.Ce
open Go.RowKit Frm

/-- a key's text -/
def keyT (row col : ByteArray) : List UInt8 := textB row ++ textB col
def keyOf (c : Cl) : List UInt8 := keyT c.row c.col
/-- a cell's key alone -/
def keyC (c : Cl) : Cl := ⟨c.row, c.col, c.at_, ⟨#[]⟩, false⟩
theorem keyC_ok {c : Cl} (h : c.ok) : (keyC c).ok := ⟨h.r1, h.r2, h.c1, h.c2, h.a1, h.a2, by show 0 ≤ 256; omega, fun e => by cases e⟩
/-- the first cell -/
def hd (M : List Cl) : Cl := M.headD Cl.zero
/-- what the footer says of the blocks, the first of which begins at a place -/
def entries : List (List Cl) → Nat → List UInt8
  | [], _ => []
  | M :: LL, at_ => cellB (keyC (hd M)) ++ (numB at_ ++ entries LL (at_ + (blkB M).length))
def filt (S : List Cl) : List UInt8 := Blm.mkB (S.map keyOf)
/-- a footer's record -/
def footR (S : List Cl) (LL : List (List Cl)) : List UInt8 := numB LL.length ++ (entries LL 0 ++ textB ⟨(filt S).toArray⟩)
/-- a table's records -/
def tabR (S : List Cl) (LL : List (List Cl)) : List (List UInt8) := LL.map recB ++ [footR S LL]
/-- its bytes -/
def tabB (S : List Cl) (LL : List (List Cl)) : List UInt8 := flatB LL ++ (frm (footR S LL) ++ numB (12 + (footR S LL).length))
theorem flatB_flat : ∀ LL : List (List Cl), flatB LL = flat (LL.map recB)
  | [] => rfl
  | M :: LL => by rw [flatB, List.map_cons, flat_cons, flatB_flat LL]; rfl
theorem tabB_flat (S : List Cl) (LL : List (List Cl)) : tabB S LL = flat (tabR S LL) ++ numB (12 + (footR S LL).length) := by
  unfold tabB tabR
  rw [flat_app, flat_cons, flat_nil, List.append_nil, ← flatB_flat, List.append_assoc]
/-- b is the table of S, cut at some size -/
structure TabAt (b : List UInt8) (S : List Cl) (LL : List (List Cl)) : Prop where
  e : b = tabB S LL
  s : Sorted S
  cut : ∃ size : Int, 1 ≤ size ∧ LL = cutB size S
  fit : ∀ M ∈ LL, (recB M).length ≤ 65535
  foot : (footR S LL).length ≤ 65535
section
variable {b : List UInt8} {S S' : List Cl} {LL LL' : List (List Cl)}
theorem TabAt.recs (h : TabAt b S LL) : ∀ r ∈ tabR S LL, r.length ≤ 65535 := fun r hr => by
  unfold tabR at hr
  rcases List.mem_append.1 hr with hr | hr
  · obtain ⟨M, hM, rfl⟩ := List.mem_map.1 hr
    exact h.fit M hM
  · rw [List.mem_singleton.1 hr]
    exact h.foot
theorem TabAt.flat (h : TabAt b S LL) : LL.flatten = S := by
  obtain ⟨size, -, rfl⟩ := h.cut
  exact cutB_flat size S
theorem TabAt.row (h : TabAt b S LL) {M : List Cl} (hM : M ∈ LL) : Sorted M ∧ M ≠ [] := by
  obtain ⟨size, h1, rfl⟩ := h.cut
  obtain ⟨j, hj⟩ := List.getElem?_of_mem hM
  exact ⟨cutB_sorted h.s hj, (cutB_ok h1 hj).ne⟩
theorem recs_inj {LL LL' : List (List Cl)} (h : ∀ M ∈ LL, Sorted M ∧ M ≠ [] ∧ (recB M).length ≤ 65535) (h' : ∀ M ∈ LL', Sorted M ∧ M ≠ [] ∧ (recB M).length ≤ 65535) (e : LL.map recB = LL'.map recB) : LL = LL' := by
  induction LL generalizing LL' with
  | nil => cases LL' with
    | nil => rfl
    | cons M LL' => simp at e
  | cons M LL ih => cases LL' with
    | nil => simp at e
    | cons M' LL' =>
      rw [List.map_cons, List.map_cons] at e
      injection e with e1 e2
      obtain ⟨a1, a2, a3⟩ := h M (by simp)
      obtain ⟨c1, c2, -⟩ := h' M' (by simp)
      have hM : M = M' := rec_one (r := recB M) ⟨rfl, a1, a2⟩ ⟨e1, c1, c2⟩ (by omega)
      rw [hM, ih (fun x hx => h x (by simp [hx])) (fun x hx => h' x (by simp [hx])) e2]
theorem tabR_inj (h : TabAt b S LL) {b' : List UInt8} (h' : TabAt b' S' LL') (e : tabR S LL = tabR S' LL') : S = S' ∧ LL = LL' := by
  unfold tabR at e
  obtain ⟨e1, -⟩ := List.append_inj' e rfl
  have hL : LL = LL' := recs_inj (fun M hM => ⟨(h.row hM).1, (h.row hM).2, h.fit M hM⟩) (fun M hM => ⟨(h'.row hM).1, (h'.row hM).2, h'.fit M hM⟩) e1
  exact ⟨by rw [← h.flat, ← h'.flat, hL], hL⟩
theorem tab_len (h : TabAt b S LL) : b.length = (Frm.flat (tabR S LL)).length + 4 := by rw [h.e, tabB_flat, List.length_append, numB_len]
/-- bytes are of one table alone -/
theorem TabAt.one (h : TabAt b S LL) (h' : TabAt b S' LL') : S = S' ∧ LL = LL' := by
  have e := h.e.symm.trans h'.e
  have hl : (Frm.flat (tabR S LL)).length = (Frm.flat (tabR S' LL')).length := by
    have := tab_len h
    have := tab_len h'
    omega
  rw [tabB_flat, tabB_flat] at e
  obtain ⟨e1, -⟩ := List.append_inj e hl
  obtain ⟨e2, -⟩ := scan_one (m := []) (m' := []) (by rw [List.append_nil, List.append_nil]; exact e1) h.recs (not_whole_short (by simp)) h'.recs (not_whole_short (by simp))
  exact tabR_inj h h' e2
/-- where a byte of frames stands -/
theorem frame_of (Q : List (List UInt8)) (hQ : ∀ r ∈ Q, r.length ≤ 65535) (k : Nat) (hk : k < (Frm.flat Q).length) :
    ∃ n, ∃ hn : n < Q.length, (Frm.flat (Q.take n)).length ≤ k ∧ k < (Frm.flat (Q.take n)).length + 12 + Q[n].length := by
  obtain ⟨n, m, h1, h2, h3⟩ := scanned_take Q hQ k (by omega)
  have hl := congrArg List.length h2.1
  rw [List.length_take, List.length_append] at hl
  have hn : n < Q.length := by
    by_cases h : n < Q.length
    · exact h
    · exfalso
      rw [List.take_of_length_le (by omega)] at hl
      omega
  exact ⟨n, hn, by omega, h3 hn⟩
theorem getD_xor_ne {l : List UInt8} {k : Nat} {t : UInt8} (hk : k < l.length) (ht : t ≠ 0) : l.set k (l.getD k 0 ^^^ t) ≠ l := by
  have e : l.getD k 0 = l[k] := by simp [List.getD, hk]
  rw [e]
  exact ne_turn l k t hk ht
/-- with one byte turned it is no table -/
theorem tab_turned (h : TabAt b S LL) {k : Nat} {t : UInt8} (hk : k < b.length) (ht : t ≠ 0) : ¬ ∃ S' LL', TabAt (b.set k (b.getD k 0 ^^^ t)) S' LL' := by
  rintro ⟨S', LL', h'⟩
  have hbl := tab_len h
  have hbl' := tab_len h'
  rw [List.length_set] at hbl'
  have hl : (Frm.flat (tabR S LL)).length = (Frm.flat (tabR S' LL')).length := by omega
  have e := h'.e
  have hb := h.e
  rw [tabB_flat] at e hb
  by_cases hkf : k < (Frm.flat (tabR S LL)).length
  · have e0 : b.getD k 0 = (Frm.flat (tabR S LL)).getD k 0 := by
      rw [hb, List.getD_eq_getElem?_getD, List.getElem?_append_left hkf, ← List.getD_eq_getElem?_getD]
    rw [e0] at e
    generalize hx : (Frm.flat (tabR S LL)).getD k 0 ^^^ t = x at e
    rw [hb, List.set_append_left _ _ hkf] at e
    obtain ⟨e1, -⟩ := List.append_inj e (by rw [List.length_set]; exact hl)
    obtain ⟨n, hn, a1, a2⟩ := frame_of _ h.recs k hkf
    obtain ⟨m, hm⟩ := scanned_turn _ h.recs n k t hn a1 a2 ht
    rw [hx, e1] at hm
    obtain ⟨e2, -⟩ := scanned_one hm (scanned_flat h'.recs)
    have e3 : (Frm.flat ((tabR S LL).take n)).length = (Frm.flat (tabR S' LL')).length := by rw [e2]
    omega
  · have e1 : Frm.flat (tabR S LL) = Frm.flat (tabR S' LL') := by
      generalize b.getD k 0 ^^^ t = x at e
      rw [hb, List.set_append_right _ _ (by omega)] at e
      exact (List.append_inj e hl).1
    obtain ⟨e2, -⟩ := scan_one (m := []) (m' := []) (by rw [List.append_nil, List.append_nil]; exact e1) h.recs (not_whole_short (by simp)) h'.recs (not_whole_short (by simp))
    obtain ⟨rfl, rfl⟩ := tabR_inj h h' e2
    exact getD_xor_ne hk ht (h'.e.trans h.e.symm)
theorem entries_ge : ∀ (X : List (List Cl)) (a : Nat), X.length ≤ (entries X a).length
  | [], _ => by simp
  | A :: X, a => by
    have := entries_ge X (a + (blkB A).length)
    rw [entries, List.length_append, List.length_append, List.length_cons, numB_len]
    omega
/-- a block's record is no footer's -/
theorem rec_foot {M : List Cl} (hM : ∀ c ∈ M, c.ok) (hne : M ≠ []) (hml : (recB M).length ≤ 65535) (hr : ∀ A ∈ LL', Sorted A ∧ A ≠ []) (hf : (footR S' LL').length ≤ 65535) : recB M ≠ footR S' LL' := by
  intro e
  have hlm := flatC_ge hM
  rw [recB_len] at hml
  unfold recB footR at e
  obtain ⟨e1, e2⟩ := List.append_inj e rfl
  have hq : LL'.length ≤ 65535 := by
    have h3 := entries_ge LL' 0
    unfold footR at hf
    rw [List.length_append, List.length_append, numB_len] at hf
    omega
  have hn : M.length = LL'.length := numB_inj (by omega) (by omega) e1
  cases M with
  | nil => exact hne rfl
  | cons c M =>
    cases LL' with
    | nil => simp at hn
    | cons A X =>
      rw [flatC, entries, List.append_assoc, List.append_assoc] at e2
      obtain ⟨sA, nA⟩ := hr A (by simp)
      have hA : (hd A).ok := by
        cases A with
        | nil => exact absurd rfl nA
        | cons a A => exact sA.ok a (by simp)
      obtain ⟨-, e3⟩ := Stands.one (l := cellB c ++ flatC M) ⟨hM c (by simp), rfl⟩ ⟨keyC_ok hA, e2⟩
      cases M with
      | nil =>
        have := congrArg List.length e3
        rw [flatC, List.length_nil, List.length_append, numB_len] at this
        omega
      | cons d M =>
        have hd := hM d (by simp)
        unfold flatC cellB textB at e3
        rw [List.append_assoc, List.append_assoc] at e3
        obtain ⟨e4, -⟩ := List.append_inj e3 rfl
        have := numB_inj (by have := hd.r2; omega) (by omega) e4
        have := hd.r1
        omega
/-- no beginning of a table is one -/
theorem tab_take (h : TabAt b S LL) {k : Nat} (hk : k < b.length) : ¬ ∃ S' LL', TabAt (b.take k) S' LL' := by
  rintro ⟨S', LL', h'⟩
  have hbl := tab_len h
  have hbl' := tab_len h'
  rw [List.length_take, Nat.min_eq_left (by omega)] at hbl'
  have e := h'.e
  rw [tabB_flat, h.e, tabB_flat] at e
  have e1 : (Frm.flat (tabR S LL)).take (Frm.flat (tabR S' LL')).length = Frm.flat (tabR S' LL') := by
    have e2 := congrArg (List.take (Frm.flat (tabR S' LL')).length) e
    rw [List.take_take, Nat.min_eq_left (by omega), List.take_left, List.take_append_of_le_length (by omega)] at e2
    exact e2
  obtain ⟨n, m, h1, h2, -⟩ := scanned_take _ h.recs (Frm.flat (tabR S' LL')).length (by omega)
  rw [e1] at h2
  obtain ⟨e3, -⟩ := scanned_one h2 (scanned_flat h'.recs)
  have hlen : (tabR S' LL').length = LL'.length + 1 := by unfold tabR; simp
  have hlen2 : (tabR S LL).length = LL.length + 1 := by unfold tabR; simp
  have hn : n = LL'.length + 1 := by
    have := congrArg List.length e3
    rw [List.length_take, hlen] at this
    omega
  have hlt : LL'.length < LL.length := by
    by_cases hx : LL'.length < LL.length
    · exact hx
    · exfalso
      rw [List.take_of_length_le (by omega)] at e3
      rw [e3] at hbl
      omega
  have e4 : (tabR S LL)[LL'.length]? = (tabR S' LL')[LL'.length]? := by
    rw [← e3, List.getElem?_take, if_pos (by omega)]
  unfold tabR at e4
  rw [List.getElem?_append_left (by simpa using hlt), List.getElem?_append_right (by simp)] at e4
  simp only [List.length_map, Nat.sub_self, List.getElem?_cons_zero, List.getElem?_map, List.getElem?_eq_getElem hlt, Option.map_some, Option.some.injEq] at e4
  have hm := List.getElem_mem hlt
  exact rec_foot (h.row hm).1.ok (h.row hm).2 (h.fit _ hm) (fun A hA => h'.row hA) h'.foot e4
end
/-! few cells make a table -/
theorem entries_le : ∀ (LL : List (List Cl)) (at_ : Nat), (∀ M ∈ LL, Sorted M ∧ M ≠ []) → (entries LL at_).length ≤ 405 * LL.length
  | [], _, _ => by simp [entries]
  | M :: LL, at_, h => by
    have ih := entries_le LL (at_ + (blkB M).length) fun A hA => h A (by simp [hA])
    obtain ⟨sM, nM⟩ := h M (by simp)
    have hM : (hd M).ok := by
      cases M with
      | nil => exact absurd rfl nM
      | cons a A => exact sM.ok a (by simp)
    have := cellB_le (keyC_ok hM)
    rw [entries, List.length_append, List.length_append, numB_len, List.length_cons]
    omega
theorem filt_len (S : List Cl) : (filt S).length ≤ S.length + 1 := by
  unfold filt
  rw [Blm.mkB_len]
  unfold Blm.size
  rw [List.length_map]
  split <;> omega
theorem tab_few {S : List Cl} {size : Int} (hs : Sorted S) (hl : S.length ≤ 80) (h1 : 1 ≤ size) : TabAt (tabB S (cutB size S)) S (cutB size S) := by
  have hrow : ∀ M ∈ cutB size S, Sorted M ∧ M ≠ [] := fun M hM => by
    obtain ⟨j, hj⟩ := List.getElem?_of_mem hM
    exact ⟨cutB_sorted hs hj, (cutB_ok h1 hj).ne⟩
  refine ⟨rfl, hs, ⟨size, h1, rfl⟩, fun M hM => ?_, ?_⟩
  · obtain ⟨j, hj⟩ := List.getElem?_of_mem hM
    have h2 := (cutB_sub hj).length_le
    have h3 := flatC_le (hrow M hM).1.ok
    rw [recB_len]
    omega
  · have h2 := entries_le (cutB size S) 0 hrow
    have h3 := cutB_len size S
    have h4 := filt_len S
    have h5 : (⟨(filt S).toArray⟩ : ByteArray).size = (filt S).length := by simp [ByteArray.size]
    unfold footR
    rw [List.length_append, List.length_append, numB_len, textB_len, h5]
    omega
/-- a size that is greater than all bytes cuts as any other such -/
theorem cutG_big {size : Int} : ∀ (L : List Cl) (n : Nat) (now : List Cl), ((n + (flatC L).length : Nat) : Int) < size → cutG size L n now = if now ++ L = [] then [] else [now ++ L]
  | [], n, now, _ => by rw [cutG, List.append_nil]
  | c :: L, n, now, h => by
    rw [flatC, List.length_append] at h
    rw [cutG, if_neg (by omega), cutG_big L _ _ (by omega), List.append_assoc]
    rfl
theorem cutB_big {size size' : Int} {L : List Cl} (h : ((flatC L).length : Int) < size) (h' : ((flatC L).length : Int) < size') : cutB size L = cutB size' L := by
  unfold cutB
  rw [cutG_big L 0 [] (by omega), cutG_big L 0 [] (by omega)]
end Go.Proofs.Ytdemdmingelamaa.Ce
