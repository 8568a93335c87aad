/- Tables as plain bytes: what a table of sorted cells is, that it is of one list alone, that none is a beginning of another, or another with one byte turned. Plain. Sizes: cells of few bytes make a table, and one of few bytes. Plain. Where a footer says that its blocks begin, plain. Blocks read from the last one to the first, plain. -/
import Derived.Test.YtgcbmdolbmmljaaGreatBkP
import Derived.Test.YtgcbmdolbmmljaaGreatBlmA
namespace Go.Proofs.YtgcbmdolbmmljaaGreat.Ce
open Go.RowKit Frm

/-- a key's text -/
def keyT (row col : ByteArray) : List UInt8 := textB row ++ textB col
def keyOf (c : Cl) : List UInt8 := keyT c.row c.col
/-- a cell's key alone -/
def keyC (c : Cl) : Cl := ⟨c.row, c.col, c.at_, ⟨#[]⟩, false⟩
theorem keyC_ok {c : Cl} (h : c.ok) : (keyC c).ok := ⟨h.r1, h.r2, h.c1, h.c2, h.a1, h.a2, by show 0 ≤ 256; omega, fun e => by cases e⟩
/-- the first cell -/
def hd (M : List Cl) : Cl := M.headD Cl.zero
/-- what the footer says of the blocks, the first of which begins at a place -/
def entries : List (List Cl) → Nat → List UInt8
  | [], _ => []
  | M :: LL, at_ => cellB (keyC (hd M)) ++ (numB at_ ++ entries LL (at_ + (blkB M).length))
def filt (S : List Cl) : List UInt8 := Blm.mkB (S.map keyOf)
/-- a footer's record -/
def footR (S : List Cl) (LL : List (List Cl)) : List UInt8 := numB LL.length ++ (entries LL 0 ++ textB ⟨(filt S).toArray⟩)
/-- a table's records -/
def tabR (S : List Cl) (LL : List (List Cl)) : List (List UInt8) := LL.map recB ++ [footR S LL]
/-- its bytes -/
def tabB (S : List Cl) (LL : List (List Cl)) : List UInt8 := flatB LL ++ (frm (footR S LL) ++ numB (12 + (footR S LL).length))
theorem flatB_flat : ∀ LL : List (List Cl), flatB LL = flat (LL.map recB)
  | [] => rfl
  | M :: LL => by rw [flatB, List.map_cons, flat_cons, flatB_flat LL]; rfl
theorem tabB_flat (S : List Cl) (LL : List (List Cl)) : tabB S LL = flat (tabR S LL) ++ numB (12 + (footR S LL).length) := by
  unfold tabB tabR
  rw [flat_app, flat_cons, flat_nil, List.append_nil, ← flatB_flat, List.append_assoc]
/-- b is the table of S, cut at some size -/
structure TabAt (b : List UInt8) (S : List Cl) (LL : List (List Cl)) : Prop where
  e : b = tabB S LL
  s : Sorted S
  cut : ∃ size : Int, 1 ≤ size ∧ LL = cutB size S
  fit : ∀ M ∈ LL, (recB M).length ≤ 65535
  foot : (footR S LL).length ≤ 65535
section
variable {b : List UInt8} {S S' : List Cl} {LL LL' : List (List Cl)}
theorem TabAt.recs (h : TabAt b S LL) : ∀ r ∈ tabR S LL, r.length ≤ 65535 := fun r hr => by
  unfold tabR at hr
  rcases List.mem_append.1 hr with hr | hr
  · obtain ⟨M, hM, rfl⟩ := List.mem_map.1 hr
    exact h.fit M hM
  · rw [List.mem_singleton.1 hr]
    exact h.foot
theorem TabAt.flat (h : TabAt b S LL) : LL.flatten = S := by
  obtain ⟨size, -, rfl⟩ := h.cut
  exact cutB_flat size S
theorem TabAt.row (h : TabAt b S LL) {M : List Cl} (hM : M ∈ LL) : Sorted M ∧ M ≠ [] := by
  obtain ⟨size, h1, rfl⟩ := h.cut
  obtain ⟨j, hj⟩ := List.getElem?_of_mem hM
  exact ⟨cutB_sorted h.s hj, (cutB_ok h1 hj).ne⟩
theorem recs_inj {LL LL' : List (List Cl)} (h : ∀ M ∈ LL, Sorted M ∧ M ≠ [] ∧ (recB M).length ≤ 65535) (h' : ∀ M ∈ LL', Sorted M ∧ M ≠ [] ∧ (recB M).length ≤ 65535) (e : LL.map recB = LL'.map recB) : LL = LL' := by
  induction LL generalizing LL' with
  | nil => cases LL' with
    | nil => rfl
    | cons M LL' => simp at e
  | cons M LL ih => cases LL' with
    | nil => simp at e
    | cons M' LL' =>
      rw [List.map_cons, List.map_cons] at e
      injection e with e1 e2
      obtain ⟨a1, a2, a3⟩ := h M (by simp)
      obtain ⟨c1, c2, -⟩ := h' M' (by simp)
      have hM : M = M' := rec_one (r := recB M) ⟨rfl, a1, a2⟩ ⟨e1, c1, c2⟩ (by omega)
      rw [hM, ih (fun x hx => h x (by simp [hx])) (fun x hx => h' x (by simp [hx])) e2]
theorem tabR_inj (h : TabAt b S LL) {b' : List UInt8} (h' : TabAt b' S' LL') (e : tabR S LL = tabR S' LL') : S = S' ∧ LL = LL' := by
  unfold tabR at e
  obtain ⟨e1, -⟩ := List.append_inj' e rfl
  have hL : LL = LL' := recs_inj (fun M hM => ⟨(h.row hM).1, (h.row hM).2, h.fit M hM⟩) (fun M hM => ⟨(h'.row hM).1, (h'.row hM).2, h'.fit M hM⟩) e1
  exact ⟨by rw [← h.flat, ← h'.flat, hL], hL⟩
theorem tab_len (h : TabAt b S LL) : b.length = (Frm.flat (tabR S LL)).length + 4 := by rw [h.e, tabB_flat, List.length_append, numB_len]
/-- bytes are of one table alone -/
theorem TabAt.one (h : TabAt b S LL) (h' : TabAt b S' LL') : S = S' ∧ LL = LL' := by
  have e := h.e.symm.trans h'.e
  have hl : (Frm.flat (tabR S LL)).length = (Frm.flat (tabR S' LL')).length := by
    have := tab_len h
    have := tab_len h'
    omega
  rw [tabB_flat, tabB_flat] at e
  obtain ⟨e1, -⟩ := List.append_inj e hl
  obtain ⟨e2, -⟩ := scan_one (m := []) (m' := []) (by rw [List.append_nil, List.append_nil]; exact e1) h.recs (not_whole_short (by simp)) h'.recs (not_whole_short (by simp))
  exact tabR_inj h h' e2
/-- where a byte of frames stands -/
theorem frame_of (Q : List (List UInt8)) (hQ : ∀ r ∈ Q, r.length ≤ 65535) (k : Nat) (hk : k < (Frm.flat Q).length) :
    ∃ n, ∃ hn : n < Q.length, (Frm.flat (Q.take n)).length ≤ k ∧ k < (Frm.flat (Q.take n)).length + 12 + Q[n].length := by
  obtain ⟨n, m, h1, h2, h3⟩ := scanned_take Q hQ k (by omega)
  have hl := congrArg List.length h2.1
  rw [List.length_take, List.length_append] at hl
  have hn : n < Q.length := by
    by_cases h : n < Q.length
    · exact h
    · exfalso
      rw [List.take_of_length_le (by omega)] at hl
      omega
  exact ⟨n, hn, by omega, h3 hn⟩
theorem getD_xor_ne {l : List UInt8} {k : Nat} {t : UInt8} (hk : k < l.length) (ht : t ≠ 0) : l.set k (l.getD k 0 ^^^ t) ≠ l := by
  have e : l.getD k 0 = l[k] := by simp [List.getD, hk]
  rw [e]
  exact ne_turn l k t hk ht
/-- with one byte turned it is no table -/
theorem tab_turned (h : TabAt b S LL) {k : Nat} {t : UInt8} (hk : k < b.length) (ht : t ≠ 0) : ¬ ∃ S' LL', TabAt (b.set k (b.getD k 0 ^^^ t)) S' LL' := by
  rintro ⟨S', LL', h'⟩
  have hbl := tab_len h
  have hbl' := tab_len h'
  rw [List.length_set] at hbl'
  have hl : (Frm.flat (tabR S LL)).length = (Frm.flat (tabR S' LL')).length := by omega
  have e := h'.e
  have hb := h.e
  rw [tabB_flat] at e hb
  by_cases hkf : k < (Frm.flat (tabR S LL)).length
  · have e0 : b.getD k 0 = (Frm.flat (tabR S LL)).getD k 0 := by
      rw [hb, List.getD_eq_getElem?_getD, List.getElem?_append_left hkf, ← List.getD_eq_getElem?_getD]
    rw [e0] at e
    generalize hx : (Frm.flat (tabR S LL)).getD k 0 ^^^ t = x at e
    rw [hb, List.set_append_left _ _ hkf] at e
    obtain ⟨e1, -⟩ := List.append_inj e (by rw [List.length_set]; exact hl)
    obtain ⟨n, hn, a1, a2⟩ := frame_of _ h.recs k hkf
    obtain ⟨m, hm⟩ := scanned_turn _ h.recs n k t hn a1 a2 ht
    rw [hx, e1] at hm
    obtain ⟨e2, -⟩ := scanned_one hm (scanned_flat h'.recs)
    have e3 : (Frm.flat ((tabR S LL).take n)).length = (Frm.flat (tabR S' LL')).length := by rw [e2]
    omega
  · have e1 : Frm.flat (tabR S LL) = Frm.flat (tabR S' LL') := by
      generalize b.getD k 0 ^^^ t = x at e
      rw [hb, List.set_append_right _ _ (by omega)] at e
      exact (List.append_inj e hl).1
    obtain ⟨e2, -⟩ := scan_one (m := []) (m' := []) (by rw [List.append_nil, List.append_nil]; exact e1) h.recs (not_whole_short (by simp)) h'.recs (not_whole_short (by simp))
    obtain ⟨rfl, rfl⟩ := tabR_inj h h' e2
    exact getD_xor_ne hk ht (h'.e.trans h.e.symm)
theorem entries_ge : ∀ (X : List (List Cl)) (a : Nat), X.length ≤ (entries X a).length
  | [], _ => by simp
  | A :: X, a => by
    have := entries_ge X (a + (blkB A).length)
    rw [entries, List.length_append, List.length_append, List.length_cons, numB_len]
    omega
/-- a block's record is no footer's -/
theorem rec_foot {M : List Cl} (hM : ∀ c ∈ M, c.ok) (hne : M ≠ []) (hml : (recB M).length ≤ 65535) (hr : ∀ A ∈ LL', Sorted A ∧ A ≠ []) (hf : (footR S' LL').length ≤ 65535) : recB M ≠ footR S' LL' := by
  intro e
  have hlm := flatC_ge hM
  rw [recB_len] at hml
  unfold recB footR at e
  obtain ⟨e1, e2⟩ := List.append_inj e rfl
  have hq : LL'.length ≤ 65535 := by
    have h3 := entries_ge LL' 0
    unfold footR at hf
    rw [List.length_append, List.length_append, numB_len] at hf
    omega
  have hn : M.length = LL'.length := numB_inj (by omega) (by omega) e1
  cases M with
  | nil => exact hne rfl
  | cons c M =>
    cases LL' with
    | nil => simp at hn
    | cons A X =>
      rw [flatC, entries, List.append_assoc, List.append_assoc] at e2
      obtain ⟨sA, nA⟩ := hr A (by simp)
      have hA : (hd A).ok := by
        cases A with
        | nil => exact absurd rfl nA
        | cons a A => exact sA.ok a (by simp)
      obtain ⟨-, e3⟩ := Stands.one (l := cellB c ++ flatC M) ⟨hM c (by simp), rfl⟩ ⟨keyC_ok hA, e2⟩
      cases M with
      | nil =>
        have := congrArg List.length e3
        rw [flatC, List.length_nil, List.length_append, numB_len] at this
        omega
      | cons d M =>
        have hd := hM d (by simp)
        unfold flatC cellB textB at e3
        rw [List.append_assoc, List.append_assoc] at e3
        obtain ⟨e4, -⟩ := List.append_inj e3 rfl
        have := numB_inj (by have := hd.r2; omega) (by omega) e4
        have := hd.r1
        omega
/-- no beginning of a table is one -/
theorem tab_take (h : TabAt b S LL) {k : Nat} (hk : k < b.length) : ¬ ∃ S' LL', TabAt (b.take k) S' LL' := by
  rintro ⟨S', LL', h'⟩
  have hbl := tab_len h
  have hbl' := tab_len h'
  rw [List.length_take, Nat.min_eq_left (by omega)] at hbl'
  have e := h'.e
  rw [tabB_flat, h.e, tabB_flat] at e
  have e1 : (Frm.flat (tabR S LL)).take (Frm.flat (tabR S' LL')).length = Frm.flat (tabR S' LL') := by
    have e2 := congrArg (List.take (Frm.flat (tabR S' LL')).length) e
    rw [List.take_take, Nat.min_eq_left (by omega), List.take_left, List.take_append_of_le_length (by omega)] at e2
    exact e2
  obtain ⟨n, m, h1, h2, -⟩ := scanned_take _ h.recs (Frm.flat (tabR S' LL')).length (by omega)
  rw [e1] at h2
  obtain ⟨e3, -⟩ := scanned_one h2 (scanned_flat h'.recs)
  have hlen : (tabR S' LL').length = LL'.length + 1 := by unfold tabR; simp
  have hlen2 : (tabR S LL).length = LL.length + 1 := by unfold tabR; simp
  have hn : n = LL'.length + 1 := by
    have := congrArg List.length e3
    rw [List.length_take, hlen] at this
    omega
  have hlt : LL'.length < LL.length := by
    by_cases hx : LL'.length < LL.length
    · exact hx
    · exfalso
      rw [List.take_of_length_le (by omega)] at e3
      rw [e3] at hbl
      omega
  have e4 : (tabR S LL)[LL'.length]? = (tabR S' LL')[LL'.length]? := by
    rw [← e3, List.getElem?_take, if_pos (by omega)]
  unfold tabR at e4
  rw [List.getElem?_append_left (by simpa using hlt), List.getElem?_append_right (by simp)] at e4
  simp only [List.length_map, Nat.sub_self, List.getElem?_cons_zero, List.getElem?_map, List.getElem?_eq_getElem hlt, Option.map_some, Option.some.injEq] at e4
  have hm := List.getElem_mem hlt
  exact rec_foot (h.row hm).1.ok (h.row hm).2 (h.fit _ hm) (fun A hA => h'.row hA) h'.foot e4
end
/-! few cells make a table -/
theorem entries_le : ∀ (LL : List (List Cl)) (at_ : Nat), (∀ M ∈ LL, Sorted M ∧ M ≠ []) → (entries LL at_).length ≤ 405 * LL.length
  | [], _, _ => by simp [entries]
  | M :: LL, at_, h => by
    have ih := entries_le LL (at_ + (blkB M).length) fun A hA => h A (by simp [hA])
    obtain ⟨sM, nM⟩ := h M (by simp)
    have hM : (hd M).ok := by
      cases M with
      | nil => exact absurd rfl nM
      | cons a A => exact sM.ok a (by simp)
    have := cellB_le (keyC_ok hM)
    rw [entries, List.length_append, List.length_append, numB_len, List.length_cons]
    omega
theorem filt_len (S : List Cl) : (filt S).length ≤ S.length + 1 := by
  unfold filt
  rw [Blm.mkB_len]
  unfold Blm.size
  rw [List.length_map]
  split <;> omega
theorem tab_few {S : List Cl} {size : Int} (hs : Sorted S) (hl : S.length ≤ 80) (h1 : 1 ≤ size) : TabAt (tabB S (cutB size S)) S (cutB size S) := by
  have hrow : ∀ M ∈ cutB size S, Sorted M ∧ M ≠ [] := fun M hM => by
    obtain ⟨j, hj⟩ := List.getElem?_of_mem hM
    exact ⟨cutB_sorted hs hj, (cutB_ok h1 hj).ne⟩
  refine ⟨rfl, hs, ⟨size, h1, rfl⟩, fun M hM => ?_, ?_⟩
  · obtain ⟨j, hj⟩ := List.getElem?_of_mem hM
    have h2 := (cutB_sub hj).length_le
    have h3 := flatC_le (hrow M hM).1.ok
    rw [recB_len]
    omega
  · have h2 := entries_le (cutB size S) 0 hrow
    have h3 := cutB_len size S
    have h4 := filt_len S
    have h5 : (⟨(filt S).toArray⟩ : ByteArray).size = (filt S).length := by simp [ByteArray.size]
    unfold footR
    rw [List.length_append, List.length_append, numB_len, textB_len, h5]
    omega
/-- a size that is greater than all bytes cuts as any other such -/
theorem cutG_big {size : Int} : ∀ (L : List Cl) (n : Nat) (now : List Cl), ((n + (flatC L).length : Nat) : Int) < size → cutG size L n now = if now ++ L = [] then [] else [now ++ L]
  | [], n, now, _ => by rw [cutG, List.append_nil]
  | c :: L, n, now, h => by
    rw [flatC, List.length_append] at h
    rw [cutG, if_neg (by omega), cutG_big L _ _ (by omega), List.append_assoc]
    rfl
theorem cutB_big {size size' : Int} {L : List Cl} (h : ((flatC L).length : Int) < size) (h' : ((flatC L).length : Int) < size') : cutB size L = cutB size' L := by
  unfold cutB
  rw [cutG_big L 0 [] (by omega), cutG_big L 0 [] (by omega)]
end Go.Proofs.YtgcbmdolbmmljaaGreat.Ce

namespace Go.Proofs.YtgcbmdolbmmljaaGreat.Ce
open Go.RowKit Frm

theorem key_le (c : Cl) : (cellB (keyC c)).length ≤ (cellB c).length := by
  rw [cellB_len, cellB_len]
  show 17 + c.row.size + c.col.size + 0 ≤ _
  omega
theorem key_le2 {c : Cl} (h : c.ok) : (cellB (keyC c)).length ≤ 145 := by
  rw [cellB_len]
  show 17 + c.row.size + c.col.size + 0 ≤ _
  have := h.r2
  have := h.c2
  omega
theorem hd_mem {M : List Cl} (h : M ≠ []) : hd M ∈ M := by
  cases M with
  | nil => exact absurd rfl h
  | cons a A => exact List.mem_cons_self
theorem hd_le {M : List Cl} (h : M ≠ []) : (cellB (hd M)).length ≤ (flatC M).length := by
  cases M with
  | nil => exact absurd rfl h
  | cons a A =>
    rw [flatC, List.length_append]
    show (cellB a).length ≤ _
    omega
theorem entries_flat : ∀ (LL : List (List Cl)) (a : Nat), (∀ M ∈ LL, M ≠ []) → (entries LL a).length ≤ (flatC LL.flatten).length + 4 * LL.length
  | [], _, _ => by simp [entries]
  | M :: LL, a, h => by
    have ih := entries_flat LL (a + (blkB M).length) fun A hA => h A (by simp [hA])
    have h1 := key_le (hd M)
    have h2 := hd_le (h M (by simp))
    rw [entries, List.length_append, List.length_append, numB_len, List.flatten_cons, flatC_app, List.length_append, List.length_cons]
    omega
theorem entries_145 : ∀ (LL : List (List Cl)) (a : Nat), (∀ M ∈ LL, Sorted M ∧ M ≠ []) → (entries LL a).length ≤ 149 * LL.length
  | [], _, _ => by simp [entries]
  | M :: LL, a, h => by
    have ih := entries_145 LL (a + (blkB M).length) fun A hA => h A (by simp [hA])
    obtain ⟨sM, nM⟩ := h M (by simp)
    have h1 := key_le2 (sM.ok _ (hd_mem nM))
    rw [entries, List.length_append, List.length_append, numB_len, List.length_cons]
    omega
theorem blocks_le : ∀ {LL : List (List Cl)}, (∀ M ∈ LL, M ≠ []) → LL.length ≤ LL.flatten.length
  | [], _ => by simp
  | M :: LL, h => by
    have ih := blocks_le (LL := LL) fun A hA => h A (by simp [hA])
    have h1 := List.length_pos_iff.2 (h M (by simp))
    rw [List.length_cons, List.flatten_cons, List.length_append]
    omega
theorem foot_len (S : List Cl) (LL : List (List Cl)) : (footR S LL).length = 8 + (entries LL 0).length + (filt S).length := by
  have h5 : (⟨(filt S).toArray⟩ : ByteArray).size = (filt S).length := by simp [ByteArray.size]
  unfold footR
  rw [List.length_append, List.length_append, numB_len, textB_len, h5]
  omega
theorem row_len {LL : List (List Cl)} {M : List Cl} (h : M ∈ LL) : (flatC M).length ≤ (flatC LL.flatten).length := by
  induction LL with
  | nil => simp at h
  | cons A LL ih =>
    rw [List.flatten_cons, flatC_app, List.length_append]
    rcases List.mem_cons.1 h with rfl | h
    · omega
    · have := ih h
      omega
/-- cells of few bytes make a table at whatever size -/
theorem tab_fit {S : List Cl} {size : Int} (hs : Sorted S) (hl : (flatC S).length ≤ 50000) (h1 : 1 ≤ size) : TabAt (tabB S (cutB size S)) S (cutB size S) ∧ (cutB size S).length ≤ S.length ∧ (tabB S (cutB size S)).length ≤ 160000 := by
  have hrow : ∀ M ∈ cutB size S, Sorted M ∧ M ≠ [] := fun M hM => by
    obtain ⟨j, hj⟩ := List.getElem?_of_mem hM
    exact ⟨cutB_sorted hs hj, (cutB_ok h1 hj).ne⟩
  have hb := blocks_le fun M hM => (hrow M hM).2
  have he := entries_flat (cutB size S) 0 fun M hM => (hrow M hM).2
  have hfl := flatB_len (cutB size S)
  rw [cutB_flat] at hb he hfl
  have hg := flatC_ge hs.ok
  have hf := filt_len S
  have hft := foot_len S (cutB size S)
  refine ⟨⟨rfl, hs, ⟨size, h1, rfl⟩, fun M hM => ?_, ?_⟩, hb, ?_⟩
  · have h2 := row_len hM
    rw [cutB_flat] at h2
    rw [recB_len]
    omega
  · omega
  · unfold tabB
    rw [List.length_append, List.length_append, frm_len, numB_len]
    omega
/-- few cells make a table of few bytes -/
theorem tab_few2 {S : List Cl} {size : Int} (hs : Sorted S) (hl : S.length ≤ 80) (h1 : 1 ≤ size) : (flatC S).length ≤ 50000 ∧ (tabB S (cutB size S)).length ≤ 50000 := by
  have hrow : ∀ M ∈ cutB size S, Sorted M ∧ M ≠ [] := fun M hM => by
    obtain ⟨j, hj⟩ := List.getElem?_of_mem hM
    exact ⟨cutB_sorted hs hj, (cutB_ok h1 hj).ne⟩
  have hb := blocks_le fun M hM => (hrow M hM).2
  have he := entries_145 (cutB size S) 0 hrow
  have hfl := flatB_len (cutB size S)
  rw [cutB_flat] at hb hfl
  have hg := flatC_le hs.ok
  have hf := filt_len S
  have hft := foot_len S (cutB size S)
  refine ⟨by omega, ?_⟩
  unfold tabB
  rw [List.length_append, List.length_append, frm_len, numB_len]
  omega
end Go.Proofs.YtgcbmdolbmmljaaGreat.Ce

namespace Go.Proofs.YtgcbmdolbmmljaaGreat.Ce
open Go.RowKit Frm

/-- the blocks' places -/
def starts : List (List Cl) → Nat → List Nat
  | [], _ => []
  | M :: LL, a => a :: starts LL (a + (blkB M).length)
theorem starts_len : ∀ (LL : List (List Cl)) (a : Nat), (starts LL a).length = LL.length
  | [], _ => rfl
  | M :: LL, a => by rw [starts, List.length_cons, starts_len, List.length_cons]
theorem starts_at : ∀ {LL : List (List Cl)} {a k : Nat}, k < LL.length → (starts LL a)[k]? = some (a + (flatB (LL.take k)).length)
  | [], a, k, h => by simp at h
  | M :: LL, a, 0, _ => by simp [starts, flatB]
  | M :: LL, a, k + 1, h => by
    rw [starts, List.getElem?_cons_succ, starts_at (by simpa using h), List.take_succ_cons, flatB, List.length_append, Nat.add_assoc]
theorem entries_drop {LL : List (List Cl)} {k : Nat} {M : List Cl} (h : LL[k]? = some M) (a : Nat) : entries (LL.drop k) a = cellB (keyC (hd M)) ++ (numB a ++ entries (LL.drop (k + 1)) (a + (blkB M).length)) := by
  obtain ⟨hl, rfl⟩ := List.getElem?_eq_some_iff.1 h
  rw [List.drop_eq_getElem_cons hl, entries]
/-- the cell at the beginning of what is shown, and the number behind it -/
theorem entry_shown {left rest m : List UInt8} {c c' : Cl} {s : Nat} (hc : c.ok) (hk : (cellB c).length ≤ 145) (hs : s ≤ 4294967295) (h : left = cellB c ++ (numB s ++ rest)) (hS : Stands (left.take 149) c' m) :
    4 ≤ m.length ∧ numOf m = s ∧ (left.take 149).length - (m.drop 4).length = (cellB c).length + 4 ∧ left.drop ((cellB c).length + 4) = rest := by
  have h1 : left.take 149 = cellB c ++ (numB s ++ rest).take (149 - (cellB c).length) := by
    rw [h, List.take_append, List.take_of_length_le (by omega)]
  have h2 : (numB s ++ rest).take (149 - (cellB c).length) = numB s ++ rest.take (145 - (cellB c).length) := by
    rw [List.take_append, List.take_of_length_le (by rw [numB_len]; omega), numB_len]
    congr 2
    omega
  rw [h2] at h1
  obtain ⟨rfl, rfl⟩ := hS.one ⟨hc, h1⟩
  refine ⟨by rw [List.length_append, numB_len]; omega, Frm.numOf_numB s hs _, ?_, ?_⟩
  · rw [h1, List.length_append, List.length_append, numB_len, show (numB s ++ rest.take (145 - (cellB c').length)).drop 4 = rest.take (145 - (cellB c').length) from rfl]
    omega
  · rw [h, ← List.append_assoc, show (cellB c').length + 4 = (cellB c' ++ numB s).length by rw [List.length_append, numB_len], List.drop_left]
theorem entry_stands {left rest : List UInt8} {c : Cl} {s : Nat} (hc : c.ok) (hk : (cellB c).length ≤ 145) (h : left = cellB c ++ (numB s ++ rest)) : ∃ m, Stands (left.take 149) c m := by
  refine ⟨(numB s ++ rest).take (149 - (cellB c).length), hc, ?_⟩
  rw [h, List.take_append, List.take_of_length_le (by omega)]
/-- a footer, whatever stands behind its blocks -/
structure FootAt (l : List UInt8) (LL : List (List Cl)) (t : List UInt8) : Prop where
  e : l = numB LL.length ++ (entries LL 0 ++ t)
  ok : ∀ M ∈ LL, Sorted M ∧ M ≠ []
  n : LL.length ≤ 4294967295
  f : (flatB LL).length ≤ 4294967295
/-- k blocks' places are told, lf is left -/
def StartsTo (l : List UInt8) (k : Nat) (ss : List Nat) (lf : List UInt8) : Prop := ∀ LL t, FootAt l LL t → ss = (starts LL 0).take k ∧ lf = entries (LL.drop k) (flatB (LL.take k)).length ++ t
theorem startsTo_zero (l : List UInt8) : StartsTo l 0 [] (cnR l) := fun LL t h => by
  refine ⟨by simp, ?_⟩
  unfold cnR
  have hl : 4 ≤ l.length := by rw [h.e, List.length_append, numB_len]; omega
  rw [if_pos hl]
  conv => lhs; rw [h.e]
  rw [List.drop_zero, List.take_zero]
  rfl
theorem foot_num {l t : List UInt8} {LL : List (List Cl)} (h : FootAt l LL t) : cnN l = LL.length := by
  have hl : 4 ≤ l.length := by rw [h.e, List.length_append, numB_len]; omega
  unfold cnN
  rw [if_pos hl, h.e]
  exact Frm.numOf_numB _ h.n _
theorem foot_row {l t lf : List UInt8} {LL : List (List Cl)} {k : Nat} (h : FootAt l LL t) (hk : k < LL.length) (hlf : lf = entries (LL.drop k) (flatB (LL.take k)).length ++ t) :
    ∃ M, LL[k]? = some M ∧ (keyC (hd M)).ok ∧ (cellB (keyC (hd M))).length ≤ 145 ∧ (flatB (LL.take k)).length ≤ 4294967295 ∧ lf = cellB (keyC (hd M)) ++ (numB (flatB (LL.take k)).length ++ (entries (LL.drop (k + 1)) (flatB (LL.take (k + 1))).length ++ t)) := by
  have hfk : LL[k]? = some LL[k] := List.getElem?_eq_getElem hk
  generalize LL[k] = M at hfk
  obtain ⟨sM, nM⟩ := h.ok M (List.mem_of_getElem? hfk)
  have hok := sM.ok _ (hd_mem nM)
  refine ⟨M, hfk, keyC_ok hok, key_le2 hok, Nat.le_trans (flatB_take_le LL k) h.f, ?_⟩
  rw [hlf, entries_drop hfk, flatB_snoc hfk, List.length_append, List.append_assoc, List.append_assoc]
/-- a block more -/
theorem startsTo_more {l lf m : List UInt8} {k : Nat} {ss : List Nat} {c : Cl} (h : StartsTo l k ss lf) (hk : k < cnN l) (hS : Stands (lf.take 149) c m) : StartsTo l (k + 1) (ss ++ [numOf m]) (lf.drop ((lf.take 149).length - (m.drop 4).length)) := fun LL t hf => by
  obtain ⟨h1, h2⟩ := h LL t hf
  have hkl : k < LL.length := by rw [← foot_num hf]; exact hk
  obtain ⟨M, hM, ok, hle, hn, he⟩ := foot_row hf hkl h2
  obtain ⟨-, e2, e3, e4⟩ := entry_shown ok hle hn he hS
  rw [e2, e3, e4]
  refine ⟨?_, rfl⟩
  have hs := starts_at (a := 0) hkl
  rw [Nat.zero_add] at hs
  obtain ⟨hsl, hse⟩ := List.getElem?_eq_some_iff.1 hs
  rw [List.take_succ_eq_append_getElem hsl, hse, h1]
/-- where no cell stands, or no number behind it, there is no footer -/
theorem startsTo_none {l lf : List UInt8} {k : Nat} {ss : List Nat} (h : StartsTo l k ss lf) (hk : k < cnN l) (hno : ∀ c m, Stands (lf.take 149) c m → ¬ 4 ≤ m.length) (ss' : List Nat) (lf' : List UInt8) (j : Nat) : StartsTo l j ss' lf' := fun LL t hf => by
  exfalso
  obtain ⟨h1, h2⟩ := h LL t hf
  have hkl : k < LL.length := by rw [← foot_num hf]; exact hk
  obtain ⟨M, hM, ok, hle, hn, he⟩ := foot_row hf hkl h2
  obtain ⟨m, hm⟩ := entry_stands ok hle he
  obtain ⟨e1, -⟩ := entry_shown ok hle hn he hm
  exact hno _ _ hm e1
/-- at the end -/
theorem startsTo_all {l lf t : List UInt8} {ss : List Nat} {LL : List (List Cl)} (h : StartsTo l (cnN l) ss lf) (hf : FootAt l LL t) : ss = starts LL 0 ∧ lf = t := by
  obtain ⟨h1, h2⟩ := h LL t hf
  rw [foot_num hf] at h1 h2
  rw [List.take_of_length_le (by rw [starts_len]; omega)] at h1
  rw [List.drop_length] at h2
  exact ⟨h1, h2⟩
end Go.Proofs.YtgcbmdolbmmljaaGreat.Ce

namespace Go.Proofs.YtgcbmdolbmmljaaGreat.Ce
open Go.RowKit Frm

/-- blocks whose bytes these are, and their places -/
structure Blks (l : List UInt8) (ss : List Nat) (LL : List (List Cl)) : Prop where
  e : l = flatB LL
  s : ss = starts LL 0
  ok : ∀ M ∈ LL, Sorted M ∧ M ≠ [] ∧ (recB M).length ≤ 65535
theorem Blks.n {l : List UInt8} {ss : List Nat} {LL : List (List Cl)} (h : Blks l ss LL) : LL.length = ss.length := by rw [h.s, starts_len]
/-- the last k blocks are read, what stands ahead of them has E bytes -/
structure ReadTo (l : List UInt8) (ss : List Nat) (k : Nat) (LL : List (List Cl)) (E : Nat) : Prop where
  ok : ∀ M ∈ LL.drop (ss.length - k), Sorted M ∧ M ≠ []
  le : (flatC (LL.drop (ss.length - k)).flatten).length + E ≤ l.length
  ex : ∀ L0, Blks l ss L0 → LL.drop (ss.length - k) = L0.drop (ss.length - k) ∧ E = (flatB (L0.take (ss.length - k))).length
section
variable {l : List UInt8} {ss : List Nat} {k E : Nat} {LL : List (List Cl)} {M : List Cl} {m : List UInt8}
theorem readTo_zero (hn : LL.length = ss.length) : ReadTo l ss 0 LL l.length := by
  have h0 : LL.drop (ss.length - 0) = [] := by rw [Nat.sub_zero, ← hn, List.drop_length]
  refine ⟨fun M hM => (by rw [h0] at hM; cases hM), (by rw [h0]; simp [flatC]), fun L0 h => ⟨?_, ?_⟩⟩
  · rw [h0, Nat.sub_zero, ← h.n, List.drop_length]
  · rw [Nat.sub_zero, ← h.n, List.take_length, h.e]
/-- the block at its place -/
theorem blk_there {L0 : List (List Cl)} (h : Blks l ss L0) {i : Nat} (hi : i < ss.length) (hE : E = (flatB (L0.take (i + 1))).length) :
    ∃ M, L0[i]? = some M ∧ ss[i] = (flatB (L0.take i)).length ∧ ss[i] ≤ E ∧ (l.take E).drop ss[i] = blkB M ++ [] ∧ Sorted M ∧ M ≠ [] ∧ (recB M).length ≤ 65535 := by
  have hil : i < L0.length := by rw [h.n]; exact hi
  have hf : L0[i]? = some L0[i] := List.getElem?_eq_getElem hil
  generalize L0[i] = M at hf
  obtain ⟨h1, h2, h3⟩ := h.ok M (List.mem_of_getElem? hf)
  have hs : ss[i] = (flatB (L0.take i)).length := by
    have := starts_at (a := 0) hil
    rw [← h.s, List.getElem?_eq_getElem hi, Nat.zero_add] at this
    simpa using this
  have hsn := flatB_snoc hf
  refine ⟨M, hf, hs, ?_, ?_, h1, h2, h3⟩
  · rw [hE, hs, hsn, List.length_append]
    omega
  · have e1 : l.take E = flatB (L0.take (i + 1)) := by
      have e2 : l = flatB (L0.take (i + 1)) ++ flatB (L0.drop (i + 1)) := by rw [← flatB_app, List.take_append_drop]; exact h.e
      rw [hE]
      conv => lhs; rw [e2]
      rw [List.take_left]
    rw [e1, hsn, hs, List.drop_left, List.append_nil]
theorem ReadTo.step (h : ReadTo l ss k LL E) (hn : LL.length = ss.length) {i : Nat} (hk : k < ss.length) (hi : i = ss.length - 1 - k) (hil : i < ss.length) (hEl : E ≤ l.length) (hB : BlkAt ((l.take E).drop ss[i]) M m) : ReadTo l ss (k + 1) (LL.set i M) ss[i] := by
  have e1 : ss.length - (k + 1) = i := by omega
  have e2 : ss.length - k = i + 1 := by omega
  have hd : (LL.set i M).drop i = M :: LL.drop (i + 1) := by
    rw [List.drop_eq_getElem_cons (by rw [List.length_set]; omega), List.getElem_set_self, List.drop_set, if_pos (by omega)]
  have hle := h.le
  rw [e2] at hle
  refine ⟨fun A hA => ?_, ?_, fun L0 h0 => ?_⟩
  · rw [e1, hd] at hA
    rcases List.mem_cons.1 hA with rfl | hA
    · exact ⟨hB.s, hB.ne⟩
    · exact h.ok A (by rw [e2]; exact hA)
  · have hl := congrArg List.length hB.e
    rw [List.length_append, blkB_len, List.length_drop, List.length_take] at hl
    rw [e1, hd, List.flatten_cons, flatC_app, List.length_append]
    omega
  · obtain ⟨x1, x2⟩ := h.ex L0 h0
    rw [e2] at x1 x2
    obtain ⟨M', hM', b1, -, b3, b4, b5, b6⟩ := blk_there h0 hil x2
    obtain ⟨rfl, -⟩ := hB.one ⟨b3, b4, b5, b6⟩
    rw [e1, hd, x1]
    obtain ⟨hl, he⟩ := List.getElem?_eq_some_iff.1 hM'
    exact ⟨by rw [List.drop_eq_getElem_cons hl, he], b1⟩
theorem ReadTo.none (h : ReadTo l ss k LL E) {i : Nat} (hk : k < ss.length) (hi : i = ss.length - 1 - k) (hil : i < ss.length) (hno : ¬ (ss[i] ≤ E ∧ ∃ M m, BlkAt ((l.take E).drop ss[i]) M m)) : ¬ ∃ L0, Blks l ss L0 := fun ⟨L0, h0⟩ => by
  obtain ⟨-, x2⟩ := h.ex L0 h0
  rw [show ss.length - k = i + 1 by omega] at x2
  obtain ⟨M', -, -, b2, b3, b4, b5, b6⟩ := blk_there h0 hil x2
  exact hno ⟨b2, M', [], ⟨b3, b4, b5, b6⟩⟩
theorem ReadTo.all (h : ReadTo l ss ss.length LL E) : (∀ M ∈ LL, Sorted M ∧ M ≠ []) ∧ (flatC LL.flatten).length ≤ l.length ∧ ∀ L0, Blks l ss L0 → LL = L0 := by
  obtain ⟨h1, h2, h3⟩ := h
  rw [Nat.sub_self, List.drop_zero] at h1 h2 h3
  refine ⟨h1, by omega, fun L0 h0 => ?_⟩
  have := (h3 L0 h0).1
  rwa [List.drop_zero] at this
end
end Go.Proofs.YtgcbmdolbmmljaaGreat.Ce
