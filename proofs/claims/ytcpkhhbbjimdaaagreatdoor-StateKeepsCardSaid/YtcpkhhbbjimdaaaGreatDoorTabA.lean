/- Tables as plain bytes: what a table of sorted cells is, that it is of one list alone, that none is a beginning of another, or another with one byte turned. Plain. Sizes: cells of few bytes make a table, and one of few bytes. Plain. Where a footer says that its blocks begin, plain. Blocks read from the last one to the first, plain. The contract of the reference's Key of layer 12. The contract of the reference's Build of layer 12. The contracts of a table's small parts: a key's text, a block's part of the footer, the filter. -/
import Derived.Test.YtcpkhhbbjimdaaaGreatDoorBkA
import Derived.Test.YtcpkhhbbjimdaaaGreatDoorBlmA
import Derived.Test.YtcpkhhbbjimdaaaGreatDoorLow
import Derived.Deep.RegionHeld3
import Derived.Test.YtcpkhhbbjimdaaaGreatDoorCsA
set_option maxHeartbeats 8000000
set_option maxRecDepth 100000
namespace Go.Proofs.YtcpkhhbbjimdaaaGreatDoor.Ce
open Go.RowKit Frm
def keyT (row col : ByteArray) : List UInt8 := textB row ++ textB col
def keyOf (c : Cl) : List UInt8 := keyT c.row c.col
def keyC (c : Cl) : Cl := ⟨c.row, c.col, c.at_, ⟨#[]⟩, false⟩
theorem keyC_ok {c : Cl} (h : c.ok) : (keyC c).ok := ⟨h.r1, h.r2, h.c1, h.c2, h.a1, h.a2, by show 0 ≤ 256; omega, fun e => by cases e⟩
def hd (M : List Cl) : Cl := M.headD Cl.zero
def entries : List (List Cl) → Nat → List UInt8
 | [], _ => []
 | M :: LL, at_ => cellB (keyC (hd M)) ++ (numB at_ ++ entries LL (at_ + (blkB M).length))
def filt (S : List Cl) : List UInt8 := Blm.mkB (S.map keyOf)
def footR (S : List Cl) (LL : List (List Cl)) : List UInt8 := numB LL.length ++ (entries LL 0 ++ textB ⟨(filt S).toArray⟩)
def tabR (S : List Cl) (LL : List (List Cl)) : List (List UInt8) := LL.map recB ++ [footR S LL]
def tabB (S : List Cl) (LL : List (List Cl)) : List UInt8 := flatB LL ++ (frm (footR S LL) ++ numB (12 + (footR S LL).length))
theorem flatB_flat : ∀ LL : List (List Cl), flatB LL = flat (LL.map recB)
 | [] => rfl
 | M :: LL => by rw [flatB, List.map_cons, flat_cons, flatB_flat LL]; rfl
theorem tabB_flat (S : List Cl) (LL : List (List Cl)) : tabB S LL = flat (tabR S LL) ++ numB (12 + (footR S LL).length) := by
 unfold tabB tabR
 rw [flat_app, flat_cons, flat_nil, List.append_nil, ← flatB_flat, List.append_assoc]
structure TabAt (b : List UInt8) (S : List Cl) (LL : List (List Cl)) : Prop where
 e : b = tabB S LL
 s : Sorted S
 cut : ∃ size : Int, 1 ≤ size ∧ LL = cutB size S
 fit : ∀ M ∈ LL, (recB M).length ≤ 65535
 foot : (footR S LL).length ≤ 65535
section
variable {b : List UInt8} {S S' : List Cl} {LL LL' : List (List Cl)}
theorem TabAt.recs (h : TabAt b S LL) : ∀ r ∈ tabR S LL, r.length ≤ 65535 := fun r hr => by
 unfold tabR at hr
 rcases List.mem_append.1 hr with hr | hr
 ·obtain ⟨M, hM, rfl⟩ := List.mem_map.1 hr
  exact h.fit M hM
 ·rw [List.mem_singleton.1 hr]
  exact h.foot
theorem TabAt.flat (h : TabAt b S LL) : LL.flatten = S := by
 obtain ⟨size, -, rfl⟩ := h.cut
 exact cutB_flat size S
theorem TabAt.row (h : TabAt b S LL) {M : List Cl} (hM : M ∈ LL) : Sorted M ∧ M ≠ [] := by
 obtain ⟨size, h1, rfl⟩ := h.cut
 obtain ⟨j, hj⟩ := List.getElem?_of_mem hM
 exact ⟨cutB_sorted h.s hj, (cutB_ok h1 hj).ne⟩
theorem recs_inj {LL LL' : List (List Cl)} (h : ∀ M ∈ LL, Sorted M ∧ M ≠ [] ∧ (recB M).length ≤ 65535) (h' : ∀ M ∈ LL', Sorted M ∧ M ≠ [] ∧ (recB M).length ≤ 65535) (e : LL.map recB = LL'.map recB) : LL = LL' := by
 induction LL generalizing LL' with
 | nil => cases LL' with
  | nil => rfl
  | cons M LL' => simp at e
 | cons M LL ih => cases LL' with
  | nil => simp at e
  | cons M' LL' =>
   rw [List.map_cons, List.map_cons] at e
   injection e with e1 e2
   obtain ⟨a1, a2, a3⟩ := h M (by simp)
   obtain ⟨c1, c2, -⟩ := h' M' (by simp)
   have hM : M = M' := rec_one (r := recB M) ⟨rfl, a1, a2⟩ ⟨e1, c1, c2⟩ (by omega)
   rw [hM, ih (fun x hx => h x (by simp [hx])) (fun x hx => h' x (by simp [hx])) e2]
theorem tabR_inj (h : TabAt b S LL) {b' : List UInt8} (h' : TabAt b' S' LL') (e : tabR S LL = tabR S' LL') : S = S' ∧ LL = LL' := by
 unfold tabR at e
 obtain ⟨e1, -⟩ := List.append_inj' e rfl
 have hL : LL = LL' := recs_inj (fun M hM => ⟨(h.row hM).1, (h.row hM).2, h.fit M hM⟩) (fun M hM => ⟨(h'.row hM).1, (h'.row hM).2, h'.fit M hM⟩) e1
 exact ⟨by rw [← h.flat, ← h'.flat, hL], hL⟩
theorem tab_len (h : TabAt b S LL) : b.length = (Frm.flat (tabR S LL)).length + 4 := by rw [h.e, tabB_flat, List.length_append, numB_len]
theorem TabAt.one (h : TabAt b S LL) (h' : TabAt b S' LL') : S = S' ∧ LL = LL' := by
 have e := h.e.symm.trans h'.e
 have hl : (Frm.flat (tabR S LL)).length = (Frm.flat (tabR S' LL')).length := by
  have := tab_len h
  have := tab_len h'
  omega
 rw [tabB_flat, tabB_flat] at e
 obtain ⟨e1, -⟩ := List.append_inj e hl
 obtain ⟨e2, -⟩ := scan_one (m := []) (m' := []) (by rw [List.append_nil, List.append_nil]; exact e1) h.recs (not_whole_short (by simp)) h'.recs (not_whole_short (by simp))
 exact tabR_inj h h' e2
end
theorem filt_len (S : List Cl) : (filt S).length ≤ S.length + 1 := by
 unfold filt
 rw [Blm.mkB_len]
 unfold Blm.size
 rw [List.length_map]
 split <;> omega
end Go.Proofs.YtcpkhhbbjimdaaaGreatDoor.Ce
namespace Go.Proofs.YtcpkhhbbjimdaaaGreatDoor.Ce
open Go.RowKit Frm
theorem key_le (c : Cl) : (cellB (keyC c)).length ≤ (cellB c).length := by
 rw [cellB_len, cellB_len]
 show 17 + c.row.size + c.col.size + 0 ≤ _
 omega
theorem key_le2 {c : Cl} (h : c.ok) : (cellB (keyC c)).length ≤ 145 := by
 rw [cellB_len]
 show 17 + c.row.size + c.col.size + 0 ≤ _
 have := h.r2
 have := h.c2
 omega
theorem hd_mem {M : List Cl} (h : M ≠ []) : hd M ∈ M := by
 cases M with
 | nil => exact absurd rfl h
 | cons a A => exact List.mem_cons_self
theorem hd_le {M : List Cl} (h : M ≠ []) : (cellB (hd M)).length ≤ (flatC M).length := by
 cases M with
 | nil => exact absurd rfl h
 | cons a A =>
  rw [flatC, List.length_append]
  show (cellB a).length ≤ _
  omega
theorem entries_flat : ∀ (LL : List (List Cl)) (a : Nat), (∀ M ∈ LL, M ≠ []) → (entries LL a).length ≤ (flatC LL.flatten).length + 4 * LL.length
 | [], _, _ => by simp [entries]
 | M :: LL, a, h => by
  have ih := entries_flat LL (a + (blkB M).length) fun A hA => h A (by simp [hA])
  have h1 := key_le (hd M)
  have h2 := hd_le (h M (by simp))
  rw [entries, List.length_append, List.length_append, numB_len, List.flatten_cons, flatC_app, List.length_append, List.length_cons]
  omega
theorem entries_145 : ∀ (LL : List (List Cl)) (a : Nat), (∀ M ∈ LL, Sorted M ∧ M ≠ []) → (entries LL a).length ≤ 149 * LL.length
 | [], _, _ => by simp [entries]
 | M :: LL, a, h => by
  have ih := entries_145 LL (a + (blkB M).length) fun A hA => h A (by simp [hA])
  obtain ⟨sM, nM⟩ := h M (by simp)
  have h1 := key_le2 (sM.ok _ (hd_mem nM))
  rw [entries, List.length_append, List.length_append, numB_len, List.length_cons]
  omega
theorem blocks_le : ∀ {LL : List (List Cl)}, (∀ M ∈ LL, M ≠ []) → LL.length ≤ LL.flatten.length
 | [], _ => by simp
 | M :: LL, h => by
  have ih := blocks_le (LL := LL) fun A hA => h A (by simp [hA])
  have h1 := List.length_pos_iff.2 (h M (by simp))
  rw [List.length_cons, List.flatten_cons, List.length_append]
  omega
theorem foot_len (S : List Cl) (LL : List (List Cl)) : (footR S LL).length = 8 + (entries LL 0).length + (filt S).length := by
 have h5 : (⟨(filt S).toArray⟩ : ByteArray).size = (filt S).length := by simp [ByteArray.size]
 unfold footR
 rw [List.length_append, List.length_append, numB_len, textB_len, h5]
 omega
theorem row_len {LL : List (List Cl)} {M : List Cl} (h : M ∈ LL) : (flatC M).length ≤ (flatC LL.flatten).length := by
 induction LL with
 | nil => simp at h
 | cons A LL ih =>
  rw [List.flatten_cons, flatC_app, List.length_append]
  rcases List.mem_cons.1 h with rfl | h
  ·omega
  ·have := ih h
   omega
theorem tab_fit {S : List Cl} {size : Int} (hs : Sorted S) (hl : (flatC S).length ≤ 50000) (h1 : 1 ≤ size) : TabAt (tabB S (cutB size S)) S (cutB size S) ∧ (cutB size S).length ≤ S.length ∧ (tabB S (cutB size S)).length ≤ 160000 := by
 have hrow : ∀ M ∈ cutB size S, Sorted M ∧ M ≠ [] := fun M hM => by
  obtain ⟨j, hj⟩ := List.getElem?_of_mem hM
  exact ⟨cutB_sorted hs hj, (cutB_ok h1 hj).ne⟩
 have hb := blocks_le fun M hM => (hrow M hM).2
 have he := entries_flat (cutB size S) 0 fun M hM => (hrow M hM).2
 have hfl := flatB_len (cutB size S)
 rw [cutB_flat] at hb he hfl
 have hg := flatC_ge hs.ok
 have hf := filt_len S
 have hft := foot_len S (cutB size S)
 refine ⟨⟨rfl, hs, ⟨size, h1, rfl⟩, fun M hM => ?_, ?_⟩, hb, ?_⟩
 ·have h2 := row_len hM
  rw [cutB_flat] at h2
  rw [recB_len]
  omega
 ·omega
 ·unfold tabB
  rw [List.length_append, List.length_append, frm_len, numB_len]
  omega
theorem tab_few3 {S : List Cl} {size : Int} (hs : Sorted S) (hl : S.length ≤ 105) (h1 : 1 ≤ size) : (flatC S).length ≤ 50000 ∧ (tabB S (cutB size S)).length ≤ 60000 := by
 have hrow : ∀ M ∈ cutB size S, Sorted M ∧ M ≠ [] := fun M hM => by
  obtain ⟨j, hj⟩ := List.getElem?_of_mem hM
  exact ⟨cutB_sorted hs hj, (cutB_ok h1 hj).ne⟩
 have hb := blocks_le fun M hM => (hrow M hM).2
 have he := entries_145 (cutB size S) 0 hrow
 have hfl := flatB_len (cutB size S)
 rw [cutB_flat] at hb hfl
 have hg := flatC_le hs.ok
 have hf := filt_len S
 have hft := foot_len S (cutB size S)
 refine ⟨by omega, ?_⟩
 unfold tabB
 rw [List.length_append, List.length_append, frm_len, numB_len]
 omega
end Go.Proofs.YtcpkhhbbjimdaaaGreatDoor.Ce
namespace Go.Proofs.YtcpkhhbbjimdaaaGreatDoor.Ce
open Go.RowKit Frm
def starts : List (List Cl) → Nat → List Nat
 | [], _ => []
 | M :: LL, a => a :: starts LL (a + (blkB M).length)
theorem starts_len : ∀ (LL : List (List Cl)) (a : Nat), (starts LL a).length = LL.length
 | [], _ => rfl
 | M :: LL, a => by rw [starts, List.length_cons, starts_len, List.length_cons]
theorem starts_at : ∀ {LL : List (List Cl)} {a k : Nat}, k < LL.length → (starts LL a)[k]? = some (a + (flatB (LL.take k)).length)
 | [], a, k, h => by simp at h
 | M :: LL, a, 0, _ => by simp [starts, flatB]
 | M :: LL, a, k + 1, h => by
  rw [starts, List.getElem?_cons_succ, starts_at (by simpa using h), List.take_succ_cons, flatB, List.length_append, Nat.add_assoc]
theorem entries_drop {LL : List (List Cl)} {k : Nat} {M : List Cl} (h : LL[k]? = some M) (a : Nat) : entries (LL.drop k) a = cellB (keyC (hd M)) ++ (numB a ++ entries (LL.drop (k + 1)) (a + (blkB M).length)) := by
 obtain ⟨hl, rfl⟩ := List.getElem?_eq_some_iff.1 h
 rw [List.drop_eq_getElem_cons hl, entries]
theorem entry_shown {left rest m : List UInt8} {c c' : Cl} {s : Nat} (hc : c.ok) (hk : (cellB c).length ≤ 145) (hs : s ≤ 4294967295) (h : left = cellB c ++ (numB s ++ rest)) (hS : Stands (left.take 149) c' m) :
  4 ≤ m.length ∧ numOf m = s ∧ (left.take 149).length - (m.drop 4).length = (cellB c).length + 4 ∧ left.drop ((cellB c).length + 4) = rest := by
 have h1 : left.take 149 = cellB c ++ (numB s ++ rest).take (149 - (cellB c).length) := by
  rw [h, List.take_append, List.take_of_length_le (by omega)]
 have h2 : (numB s ++ rest).take (149 - (cellB c).length) = numB s ++ rest.take (145 - (cellB c).length) := by
  rw [List.take_append, List.take_of_length_le (by rw [numB_len]; omega), numB_len]
  congr 2
  omega
 rw [h2] at h1
 obtain ⟨rfl, rfl⟩ := hS.one ⟨hc, h1⟩
 refine ⟨by rw [List.length_append, numB_len]; omega, Frm.numOf_numB s hs _, ?_, ?_⟩
 ·rw [h1, List.length_append, List.length_append, numB_len, show (numB s ++ rest.take (145 - (cellB c').length)).drop 4 = rest.take (145 - (cellB c').length) from rfl]
  omega
 ·rw [h, ← List.append_assoc, show (cellB c').length + 4 = (cellB c' ++ numB s).length by rw [List.length_append, numB_len], List.drop_left]
theorem entry_stands {left rest : List UInt8} {c : Cl} {s : Nat} (hc : c.ok) (hk : (cellB c).length ≤ 145) (h : left = cellB c ++ (numB s ++ rest)) : ∃ m, Stands (left.take 149) c m := by
 refine ⟨(numB s ++ rest).take (149 - (cellB c).length), hc, ?_⟩
 rw [h, List.take_append, List.take_of_length_le (by omega)]
structure FootAt (l : List UInt8) (LL : List (List Cl)) (t : List UInt8) : Prop where
 e : l = numB LL.length ++ (entries LL 0 ++ t)
 ok : ∀ M ∈ LL, Sorted M ∧ M ≠ []
 n : LL.length ≤ 4294967295
 f : (flatB LL).length ≤ 4294967295
def StartsTo (l : List UInt8) (k : Nat) (ss : List Nat) (lf : List UInt8) : Prop := ∀ LL t, FootAt l LL t → ss = (starts LL 0).take k ∧ lf = entries (LL.drop k) (flatB (LL.take k)).length ++ t
theorem startsTo_zero (l : List UInt8) : StartsTo l 0 [] (cnR l) := fun LL t h => by
 refine ⟨by simp, ?_⟩
 unfold cnR
 have hl : 4 ≤ l.length := by rw [h.e, List.length_append, numB_len]; omega
 rw [if_pos hl]
 conv => lhs; rw [h.e]
 rw [List.drop_zero, List.take_zero]
 rfl
theorem foot_num {l t : List UInt8} {LL : List (List Cl)} (h : FootAt l LL t) : cnN l = LL.length := by
 have hl : 4 ≤ l.length := by rw [h.e, List.length_append, numB_len]; omega
 unfold cnN
 rw [if_pos hl, h.e]
 exact Frm.numOf_numB _ h.n _
theorem foot_row {l t lf : List UInt8} {LL : List (List Cl)} {k : Nat} (h : FootAt l LL t) (hk : k < LL.length) (hlf : lf = entries (LL.drop k) (flatB (LL.take k)).length ++ t) :
  ∃ M, LL[k]? = some M ∧ (keyC (hd M)).ok ∧ (cellB (keyC (hd M))).length ≤ 145 ∧ (flatB (LL.take k)).length ≤ 4294967295 ∧ lf = cellB (keyC (hd M)) ++ (numB (flatB (LL.take k)).length ++ (entries (LL.drop (k + 1)) (flatB (LL.take (k + 1))).length ++ t)) := by
 have hfk : LL[k]? = some LL[k] := List.getElem?_eq_getElem hk
 generalize LL[k] = M at hfk
 obtain ⟨sM, nM⟩ := h.ok M (List.mem_of_getElem? hfk)
 have hok := sM.ok _ (hd_mem nM)
 refine ⟨M, hfk, keyC_ok hok, key_le2 hok, Nat.le_trans (flatB_take_le LL k) h.f, ?_⟩
 rw [hlf, entries_drop hfk, flatB_snoc hfk, List.length_append, List.append_assoc, List.append_assoc]
theorem startsTo_more {l lf m : List UInt8} {k : Nat} {ss : List Nat} {c : Cl} (h : StartsTo l k ss lf) (hk : k < cnN l) (hS : Stands (lf.take 149) c m) : StartsTo l (k + 1) (ss ++ [numOf m]) (lf.drop ((lf.take 149).length - (m.drop 4).length)) := fun LL t hf => by
 obtain ⟨h1, h2⟩ := h LL t hf
 have hkl : k < LL.length := by rw [← foot_num hf]; exact hk
 obtain ⟨M, hM, ok, hle, hn, he⟩ := foot_row hf hkl h2
 obtain ⟨-, e2, e3, e4⟩ := entry_shown ok hle hn he hS
 rw [e2, e3, e4]
 refine ⟨?_, rfl⟩
 have hs := starts_at (a := 0) hkl
 rw [Nat.zero_add] at hs
 obtain ⟨hsl, hse⟩ := List.getElem?_eq_some_iff.1 hs
 rw [List.take_succ_eq_append_getElem hsl, hse, h1]
theorem startsTo_none {l lf : List UInt8} {k : Nat} {ss : List Nat} (h : StartsTo l k ss lf) (hk : k < cnN l) (hno : ∀ c m, Stands (lf.take 149) c m → ¬ 4 ≤ m.length) (ss' : List Nat) (lf' : List UInt8) (j : Nat) : StartsTo l j ss' lf' := fun LL t hf => by
 exfalso
 obtain ⟨h1, h2⟩ := h LL t hf
 have hkl : k < LL.length := by rw [← foot_num hf]; exact hk
 obtain ⟨M, hM, ok, hle, hn, he⟩ := foot_row hf hkl h2
 obtain ⟨m, hm⟩ := entry_stands ok hle he
 obtain ⟨e1, -⟩ := entry_shown ok hle hn he hm
 exact hno _ _ hm e1
theorem startsTo_all {l lf t : List UInt8} {ss : List Nat} {LL : List (List Cl)} (h : StartsTo l (cnN l) ss lf) (hf : FootAt l LL t) : ss = starts LL 0 ∧ lf = t := by
 obtain ⟨h1, h2⟩ := h LL t hf
 rw [foot_num hf] at h1 h2
 rw [List.take_of_length_le (by rw [starts_len]; omega)] at h1
 rw [List.drop_length] at h2
 exact ⟨h1, h2⟩
end Go.Proofs.YtcpkhhbbjimdaaaGreatDoor.Ce
namespace Go.Proofs.YtcpkhhbbjimdaaaGreatDoor.Ce
open Go.RowKit Frm
structure Blks (l : List UInt8) (ss : List Nat) (LL : List (List Cl)) : Prop where
 e : l = flatB LL
 s : ss = starts LL 0
 ok : ∀ M ∈ LL, Sorted M ∧ M ≠ [] ∧ (recB M).length ≤ 65535
theorem Blks.n {l : List UInt8} {ss : List Nat} {LL : List (List Cl)} (h : Blks l ss LL) : LL.length = ss.length := by rw [h.s, starts_len]
structure ReadTo (l : List UInt8) (ss : List Nat) (k : Nat) (LL : List (List Cl)) (E : Nat) : Prop where
 ok : ∀ M ∈ LL.drop (ss.length - k), Sorted M ∧ M ≠ []
 le : (flatC (LL.drop (ss.length - k)).flatten).length + E ≤ l.length
 ex : ∀ L0, Blks l ss L0 → LL.drop (ss.length - k) = L0.drop (ss.length - k) ∧ E = (flatB (L0.take (ss.length - k))).length
section
variable {l : List UInt8} {ss : List Nat} {k E : Nat} {LL : List (List Cl)} {M : List Cl} {m : List UInt8}
theorem readTo_zero (hn : LL.length = ss.length) : ReadTo l ss 0 LL l.length := by
 have h0 : LL.drop (ss.length - 0) = [] := by rw [Nat.sub_zero, ← hn, List.drop_length]
 refine ⟨fun M hM => (by rw [h0] at hM; cases hM), (by rw [h0]; simp [flatC]), fun L0 h => ⟨?_, ?_⟩⟩
 ·rw [h0, Nat.sub_zero, ← h.n, List.drop_length]
 ·rw [Nat.sub_zero, ← h.n, List.take_length, h.e]
theorem blk_there {L0 : List (List Cl)} (h : Blks l ss L0) {i : Nat} (hi : i < ss.length) (hE : E = (flatB (L0.take (i + 1))).length) :
  ∃ M, L0[i]? = some M ∧ ss[i] = (flatB (L0.take i)).length ∧ ss[i] ≤ E ∧ (l.take E).drop ss[i] = blkB M ++ [] ∧ Sorted M ∧ M ≠ [] ∧ (recB M).length ≤ 65535 := by
 have hil : i < L0.length := by rw [h.n]; exact hi
 have hf : L0[i]? = some L0[i] := List.getElem?_eq_getElem hil
 generalize L0[i] = M at hf
 obtain ⟨h1, h2, h3⟩ := h.ok M (List.mem_of_getElem? hf)
 have hs : ss[i] = (flatB (L0.take i)).length := by
  have := starts_at (a := 0) hil
  rw [← h.s, List.getElem?_eq_getElem hi, Nat.zero_add] at this
  simpa using this
 have hsn := flatB_snoc hf
 refine ⟨M, hf, hs, ?_, ?_, h1, h2, h3⟩
 ·rw [hE, hs, hsn, List.length_append]
  omega
 ·have e1 : l.take E = flatB (L0.take (i + 1)) := by
   have e2 : l = flatB (L0.take (i + 1)) ++ flatB (L0.drop (i + 1)) := by rw [← flatB_app, List.take_append_drop]; exact h.e
   rw [hE]
   conv => lhs; rw [e2]
   rw [List.take_left]
  rw [e1, hsn, hs, List.drop_left, List.append_nil]
theorem ReadTo.step (h : ReadTo l ss k LL E) (hn : LL.length = ss.length) {i : Nat} (hk : k < ss.length) (hi : i = ss.length - 1 - k) (hil : i < ss.length) (hEl : E ≤ l.length) (hB : BlkAt ((l.take E).drop ss[i]) M m) : ReadTo l ss (k + 1) (LL.set i M) ss[i] := by
 have e1 : ss.length - (k + 1) = i := by omega
 have e2 : ss.length - k = i + 1 := by omega
 have hd : (LL.set i M).drop i = M :: LL.drop (i + 1) := by
  rw [List.drop_eq_getElem_cons (by rw [List.length_set]; omega), List.getElem_set_self, List.drop_set, if_pos (by omega)]
 have hle := h.le
 rw [e2] at hle
 refine ⟨fun A hA => ?_, ?_, fun L0 h0 => ?_⟩
 ·rw [e1, hd] at hA
  rcases List.mem_cons.1 hA with rfl | hA
  ·exact ⟨hB.s, hB.ne⟩
  ·exact h.ok A (by rw [e2]; exact hA)
 ·have hl := congrArg List.length hB.e
  rw [List.length_append, blkB_len, List.length_drop, List.length_take] at hl
  rw [e1, hd, List.flatten_cons, flatC_app, List.length_append]
  omega
 ·obtain ⟨x1, x2⟩ := h.ex L0 h0
  rw [e2] at x1 x2
  obtain ⟨M', hM', b1, -, b3, b4, b5, b6⟩ := blk_there h0 hil x2
  obtain ⟨rfl, -⟩ := hB.one ⟨b3, b4, b5, b6⟩
  rw [e1, hd, x1]
  obtain ⟨hl, he⟩ := List.getElem?_eq_some_iff.1 hM'
  exact ⟨by rw [List.drop_eq_getElem_cons hl, he], b1⟩
theorem ReadTo.none (h : ReadTo l ss k LL E) {i : Nat} (hk : k < ss.length) (hi : i = ss.length - 1 - k) (hil : i < ss.length) (hno : ¬ (ss[i] ≤ E ∧ ∃ M m, BlkAt ((l.take E).drop ss[i]) M m)) : ¬ ∃ L0, Blks l ss L0 := fun ⟨L0, h0⟩ => by
 obtain ⟨-, x2⟩ := h.ex L0 h0
 rw [show ss.length - k = i + 1 by omega] at x2
 obtain ⟨M', -, -, b2, b3, b4, b5, b6⟩ := blk_there h0 hil x2
 exact hno ⟨b2, M', [], ⟨b3, b4, b5, b6⟩⟩
theorem ReadTo.all (h : ReadTo l ss ss.length LL E) : (∀ M ∈ LL, Sorted M ∧ M ≠ []) ∧ (flatC LL.flatten).length ≤ l.length ∧ ∀ L0, Blks l ss L0 → LL = L0 := by
 obtain ⟨h1, h2, h3⟩ := h
 rw [Nat.sub_self, List.drop_zero] at h1 h2 h3
 refine ⟨h1, by omega, fun L0 h0 => ?_⟩
 have := (h3 L0 h0).1
 rwa [List.drop_zero] at this
end
end Go.Proofs.YtcpkhhbbjimdaaaGreatDoor.Ce
namespace Go.Proofs.YtcpkhhbbjimdaaaGreatDoor.Ce
open Go.RowKit
theorem ba_app (l m : List UInt8) : (⟨l.toArray⟩ : ByteArray) ++ (⟨m.toArray⟩ : ByteArray) = ⟨(l ++ m).toArray⟩ := by
 apply ByteArray.ext
 simp
def keyS (row col : ByteArray) : ByteArray := ⟨(keyT row col).toArray⟩
theorem ba_size (l : List UInt8) : (⟨l.toArray⟩ : ByteArray).size = l.length := by simp [ByteArray.size]
end Go.Proofs.YtcpkhhbbjimdaaaGreatDoor.Ce
namespace Go.Proofs.YtcpkhhbbjimdaaaGreatDoor.Ce
open Go.RowKit Frm
theorem entries_app : ∀ (A C : List (List Cl)) (a : Nat), entries (A ++ C) a = entries A a ++ entries C (a + (flatB A).length)
 | [], C, a => by simp [entries, flatB]
 | M :: A, C, a => by
  rw [List.cons_append, entries, entries, entries_app A C, flatB, List.length_append, List.append_assoc, List.append_assoc, Nat.add_assoc]
theorem entries_snoc {LL : List (List Cl)} {k : Nat} {M : List Cl} (h : LL[k]? = some M) : entries (LL.take (k + 1)) 0 = (entries (LL.take k) 0 ++ cellB (keyC (hd M))) ++ numB (flatB (LL.take k)).length := by
 obtain ⟨hl, rfl⟩ := List.getElem?_eq_some_iff.1 h
 rw [List.take_succ_eq_append_getElem hl, entries_app, entries, entries, List.append_nil, Nat.zero_add, List.append_assoc]
theorem entries_take_le (LL : List (List Cl)) (k : Nat) : (entries (LL.take k) 0).length ≤ (entries LL 0).length := by
 have := congrArg List.length (entries_app (LL.take k) (LL.drop k) 0)
 rw [List.take_append_drop, List.length_append] at this
 omega
theorem hd_at {M : List Cl} (h : M ≠ []) : M[0]? = some (hd M) := by
 cases M with
 | nil => exact absurd rfl h
 | cons a A => rfl
theorem step_appE {P : Program} {ops : Array Oper} {o : Oper} {a : Act} {w : World} {B e t bytes D : Nat} {z v x : Value} {xs ys : List Value} {K : Act → World → Prop} {Q : Exit → Act → World → Prop} {E : Prop} (T : ET P t e z bytes) (hz : z.cells.size = 1) (hgd : o.guard = none) (s y : Operand)
  (ho : o.op = .call { callee := .builtin .append, args := #[s, y], argTypes := #[t, t] })
  (hs : a.eval s = v) (hown : Ow w B e v xs) (hy : a.eval y = x) (hr : Rd w D x ys) (h1 : One ys)
  (hlen : xs.length + ys.length ≤ maxLen) (hby : (xs.length + ys.length) * bytes ≤ 140737488355328) (hB : B ≤ w.heap.size)
  (hK : ∀ v' w', Ow w' B e v' (xs ++ ys) → w.grownBy w' v.ownBlock → (v'.ownBlock = v.ownBlock ∨ v'.ownBlock = some w.heap.size) → K (a.put o.dst v') w') :
  if Region.wanted o (yielded ops a.tmps) = true then Oper.wp P o a w K Q else E := by
 have hw : Region.wanted o (yielded ops a.tmps) = true := by simp [Region.wanted, hgd]
 rw [if_pos hw]
 obtain ⟨v', w', hrun, h2, h3, h4⟩ := run_app (P := P) T hz o.type hown hr h1 hlen hby hB
 unfold Oper.wp
 simp [execOp, ho, resolve, invoke, builtin, hs, hy, hrun, Result.andThen]
 exact hK v' w' h2 h3 h4
def keysS (L : List Cl) : List ByteArray := L.map fun c => keyS c.row c.col
theorem keysS_kl (L : List Cl) : Blm.kl (keysS L) = L.map keyOf := by
 unfold Blm.kl keysS
 rw [List.map_map]
 rfl
theorem keysS_snoc {L : List Cl} {k : Nat} {c : Cl} (h : L[k]? = some c) : keysS (L.take (k + 1)) = keysS (L.take k) ++ [keyS c.row c.col] := by
 obtain ⟨hl, rfl⟩ := List.getElem?_eq_some_iff.1 h
 unfold keysS
 rw [List.take_succ_eq_append_getElem hl, List.map_append]
 rfl
end Go.Proofs.YtcpkhhbbjimdaaaGreatDoor.Ce
namespace Go.Proofs.YtcpkhhbbjimdaaaGreatDoor.Ce
open Go.RowKit Frm
theorem ttext_any (row col : ByteArray) (w : World) (hr : row.size ≤ 4294967295) (hc : col.size ≤ 4294967295) :
  Calls Tryz.prog 124 #[.string row, .string col] w fun e w' => e = .returned (.string (keyS row col)) ∧ Below w.heap.size w w' := by
 obtain ⟨sr, hsr⟩ : ∃ s : ByteArray, s = ⟨(textB row).toArray⟩ := ⟨_, rfl⟩
 obtain ⟨sc, hsc⟩ : ∃ s : ByteArray, s = ⟨(textB col).toArray⟩ := ⟨_, rfl⟩
 have hsum : ¬ (sr.size + sc.size > 9223372036854775807) := by rw [hsr, hsc, ba_size, ba_size, textB_len, textB_len]; omega
 have hsum2 : sr.size + sc.size ≤ 9223372036854775807 := by omega
 have HK : Hid (sr ++ sc = keyS row col) := Lib.hid (by rw [hsr, hsc, ba_app]; rfl)
 have US : Hid (∀ (w : World) (D : Nat) (v : Value), Rd w D v ((textB row).map bv) → (convert 84 9 v).run Tryz.prog w = .ok (.string sr) w) := Lib.hid fun w D v h => by rw [hsr]; exact run_str Tryz.underlying84 Tryz.underlying5 Tryz.underlying9 h
 have UC : Hid (∀ (w : World) (D : Nat) (v : Value), Rd w D v ((textB col).map bv) → (convert 84 9 v).run Tryz.prog w = .ok (.string sc) w) := Lib.hid fun w D v h => by rw [hsc]; exact run_str Tryz.underlying84 Tryz.underlying5 Tryz.underlying9 h
 clear hsr hsc
 have HT : Hid (Below w.heap.size w w.drew) := Lib.hid (Below.refl _ _).drew
 have HU : Hid (∀ x y : World, Below w.heap.size w x → Below x.heap.size x y → Below w.heap.size w y) := Lib.hid fun x y h k => bwstep h k
 go_enter Tryz.func124, Tryz.ntmps124
 go_wp2_with fail
 go_region_law
  (first
   | (go_simp; go_at_call 68; with_reducible refine (text_ok row _ hr).mono ?_; rintro e w1 ⟨v1, rfl, ho1, hb1⟩; have c1 := US.out _ _ _ ho1.rd)
   | (go_simp; go_at_call 68; with_reducible refine (text_ok col _ hc).mono ?_; rintro e w2 ⟨v2, rfl, ho2, hb2⟩; have c2 := UC.out _ _ _ ho2.rd; have c1' := US.out _ _ _ (ho1.below hb2).rd))
 all_goals
  go_wp2_with fail
  go_ret
  exact ⟨ret1 (congrArg Value.string HK.out), HU.out _ _ (HU.out _ _ HT.out hb1) hb2⟩
theorem tentry_ok (f : Cl) (n : Nat) (w : World) (hf : f.ok) (hn : n ≤ 4294967295) :
  Calls Tryz.prog 113 #[f.v, .int .i64 (n : Int)] w fun e w' => (∃ x, e = .returned x ∧ Ow w' w.heap.size 5 x ((cellB (keyC f) ++ numB n).map bv)) ∧ Below w.heap.size w w' := by
 have hpu := fun w => put_ok (keyC f) w (keyC_ok hf)
 have hkl := cellB_le (keyC_ok hf)
 go_enter Tryz.func113, Tryz.ntmps113
 go_wp2_with (refine boxC rfl (.tmp 0) f rfl rfl ?_)
 constructor
 intro w1 hI1 hb1 hz1
 have c0 := hI1.c0
 have c1 := hI1.c1
 have c2 := hI1.c2
 clear hz1
 go_wp2_with (refine allocC rfl rfl ?_)
 constructor
 intro w2 hI2 hb2 hz2
 go_wp2_with (refine storeC (c := keyC f) rfl (.tmp 5) (.tmp 12) rfl rfl rfl hI2 ?_)
 constructor
 intro w3 hs3
 have hI3 := hs3.i
 have HB3 := Lib.hid (bwstep hb1 (hs3.bel hb2 (Nat.le_refl _)))
 clear hI1 hb1 hI2 hb2 hs3 c0 c1 c2 hz2
 go_wp2_with (refine loadC rfl (.tmp 5) rfl rfl hI3 ?_)
 refine (hpu _).mono ?_
 rintro e w4 ⟨⟨x4, rfl, hx4⟩, hb4⟩
 have HB4 := Lib.hid (bwstep HB3.out hb4)
 have HX4 := Lib.hid (hx4.mono HB3.out.size)
 clear hb4 hx4 hI3
 go_wp2_with fail
 refine (num_ok n _ hn).mono ?_
 rintro e w5 ⟨q5, rfl, hq5, hb5⟩
 have hx5 := HX4.out.below hb5
 have hr5 := hq5.rd
 have hB5 := bwstep HB4.out hb5
 have hz5 : (cellB (keyC f)).length + (numB n).length ≤ 140737488355328 := by rw [numB_len]; omega
 have hs5 := hB5.size
 clear hq5 hb5 HX4
 go_wp2_with (at_builtin; refine wpList_appB bytesT rfl (.tmp 14) (.tmp 16) rfl rfl hx5 rfl hr5 hz5 hs5 ?_; intro v6 w6 ho6 hg6 h6; have HO6 := Lib.hid ho6; have HB6 := Lib.hid (hB5.grown hg6 hs5 hx5.ge); clear ho6 hg6 h6)
 go_ret
 exact ⟨⟨_, rfl, HO6.out⟩, HB6.out⟩
theorem tfilter_ok (v : Value) (L : List Cl) (w : World) (hv : RdL w [] v L) (hok : ∀ c ∈ L, c.ok) (hl : L.length ≤ 1000000) :
  Calls Tryz.prog 115 #[v] w fun e w' => (∃ x, e = .returned x ∧ Ow w' w.heap.size 5 x ((filt L).map bv)) ∧ Below w.heap.size w w' := by
 obtain ⟨A, c, rfl, hc, hm⟩ := hv.shape
 unfold maxLen at hm
 have HV := Lib.hid hv
 have HOK := Lib.hid hok
 clear hv hok
 go_enter Tryz.func115, Tryz.ntmps115
 go_wp2_with fail
 go_loopw [3, 8] (fun v i wr => ∃ k : Nat, k ≤ L.length ∧ i = .int .i64 (k : Int) ∧ Ow wr w.heap.size 9 v ((keysS (L.take k)).map sv) ∧ Below w.heap.size w wr) (fun _ i _ => L.length - (intOf i).toNat)
 case atStart => exact ⟨0, Nat.zero_le _, rfl, by simpa [keysS] using Ow.nil _ _ _, Below.refl _ _⟩
 case round =>
  obtain ⟨k, hk, rfl, ho, hb⟩ := hrel
  by_cases hlt : k < L.length
  ·obtain ⟨b, off, rfl, -⟩ := HV.out.open_ (by omega)
   have hh3 : (0 : Int) ≤ (k : Int) := by omega
   have hh4 : (k : Int) < (L.length : Int) := by omega
   have hfk : L[k]? = some (L[k]'hlt) := List.getElem?_eq_getElem _
   generalize L[k]'hlt = f at hfk
   obtain ⟨h5, hbl⟩ := (HV.out.bel hb).at_ hfk
   obtain ⟨c0, c1, c2, c3, c4⟩ := h5
   have HKS := Lib.hid (keysS_snoc hfk)
   have hokf := HOK.out f (List.mem_of_getElem? hfk)
   have htk := fun w => ttext_any f.row f.col w (by have := hokf.r2; omega) (by have := hokf.c2; omega)
   have hsz2 : (keysS (L.take k)).length + 1 ≤ 2000000 := by simp [keysS]; omega
   have hsz3 : ((keysS (L.take k)).map sv).length + ([keyS f.row f.col].map sv).length ≤ maxLen := by simp [maxLen]; omega
   have hsz4 : (((keysS (L.take k)).map sv).length + ([keyS f.row f.col].map sv).length) * 16 ≤ 140737488355328 := by simp; omega
   have HO := Lib.hid ho
   have HBW := Lib.hid hb
   have HBS := hb.size
   clear hfk hokf ho hb hbl
   obtain ⟨wi, hwi⟩ : ∃ wi, wi = wr := ⟨_, rfl⟩
   subst hwi
   go_wp2_with (refine allocC rfl rfl ?_)
   constructor
   intro w3 hI3 hb3 hz3
   go_wp2_with (refine storeC (c := f) rfl (.tmp 5) (.tmp 11) rfl rfl rfl hI3 ?_)
   constructor
   intro w4 hs4
   have hI4 := hs4.i
   have g0 := hI4.c0
   have g1 := hI4.c1
   have HB4 := Lib.hid (bwstep HBW.out (hs4.bel hb3 (Nat.le_refl _)))
   have HO4 := Lib.hid (HO.out.below (hs4.bel hb3 (Nat.le_refl _)))
   clear hI3 hb3 hs4 hI4 HO hz3 c0 c1 c2 c3 c4
   go_wp2_with fail
   refine (htk _).mono ?_
   rintro e w5 ⟨rfl, hb5⟩
   have hB5 := bwalloc (bwstep HB4.out hb5) (.cells #[.string (keyS f.row f.col)] 9)
   have hO5 := (HO4.out.below hb5).below (bwalloc (bwrefl w5) (.cells #[.string (keyS f.row f.col)] 9))
   have hx5 := Rd.newW (xs := [keyS f.row f.col].map sv) w5 9 #[.string (keyS f.row f.col)] rfl (by simp [maxLen]) rfl
   have hs5 := hB5.size
   clear hb5 HO4 g0 g1
   go_wp2_with (at_builtin; refine wpList_app textT rfl rfl (.tmp 12) (.tmp 18) rfl rfl hO5 rfl hx5 (one_sv _) hsz3 hsz4 hs5 ?_; intro v6 w6 ho6 hg6 h6; have HO6 := Lib.hid ho6; have HB6 := Lib.hid (hB5.grown hg6 hs5 hO5.ge); clear ho6 hg6 h6)
   rw [← List.map_append, ← HKS.out] at HO6
   go_roundw
   case rel => exact ⟨k + 1, by omega, by go_num, HO6.out, HB6.out⟩
   case measure => simp [intOf]; omega
  ·obtain rfl : k = L.length := by omega
   rw [List.take_length] at ho
   have hkr := ho.rd
   have hks : ∀ s ∈ keysS L, s.size ≤ 140737488351232 := by
    intro s hs
    obtain ⟨c, hc, rfl⟩ := List.mem_map.1 hs
    have hk := HOK.out c hc
    have h1 := hk.r2
    have h2 := hk.c2
    show (⟨(keyT c.row c.col).toArray⟩ : ByteArray).size ≤ _
    rw [ba_size]
    unfold keyT
    rw [List.length_append, textB_len, textB_len]
    omega
   have hkl : (keysS L).length = L.length := by simp [keysS]
   have hmk := Blm.make_any _ (keysS L) wr hkr (by omega) hks
   rw [keysS_kl] at hmk
   have HFD : Hid (Blm.mkB (L.map keyOf) = filt L) := Lib.hid rfl
   rw [HFD.out] at hmk
   have HB := Lib.hid hb
   clear HFD hkr hks hkl hb ho
   go_wp2_with fail
   refine hmk.mono ?_
   rintro e wa ⟨⟨xa, rfl, hxa⟩, hba⟩
   have HX := Lib.hid (hxa.mono HB.out.size)
   have HBA := Lib.hid (bwstep HB.out hba)
   clear hxa hba hmk
   go_wp2_with fail
   go_ret
   exact ⟨⟨_, rfl, HX.out⟩, HBA.out⟩
end Go.Proofs.YtcpkhhbbjimdaaaGreatDoor.Ce
