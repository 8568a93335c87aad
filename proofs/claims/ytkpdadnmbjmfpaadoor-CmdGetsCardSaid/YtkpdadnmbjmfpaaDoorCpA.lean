/- A cell's bytes; the contracts of flag and Put of package cell. The contracts of cutFlag and split of package cell. What stands at the beginning of bytes: a cell, or none. Plain. The contract of Cut of package cell. -/
import Derived.Test.YtkpdadnmbjmfpaaDoorClA
import Derived.Test.YtkpdadnmbjmfpaaDoorGrC
import Derived.Test.YtkpdadnmbjmfpaaDoorFrmA
import Derived.Test.YtkpdadnmbjmfpaaDoorRef1
import Derived.Deep.RegionWith
namespace Go.Proofs.YtkpdadnmbjmfpaaDoor.Ce
open Go.RowKit

/-- a cell's byte -/
def flagB (g : Bool) : List UInt8 := [if g then 1 else 0]
def cellB (c : Cl) : List UInt8 := textB c.row ++ (textB c.col ++ (numB c.at_.toNat ++ (flagB c.gone ++ textB c.val)))
theorem cellB_len (c : Cl) : (cellB c).length = 17 + c.row.size + c.col.size + c.val.size := by
  unfold cellB
  simp only [List.length_append, textB_len, numB_len, flagB, List.length_singleton]
  omega
theorem build5 {w : World} {a b c d f : Value} {x y z u s : List UInt8} (e : Nat) (ha : Rd w w.heap.size a (x.map bv)) (hb : Rd w w.heap.size b (y.map bv)) (hc : Rd w w.heap.size c (z.map bv)) (hd : Rd w w.heap.size d (u.map bv)) (hf : Rd w w.heap.size f (s.map bv)) :
    RdM (w.alloc (.cells #[a, b, c, d, f] e)) (w.alloc (.cells #[a, b, c, d, f] e)).heap.size (.slice (some ⟨w.heap.size, 0, none⟩) 5 5) 5 (gl [x, y, z, u, s]) := by
  have hal := bwalloc (bwrefl w) (.cells #[a, b, c, d, f] e)
  refine ⟨fun i => [a, b, c, d, f].getD i undef, Rd.newW w e #[a, b, c, d, f] rfl (by simp [maxLen]) rfl, fun j hj => ?_⟩
  match j, hj with
  | 0, _ => exact ha.up hal
  | 1, _ => exact hb.up hal
  | 2, _ => exact hc.up hal
  | 3, _ => exact hd.up hal
  | 4, _ => exact hf.up hal
theorem flatG5 (x y z u s : List UInt8) : flatG (gl [x, y, z, u, s]) 5 = x ++ (y ++ (z ++ (u ++ s))) := by
  show (((([] ++ x) ++ y) ++ z) ++ u) ++ s = _
  simp
def AllC (g : Nat) (c : Cl) (w1 w' : World) : Prop := w'.cell? ⟨g, 0, none⟩ = some (.string c.row) ∧ w'.cell? ⟨g, 1, none⟩ = some (.string c.col) ∧ w'.cell? ⟨g, 2, none⟩ = some (.int .i64 c.at_) ∧ w'.cell? ⟨g, 3, none⟩ = some (.string c.val) ∧ w'.cell? ⟨g, 4, none⟩ = some (.bool c.gone) ∧ Below w1.heap.size w1 w'
theorem AllC.of {g : Nat} {c : Cl} {w1 w' : World} (h : InC g c w1) (hb : Below w1.heap.size w1 w') : AllC g c w1 w' := let p := h.up hb; ⟨p.c0, p.c1, p.c2, p.c3, p.c4, hb⟩
theorem num_int (n : Int) (w : World) (h0 : 0 ≤ n) (h1 : n ≤ 4294967295) : Calls Tryd.prog 30 #[.int .i64 n] w fun e w' => ∃ v, e = .returned v ∧ Ow w' w.heap.size 5 v ((numB n.toNat).map bv) ∧ Below w.heap.size w w' := by
  have := num_ok n.toNat w (by omega)
  rw [Int.toNat_of_nonneg h0] at this
  exact this
end Go.Proofs.YtkpdadnmbjmfpaaDoor.Ce

namespace Go.Proofs.YtkpdadnmbjmfpaaDoor.Ce
open Go.RowKit

/-! a text, a number, a byte at the beginning; nothing where there is none -/
noncomputable def ctOk (l : List UInt8) : Bool := @decide (textOk l) (Classical.propDecidable _)
noncomputable def ctS (l : List UInt8) : ByteArray := if ctOk l = true then ⟨(textOf l).toArray⟩ else ⟨#[]⟩
noncomputable def ctR (l : List UInt8) : List UInt8 := if ctOk l = true then textRest l else []
def cnN (l : List UInt8) : Nat := if 4 ≤ l.length then numOf l else 0
def cnR (l : List UInt8) : List UInt8 := if 4 ≤ l.length then l.drop 4 else []
def cfOk : List UInt8 → Bool
  | [] => false
  | f :: _ => decide (f.toNat ≤ 1)
def cfB : List UInt8 → Bool
  | [] => false
  | f :: _ => decide (f.toNat = 1)
def cfR : List UInt8 → List UInt8
  | [] => []
  | f :: m => if f.toNat ≤ 1 then m else []
theorem ctOk_iff {l : List UInt8} : ctOk l = true ↔ textOk l := by unfold ctOk; simp
theorem ctR_len (l : List UInt8) : (ctR l).length ≤ l.length := by
  unfold ctR textRest
  split
  · simp
  · simp
theorem cnR_len (l : List UInt8) : (cnR l).length ≤ l.length := by
  unfold cnR
  split
  · simp
  · simp
theorem cfR_len (l : List UInt8) : (cfR l).length ≤ l.length := by
  cases l with
  | nil => simp [cfR]
  | cons f m =>
    show (if f.toNat ≤ 1 then m else []).length ≤ m.length + 1
    split
    · simp
    · simp
theorem cutText_any (x : Value) (l : List UInt8) (B : Nat) (w : World) (hr : Rd w B x (l.map bv)) (hl : l.length ≤ 1000000000000) :
    Calls Tryd.prog 33 #[x] w fun e w' => (∃ r, e = .returned (.tuple #[.string (ctS l), r, .bool (ctOk l)]) ∧ Ow w' w.heap.size 5 r ((ctR l).map bv)) ∧ Below w.heap.size w w' := by
  by_cases h : textOk l
  · have h1 := ctOk_iff.2 h
    unfold ctS ctR
    rw [h1, if_pos rfl, if_pos rfl]
    exact (cutText_ok x l B w hr h hl).mono fun _ _ ⟨r, he, ho, hb⟩ => ⟨⟨r, he, ho⟩, hb⟩
  · have h1 : ctOk l = false := by cases hq : ctOk l with | true => exact absurd (ctOk_iff.1 hq) h | false => rfl
    unfold ctS ctR
    rw [h1, if_neg (by simp), if_neg (by simp)]
    exact (cutText_no x l B w hr h).mono fun _ _ ⟨r, he, ho, hb⟩ => ⟨⟨r, he, ho⟩, hb⟩
theorem cutNum_any (x : Value) (l : List UInt8) (B : Nat) (w : World) (hr : Rd w B x (l.map bv)) (hl : l.length ≤ 1000000000000) :
    Calls Tryd.prog 32 #[x] w fun e w' => (∃ r q, e = .returned (.tuple #[.int .i64 (cnN l : Int), r, .bool q]) ∧ Ow w' w.heap.size 5 r ((cnR l).map bv)) ∧ Below w.heap.size w w' := by
  by_cases h : 4 ≤ l.length
  · unfold cnN cnR
    rw [if_pos h, if_pos h]
    exact (cutNum_ok x l B w hr h hl).mono fun _ _ ⟨r, he, ho, hb⟩ => ⟨⟨r, _, he, ho⟩, hb⟩
  · unfold cnN cnR
    rw [if_neg h, if_neg h]
    exact (cutNum_no x l B w hr (by omega)).mono fun _ _ ⟨r, he, ho, hb⟩ => ⟨⟨r, _, he, ho⟩, hb⟩
theorem SetC.ow {g B e : Nat} {c : Cl} {w w' : World} {v : Value} {xs : List Value} (h : SetC g c w w') (ho : Ow w B e v xs) (hg : g < B) : Ow w' B e v xs := by
  obtain ⟨h1, h2⟩ := ho
  refine ⟨h1, ?_⟩
  rcases h2 with h2 | ⟨k, cap, cur, hv, hk, hh, r⟩
  · exact .inl h2
  · exact .inr ⟨k, cap, cur, hv, hk, by rw [h.o k (by omega)]; exact hh, r⟩
/-! split -/
noncomputable def sp1 (l : List UInt8) : List UInt8 := ctR l
noncomputable def sp2 (l : List UInt8) : List UInt8 := ctR (sp1 l)
noncomputable def sp3 (l : List UInt8) : List UInt8 := cnR (sp2 l)
noncomputable def sp4 (l : List UInt8) : List UInt8 := cfR (sp3 l)
noncomputable def spR (l : List UInt8) : List UInt8 := ctR (sp4 l)
noncomputable def spC (l : List UInt8) : Cl := ⟨ctS l, ctS (sp1 l), (cnN (sp2 l) : Int), ctS (sp4 l), cfB (sp3 l)⟩
noncomputable def spOk (l : List UInt8) : Bool := ctOk (sp4 l)
theorem sp_len (l : List UInt8) : (sp1 l).length ≤ l.length ∧ (sp2 l).length ≤ l.length ∧ (sp3 l).length ≤ l.length ∧ (sp4 l).length ≤ l.length ∧ (spR l).length ≤ l.length := by
  have h1 := ctR_len l
  have h2 := ctR_len (sp1 l)
  have h3 := cnR_len (sp2 l)
  have h4 := cfR_len (sp3 l)
  have h5 := ctR_len (sp4 l)
  unfold spR
  unfold sp4 at *
  unfold sp3 at *
  unfold sp2 at *
  unfold sp1 at *
  omega
end Go.Proofs.YtkpdadnmbjmfpaaDoor.Ce

namespace Go.Proofs.YtkpdadnmbjmfpaaDoor.Ce
open Go.RowKit

theorem ct_inv {l : List UInt8} (h : ctOk l = true) : l = textB (ctS l) ++ ctR l := by
  have ht := ctOk_iff.1 h
  obtain ⟨h4, hn⟩ := ht
  unfold ctS ctR
  rw [if_pos h, if_pos h]
  have hlen : (textOf l).length = numOf l := by unfold textOf; simp; omega
  have hsz : (⟨(textOf l).toArray⟩ : ByteArray).size = numOf l := by rw [← hlen]; rfl
  unfold textB
  rw [hsz]
  have e4 : numB (numOf l) = l.take 4 := by
    have e : numOf l = numOf (l.take 4) := by
      unfold numOf
      simp only [List.getD_eq_getElem?_getD, List.getElem?_take]
      simp
    rw [e]
    exact Frm.numB_numOf _ (by simp; omega)
  rw [e4, List.append_assoc]
  show l = l.take 4 ++ (textOf l ++ textRest l)
  unfold textOf textRest
  rw [List.take_append_drop, List.take_append_drop]
theorem ct_of (s : ByteArray) (hs : s.size ≤ 4294967295) (m : List UInt8) : ctOk (textB s ++ m) = true ∧ ctS (textB s ++ m) = s ∧ ctR (textB s ++ m) = m := by
  have h := textOk_textB s hs m
  have h1 := ctOk_iff.2 h
  refine ⟨h1, ?_, ?_⟩
  · unfold ctS
    rw [if_pos h1, textOf_textB s hs m]
  · unfold ctR
    rw [if_pos h1, textRest_textB s hs m]
theorem ctOk_nil : ctOk [] = false := by
  cases h : ctOk [] with
  | false => rfl
  | true =>
    have := (ctOk_iff.1 h).1
    simp at this
theorem ctR_ne {l : List UInt8} (h : ctR l ≠ []) : ctOk l = true := by
  cases hq : ctOk l with
  | true => rfl
  | false =>
    exfalso
    apply h
    unfold ctR
    rw [hq]
    simp
theorem cn_inv {l : List UInt8} (h : cnR l ≠ []) : l = numB (cnN l) ++ cnR l ∧ cnN l ≤ 4294967295 := by
  by_cases h4 : 4 ≤ l.length
  · unfold cnN cnR
    rw [if_pos h4, if_pos h4]
    have hlt := numOf_lt l
    refine ⟨?_, by omega⟩
    have e : numOf l = numOf (l.take 4) := by
      unfold numOf
      simp only [List.getD_eq_getElem?_getD, List.getElem?_take]
      simp
    rw [e, Frm.numB_numOf _ (by simp; omega), List.take_append_drop]
  · exfalso
    apply h
    unfold cnR
    rw [if_neg h4]
theorem cf_inv {l : List UInt8} (h : cfR l ≠ [] ∨ cfOk l = true) : l = flagB (cfB l) ++ cfR l := by
  cases l with
  | nil =>
    rcases h with h | h
    · exact absurd rfl h
    · cases h
  | cons f m =>
    have hf : f.toNat ≤ 1 := by
      rcases h with h | h
      · by_cases hf : f.toNat ≤ 1
        · exact hf
        · exfalso
          apply h
          show (if f.toNat ≤ 1 then m else []) = []
          rw [if_neg hf]
      · simpa [cfOk] using h
    have e3 : cfR (f :: m) = m := by show (if f.toNat ≤ 1 then m else []) = m; rw [if_pos hf]
    rw [e3]
    show f :: m = [if decide (f.toNat = 1) = true then 1 else 0] ++ m
    by_cases h1 : f.toNat = 1
    · rw [decide_eq_true h1, if_pos rfl]
      have : f = 1 := UInt8.toNat_inj.1 (by rw [h1]; rfl)
      rw [this]; rfl
    · rw [decide_eq_false h1, if_neg (by simp)]
      have : f = 0 := UInt8.toNat_inj.1 (by rw [show f.toNat = 0 by omega]; rfl)
      rw [this]; rfl
theorem split_inv {l : List UInt8} (h : spOk l = true) : l = cellB (spC l) ++ spR l := by
  have h4 : ctOk (sp4 l) = true := h
  have n4 : sp4 l ≠ [] := fun e => by rw [e, ctOk_nil] at h4; cases h4
  have f3 := cf_inv (l := sp3 l) (.inl n4)
  have n3 : sp3 l ≠ [] := fun e => n4 (by unfold sp4; rw [e]; rfl)
  obtain ⟨f2, b2⟩ := cn_inv (l := sp2 l) n3
  have n2 : sp2 l ≠ [] := fun e => by
    apply n3
    unfold sp3 cnR
    rw [e]; rfl
  have h1 : ctOk (sp1 l) = true := ctR_ne n2
  have n1 : sp1 l ≠ [] := fun e => by rw [e, ctOk_nil] at h1; cases h1
  have h0 : ctOk l = true := ctR_ne n1
  have e0 := ct_inv h0
  have e1 := ct_inv h1
  have e4 := ct_inv h4
  unfold cellB
  show l = textB (ctS l) ++ (textB (ctS (sp1 l)) ++ (numB (cnN (sp2 l) : Int).toNat ++ (flagB (cfB (sp3 l)) ++ textB (ctS (sp4 l))))) ++ spR l
  rw [Int.toNat_natCast]
  simp only [List.append_assoc]
  have a4 : textB (ctS (sp4 l)) ++ spR l = sp4 l := e4.symm
  have a3 : flagB (cfB (sp3 l)) ++ sp4 l = sp3 l := f3.symm
  have a2 : numB (cnN (sp2 l)) ++ sp3 l = sp2 l := f2.symm
  have a1 : textB (ctS (sp1 l)) ++ sp2 l = sp1 l := e1.symm
  rw [a4, a3, a2, a1]
  exact e0
theorem cn_of (n : Nat) (h : n ≤ 4294967295) (m : List UInt8) : cnN (numB n ++ m) = n ∧ cnR (numB n ++ m) = m := by
  have h4 : 4 ≤ (numB n ++ m).length := by rw [List.length_append, numB_len]; omega
  unfold cnN cnR
  rw [if_pos h4, if_pos h4]
  exact ⟨numOf_numB n h m, rfl⟩
theorem cf_of (g : Bool) (m : List UInt8) : cfB (flagB g ++ m) = g ∧ cfR (flagB g ++ m) = m ∧ cfOk (flagB g ++ m) = true := by
  cases g
  · exact ⟨rfl, rfl, rfl⟩
  · exact ⟨rfl, rfl, rfl⟩
theorem split_of {c : Cl} (h : c.ok) (m : List UInt8) : spOk (cellB c ++ m) = true ∧ spC (cellB c ++ m) = c ∧ spR (cellB c ++ m) = m := by
  have l1 : c.row.size ≤ 4294967295 := by have := h.r2; omega
  have l2 : c.col.size ≤ 4294967295 := by have := h.c2; omega
  have l3 : c.val.size ≤ 4294967295 := by have := h.v; omega
  have l4 : c.at_.toNat ≤ 4294967295 := by have := h.a2; omega
  have e : cellB c ++ m = textB c.row ++ (textB c.col ++ (numB c.at_.toNat ++ (flagB c.gone ++ (textB c.val ++ m)))) := by unfold cellB; simp
  obtain ⟨a1, a2, a3⟩ := ct_of c.row l1 (textB c.col ++ (numB c.at_.toNat ++ (flagB c.gone ++ (textB c.val ++ m))))
  obtain ⟨b1, b2, b3⟩ := ct_of c.col l2 (numB c.at_.toNat ++ (flagB c.gone ++ (textB c.val ++ m)))
  obtain ⟨c1, c2⟩ := cn_of c.at_.toNat l4 (flagB c.gone ++ (textB c.val ++ m))
  obtain ⟨d1, d2, d3⟩ := cf_of c.gone (textB c.val ++ m)
  obtain ⟨e1, e2, e3⟩ := ct_of c.val l3 m
  rw [e]
  unfold spOk spC spR sp4 sp3 sp2 sp1
  rw [a3, b3, c2, d2, a2, b2, c1, d1, e2, e3]
  refine ⟨e1, ?_, rfl⟩
  rw [Int.toNat_of_nonneg h.a1]
/-- a cell stands at the beginning -/
def Stands (l : List UInt8) (c : Cl) (m : List UInt8) : Prop := c.ok ∧ l = cellB c ++ m
theorem Stands.one {l m m' : List UInt8} {c c' : Cl} (h : Stands l c m) (k : Stands l c' m') : c = c' ∧ m = m' := by
  obtain ⟨h1, h2⟩ := h
  obtain ⟨k1, k2⟩ := k
  obtain ⟨-, a, b⟩ := split_of h1 m
  obtain ⟨-, a', b'⟩ := split_of k1 m'
  rw [← h2] at a b
  rw [← k2] at a' b'
  exact ⟨a.symm.trans a', b.symm.trans b'⟩
theorem stands_iff {l : List UInt8} : (∃ c m, Stands l c m) ↔ spOk l = true ∧ (spC l).ok := by
  constructor
  · rintro ⟨c, m, h, rfl⟩
    obtain ⟨h1, h2, -⟩ := split_of h m
    exact ⟨h1, by rw [h2]; exact h⟩
  · rintro ⟨h1, h2⟩
    exact ⟨_, _, h2, split_inv h1⟩
theorem cellB_le {c : Cl} (h : c.ok) : (cellB c).length ≤ 401 := by
  rw [cellB_len]
  have := h.r2
  have := h.c2
  have := h.v
  omega
/-- of the first 401 bytes the same is told -/
theorem stands_head {l m : List UInt8} {c : Cl} (h : Stands l c m) : Stands (l.take 401) c (m.take (401 - (cellB c).length)) := by
  obtain ⟨h1, rfl⟩ := h
  have := cellB_le h1
  refine ⟨h1, ?_⟩
  rw [List.take_append, List.take_of_length_le (by omega)]
theorem head_stands {l m : List UInt8} {c : Cl} (h : Stands (l.take 401) c m) : Stands l c (m ++ l.drop 401) := by
  obtain ⟨h1, h2⟩ := h
  refine ⟨h1, ?_⟩
  rw [← List.append_assoc, ← h2, List.take_append_drop]
/-- what the program's Cut sees -/
theorem head_ok {l m : List UInt8} {c : Cl} (h : Stands l c m) : spOk (l.take 401) = true ∧ spC (l.take 401) = c ∧ (l.take 401).length - (spR (l.take 401)).length = (cellB c).length ∧ (spR (l.take 401)).length ≤ (l.take 401).length ∧ l.drop (cellB c).length = m := by
  have hs := stands_head h
  obtain ⟨h1, h2, h3⟩ := split_of hs.1 (m.take (401 - (cellB c).length))
  rw [← hs.2] at h1 h2 h3
  refine ⟨h1, h2, ?_, ?_, ?_⟩
  · rw [h3]
    have := congrArg List.length hs.2
    rw [List.length_append] at this
    omega
  · exact (sp_len _).2.2.2.2
  · rw [h.2, List.drop_left]
theorem head_no {l : List UInt8} (h : ¬ ∃ c m, Stands l c m) (h1 : spOk (l.take 401) = true) : ¬ (spC (l.take 401)).ok := fun h2 => by
  obtain ⟨c, m, hs⟩ := stands_iff.2 ⟨h1, h2⟩
  exact h ⟨c, _, head_stands hs⟩
end Go.Proofs.YtkpdadnmbjmfpaaDoor.Ce

namespace Go.Proofs.YtkpdadnmbjmfpaaDoor.Ce
open Go.RowKit

section
variable {ops : Array Oper} {o : Oper} {a : Act} {w : World} {K0 : Act → World → Prop} {Q : Exit → Act → World → Prop} {g : Nat} {c c0 : Cl}
theorem wp_storeC (x y : Operand) (ho : o.op = .store 38 x y) (hx : a.eval x = .pointer (some ⟨g, 0, none⟩)) (hy : a.eval y = c.v) (hi : InC g c0 w)
    (h : ∀ w', SetC g c w w' → K0 (a.put o.dst undef) w') : o.wp Tryd.prog a w K0 Q :=
  wp_store_row 38 x y ho g c.cs hx hy 38 c0.cs hi.h sizeC rfl (cs_one c) (h _ (SetC.of hi))
end
/-- the result's variable g, the cell's k -/
structure CutS (w : World) (g k : Nat) (d c : Cl) (w' : World) : Prop where
  ig : InC g d w'
  ik : InC k c w'
  ne : k ≠ g
  ge : w.heap.size ≤ g
  bel : Below w.heap.size w w'
theorem CutS.up {w : World} {g k : Nat} {d c : Cl} {a b : World} (h : CutS w g k d c a) (hb : Below a.heap.size a b) : CutS w g k d c b := ⟨h.ig.up hb, h.ik.up hb, h.ne, h.ge, bwstep h.bel hb⟩
theorem CutS.set {w : World} {g k : Nat} {d c e : Cl} {a b : World} (h : CutS w g k d c a) (hs : SetC g e a b) : CutS w g k e c b := ⟨hs.i, hs.up h.ik h.ne, h.ne, h.ge, hs.bel h.bel h.ge⟩
/-- a cell is stored, cell by cell -/
theorem chain5 {g : Nat} {d c : Cl} {a : World} (h : InC g d a) : SetC g c a (((((a.setCell ⟨g, 0, none⟩ (.string c.row)).setCell ⟨g, 1, none⟩ (.string c.col)).setCell ⟨g, 2, none⟩ (.int .i64 c.at_)).setCell ⟨g, 3, none⟩ (.string c.val)).setCell ⟨g, 4, none⟩ (.bool c.gone)) := by
  refine ⟨⟨?_⟩, ?_, by simp, fun k hk => ?_⟩
  · have h0 := heap_setCell_same a g 0 _ _ (.string c.row) h.h
    have h1 := heap_setCell_same _ g 1 _ _ (.string c.col) h0
    have h2 := heap_setCell_same _ g 2 _ _ (.int .i64 c.at_) h1
    have h3 := heap_setCell_same _ g 3 _ _ (.string c.val) h2
    have h4 := heap_setCell_same _ g 4 _ _ (.bool c.gone) h3
    rw [h4]
    rfl
  · exact (((((Below.refl _ _).setCell (by simp) _).setCell (by simp) _).setCell (by simp) _).setCell (by simp) _).setCell (by simp) _
  · rw [heap_setCell_other _ _ _ _ (by simpa using hk), heap_setCell_other _ _ _ _ (by simpa using hk), heap_setCell_other _ _ _ _ (by simpa using hk), heap_setCell_other _ _ _ _ (by simpa using hk), heap_setCell_other _ _ _ _ (by simpa using hk)]
def Zfro (g : Nat) (a : World) : Prop := a.frozen? ⟨g, 0, none⟩ = false ∧ a.frozen? ⟨g, 1, none⟩ = false ∧ a.frozen? ⟨g, 2, none⟩ = false ∧ a.frozen? ⟨g, 3, none⟩ = false ∧ a.frozen? ⟨g, 4, none⟩ = false
theorem InC.fro {g : Nat} {d : Cl} {a : World} (h : InC g d a) : Zfro g a := ⟨frozen_of_row _ _ _ _ _ h.h, frozen_of_row _ _ _ _ _ h.h, frozen_of_row _ _ _ _ _ h.h, frozen_of_row _ _ _ _ _ h.h, frozen_of_row _ _ _ _ _ h.h⟩
def Five (g : Nat) (c : Cl) (a : World) : Prop := a.cell? ⟨g, 0, none⟩ = some (.string c.row) ∧ a.cell? ⟨g, 1, none⟩ = some (.string c.col) ∧ a.cell? ⟨g, 2, none⟩ = some (.int .i64 c.at_) ∧ a.cell? ⟨g, 3, none⟩ = some (.string c.val) ∧ a.cell? ⟨g, 4, none⟩ = some (.bool c.gone)
theorem InC.five {g : Nat} {d : Cl} {a : World} (h : InC g d a) : Five g d a := ⟨h.c0, h.c1, h.c2, h.c3, h.c4⟩
theorem zcs : Cl.zero.cs = #[.string ⟨#[]⟩, .string ⟨#[]⟩, .int .i64 0, .string ⟨#[]⟩, .bool false] := rfl
end Go.Proofs.YtkpdadnmbjmfpaaDoor.Ce
