/- A cell's bytes; the contracts of flag and Put of package cell. The contracts of cutFlag and split of package cell. What stands at the beginning of bytes: a cell, or none. Plain. The contract of Cut of package cell. -/
import Derived.Test.YtpmlfhgdhnofbaaClA
import Derived.Test.YtpmlfhgdhnofbaaLow
import Derived.Test.YtpmlfhgdhnofbaaFrmA
import Derived.Deep.RegionWith
namespace Go.Proofs.Ytpmlfhgdhnofbaa.Ce
open Go.RowKit
def flagB (g : Bool) : List UInt8 := [if g then 1 else 0]
def cellB (c : Cl) : List UInt8 := textB c.row ++ (textB c.col ++ (numB c.at_.toNat ++ (flagB c.gone ++ textB c.val)))
theorem cellB_len (c : Cl) : (cellB c).length = 17 + c.row.size + c.col.size + c.val.size := by
 unfold cellB
 simp only [List.length_append, textB_len, numB_len, flagB, List.length_singleton]
 omega
theorem num_int (n : Int) (w : World) (h0 : 0 ≤ n) (h1 : n ≤ 4294967295) : Calls Try.prog 33 #[.int .i64 n] w fun e w' => ∃ v, e = .returned v ∧ Ow w' w.heap.size 5 v ((numB n.toNat).map bv) ∧ Below w.heap.size w w' := by
 have := num_ok n.toNat w (by omega)
 rw [Int.toNat_of_nonneg h0] at this
 exact this
end Go.Proofs.Ytpmlfhgdhnofbaa.Ce
namespace Go.Proofs.Ytpmlfhgdhnofbaa.Ce
open Go.RowKit
noncomputable def ctOk (l : List UInt8) : Bool := @decide (textOk l) (Classical.propDecidable _)
noncomputable def ctS (l : List UInt8) : ByteArray := if ctOk l = true then ⟨(textOf l).toArray⟩ else ⟨#[]⟩
noncomputable def ctR (l : List UInt8) : List UInt8 := if ctOk l = true then textRest l else []
def cnN (l : List UInt8) : Nat := if 4 ≤ l.length then numOf l else 0
def cnR (l : List UInt8) : List UInt8 := if 4 ≤ l.length then l.drop 4 else []
def cfOk : List UInt8 → Bool
 | [] => false
 | f :: _ => decide (f.toNat ≤ 1)
def cfB : List UInt8 → Bool
 | [] => false
 | f :: _ => decide (f.toNat = 1)
def cfR : List UInt8 → List UInt8
 | [] => []
 | f :: m => if f.toNat ≤ 1 then m else []
theorem ctOk_iff {l : List UInt8} : ctOk l = true ↔ textOk l := by unfold ctOk; simp
noncomputable def sp1 (l : List UInt8) : List UInt8 := ctR l
noncomputable def sp2 (l : List UInt8) : List UInt8 := ctR (sp1 l)
noncomputable def sp3 (l : List UInt8) : List UInt8 := cnR (sp2 l)
noncomputable def sp4 (l : List UInt8) : List UInt8 := cfR (sp3 l)
noncomputable def spR (l : List UInt8) : List UInt8 := ctR (sp4 l)
noncomputable def spC (l : List UInt8) : Cl := ⟨ctS l, ctS (sp1 l), (cnN (sp2 l) : Int), ctS (sp4 l), cfB (sp3 l)⟩
noncomputable def spOk (l : List UInt8) : Bool := ctOk (sp4 l)
end Go.Proofs.Ytpmlfhgdhnofbaa.Ce
namespace Go.Proofs.Ytpmlfhgdhnofbaa.Ce
open Go.RowKit
theorem ct_inv {l : List UInt8} (h : ctOk l = true) : l = textB (ctS l) ++ ctR l := by
 have ht := ctOk_iff.1 h
 obtain ⟨h4, hn⟩ := ht
 unfold ctS ctR
 rw [if_pos h, if_pos h]
 have hlen : (textOf l).length = numOf l := by unfold textOf; simp; omega
 have hsz : (⟨(textOf l).toArray⟩ : ByteArray).size = numOf l := by rw [← hlen]; rfl
 unfold textB
 rw [hsz]
 have e4 : numB (numOf l) = l.take 4 := by
  have e : numOf l = numOf (l.take 4) := by
   unfold numOf
   simp only [List.getD_eq_getElem?_getD, List.getElem?_take]
   simp
  rw [e]
  exact Frm.numB_numOf _ (by simp; omega)
 rw [e4, List.append_assoc]
 show l = l.take 4 ++ (textOf l ++ textRest l)
 unfold textOf textRest
 rw [List.take_append_drop, List.take_append_drop]
theorem ct_of (s : ByteArray) (hs : s.size ≤ 4294967295) (m : List UInt8) : ctOk (textB s ++ m) = true ∧ ctS (textB s ++ m) = s ∧ ctR (textB s ++ m) = m := by
 have h := textOk_textB s hs m
 have h1 := ctOk_iff.2 h
 refine ⟨h1, ?_, ?_⟩
 ·unfold ctS
  rw [if_pos h1, textOf_textB s hs m]
 ·unfold ctR
  rw [if_pos h1, textRest_textB s hs m]
theorem cn_of (n : Nat) (h : n ≤ 4294967295) (m : List UInt8) : cnN (numB n ++ m) = n ∧ cnR (numB n ++ m) = m := by
 have h4 : 4 ≤ (numB n ++ m).length := by rw [List.length_append, numB_len]; omega
 unfold cnN cnR
 rw [if_pos h4, if_pos h4]
 exact ⟨numOf_numB n h m, rfl⟩
theorem cf_of (g : Bool) (m : List UInt8) : cfB (flagB g ++ m) = g ∧ cfR (flagB g ++ m) = m ∧ cfOk (flagB g ++ m) = true := by
 cases g
 ·exact ⟨rfl, rfl, rfl⟩
 ·exact ⟨rfl, rfl, rfl⟩
theorem split_of {c : Cl} (h : c.ok) (m : List UInt8) : spOk (cellB c ++ m) = true ∧ spC (cellB c ++ m) = c ∧ spR (cellB c ++ m) = m := by
 have l1 : c.row.size ≤ 4294967295 := by have := h.r2; omega
 have l2 : c.col.size ≤ 4294967295 := by have := h.c2; omega
 have l3 : c.val.size ≤ 4294967295 := by have := h.v; omega
 have l4 : c.at_.toNat ≤ 4294967295 := by have := h.a2; omega
 have e : cellB c ++ m = textB c.row ++ (textB c.col ++ (numB c.at_.toNat ++ (flagB c.gone ++ (textB c.val ++ m)))) := by unfold cellB; simp
 obtain ⟨a1, a2, a3⟩ := ct_of c.row l1 (textB c.col ++ (numB c.at_.toNat ++ (flagB c.gone ++ (textB c.val ++ m))))
 obtain ⟨b1, b2, b3⟩ := ct_of c.col l2 (numB c.at_.toNat ++ (flagB c.gone ++ (textB c.val ++ m)))
 obtain ⟨c1, c2⟩ := cn_of c.at_.toNat l4 (flagB c.gone ++ (textB c.val ++ m))
 obtain ⟨d1, d2, d3⟩ := cf_of c.gone (textB c.val ++ m)
 obtain ⟨e1, e2, e3⟩ := ct_of c.val l3 m
 rw [e]
 unfold spOk spC spR sp4 sp3 sp2 sp1
 rw [a3, b3, c2, d2, a2, b2, c1, d1, e2, e3]
 refine ⟨e1, ?_, rfl⟩
 rw [Int.toNat_of_nonneg h.a1]
def Stands (l : List UInt8) (c : Cl) (m : List UInt8) : Prop := c.ok ∧ l = cellB c ++ m
theorem Stands.one {l m m' : List UInt8} {c c' : Cl} (h : Stands l c m) (k : Stands l c' m') : c = c' ∧ m = m' := by
 obtain ⟨h1, h2⟩ := h
 obtain ⟨k1, k2⟩ := k
 obtain ⟨-, a, b⟩ := split_of h1 m
 obtain ⟨-, a', b'⟩ := split_of k1 m'
 rw [← h2] at a b
 rw [← k2] at a' b'
 exact ⟨a.symm.trans a', b.symm.trans b'⟩
end Go.Proofs.Ytpmlfhgdhnofbaa.Ce
namespace Go.Proofs.Ytpmlfhgdhnofbaa.Ce
open Go.RowKit
section
variable {ops : Array Oper} {o : Oper} {a : Act} {w : World} {K0 : Act → World → Prop} {Q : Exit → Act → World → Prop} {g : Nat} {c c0 : Cl}
end
end Go.Proofs.Ytpmlfhgdhnofbaa.Ce
