/- Cells as plain records: when one is right, how two compare, lists of them in order. Plain. Cells as values: a variable that holds one (boxed, made, loaded, stored, handed back), '==' of two, slices of them (read, owned, grown). The contracts of Right and Compare of package cell, and of the reference's; of cmp's functions. The contracts of Compare of package cell, and of the reference's. The contracts of the reference's Text and Compare of layer 8. '!=' of two cells. -/
import Derived.Test.YtpmlfhgdhnofbaaLow
import Derived.Sort.Walk0
import Derived.Test.YtpmlfhgdhnofbaaBase
import Derived.Laws.StructEq
import Derived.Deep.RegionHeld3
import Derived.BigQuiet
namespace Go.Proofs.Ytpmlfhgdhnofbaa.Ce
open Go.RowKit
structure Cl where
 row : ByteArray
 col : ByteArray
 at_ : Int
 val : ByteArray
 gone : Bool
theorem Cl.ext' {a b : Cl} (h1 : a.row = b.row) (h2 : a.col = b.col) (h3 : a.at_ = b.at_) (h4 : a.val = b.val) (h5 : a.gone = b.gone) : a = b := by
 cases a; cases b
 simp only at h1 h2 h3 h4 h5
 subst h1 h2 h3 h4 h5
 rfl
instance : DecidableEq Cl := fun a b => decidable_of_iff (a.row = b.row ∧ a.col = b.col ∧ a.at_ = b.at_ ∧ a.val = b.val ∧ a.gone = b.gone)
 ⟨fun ⟨h1, h2, h3, h4, h5⟩ => Cl.ext' h1 h2 h3 h4 h5, fun h => by subst h; exact ⟨rfl, rfl, rfl, rfl, rfl⟩⟩
def Cl.zero : Cl := ⟨⟨#[]⟩, ⟨#[]⟩, 0, ⟨#[]⟩, false⟩
structure Cl.ok (c : Cl) : Prop where
 r1 : 1 ≤ c.row.size
 r2 : c.row.size ≤ 64
 c1 : 1 ≤ c.col.size
 c2 : c.col.size ≤ 64
 a1 : 0 ≤ c.at_
 a2 : c.at_ ≤ 4294967295
 v : c.val.size ≤ 256
 g : c.gone = true → c.val.size = 0
theorem Cl.ok_iff {c : Cl} : c.ok ↔ (1 ≤ c.row.size ∧ c.row.size ≤ 64) ∧ (1 ≤ c.col.size ∧ c.col.size ≤ 64) ∧ (0 ≤ c.at_ ∧ c.at_ ≤ 4294967295) ∧ c.val.size ≤ 256 ∧ (c.gone = true → c.val.size = 0) :=
 ⟨fun h => ⟨⟨h.r1, h.r2⟩, ⟨h.c1, h.c2⟩, ⟨h.a1, h.a2⟩, h.v, h.g⟩, fun ⟨⟨a, b⟩, ⟨c, d⟩, ⟨e, f⟩, g, h⟩ => ⟨a, b, c, d, e, f, g, h⟩⟩
instance (c : Cl) : Decidable c.ok := decidable_of_iff _ Cl.ok_iff.symm
def scmp (a b : List UInt8) : Int := if a < b then -1 else if b < a then 1 else 0
def icmp (a b : Int) : Int := if a < b then -1 else if b < a then 1 else 0
def or3 (a b c : Int) : Int := if a ≠ 0 then a else if b ≠ 0 then b else c
def ccmp (a b : Cl) : Int := or3 (scmp a.row.data.toList b.row.data.toList) (scmp a.col.data.toList b.col.data.toList) (icmp b.at_ a.at_)
theorem ba_ext {a b : ByteArray} (h : a.data.toList = b.data.toList) : a = b := by
 cases a; cases b
 congr 1
 exact Array.toList_inj.1 h
theorem scmp_cases (a b : List UInt8) : (scmp a b = -1 ∧ a < b) ∨ (scmp a b = 0 ∧ a = b) ∨ (scmp a b = 1 ∧ b < a) := by
 unfold scmp
 by_cases h1 : a < b
 ·exact .inl ⟨by simp [h1], h1⟩
 ·by_cases h2 : b < a
  ·exact .inr (.inr ⟨by simp [h1, h2], h2⟩)
  ·refine .inr (.inl ⟨by simp [h1, h2], ?_⟩)
   exact List.le_antisymm (List.not_lt.1 h2) (List.not_lt.1 h1)
theorem icmp_cases (a b : Int) : (icmp a b = -1 ∧ a < b) ∨ (icmp a b = 0 ∧ a = b) ∨ (icmp a b = 1 ∧ b < a) := by
 unfold icmp
 by_cases h1 : a < b
 ·exact .inl ⟨by simp [h1], h1⟩
 ·by_cases h2 : b < a
  ·exact .inr (.inr ⟨by simp [h1, h2], h2⟩)
  ·exact .inr (.inl ⟨by simp [h1, h2], by omega⟩)
def klt (a b : Cl) : Prop := a.row.data.toList < b.row.data.toList ∨ (a.row = b.row ∧ (a.col.data.toList < b.col.data.toList ∨ (a.col = b.col ∧ b.at_ < a.at_)))
def keq (a b : Cl) : Prop := a.row = b.row ∧ a.col = b.col ∧ a.at_ = b.at_
theorem ccmp_cases (a b : Cl) : (ccmp a b = -1 ∧ klt a b) ∨ (ccmp a b = 0 ∧ keq a b) ∨ (ccmp a b = 1 ∧ klt b a) := by
 unfold ccmp or3
 rcases scmp_cases a.row.data.toList b.row.data.toList with ⟨h1, k1⟩ | ⟨h1, k1⟩ | ⟨h1, k1⟩
 ·exact .inl ⟨by rw [h1]; rfl, .inl k1⟩
 ·have e1 := ba_ext k1
  rcases scmp_cases a.col.data.toList b.col.data.toList with ⟨h2, k2⟩ | ⟨h2, k2⟩ | ⟨h2, k2⟩
  ·exact .inl ⟨by rw [h1, h2]; rfl, .inr ⟨e1, .inl k2⟩⟩
  ·have e2 := ba_ext k2
   rcases icmp_cases b.at_ a.at_ with ⟨h3, k3⟩ | ⟨h3, k3⟩ | ⟨h3, k3⟩
   ·exact .inl ⟨by rw [h1, h2, h3]; rfl, .inr ⟨e1, .inr ⟨e2, k3⟩⟩⟩
   ·exact .inr (.inl ⟨by rw [h1, h2, h3]; rfl, e1, e2, k3.symm⟩)
   ·exact .inr (.inr ⟨by rw [h1, h2, h3]; rfl, .inr ⟨e1.symm, .inr ⟨e2.symm, k3⟩⟩⟩)
  ·exact .inr (.inr ⟨by rw [h1, h2]; rfl, .inr ⟨e1.symm, .inl k2⟩⟩)
 ·exact .inr (.inr ⟨by rw [h1]; rfl, .inl k1⟩)
theorem klt_irrefl (a : Cl) : ¬ klt a a := by
 rintro (h | ⟨-, h | ⟨-, h⟩⟩)
 ·exact List.lt_irrefl _ h
 ·exact List.lt_irrefl _ h
 ·omega
theorem klt_trans {a b c : Cl} (h : klt a b) (k : klt b c) : klt a c := by
 unfold klt at *
 rcases h with h | ⟨e1, h⟩
 ·rcases k with k | ⟨e2, -⟩
  ·exact .inl (List.lt_trans h k)
  ·rw [e2] at h
   exact .inl h
 ·rcases k with k | ⟨e2, k⟩
  ·rw [← e1] at k
   exact .inl k
  ·refine .inr ⟨e1.trans e2, ?_⟩
   rcases h with h | ⟨e3, h⟩
   ·rcases k with k | ⟨e4, -⟩
    ·exact .inl (List.lt_trans h k)
    ·rw [e4] at h
     exact .inl h
   ·rcases k with k | ⟨e4, k⟩
    ·rw [← e3] at k
     exact .inl k
    ·exact .inr ⟨e3.trans e4, by omega⟩
theorem eq_klt {a b c : Cl} (h : keq a b) (k : klt b c) : klt a c := by
 obtain ⟨k1, k2, k3⟩ := h
 unfold klt at *
 rw [k1, k2, k3]
 exact k
theorem keq_symm {a b : Cl} (h : keq a b) : keq b a := ⟨h.1.symm, h.2.1.symm, h.2.2.symm⟩
theorem klt_neq {a b : Cl} (h : klt a b) : ¬ keq a b := fun k => klt_irrefl b (eq_klt (keq_symm k) h)
theorem ccmp_lt {a b : Cl} : ccmp a b = -1 ↔ klt a b := by
 refine ⟨fun h => ?_, fun h => ?_⟩
 ·rcases ccmp_cases a b with ⟨e, k⟩ | ⟨e, k⟩ | ⟨e, k⟩
  ·exact k
  ·omega
  ·omega
 ·rcases ccmp_cases a b with ⟨e, k⟩ | ⟨e, k⟩ | ⟨e, k⟩
  ·exact e
  ·exact absurd k (klt_neq h)
  ·exact absurd (klt_trans h k) (klt_irrefl _)
def Srt (L : List Cl) : Prop := L.Pairwise klt
def sortedTo (L : List Cl) (k : Nat) : Prop := (∀ j c, j < k → L[j]? = some c → c.ok) ∧ (∀ j c d, j + 1 < k → L[j]? = some c → L[j + 1]? = some d → klt c d)
def Sorted (L : List Cl) : Prop := sortedTo L L.length
instance (a b : Cl) : Decidable (klt a b) := decidable_of_iff _ ccmp_lt
theorem srt_of_next : ∀ {L : List Cl}, (∀ j c d, L[j]? = some c → L[j + 1]? = some d → klt c d) → Srt L
 | [], _ => List.Pairwise.nil
 | [a], _ => List.pairwise_singleton _ _
 | a :: b :: L, h => by
  have ih : Srt (b :: L) := srt_of_next fun j c d hc hd => h (j + 1) c d (by simpa using hc) (by simpa using hd)
  have hab : klt a b := h 0 a b rfl rfl
  refine List.pairwise_cons.2 ⟨fun x hx => ?_, ih⟩
  rcases List.mem_cons.1 hx with rfl | hx
  ·exact hab
  ·exact klt_trans hab ((List.pairwise_cons.1 ih).1 x hx)
theorem srt_at {L : List Cl} (h : Srt L) {i j : Nat} {c d : Cl} (hij : i < j) (hc : L[i]? = some c) (hd : L[j]? = some d) : klt c d := by
 obtain ⟨h1, rfl⟩ := List.getElem?_eq_some_iff.1 hc
 obtain ⟨h2, rfl⟩ := List.getElem?_eq_some_iff.1 hd
 exact List.pairwise_iff_getElem.1 h i j h1 h2 hij
theorem sorted_iff {L : List Cl} : Sorted L ↔ (∀ c ∈ L, c.ok) ∧ Srt L := by
 refine ⟨fun h => ⟨fun c hc => ?_, srt_of_next fun j c d hc hd => h.2 j c d (List.getElem?_eq_some_iff.1 hd).1 hc hd⟩, fun h => ⟨fun j c _ hc => h.1 c (List.mem_of_getElem? hc), fun j c d _ hc hd => srt_at h.2 (Nat.lt_succ_self j) hc hd⟩⟩
 obtain ⟨j, hj⟩ := List.getElem?_of_mem hc
 exact h.1 j c (List.getElem?_eq_some_iff.1 hj).1 hj
def put1 (c : Cl) : List Cl → List Cl
 | [] => [c]
 | d :: r => if ccmp d c = -1 then d :: put1 c r else if ccmp d c = 0 then c :: r else c :: d :: r
def fits (row col : ByteArray) (at_ : Int) (c : Cl) : Prop := c.row = row ∧ c.col = col ∧ c.at_ ≤ at_
instance (row col : ByteArray) (at_ : Int) (c : Cl) : Decidable (fits row col at_ c) := by unfold fits; infer_instance
end Go.Proofs.Ytpmlfhgdhnofbaa.Ce
namespace Go.Proofs.Ytpmlfhgdhnofbaa.Ce
open Go.RowKit
def Cl.cs (c : Cl) : Array Value := #[.string c.row, .string c.col, .int .i64 c.at_, .string c.val, .bool c.gone]
def Cl.v (c : Cl) : Value := .agg c.cs
section
variable {g : Nat} {c : Cl} {w w' : World}
end
section
variable {ops : Array Oper} {rest : List Oper} {o : Oper} {a : Act} {w : World} {K0 : Act → World → Prop} {Q : Exit → Act → World → Prop} {g : Nat} {c : Cl}
theorem beqS (a b : ByteArray) : (a.toList == b.toList) = decide (a = b) := by
 by_cases h : a = b
 ·rw [str_eq h, decide_eq_true h]
 ·rw [str_ne h, decide_eq_false h]
end
section
variable {fn : Func} {p q r : Tmp} {tmps : Array Value} {w : World} {g : Nat} {c : Cl}
end
end Go.Proofs.Ytpmlfhgdhnofbaa.Ce
namespace Go.Proofs.Ytpmlfhgdhnofbaa.Ce
open Go.RowKit
def small (c : Cl) : Prop := c.row.size ≤ 300 ∧ c.col.size ≤ 300 ∧ c.val.size ≤ 600
instance (c : Cl) : Decidable (small c) := by unfold small; infer_instance
end Go.Proofs.Ytpmlfhgdhnofbaa.Ce
namespace Go.Proofs.Ytpmlfhgdhnofbaa.Ce
open Go.RowKit
end Go.Proofs.Ytpmlfhgdhnofbaa.Ce
namespace Go.Proofs.Ytpmlfhgdhnofbaa.Ce
open Go.RowKit
end Go.Proofs.Ytpmlfhgdhnofbaa.Ce
namespace Go.Proofs.Ytpmlfhgdhnofbaa.Ce
open Go.RowKit
section
variable {ops : Array Oper} {rest : List Oper} {o : Oper} {a : Act} {w : World} {K0 : Act → World → Prop} {Q : Exit → Act → World → Prop}
end
end Go.Proofs.Ytpmlfhgdhnofbaa.Ce
