/- Package cmd's table of kinds, as the world holds it; the contracts of its small functions. What a command may have by its kind: the contract of bare. Cells as an St struct. What a command's parts may be in cells: the contract of placed. A command's bytes, as package cmd spells them. The contracts of package cmd's Put, Right and Writes. A command read from bytes: the contract of package cmd's read. The contract of package cmd's Get. Layer 15's law: '==' of commands, awake, small. -/
import Derived.Test.YtpmlfhgdhnofbaaCmX
import Derived.Test.YtpmlfhgdhnofbaaClA
import Derived.Test.YtpmlfhgdhnofbaaStA
import Derived.Test.YtpmlfhgdhnofbaaCpA
import Derived.BigQuiet
import Derived.Test.YtpmlfhgdhnofbaaLow
namespace Go.Proofs.Ytpmlfhgdhnofbaa.Ce
open Go.RowKit
structure Pt where
 col : Bool
 to_ : Bool
 value : Bool
 expect : Bool
 writes : Bool
def Pt.cs (p : Pt) : Array Value := #[.bool p.col, .bool p.to_, .bool p.value, .bool p.expect, .bool p.writes]
def ptOf : Nat → Pt
 | 1 => ⟨true, false, true, false, true⟩
 | 2 => ⟨true, false, false, false, true⟩
 | 3 => ⟨true, false, true, true, true⟩
 | 4 => ⟨true, false, false, false, false⟩
 | 5 => ⟨false, true, false, false, false⟩
 | _ => ⟨false, false, false, false, false⟩
def Cm.numbered (c : Cm) : Prop := (1 ≤ c.client ∧ c.client ≤ 16) ∧ (1 ≤ c.seq ∧ c.seq ≤ 2147483647) ∧ (1 ≤ c.kind ∧ c.kind ≤ 5)
instance (c : Cm) : Decidable c.numbered := by unfold Cm.numbered; infer_instance
end Go.Proofs.Ytpmlfhgdhnofbaa.Ce
namespace Go.Proofs.Ytpmlfhgdhnofbaa.Ce
open Go.RowKit
structure Cm.bare (c : Cm) : Prop where
 col : (ptOf c.kind.toNat).col = true ∨ c.col.toList = []
 to_ : (ptOf c.kind.toNat).to_ = true ∨ c.to_.toList = []
 value : (ptOf c.kind.toNat).value = true ∨ c.value.toList = []
 expect : (ptOf c.kind.toNat).expect = true ∨ c.has = false
 has : c.has = true ∨ c.expect.toList = []
theorem Cm.bare_iff {c : Cm} : c.bare ↔ ((ptOf c.kind.toNat).col = true ∨ c.col.toList = []) ∧ ((ptOf c.kind.toNat).to_ = true ∨ c.to_.toList = []) ∧ ((ptOf c.kind.toNat).value = true ∨ c.value.toList = []) ∧ ((ptOf c.kind.toNat).expect = true ∨ c.has = false) ∧ (c.has = true ∨ c.expect.toList = []) :=
 ⟨fun h => ⟨h.1, h.2, h.3, h.4, h.5⟩, fun h => ⟨h.1, h.2.1, h.2.2.1, h.2.2.2.1, h.2.2.2.2⟩⟩
noncomputable instance (c : Cm) : Decidable c.bare := decidable_of_iff _ Cm.bare_iff.symm
end Go.Proofs.Ytpmlfhgdhnofbaa.Ce
namespace Go.Proofs.Ytpmlfhgdhnofbaa.Ce
open Go.RowKit
end Go.Proofs.Ytpmlfhgdhnofbaa.Ce
namespace Go.Proofs.Ytpmlfhgdhnofbaa.Ce
open Go.RowKit
def Cm.cellE (c : Cm) : Cl := ⟨c.row, c.col, c.at_, c.expect, false⟩
structure Cm.placed (c : Cm) : Prop where
 five : c.kind = 5 → (c.row.size ≤ 64 ∧ c.to_.size ≤ 64) ∧ 0 ≤ c.at_ ∧ c.at_ ≤ 4294967295
 four : c.kind ≠ 5 → c.cell.ok ∧ c.cellE.ok
noncomputable instance (c : Cm) : Decidable c.placed := Classical.propDecidable _
end Go.Proofs.Ytpmlfhgdhnofbaa.Ce
namespace Go.Proofs.Ytpmlfhgdhnofbaa.Ce
open Go.RowKit
end Go.Proofs.Ytpmlfhgdhnofbaa.Ce
namespace Go.Proofs.Ytpmlfhgdhnofbaa.Ce
open Go.RowKit
end Go.Proofs.Ytpmlfhgdhnofbaa.Ce
namespace Go.Proofs.Ytpmlfhgdhnofbaa.Ce
open Go.RowKit
structure RdG (w : World) (G : Nat) (v : Value) (xs : List Value) : Prop where
 rd : Rd w w.heap.size v xs
 ge : ∀ k, v.ownBlock = some k → G ≤ k
theorem RdG.of_ow {w : World} {B e G : Nat} {v : Value} {xs : List Value} (h : Ow w B e v xs) (hG : G ≤ B) : RdG w G v xs := ⟨h.rd, fun k hk => Nat.le_trans hG (h.ge k hk)⟩
theorem RdG.up {w w' : World} {G : Nat} {v : Value} {xs : List Value} (h : RdG w G v xs) (hb : Below w.heap.size w w') : RdG w' G v xs := ⟨h.rd.up hb, h.ge⟩
theorem RdG.set {w w' : World} {G : Nat} {v : Value} {xs : List Value} (h : RdG w G v xs) (ho : ∀ k, G ≤ k → w'.heap[k]? = w.heap[k]?) (hz : w'.heap.size = w.heap.size) : RdG w' G v xs := by
 obtain ⟨⟨A, c, rfl, h1, h2, h3⟩, hg⟩ := h
 refine ⟨⟨A, c, rfl, h1, h2, fun hp => ?_⟩, hg⟩
 obtain ⟨b, off, rfl, hb, hc⟩ := h3 hp
 refine ⟨b, off, rfl, by omega, fun j u hu => ?_⟩
 rw [← hc j u hu]
 have := ho b (hg b rfl)
 simp only [World.cell?, this]
def n5 (g : Nat → Int) : Array Value := #[.int .i64 (g 0), .int .i64 (g 1), .int .i64 (g 2), .int .i64 (g 3), .int .i64 (g 4)]
def upd {α : Type} (g : Nat → α) (k : Nat) (x : α) : Nat → α := fun j => if j = k then x else g j
def Rd1 (l : List UInt8) (k : Nat) (g : Nat → Int) (L : List UInt8) : Prop := ∀ c, IsCmd l c → (∀ j, j < k → (cmN c)[j]? = some (g j)) ∧ L = numsB ((cmN c).drop k) ++ allB (cmT c)
def Rd2 (l : List UInt8) (k : Nat) (g : Nat → Int) (t : Nat → ByteArray) (L : List UInt8) : Prop := ∀ c, IsCmd l c → (∀ j, j < 5 → (cmN c)[j]? = some (g j)) ∧ (∀ j, j < k → (cmT c)[j]? = some (t j)) ∧ L = allB ((cmT c).drop k)
theorem Rd1.start (l : List UInt8) : Rd1 l 0 (fun _ => 0) l := by
 rintro c ⟨-, -, rfl⟩
 exact ⟨fun j hj => absurd hj (by omega), rfl⟩
theorem numsB_drop (N : List Int) {k : Nat} (h : k < N.length) : numsB (N.drop k) = numB N[k].toNat ++ numsB (N.drop (k + 1)) := by
 rw [List.drop_eq_getElem_cons h]
 rfl
theorem Rd1.ok {l : List UInt8} {k : Nat} {g : Nat → Int} {L : List UInt8} (h : Rd1 l k g L) (hk : k < 5) : Rd1 l (k + 1) (upd g k (numOf L)) (L.drop 4) := by
 intro c hc
 obtain ⟨h1, rfl⟩ := h c hc
 have hl : k < (cmN c).length := hk
 have hb := hc.1.nums _ (List.getElem_mem hl)
 rw [numsB_drop _ hl, List.append_assoc, numOf_numB _ (by omega), List.drop_left' (numB_len _)]
 refine ⟨fun j hj => ?_, rfl⟩
 unfold upd
 by_cases e : j = k
 ·subst e
  rw [if_pos rfl, List.getElem?_eq_getElem hl, Int.toNat_of_nonneg hb.1]
 ·rw [if_neg e]
  exact h1 j (by omega)
theorem Rd1.no {l : List UInt8} {k : Nat} {g : Nat → Int} {L : List UInt8} (h : Rd1 l k g L) (hk : k < 5) (hn : L.length < 4) (g' : Nat → Int) (L' : List UInt8) : Rd1 l (k + 1) g' L' := by
 intro c hc
 obtain ⟨h1, rfl⟩ := h c hc
 have hl : k < (cmN c).length := hk
 rw [numsB_drop _ hl, List.append_assoc, List.length_append, numB_len] at hn
 omega
theorem Rd1.end_ {l : List UInt8} {k : Nat} {g : Nat → Int} {L : List UInt8} (h : Rd1 l k g L) (hk : 5 ≤ k) : Rd2 l 0 g (fun _ => ⟨#[]⟩) L := by
 intro c hc
 obtain ⟨h1, rfl⟩ := h c hc
 refine ⟨fun j hj => h1 j (by omega), fun j hj => absurd hj (by omega), ?_⟩
 rw [List.drop_of_length_le (show (cmN c).length ≤ k from hk)]
 rfl
theorem Rd2.ok {l : List UInt8} {k : Nat} {g : Nat → Int} {t : Nat → ByteArray} {L : List UInt8} (h : Rd2 l k g t L) (hk : k < 5) : Rd2 l (k + 1) g (upd t k ⟨(textOf L).toArray⟩) (textRest L) := by
 intro c hc
 obtain ⟨h0, h1, rfl⟩ := h c hc
 have hl : k < (cmT c).length := hk
 have hb := hc.1.texts _ (List.getElem_mem hl)
 rw [List.drop_eq_getElem_cons hl, Go.Proofs.Ytpmlfhgdhnofbaa.allB_cons, textOf_textB _ hb, textRest_textB _ hb]
 refine ⟨h0, fun j hj => ?_, rfl⟩
 unfold upd
 by_cases e : j = k
 ·subst e
  rw [if_pos rfl, List.getElem?_eq_getElem hl]
 ·rw [if_neg e]
  exact h1 j (by omega)
theorem Rd2.no {l : List UInt8} {k : Nat} {g : Nat → Int} {t : Nat → ByteArray} {L : List UInt8} (h : Rd2 l k g t L) (hk : k < 5) (hn : ¬ textOk L) (t' : Nat → ByteArray) (L' : List UInt8) : Rd2 l (k + 1) g t' L' := by
 intro c hc
 obtain ⟨h0, h1, rfl⟩ := h c hc
 have hl : k < (cmT c).length := hk
 have hb := hc.1.texts _ (List.getElem_mem hl)
 rw [List.drop_eq_getElem_cons hl, Go.Proofs.Ytpmlfhgdhnofbaa.allB_cons] at hn
 exact absurd (textOk_textB _ hb _) hn
def mk5 (g : Nat → Int) (t : Nat → ByteArray) : Cm := ⟨g 0, g 1, g 2, t 0, t 1, t 2, g 3, t 3, t 4, g 4 == 1⟩
theorem Rd2.end_ {l : List UInt8} {k : Nat} {g : Nat → Int} {t : Nat → ByteArray} {L : List UInt8} (h : Rd2 l k g t L) (hk : 5 ≤ k) : ∀ c, IsCmd l c → mk5 g t = c := by
 intro c hc
 obtain ⟨h0, h1, -⟩ := h c hc
 have a0 := h0 0 (by omega)
 have a1 := h0 1 (by omega)
 have a2 := h0 2 (by omega)
 have a3 := h0 3 (by omega)
 have a4 := h0 4 (by omega)
 have b0 := h1 0 (by omega)
 have b1 := h1 1 (by omega)
 have b2 := h1 2 (by omega)
 have b3 := h1 3 (by omega)
 have b4 := h1 4 (by omega)
 simp only [cmN, cmT, List.getElem?_cons_zero, List.getElem?_cons_succ, Option.some.injEq] at a0 a1 a2 a3 a4 b0 b1 b2 b3 b4
 apply Cm.ext' <;> simp only [mk5]
 ·exact a0.symm
 ·exact a1.symm
 ·exact a2.symm
 ·exact b0.symm
 ·exact b1.symm
 ·exact b2.symm
 ·exact a3.symm
 ·exact b3.symm
 ·exact b4.symm
 ·rw [← a4]
  cases c.has <;> rfl
end Go.Proofs.Ytpmlfhgdhnofbaa.Ce
namespace Go.Proofs.Ytpmlfhgdhnofbaa.Ce
open Go.RowKit
end Go.Proofs.Ytpmlfhgdhnofbaa.Ce
namespace Go.Proofs.Ytpmlfhgdhnofbaa.Ce
open Go.RowKit
noncomputable instance : DecidableEq Cm := fun _ _ => Classical.propDecidable _
def Cm.small (c : Cm) : Prop := c.row.size ≤ 600 ∧ c.col.size ≤ 600 ∧ c.to_.size ≤ 600 ∧ c.value.size ≤ 600 ∧ c.expect.size ≤ 600
instance (c : Cm) : Decidable c.small := by unfold Cm.small; infer_instance
end Go.Proofs.Ytpmlfhgdhnofbaa.Ce
