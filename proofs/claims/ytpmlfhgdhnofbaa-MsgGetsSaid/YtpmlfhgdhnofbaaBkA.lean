/- Blocks as plain lists: a block's bytes, how cells are cut into blocks, which block stands at the beginning of bytes. Plain. The contract of the reference's Put of layer 8. The contract of the reference's Cut of layer 8. The contract of the reference's Cut of layer 10. The contract of the reference's Put of layer 10. The contract of block.first: the cell at the beginning. The contracts of block.cells and block.Get. The contract of block.Put. The contract of block.Cut. -/
import Derived.Test.YtpmlfhgdhnofbaaCpA
import Derived.Test.YtpmlfhgdhnofbaaFrmA
import Derived.Test.YtpmlfhgdhnofbaaLow
import Derived.Test.YtpmlfhgdhnofbaaCsA
import Derived.Test.YtpmlfhgdhnofbaaFrmRQ
import Derived.Test.YtpmlfhgdhnofbaaCso
import Derived.Deep.RegionLaw
namespace Go.Proofs.Ytpmlfhgdhnofbaa.Ce
open Go.RowKit Frm
def flatC : List Cl → List UInt8
 | [] => []
 | c :: L => cellB c ++ flatC L
def recB (L : List Cl) : List UInt8 := numB L.length ++ flatC L
def blkB (L : List Cl) : List UInt8 := frm (recB L)
theorem flatC_app : ∀ A C : List Cl, flatC (A ++ C) = flatC A ++ flatC C
 | [], C => rfl
 | c :: A, C => by rw [List.cons_append, flatC, flatC, flatC_app A C, List.append_assoc]
theorem flatC_one (c : Cl) : flatC [c] = cellB c := by simp [flatC]
theorem cellB_ge {c : Cl} (h : c.ok) : 19 ≤ (cellB c).length := by
 rw [cellB_len]
 have := h.r1
 have := h.c1
 omega
theorem flatC_ge : ∀ {L : List Cl}, (∀ c ∈ L, c.ok) → 19 * L.length ≤ (flatC L).length
 | [], _ => by simp
 | c :: L, h => by
  have h1 := cellB_ge (h c (by simp))
  have h2 := flatC_ge (L := L) fun x hx => h x (by simp [hx])
  rw [flatC, List.length_append, List.length_cons]
  omega
theorem recB_len (L : List Cl) : (recB L).length = 4 + (flatC L).length := by unfold recB; rw [List.length_append, numB_len]
theorem flatC_uniq : ∀ {A L : List Cl} {m m' : List UInt8}, (∀ c ∈ A, c.ok) → (∀ c ∈ L, c.ok) → A.length ≤ L.length → flatC A ++ m = flatC L ++ m' → A = L.take A.length ∧ m = flatC (L.drop A.length) ++ m'
 | [], L, m, m', _, _, _, e => by simpa [flatC] using e
 | a :: A, [], m, m', _, _, hl, _ => by simp at hl
 | a :: A, c :: L, m, m', hA, hL, hl, e => by
  rw [flatC, flatC, List.append_assoc, List.append_assoc] at e
  obtain ⟨rfl, e2⟩ := Stands.one (l := cellB a ++ (flatC A ++ m)) ⟨hA a (by simp), rfl⟩ ⟨hL c (by simp), e⟩
  obtain ⟨h1, h2⟩ := flatC_uniq (fun x hx => hA x (by simp [hx])) (fun x hx => hL x (by simp [hx])) (by simpa using hl) e2
  refine ⟨?_, ?_⟩
  ·rw [List.length_cons, List.take_succ_cons, ← h1]
  ·rw [List.length_cons, List.drop_succ_cons]
   exact h2
structure IsRec (r : List UInt8) (L : List Cl) : Prop where
 e : r = recB L
 s : Sorted L
 ne : L ≠ []
structure BlkAt (b : List UInt8) (L : List Cl) (m : List UInt8) : Prop where
 e : b = blkB L ++ m
 s : Sorted L
 ne : L ≠ []
 le : (recB L).length ≤ 65535
theorem Sorted.ok {L : List Cl} (h : Sorted L) : ∀ c ∈ L, c.ok := (sorted_iff.1 h).1
theorem rec_num {r : List UInt8} {L : List Cl} (h : IsRec r L) (hl : r.length ≤ 1000000) : 4 ≤ r.length ∧ numOf r = L.length ∧ r.drop 4 = flatC L := by
 have h1 := flatC_ge h.s.ok
 have h2 := recB_len L
 have he := h.e
 subst he
 refine ⟨by omega, ?_, rfl⟩
 unfold recB
 exact numOf_numB _ (by omega) _
theorem rec_one {r : List UInt8} {L L' : List Cl} (h : IsRec r L) (h' : IsRec r L') (hl : r.length ≤ 1000000) : L = L' := by
 obtain ⟨-, n1, d1⟩ := rec_num h hl
 obtain ⟨-, n2, d2⟩ := rec_num h' hl
 have hn : L.length = L'.length := by omega
 obtain ⟨e, -⟩ := flatC_uniq (m := []) (m' := []) h.s.ok h'.s.ok (by omega) (by rw [← d1, ← d2])
 rw [e, hn, List.take_length]
theorem BlkAt.one {b m m' : List UInt8} {L L' : List Cl} (h : BlkAt b L m) (h' : BlkAt b L' m') : L = L' ∧ m = m' := by
 obtain ⟨e1, e2⟩ := frm_inj (h.e.symm.trans h'.e) h.le h'.le
 exact ⟨rec_one (r := recB L) ⟨rfl, h.s, h.ne⟩ ⟨e1, h'.s, h'.ne⟩ (by have := h.le; omega), e2⟩
end Go.Proofs.Ytpmlfhgdhnofbaa.Ce
namespace Go.Proofs.Ytpmlfhgdhnofbaa.Ce
open Go.RowKit
theorem rnum_int (n : Int) (w : World) (h0 : 0 ≤ n) (h1 : n ≤ 4294967295) : Calls Try.prog 25 #[.int .i64 n] w fun e w' => ∃ v, e = .returned v ∧ Ow w' w.heap.size 5 v ((numB n.toNat).map bv) ∧ Below w.heap.size w w' := by
 have := rnum_ok n.toNat w (by omega)
 rw [Int.toNat_of_nonneg h0] at this
 exact this
end Go.Proofs.Ytpmlfhgdhnofbaa.Ce
namespace Go.Proofs.Ytpmlfhgdhnofbaa.Ce
open Go.RowKit
theorem ok_size {D : List UInt8} (h : textOk D) : textSize D = 4 + numOf D ∧ textThere D = ⟨(textOf D).toArray⟩ ∧ D.drop (textSize D) = textRest D ∧ 4 ≤ textSize D ∧ textSize D ≤ D.length ∧ ctOk D = true ∧ ctS D = textThere D ∧ ctR D = textRest D ∧ (textThere D).size + 4 = textSize D := by
 have h1 := ctOk_iff.2 h
 have hlen : (textOf D).length = numOf D := by unfold textOf; have := h.2; simp; omega
 have hsz : (⟨(textOf D).toArray⟩ : ByteArray).size = numOf D := by rw [← hlen]; rfl
 unfold textSize textThere ctS ctR
 rw [if_pos h, if_pos h, if_pos h1, if_pos h1]
 have h4 := h.1
 have h5 := h.2
 refine ⟨rfl, rfl, ?_, by omega, by omega, h1, rfl, rfl, by omega⟩
 unfold textRest
 rw [List.drop_drop]
end Go.Proofs.Ytpmlfhgdhnofbaa.Ce
namespace Go.Proofs.Ytpmlfhgdhnofbaa.Ce
open Go.RowKit
section
variable {w0 w w' : World} {v u v' u' : Value} {vs : List Value} {LL : List (List Cl)} {now now' : List Cl}
end
end Go.Proofs.Ytpmlfhgdhnofbaa.Ce
namespace Go.Proofs.Ytpmlfhgdhnofbaa.Ce
open Go.RowKit Frm
end Go.Proofs.Ytpmlfhgdhnofbaa.Ce
namespace Go.Proofs.Ytpmlfhgdhnofbaa.Ce
open Go.RowKit
end Go.Proofs.Ytpmlfhgdhnofbaa.Ce
namespace Go.Proofs.Ytpmlfhgdhnofbaa.Ce
open Go.RowKit Frm
structure CellsS (r : List UInt8) (A : List Cl) (left : List UInt8) : Prop where
 e : r.drop 4 = flatC A ++ left
 ok : ∀ c ∈ A, c.ok
theorem CellsS.step {r left m : List UInt8} {A : List Cl} {c : Cl} (h : CellsS r A left) (hs : Stands left c m) : CellsS r (A ++ [c]) m := by
 refine ⟨?_, fun x hx => ?_⟩
 ·rw [h.e, hs.2, flatC_app, flatC_one, List.append_assoc]
 ·rcases List.mem_append.1 hx with hx | hx
  ·exact h.ok x hx
  ·rw [List.mem_singleton.1 hx]; exact hs.1
theorem CellsS.le {r left : List UInt8} {A : List Cl} (h : CellsS r A left) : 19 * A.length + left.length ≤ r.length := by
 have h1 := flatC_ge h.ok
 have h2 := congrArg List.length h.e
 rw [List.length_drop, List.length_append] at h2
 omega
end Go.Proofs.Ytpmlfhgdhnofbaa.Ce
namespace Go.Proofs.Ytpmlfhgdhnofbaa.Ce
open Go.RowKit Frm
end Go.Proofs.Ytpmlfhgdhnofbaa.Ce
namespace Go.Proofs.Ytpmlfhgdhnofbaa.Ce
open Go.RowKit
end Go.Proofs.Ytpmlfhgdhnofbaa.Ce
