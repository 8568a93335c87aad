/- The contract of Cut of package cell. -/
import Derived.Test.YtffkbepcdidnjaaCcp
import Derived.Test.YtffkbepcdidnjaaCln
import Derived.Deep.RegionWith
namespace Go.Proofs.Ytffkbepcdidnjaa.Ce
open Go.RowKit

section
variable {ops : Array Oper} {o : Oper} {a : Act} {w : World} {K0 : Act → World → Prop} {Q : Exit → Act → World → Prop} {g : Nat} {c c0 : Cl}
theorem wp_storeC (x y : Operand) (ho : o.op = .store 29 x y) (hx : a.eval x = .pointer (some ⟨g, 0, none⟩)) (hy : a.eval y = c.v) (hi : InC g c0 w)
    (h : ∀ w', SetC g c w w' → K0 (a.put o.dst undef) w') : o.wp Try.prog a w K0 Q :=
  wp_store_row 29 x y ho g c.cs hx hy 29 c0.cs hi.h sizeC rfl (cs_one c) (h _ (SetC.of hi))
end
/-- the result's variable g, the cell's k -/
structure CutS (w : World) (g k : Nat) (d c : Cl) (w' : World) : Prop where
  ig : InC g d w'
  ik : InC k c w'
  ne : k ≠ g
  ge : w.heap.size ≤ g
  bel : Below w.heap.size w w'
theorem CutS.up {w : World} {g k : Nat} {d c : Cl} {a b : World} (h : CutS w g k d c a) (hb : Below a.heap.size a b) : CutS w g k d c b := ⟨h.ig.up hb, h.ik.up hb, h.ne, h.ge, bwstep h.bel hb⟩
theorem CutS.set {w : World} {g k : Nat} {d c e : Cl} {a b : World} (h : CutS w g k d c a) (hs : SetC g e a b) : CutS w g k e c b := ⟨hs.i, hs.up h.ik h.ne, h.ne, h.ge, hs.bel h.bel h.ge⟩
/-- a cell is stored, cell by cell -/
theorem chain5 {g : Nat} {d c : Cl} {a : World} (h : InC g d a) : SetC g c a (((((a.setCell ⟨g, 0, none⟩ (.string c.row)).setCell ⟨g, 1, none⟩ (.string c.col)).setCell ⟨g, 2, none⟩ (.int .i64 c.at_)).setCell ⟨g, 3, none⟩ (.string c.val)).setCell ⟨g, 4, none⟩ (.bool c.gone)) := by
  refine ⟨⟨?_⟩, ?_, by simp, fun k hk => ?_⟩
  · have h0 := heap_setCell_same a g 0 _ _ (.string c.row) h.h
    have h1 := heap_setCell_same _ g 1 _ _ (.string c.col) h0
    have h2 := heap_setCell_same _ g 2 _ _ (.int .i64 c.at_) h1
    have h3 := heap_setCell_same _ g 3 _ _ (.string c.val) h2
    have h4 := heap_setCell_same _ g 4 _ _ (.bool c.gone) h3
    rw [h4]
    rfl
  · exact (((((Below.refl _ _).setCell (by simp) _).setCell (by simp) _).setCell (by simp) _).setCell (by simp) _).setCell (by simp) _
  · rw [heap_setCell_other _ _ _ _ (by simpa using hk), heap_setCell_other _ _ _ _ (by simpa using hk), heap_setCell_other _ _ _ _ (by simpa using hk), heap_setCell_other _ _ _ _ (by simpa using hk), heap_setCell_other _ _ _ _ (by simpa using hk)]
def Zfro (g : Nat) (a : World) : Prop := a.frozen? ⟨g, 0, none⟩ = false ∧ a.frozen? ⟨g, 1, none⟩ = false ∧ a.frozen? ⟨g, 2, none⟩ = false ∧ a.frozen? ⟨g, 3, none⟩ = false ∧ a.frozen? ⟨g, 4, none⟩ = false
theorem InC.fro {g : Nat} {d : Cl} {a : World} (h : InC g d a) : Zfro g a := ⟨frozen_of_row _ _ _ _ _ h.h, frozen_of_row _ _ _ _ _ h.h, frozen_of_row _ _ _ _ _ h.h, frozen_of_row _ _ _ _ _ h.h, frozen_of_row _ _ _ _ _ h.h⟩
def Five (g : Nat) (c : Cl) (a : World) : Prop := a.cell? ⟨g, 0, none⟩ = some (.string c.row) ∧ a.cell? ⟨g, 1, none⟩ = some (.string c.col) ∧ a.cell? ⟨g, 2, none⟩ = some (.int .i64 c.at_) ∧ a.cell? ⟨g, 3, none⟩ = some (.string c.val) ∧ a.cell? ⟨g, 4, none⟩ = some (.bool c.gone)
theorem InC.five {g : Nat} {d : Cl} {a : World} (h : InC g d a) : Five g d a := ⟨h.c0, h.c1, h.c2, h.c3, h.c4⟩
theorem zcs : Cl.zero.cs = #[.string ⟨#[]⟩, .string ⟨#[]⟩, .int .i64 0, .string ⟨#[]⟩, .bool false] := rfl
end Go.Proofs.Ytffkbepcdidnjaa.Ce
