/- The contract of the reference's Cut of layer 10. The contract of the reference's Put of layer 10. -/
import Derived.Test.YtgcbmdolbmmljaaGreatBkP
import Derived.Test.YtgcbmdolbmmljaaGreatCsA
import Derived.Test.YtgcbmdolbmmljaaGreatCrA
import Derived.Test.YtgcbmdolbmmljaaGreatFrmRQ
namespace Go.Proofs.YtgcbmdolbmmljaaGreat.Ce
open Go.RowKit

/-- the blocks that are made, and the one that is being made -/
structure CutR (w0 w : World) (v : Value) (vs : List Value) (LL : List (List Cl)) (u : Value) (now : List Cl) : Prop where
  b : OwB w w0.heap.size v vs LL
  n : OwL w w0.heap.size u now
  ap : ∀ (j : Nat) (x : Value), vs[j]? = some x → ∀ k, x.ownBlock = some k → u.ownBlock ≠ some k
  bel : Below w0.heap.size w0 w
section
variable {w0 w w' : World} {v u v' u' : Value} {vs : List Value} {LL : List (List Cl)} {now now' : List Cl}
theorem CutR.up (h : CutR w0 w v vs LL u now) (hb : Below w.heap.size w w') : CutR w0 w' v vs LL u now := ⟨h.b.below hb, h.n.below hb, h.ap, bwtrans h.bel hb (Nat.le_refl _)⟩
theorem CutR.fresh (h : CutR w0 w v vs LL u now) : CutR w0 w v vs LL (.slice none 0 0) [] := ⟨h.b, OwL.nil _ _, (fun _ _ _ _ _ h => by cases h), h.bel⟩
theorem OwB.rowAt (h : OwB w w0.heap.size v vs LL) {j : Nat} {x : Value} (hj : vs[j]? = some x) : ∃ L, LL[j]? = some L ∧ OwL w w0.heap.size x L := by
  have hl := (List.getElem?_eq_some_iff.1 hj).1
  have hL : LL[j]? = some (LL[j]'(by rw [← h.len]; exact hl)) := List.getElem?_eq_getElem _
  exact ⟨_, hL, h.row j x _ hj hL⟩
/-- what is being made has grown -/
theorem CutR.app (h : CutR w0 w v vs LL u now) (ho : OwL w' w0.heap.size u' now') (hg : w.grownBy w' u.ownBlock) (h3 : u'.ownBlock = u.ownBlock ∨ u'.ownBlock = some w.heap.size) : CutR w0 w' v vs LL u' now' := by
  refine ⟨⟨h.b.out.kept hg (fun k hk e => ow_apart h.b.out h.n k e hk), h.b.len, fun j x L hx hL => (h.b.row j x L hx hL).keptR hg (h.ap j x hx)⟩, ho, fun j x hx k hk e => ?_, h.bel.grown hg h.bel.size fun k hk => (h.n.lt k hk).1⟩
  rcases h3 with h3 | h3
  · exact h.ap j x hx k hk (h3 ▸ e)
  · rw [h3] at e
    injection e with e
    obtain ⟨L, -, hr⟩ := h.b.rowAt hx
    have := (hr.lt k hk).2
    omega
theorem CutR.push (h : CutR w0 w v vs LL u now) (hb : OwB w' w0.heap.size v' (vs ++ [u]) (LL ++ [now])) (hg : w.grownBy w' v.ownBlock) : CutR w0 w' v' (vs ++ [u]) (LL ++ [now]) (.slice none 0 0) [] :=
  ⟨hb, OwL.nil _ _, (fun _ _ _ _ _ h => by cases h), h.bel.grown hg h.bel.size h.b.out.ge⟩
end
end Go.Proofs.YtgcbmdolbmmljaaGreat.Ce

namespace Go.Proofs.YtgcbmdolbmmljaaGreat.Ce
open Go.RowKit Frm

end Go.Proofs.YtgcbmdolbmmljaaGreat.Ce
