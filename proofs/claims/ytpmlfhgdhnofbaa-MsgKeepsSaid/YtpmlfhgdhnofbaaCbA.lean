/- The contracts of slices.BinarySearchFunc over cells, and of Newest of package cell. The contract of Newest of package cell. The contracts of the reference's Few and Newest of layer 8. -/
import Derived.Test.YtpmlfhgdhnofbaaCsA
import Derived.IntWalk
namespace Go.Proofs.Ytpmlfhgdhnofbaa.Ce
open Go.RowKit
def TwoC (b o : Nat) (f : Cl) (g : Nat) (t : Cl) (w0 w' : World) : Prop :=
 w'.cell? ⟨b, o, none⟩ = some (.string f.row) ∧ w'.cell? ⟨b, o + 1, none⟩ = some (.string f.col) ∧ w'.cell? ⟨b, o + 2, none⟩ = some (.int .i64 f.at_) ∧ w'.cell? ⟨b, o + 3, none⟩ = some (.string f.val) ∧ w'.cell? ⟨b, o + 4, none⟩ = some (.bool f.gone) ∧
 w'.cell? ⟨g, 0, none⟩ = some (.string t.row) ∧ w'.cell? ⟨g, 1, none⟩ = some (.string t.col) ∧ w'.cell? ⟨g, 2, none⟩ = some (.int .i64 t.at_) ∧ w'.cell? ⟨g, 3, none⟩ = some (.string t.val) ∧ w'.cell? ⟨g, 4, none⟩ = some (.bool t.gone) ∧ Below w0.heap.size w0 w'
theorem TwoC.bel {b o g : Nat} {f t : Cl} {w0 w' : World} (h : TwoC b o f g t w0 w') : Below w0.heap.size w0 w' := h.2.2.2.2.2.2.2.2.2.2
def BsRel (L : List Cl) (t : Cl) (lo hi : Nat) : Prop := (∀ j c, j < lo → L[j]? = some c → klt c t) ∧ (∀ j c, hi ≤ j → L[j]? = some c → ¬ klt c t)
theorem BsRel.up {L : List Cl} {t : Cl} {lo hi h : Nat} {f : Cl} (H : BsRel L t lo hi) (hs : Srt L) (hf : L[h]? = some f) (hk : klt f t) : BsRel L t (h + 1) hi :=
 ⟨fun j c hj hc => by
  by_cases e : j = h
  ·subst e
   rw [hf] at hc
   injection hc with hc
   exact hc ▸ hk
  ·exact klt_trans (srt_at hs (by omega) hc hf) hk, H.2⟩
end Go.Proofs.Ytpmlfhgdhnofbaa.Ce
namespace Go.Proofs.Ytpmlfhgdhnofbaa.Ce
open Go.RowKit
section
variable {L : List Cl} {row col : ByteArray} {at_ : Int} {k : Nat} {f : Cl}
end
end Go.Proofs.Ytpmlfhgdhnofbaa.Ce
namespace Go.Proofs.Ytpmlfhgdhnofbaa.Ce
open Go.RowKit
section
variable {row col : ByteArray} {at_ : Int} {L : List Cl} {k : Nat} {f : Cl}
end
end Go.Proofs.Ytpmlfhgdhnofbaa.Ce
