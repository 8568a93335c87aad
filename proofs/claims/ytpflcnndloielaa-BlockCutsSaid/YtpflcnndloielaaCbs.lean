/- The contracts of slices.BinarySearchFunc over cells, and of Newest of package cell. -/
import Derived.Test.YtpflcnndloielaaCs
import Derived.IntWalk
namespace Go.Proofs.Ytpflcnndloielaa.Ce
open Go.RowKit

/-- a cell at an address, another one in a block -/
def TwoC (b o : Nat) (f : Cl) (g : Nat) (t : Cl) (w0 w' : World) : Prop :=
  w'.cell? ⟨b, o, none⟩ = some (.string f.row) ∧ w'.cell? ⟨b, o + 1, none⟩ = some (.string f.col) ∧ w'.cell? ⟨b, o + 2, none⟩ = some (.int .i64 f.at_) ∧ w'.cell? ⟨b, o + 3, none⟩ = some (.string f.val) ∧ w'.cell? ⟨b, o + 4, none⟩ = some (.bool f.gone) ∧
  w'.cell? ⟨g, 0, none⟩ = some (.string t.row) ∧ w'.cell? ⟨g, 1, none⟩ = some (.string t.col) ∧ w'.cell? ⟨g, 2, none⟩ = some (.int .i64 t.at_) ∧ w'.cell? ⟨g, 3, none⟩ = some (.string t.val) ∧ w'.cell? ⟨g, 4, none⟩ = some (.bool t.gone) ∧ Below w0.heap.size w0 w'
theorem TwoC.of {b o g : Nat} {f t : Cl} {w0 w' : World} (h : FiveAt b o f w0) (hb : b < w0.heap.size) (hi : InC g t w0) (hw : Below w0.heap.size w0 w') : TwoC b o f g t w0 w' := by
  obtain ⟨a0, a1, a2, a3, a4⟩ := h.up hb hw
  obtain ⟨c0, c1, c2, c3, c4⟩ := (hi.up hw).five
  exact ⟨a0, a1, a2, a3, a4, c0, c1, c2, c3, c4, hw⟩
theorem TwoC.bel {b o g : Nat} {f t : Cl} {w0 w' : World} (h : TwoC b o f g t w0 w') : Below w0.heap.size w0 w' := h.2.2.2.2.2.2.2.2.2.2
/-- does t's key stand at k? -/
def fnd (L : List Cl) (t : Cl) (k : Nat) : Bool := match L[k]? with | some c => decide (ccmp c t = 0) | none => false
def BsEnd (w : World) (k : Int) (q : Bool) (e : Ending) (w' : World) : Prop := e = .returned (.tuple #[.int .i64 k, .bool q]) ∧ Below w.heap.size w w'
/-- the place that t has, or would have -/
structure Place (L : List Cl) (t : Cl) (k : Nat) : Prop where
  le : k ≤ L.length
  lt : ∀ j c, j < k → L[j]? = some c → klt c t
  ge : ∀ j c, k ≤ j → L[j]? = some c → ¬ klt c t
def BsRel (L : List Cl) (t : Cl) (lo hi : Nat) : Prop := (∀ j c, j < lo → L[j]? = some c → klt c t) ∧ (∀ j c, hi ≤ j → L[j]? = some c → ¬ klt c t)
theorem BsRel.up {L : List Cl} {t : Cl} {lo hi h : Nat} {f : Cl} (H : BsRel L t lo hi) (hs : Srt L) (hf : L[h]? = some f) (hk : klt f t) : BsRel L t (h + 1) hi :=
  ⟨fun j c hj hc => by
    by_cases e : j = h
    · subst e
      rw [hf] at hc
      injection hc with hc
      exact hc ▸ hk
    · exact klt_trans (srt_at hs (by omega) hc hf) hk, H.2⟩
theorem BsRel.dn {L : List Cl} {t : Cl} {lo hi h : Nat} {f : Cl} (H : BsRel L t lo hi) (hs : Srt L) (hf : L[h]? = some f) (hk : ¬ klt f t) : BsRel L t lo h :=
  ⟨H.1, fun j c hj hc hlt => by
    by_cases e : j = h
    · subst e
      rw [hf] at hc
      injection hc with hc
      exact hk (hc ▸ hlt)
    · exact hk (klt_trans (srt_at hs (by omega) hf hc) hlt)⟩
end Go.Proofs.Ytpflcnndloielaa.Ce
