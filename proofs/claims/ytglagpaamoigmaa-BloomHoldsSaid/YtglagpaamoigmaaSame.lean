/- The contracts of the reference function Same and of bytes.Equal. -/
import Derived.Test.YtglagpaamoigmaaBase
namespace Go.Proofs.Ytglagpaamoigmaa
open Go.RowKit

/-- the same bytes? -/
def sameB (a b : List UInt8) : Bool := decide (a = b)
theorem sameB_self (l : List UInt8) : sameB l l = true := by simp [sameB]
set_option maxHeartbeats 400000 in
theorem rsame_any (x y : Value) (a b : List UInt8) (B D : Nat) (w : World) (hx : Rd w B x (a.map bv)) (hy : Rd w D y (b.map bv)) :
    Calls Try.prog 9 #[x, y] w fun e w' => e = .returned (.bool (sameB a b)) ∧ w = w' := by
  have c1 := run_str (P := Try.prog) (w := w) Try.underlying26 Try.underlying5 Try.underlying9 hx
  have c2 := run_str (P := Try.prog) (w := w) Try.underlying26 Try.underlying5 Try.underlying9 hy
  go_enter Try.func9, Try.ntmps9
  go_wp2
  go_ret
  refine ⟨ret1 (vb ?_), rfl⟩
  unfold sameB
  by_cases h : a = b <;> simp [h]

theorem rsame_bel (x y : Value) (a b : List UInt8) (B D : Nat) (w : World) (hx : Rd w B x (a.map bv)) (hy : Rd w D y (b.map bv)) :
    Calls Try.prog 9 #[x, y] w fun e w' => e = .returned (.bool (sameB a b)) ∧ Below w.heap.size w w' :=
  (rsame_any x y a b B D w hx hy).mono fun _ _ ⟨h1, h2⟩ => ⟨h1, h2 ▸ Below.refl _ _⟩
end Go.Proofs.Ytglagpaamoigmaa
