/- The contract of the reference function Same. -/
import Derived.Test.YtfnenehiapibiaaBase
namespace Go.Proofs.Ytfnenehiapibiaa
open Go.RowKit

/-- the same bytes? -/
def sameB (a b : List UInt8) : Bool := decide (a = b)
set_option maxHeartbeats 400000 in
theorem rsame_any (x y : Value) (a b : List UInt8) (B D : Nat) (w : World) (hx : Rd w B x (a.map bv)) (hy : Rd w D y (b.map bv)) :
    Calls Try.prog 22 #[x, y] w fun e w' => e = .returned (.bool (sameB a b)) ∧ w = w' := by
  have c1 := run_str (P := Try.prog) (w := w) Try.underlying39 Try.underlying5 Try.underlying9 hx
  have c2 := run_str (P := Try.prog) (w := w) Try.underlying39 Try.underlying5 Try.underlying9 hy
  go_enter Try.func22, Try.ntmps22
  go_wp2
  go_ret
  refine ⟨ret1 (vb ?_), rfl⟩
  unfold sameB
  by_cases h : a = b <;> simp [h]

end Go.Proofs.Ytfnenehiapibiaa
