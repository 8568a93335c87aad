/- The contract of slices.Grow of nothing. The contract of slices.Concat: rows of whatever lengths behind one another. The contract of bytes.Clone. -/
import Derived.Test.YtkpdadnmbjmfpaaDoorBase
import Derived.Lib.AppendZeros
import Derived.Test.YtkpdadnmbjmfpaaDoorSls
import Derived.Lib.SliceRun
namespace Go.Proofs.YtkpdadnmbjmfpaaDoor
open Go.RowKit

theorem zeroCells_size (z : Array Value) (n : Nat) (h : z.size = 1) : (Builtin.zeroCells z n).size = n := by
  simp [Builtin.zeroCells, h]
end Go.Proofs.YtkpdadnmbjmfpaaDoor

namespace Go.Proofs.YtkpdadnmbjmfpaaDoor
open Go.RowKit

/-- the first k rows, one behind the other -/
def flatG (g : Nat → List UInt8) : Nat → List UInt8
  | 0 => []
  | k + 1 => flatG g k ++ g k
theorem flatG_succ (g : Nat → List UInt8) (k : Nat) : flatG g (k + 1) = flatG g k ++ g k := rfl
theorem flatG_le (g : Nat → List UInt8) {j k : Nat} (h : j ≤ k) : (flatG g j).length ≤ (flatG g k).length := by
  induction k with
  | zero => obtain rfl : j = 0 := by omega
            exact Nat.le_refl _
  | succ k ih =>
    by_cases e : j = k + 1
    · subst e; exact Nat.le_refl _
    · have := ih (by omega)
      rw [flatG_succ, List.length_append]
      omega
end Go.Proofs.YtkpdadnmbjmfpaaDoor

namespace Go.Proofs.YtkpdadnmbjmfpaaDoor
open Go.RowKit

end Go.Proofs.YtkpdadnmbjmfpaaDoor
