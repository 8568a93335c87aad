/- The contracts of the reference functions of layer 1, going on. -/
import Derived.Test.YtpflcnndloielaaRefA
namespace Go.Proofs.Ytpflcnndloielaa
open Go.RowKit

def sumS (l : List ByteArray) : Nat := (l.map ByteArray.size).sum
theorem sumS_snoc (l : List ByteArray) (k : Nat) (h : k < l.length) : sumS (l.take (k + 1)) = sumS (l.take k) + l[k].size := by
  unfold sumS
  rw [List.take_succ_eq_append_getElem h, List.map_append, List.sum_append]
  simp
/-- few texts, and short -/
def FewSaid (w : World) (l : List ByteArray) (e : Ending) (w' : World) : Prop :=
  ∃ q : Bool, e = .returned (.bool q) ∧ (q = true → l.length ≤ 100 ∧ sumS l ≤ 5000) ∧ Below w.heap.size w w'

end Go.Proofs.Ytpflcnndloielaa
