/- Layer 18's five walks with the rows' hypotheses, over package log's contracts. -/
import Derived.Test.YtaddbhdkgneiaaaL1
import Derived.Test.YtaddbhdkgneiaaaAct
import Derived.Test.YtaddbhdkgneiaaaL2
import Derived.Test.YtaddbhdkgneiaaaLgG
import Derived.Test.YtaddbhdkgneiaaaL5
import Derived.OpenShut
namespace Go.Proofs.Ytaddbhdkgneiaaa
open Go.RowKit Ce
section
variable {Own : World → Value → Nat → Lg → List Nat → Prop}
theorem logReads_of (I : LogI Own) (HRd : ReadI) (x : Value) (s : List UInt8) (w : World) (hx : Rd w w.heap.size x (s.map bv)) {p : Prop} (_ : p) : Calls Try.prog 3 #[x] w fun e w' => e = .returned (.bool true) ∧ Below w.heap.size w w' := logReads_gen I HRd x s w hx
theorem logKeeps_of (I : LogI Own) (c : Vt) (w : World) : Calls Try.prog 4 #[c.v] w fun e w' => e = .returned (.bool true) ∧ Below w.heap.size w w' := logKeeps_gen I c w
end
end Go.Proofs.Ytaddbhdkgneiaaa
