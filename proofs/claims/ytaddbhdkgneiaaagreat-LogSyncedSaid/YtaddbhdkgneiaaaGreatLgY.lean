/- Layer 18's five walks with the rows' hypotheses, over package log's contracts. -/
import Derived.Test.YtaddbhdkgneiaaaGreatL1
import Derived.Test.YtaddbhdkgneiaaaGreatAct
import Derived.Test.YtaddbhdkgneiaaaGreatLgG
import Derived.Test.YtaddbhdkgneiaaaGreatL3
import Derived.Test.YtaddbhdkgneiaaaGreatL4
import Derived.Deep.RegionHeld3
import Derived.OpenShut
namespace Go.Proofs.YtaddbhdkgneiaaaGreat
open Go.RowKit Ce
section
variable {Own : World → Value → Nat → Lg → List Nat → Prop}
theorem logActs_of (I : LogI Own) (v : Value) (L : List A18) (c : Int) (w : World) (hv : RdA18 w v L) (w1 : (Lit.int .u16 c).wf = true) : Calls Tryz.prog 3 #[v, .int .u16 c] w fun e w' => e = .returned (.bool true) ∧ Below w.heap.size w w' :=
 logActs_gen I v L c w hv (bounds_u16 w1).1 (bounds_u16 w1).2
theorem logSynced_of (I : LogI Own) (v : Value) (L : List A18) (x : Value) (t : List UInt8) (y : Value) (ks : List Int) (w : World) (hv : RdA18 w v L) (hx : Rd w w.heap.size x (t.map bv)) {p : Prop} (_ : p) (hy : Rd w w.heap.size y (ks.map iv)) (hks : ∀ q ∈ ks, inR64 q) :
  Calls Tryz.prog 4 #[v, x, y] w fun e w' => e = .returned (.bool true) ∧ Below w.heap.size w w' := logSynced_gen I v L x t y ks w hv hx hy hks
theorem logCompacts_of (I : LogI Own) (v : Value) (L : List A18) (w : World) (hv : RdA18 w v L) : Calls Tryz.prog 5 #[v] w fun e w' => e = .returned (.bool true) ∧ Below w.heap.size w w' := logCompacts_gen I v L w hv
end
end Go.Proofs.YtaddbhdkgneiaaaGreat
