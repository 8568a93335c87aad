/- Package msg keeps its contracts; layer 19's walks. -/
import Derived.Test.YtpmlfhgdhnofbaaMxH
import Derived.Test.YtpmlfhgdhnofbaaMxD
import Derived.Test.YtpmlfhgdhnofbaaMsY
namespace Go.Proofs.Ytpmlfhgdhnofbaa.Ce
open Go.RowKit
theorem msgI : MsgI where
 right x m w h hl := mright_any x m w h (by omega)
 put_yes := mput_yes
 put_not x m w h hl hR := mput_not x m w h (by omega) hR
 get := mget_any
 same x y m n w hx hy h1 _ := msame_any x y m n w hx hy (by omega)
end Go.Proofs.Ytpmlfhgdhnofbaa.Ce
namespace Go.Proofs.Ytpmlfhgdhnofbaa
open Go.RowKit Ce
theorem msgPuts_walk (x : Mx) (m : Ms) (y : Mx) (n : Ms) (w : World) (hx : MsIs w [] x m) (hy : MsIs w [] y n) : Calls Try.prog 3 #[x.v, y.v] w fun e w' => e = .returned (.bool true) ∧ Below w.heap.size w w' := msgPuts_of msgI x m y n w hx hy
theorem msgBack_walk (x : Mx) (m : Ms) (p z : Int) (w : World) (hx : MsIs w [] x m) (hp : (Lit.int .u16 p).wf = true) (hz : (Lit.int .u8 z).wf = true) : Calls Try.prog 4 #[x.v, .int .u16 p, .int .u8 z] w fun e w' => e = .returned (.bool true) ∧ Below w.heap.size w w' := msgBack_of msgI x m p z w hx hp hz
theorem msgGets_walk (x : Value) (s : List UInt8) (w : World) (hx : Rd w w.heap.size x (s.map bv)) {p : Prop} (h : p) : Calls Try.prog 5 #[x] w fun e w' => e = .returned (.bool true) ∧ Below w.heap.size w w' := msgGets_of msgI x s w hx h
theorem msgKeeps_walk (x : Mx) (m : Ms) (w : World) (hx : MsIs w [] x m) : Calls Try.prog 6 #[x.v] w fun e w' => e = .returned (.bool true) ∧ Below w.heap.size w w' := msgKeeps_of msgI x m w hx
end Go.Proofs.Ytpmlfhgdhnofbaa
