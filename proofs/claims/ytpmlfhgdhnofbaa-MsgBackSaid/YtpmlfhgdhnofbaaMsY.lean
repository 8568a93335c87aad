/- Layer 19's four walks with the rows' hypotheses, over package msg's contracts. -/
import Derived.Test.YtpmlfhgdhnofbaaY1
import Derived.Test.YtpmlfhgdhnofbaaY2
import Derived.Test.YtpmlfhgdhnofbaaY3
import Derived.Test.YtpmlfhgdhnofbaaY4
import Derived.OpenShut
namespace Go.Proofs.Ytpmlfhgdhnofbaa
open Go.RowKit Ce
theorem msgPuts_of (I : MsgI) (x : Mx) (m : Ms) (y : Mx) (n : Ms) (w : World) (hx : MsIs w [] x m) (hy : MsIs w [] y n) : Calls Try.prog 3 #[x.v, y.v] w fun e w' => e = .returned (.bool true) ∧ Below w.heap.size w w' := msgPuts_gen I x y m n w hx hy
theorem msgBack_of (I : MsgI) (x : Mx) (m : Ms) (p z : Int) (w : World) (hx : MsIs w [] x m) (hp : (Lit.int .u16 p).wf = true) (hz : (Lit.int .u8 z).wf = true) : Calls Try.prog 4 #[x.v, .int .u16 p, .int .u8 z] w fun e w' => e = .returned (.bool true) ∧ Below w.heap.size w w' := by
 have hp' := bounds_u16 hp
 obtain ⟨q, rfl⟩ := Int.eq_ofNat_of_zero_le hp'.1
 obtain ⟨t, rfl⟩ := byteOf hz
 exact msgBack_gen I x m q t w hx (by omega)
theorem msgGets_of (I : MsgI) (x : Value) (s : List UInt8) (w : World) (hx : Rd w w.heap.size x (s.map bv)) {p : Prop} (_ : p) : Calls Try.prog 5 #[x] w fun e w' => e = .returned (.bool true) ∧ Below w.heap.size w w' := msgGets_gen I x s w hx
theorem msgKeeps_of (I : MsgI) (x : Mx) (m : Ms) (w : World) (hx : MsIs w [] x m) : Calls Try.prog 6 #[x.v] w fun e w' => e = .returned (.bool true) ∧ Below w.heap.size w w' := msgKeeps_gen I x m w hx
end Go.Proofs.Ytpmlfhgdhnofbaa
