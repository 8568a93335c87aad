/- Package log's contracts as one; layer 18's five walks. -/
import Derived.Test.YtaddbhdkgneiaaaLgY
import Derived.Test.YtaddbhdkgneiaaaVy
import Derived.Test.YtaddbhdkgneiaaaLmB
namespace Go.Proofs.Ytaddbhdkgneiaaa.Ce
open Go.RowKit Dk
theorem logI : LogI OwnL where
 keep := fun h hk _ => h.keep hk
 lt := fun h => h.lt
 open_ := fun hd hf hl hc hB hs => vopen_any hd hf hl hc hB hs
 promised := fun h => by
  obtain ⟨T, hT⟩ := h.own
  exact vpromised_any hT
 votes := fun h => by
  obtain ⟨T, hT⟩ := h.own
  exact vvotes_any hT h.wf.ok
 size := fun h => vsize_any h
 prom := fun b h => vprom_any b h
 vote := fun c h => vvote2_any c h
 comp := fun h => vcomp_any h
end Go.Proofs.Ytaddbhdkgneiaaa.Ce
namespace Go.Proofs.Ytaddbhdkgneiaaa
open Go.RowKit Ce
theorem logReads_walk (x : Value) (s : List UInt8) (w : World) (hx : Rd w w.heap.size x (s.map bv)) {p1 : Prop} (hp1 : p1) :
  Calls Try.prog 3 #[x] w fun e w' => e = .returned (.bool true) ∧ Below w.heap.size w w' := logReads_of logI vread_any x s w hx hp1
theorem logKeeps_walk (c : Vt) (w : World) :
  Calls Try.prog 4 #[c.v] w fun e w' => e = .returned (.bool true) ∧ Below w.heap.size w w' := logKeeps_of logI c w
end Go.Proofs.Ytaddbhdkgneiaaa
