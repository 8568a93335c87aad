/- Package log's contracts as one; layer 18's five walks. -/
import Derived.Test.YtaddbhdkgneiaaaGreatLgY
import Derived.Test.YtaddbhdkgneiaaaGreatVy
import Derived.Test.YtaddbhdkgneiaaaGreatLmB
namespace Go.Proofs.YtaddbhdkgneiaaaGreat.Ce
open Go.RowKit Dk
theorem logI : LogI OwnL where
 keep := fun h hk _ => h.keep hk
 lt := fun h => h.lt
 open_ := fun hd hf hl hc hB hs => vopen_any hd hf hl hc hB hs
 promised := fun h => by
  obtain ⟨T, hT⟩ := h.own
  exact vpromised_any hT
 votes := fun h => by
  obtain ⟨T, hT⟩ := h.own
  exact vvotes_any hT h.wf.ok
 size := fun h => vsize_any h
 prom := fun b h => vprom_any b h
 vote := fun c h => vvote2_any c h
 comp := fun h => vcomp_any h
end Go.Proofs.YtaddbhdkgneiaaaGreat.Ce
namespace Go.Proofs.YtaddbhdkgneiaaaGreat
open Go.RowKit Ce
theorem logActs_walk (v : Value) (L : List A18) (c : Int) (w : World) (hv : RdA18 w v L) (w1 : (Lit.int .u16 c).wf = true) :
  Calls Tryz.prog 3 #[v, .int .u16 c] w fun e w' => e = .returned (.bool true) ∧ Below w.heap.size w w' := logActs_of logI v L c w hv w1
theorem logSynced_walk (v : Value) (L : List A18) (x : Value) (t : List UInt8) (y : Value) (ks : List Int) (w : World) (hv : RdA18 w v L) (hx : Rd w w.heap.size x (t.map bv)) {p1 : Prop} (hp1 : p1) (hy : Rd w w.heap.size y (ks.map iv)) (hks : ∀ q ∈ ks, inR64 q) :
  Calls Tryz.prog 4 #[v, x, y] w fun e w' => e = .returned (.bool true) ∧ Below w.heap.size w w' := logSynced_of logI v L x t y ks w hv hx hp1 hy hks
theorem logCompacts_walk (v : Value) (L : List A18) (w : World) (hv : RdA18 w v L) :
  Calls Tryz.prog 5 #[v] w fun e w' => e = .returned (.bool true) ∧ Below w.heap.size w w' := logCompacts_of logI v L w hv
end Go.Proofs.YtaddbhdkgneiaaaGreat
