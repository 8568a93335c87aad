/- TreeModel: its walk, by the contracts of package tree. -/
import Derived.Test.YtgcbmdolbmmljaaGreatTreF
import Derived.Test.YtgcbmdolbmmljaaGreatTrM
namespace Go.Proofs.YtgcbmdolbmmljaaGreat
open Go.RowKit Ce

theorem treeModel_walk (s : Sf) (v : Value) (L : List Ac) (w : World) (hv : St.RdS acD w [] v L) (hz : ∀ a ∈ L, (Lit.int .i64 a.do_).wf = true) : Calls Tryz.prog 3 #[s.v, v] w fun e w' => e = .returned (.bool true) ∧ Below w.heap.size w w' := treeModel_gen treeI s v L w hv hz
end Go.Proofs.YtgcbmdolbmmljaaGreat
