/- TreeKeeps: its walk, by the contracts of package tree. -/
import Derived.Test.YtgcbmdolbmmljaaGreatTreF
import Derived.Test.YtgcbmdolbmmljaaGreatTrK
namespace Go.Proofs.YtgcbmdolbmmljaaGreat
open Go.RowKit Ce

theorem treeKeeps_walk (s : Sf) (v : Value) (L : List Cl) (w : World) (hv : RdL w [] v L) : Calls Tryz.prog 7 #[s.v, v] w fun e w' => e = .returned (.bool true) ∧ Below w.heap.size w w' := treeKeeps_gen treeI s v L w hv
end Go.Proofs.YtgcbmdolbmmljaaGreat
