/- TreeShelves: its walk, by the contracts of package tree. -/
import Derived.Test.YtgcbmdolbmmljaaGreatTreF
import Derived.Test.YtgcbmdolbmmljaaGreatTrS
namespace Go.Proofs.YtgcbmdolbmmljaaGreat
open Go.RowKit Ce

theorem treeShelves_walk (s u : Sf) (v : Value) (L : List Cl) (c : Cl) (w : World) (hv : RdL w [] v L) : Calls Tryz.prog 5 #[s.v, u.v, v, c.v] w fun e w' => e = .returned (.bool true) ∧ Below w.heap.size w w' := treeShelves_gen treeI s u v L c w hv
end Go.Proofs.YtgcbmdolbmmljaaGreat
