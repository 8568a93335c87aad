/- TreeFull: its walk, by the contracts of package tree. -/
import Derived.Test.YtgcbmdolbmmljaaGreatTreF
import Derived.Test.YtgcbmdolbmmljaaGreatTrF
namespace Go.Proofs.YtgcbmdolbmmljaaGreat
open Go.RowKit Ce

theorem treeFull_walk (a1 a2 : Int) (w : World) (w1 : (Lit.int .u16 a1).wf = true) (w2 : (Lit.int .u8 a2).wf = true) : Calls Tryz.prog 6 #[.int .u16 a1, .int .u8 a2] w fun e w' => e = .returned (.bool true) ∧ Below w.heap.size w w' := treeFull_gen treeI a1 a2 w w1 w2
end Go.Proofs.YtgcbmdolbmmljaaGreat
