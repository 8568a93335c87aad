/- The contracts of the reference function Same and of bytes.Equal. -/
import Derived.Test.YtffkbepcdidnjaaBase
namespace Go.Proofs.Ytffkbepcdidnjaa
open Go.RowKit

/-- the same bytes? -/
def sameB (a b : List UInt8) : Bool := decide (a = b)
theorem sameB_self (l : List UInt8) : sameB l l = true := by simp [sameB]
end Go.Proofs.Ytffkbepcdidnjaa
