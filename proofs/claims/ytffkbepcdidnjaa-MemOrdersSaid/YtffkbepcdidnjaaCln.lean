/- The contract of bytes.Clone. -/
import Derived.Test.YtffkbepcdidnjaaBase
import Derived.Lib.SliceRun
namespace Go.Proofs.Ytffkbepcdidnjaa
open Go.RowKit

end Go.Proofs.Ytffkbepcdidnjaa
