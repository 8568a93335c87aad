/- The statement FrameScan: its walk, to the end. -/
import Derived.Test.YtpmlfhgdhnofbaaFrmA
import Derived.Test.YtpmlfhgdhnofbaaFrmRQ
import Derived.Lib.SlBytesConst
import Derived.Deep.RegionHeld3
namespace Go.Proofs.Ytpmlfhgdhnofbaa
open Go.RowKit Crc Frm
theorem RdM.cutTo {w : World} {B n m c : Nat} {A : Option Addr} {g : Nat → List UInt8} (h : RdM w B (.slice A n c) n g) (hm : m ≤ n) : RdM w B (.slice A m c) m g := by
 obtain ⟨vs, h1, h2⟩ := h
 refine ⟨vs, ?_, fun j hj => h2 j (by omega)⟩
 have := h1.cutTo (hi := m) hm
 rwa [← List.map_take, List.take_range, Nat.min_eq_left hm] at this
end Go.Proofs.Ytpmlfhgdhnofbaa
