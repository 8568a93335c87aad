/- The contracts of the reference functions of layer 6: Put, Same, Few. The contract of the reference's Scan of layer 6. -/
import Derived.Test.YtgcbmdolbmmljaaGreatFrmA
import Derived.Test.YtgcbmdolbmmljaaGreatSumA
import Derived.Test.YtgcbmdolbmmljaaGreatRef1
import Derived.Test.YtgcbmdolbmmljaaGreatSls
import Derived.Deep.QuietTactic
import Derived.BigQuiet
import Derived.IntWalk
namespace Go.Proofs.YtgcbmdolbmmljaaGreat
open Go.RowKit Crc Frm

theorem Ow.ofo {w : World} {B e : Nat} {v : Value} {b c : List UInt8} (h : Ow w B e v (b.map bv)) (k : b = c) : Ow w B e v (c.map bv) := k ▸ h
/-- the same records? -/
def sameL (A B : List (List UInt8)) : Bool := decide (A = B)
theorem sameL_ne {A B : List (List UInt8)} (h : A.length ≠ B.length) : sameL A B = false := by
  unfold sameL
  rw [decide_eq_false_iff_not]
  rintro rfl
  exact h rfl
theorem sameL_not {A B : List (List UInt8)} {k : Nat} (h : gl A k ≠ gl B k) : sameL A B = false := by
  unfold sameL
  rw [decide_eq_false_iff_not]
  rintro rfl
  exact h rfl
theorem sameL_true {A B : List (List UInt8)} (hl : A.length = B.length) (h : ∀ j, j < A.length → gl A j = gl B j) : sameL A B = true := by
  unfold sameL
  rw [decide_eq_true_iff]
  refine List.ext_getElem hl fun j h1 h2 => ?_
  have := h j h1
  rwa [gl_at A h1, gl_at B h2] at this
end Go.Proofs.YtgcbmdolbmmljaaGreat

namespace Go.Proofs.YtgcbmdolbmmljaaGreat
open Go.RowKit Crc Frm

theorem numOf_sumB (l : List UInt8) : numOf (sumB l) = vw (sum l) := by
  have := numOf_numB (vw (sum l)) (vw_le _) []
  rwa [List.append_nil] at this
end Go.Proofs.YtgcbmdolbmmljaaGreat
