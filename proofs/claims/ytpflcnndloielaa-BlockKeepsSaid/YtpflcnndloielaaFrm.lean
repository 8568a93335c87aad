/- The contracts of package frame: sums, one frame cut off. -/
import Derived.Test.YtpflcnndloielaaFrmP
import Derived.Test.YtpflcnndloielaaSame
import Derived.Test.YtpflcnndloielaaCln
namespace Go.Proofs.Ytpflcnndloielaa
open Go.RowKit Crc Frm

set_option maxHeartbeats 400000 in
theorem fsum_any (v : Value) (l : List UInt8) (w : World) (B : Nat) (hr : Rd w B v (l.map bv)) (hl : l.length ≤ 1000000000000) :
    Calls Try.prog 43 #[v] w fun e w' => ∃ x, e = .returned x ∧ Ow w' w.heap.size 5 x ((sumB l).map bv) ∧ Below w.heap.size w w' := by
  have hv := vw_le (sum l)
  go_enter Try.func43, Try.ntmps43
  go_wp2_with fail
  refine (sum_any _ l _ _ hr (by omega)).mono ?_
  rintro e w' ⟨rfl, rfl⟩
  go_wp2_with fail
  refine (num_ok _ _ hv).mono ?_
  rintro e w1 ⟨x, rfl, ho, hb⟩
  go_wp2_with fail
  go_ret
  exact ⟨x, rfl, ho, hb⟩
end Go.Proofs.Ytpflcnndloielaa
