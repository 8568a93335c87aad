/- awake of layer 11. -/
import Derived.Test.YtglagpaamoigmaaBlmS
import Derived.Test.YtglagpaamoigmaaRefB
namespace Go.Proofs.Ytglagpaamoigmaa.Blm
open Go.RowKit Crc

def cA : ByteArray := ⟨#[97]⟩
theorem aw1 : mkB (kl [cA]) = [17] := by decide +kernel
theorem aw2 : hasB [17] cA.data.toList = true := by decide +kernel
theorem aw3 : mkB (kl []) = [0] := by decide +kernel
theorem aw4 : hasB [0] cA.data.toList = false := by decide +kernel
theorem aw5 : hasB [] cA.data.toList = true := by decide +kernel
set_option maxHeartbeats 2000000 in
set_option maxRecDepth 100000 in
theorem lawake_ok (w : World) : Calls Try.prog 7 #[] w fun e w' => e = .returned (.bool true) ∧ Below w.heap.size w w' := by
  have hA : cA.size ≤ 140737488351232 := by decide
  go_enter Try.func7, Try.ntmps7
  go_wp2_with fail
  refine (make_any _ [cA] _ (Rd.newW _ _ #[sv cA] rfl (by simp [maxLen]) rfl) (by simp) (by simpa using hA)).mono ?_
  rintro e w1 ⟨⟨v1, rfl, h1⟩, hb1⟩
  have hb1 := bwstep (bwalloc (bwrefl w) (.cells #[sv cA] 9)) hb1
  rw [aw1] at h1
  obtain ⟨A1, c1, rfl, hc1, hm1⟩ := h1.rd.shapeM
  have hr1 := h1.rd
  obtain ⟨b, off, rfl, hbb, hcell⟩ := hr1.cellM (by simp)
  have hc0 : w1.cell? ⟨b, off, none⟩ = some (.int .u8 17) := hcell 0 (by simp)
  clear hcell h1
  unfold maxLen at hm1
  go_wp2_with fail
  refine (has_any _ [17] cA _ w1 (Nat.le_refl _) hr1 (by simp) hA).mono ?_
  rintro e w2 ⟨rfl, hb2⟩
  rw [aw2]
  have hb2 := bwstep hb1 hb2
  clear hr1 hb1 hc0
  go_wp2_with fail
  refine (make_any _ [] _ (Rd.nil _ _) (by simp) (by simp)).mono ?_
  rintro e w3 ⟨⟨v3, rfl, h3⟩, hb3⟩
  rw [aw3] at h3
  have hb3 := bwstep hb2 hb3
  obtain ⟨A3, c3, rfl, hc3, hm3⟩ := h3.rd.shapeM
  clear h3 hb2
  go_wp2_with fail
  refine (make_any _ [] _ (Rd.nil _ _) (by simp) (by simp)).mono ?_
  rintro e w4 ⟨⟨v4, rfl, h4⟩, hb4⟩
  rw [aw3] at h4
  have hb4 := bwstep hb3 hb4
  have hr4 := h4.rd
  obtain ⟨A4, c4, rfl, hc4, hm4⟩ := hr4.shapeM
  clear h4 hb3
  go_wp2_with fail
  refine (has_any _ [0] cA _ w4 (Nat.le_refl _) hr4 (by simp) hA).mono ?_
  rintro e w5 ⟨rfl, hb5⟩
  rw [aw4]
  have hb5 := bwstep hb4 hb5
  clear hr4 hb4
  go_wp2_with fail
  refine (has_any _ [] cA _ w5 (Nat.le_refl _) (Rd.nil _ _) (by simp) hA).mono ?_
  rintro e w6 ⟨rfl, hb6⟩
  rw [aw5]
  have hb6 := bwstep hb5 hb6
  clear hb5
  go_wp2_with fail
  refine (bits_any cA 8 w6 hA (by omega) (by omega)).mono ?_
  rintro e w7 ⟨⟨v7, rfl, h7⟩, hb7⟩
  have hb7 := bwstep hb6 hb7
  obtain ⟨A7, c7, hv7, hc7, hm7⟩ := h7.rd.shapeM
  rw [bitsL_len] at hv7
  subst hv7
  clear h7 hb6
  go_wp2_with fail
  go_ret
  exact ⟨rfl, hb7⟩
end Go.Proofs.Ytglagpaamoigmaa.Blm
