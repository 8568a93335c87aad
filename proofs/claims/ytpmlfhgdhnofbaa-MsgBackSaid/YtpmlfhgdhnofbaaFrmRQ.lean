/- The contracts of the reference functions of layer 6: Put, Same, Few. The contract of the reference's Scan of layer 6. -/
import Derived.Test.YtpmlfhgdhnofbaaFrmA
import Derived.Test.YtpmlfhgdhnofbaaLow
import Derived.Deep.QuietTactic
import Derived.BigQuiet
import Derived.IntWalk
set_option maxHeartbeats 8000000
set_option maxRecDepth 100000
namespace Go.Proofs.Ytpmlfhgdhnofbaa
open Go.RowKit Crc Frm
theorem Ow.ofo {w : World} {B e : Nat} {v : Value} {b c : List UInt8} (h : Ow w B e v (b.map bv)) (k : b = c) : Ow w B e v (c.map bv) := k ▸ h
theorem rfput_ok (v : Value) (r : List UInt8) (w : World) (hr : Rd w w.heap.size v (r.map bv)) (hl : r.length ≤ 65535) :
  Calls Try.prog 28 #[v] w fun e w' => (∃ x, e = .returned x ∧ Ow w' w.heap.size 5 x ((frm r).map bv)) ∧ Below w.heap.size w w' := by
 obtain ⟨A, c, rfl, hc, hm⟩ := hr.shapeM
 unfold maxLen at hm
 have v1 := vw_le (sum (numB r.length))
 have v2 := vw_le (sum r)
 go_enter Try.func28, Try.ntmps28
 go_wp2_with fail
 refine (rnum_ok _ _ (by omega)).mono ?_
 rintro e w1 ⟨q1, rfl, h1, hb1⟩
 have k1 := h1.rd.up (bwalloc (bwrefl w1) (.cells #[] 5))
 go_wp2_with (at_builtin; refine wpList_appB bytesT rfl (.tmp 8) (.tmp 9) rfl rfl (Ow.empty w1 (Nat.le_refl _) _) rfl k1 (by simp [numB_len]) (by simp) ?_; intro x2 w2 o2 g2 _; have hB2 := Ow.emptyG g2; clear g2)
 refine (rsum_any _ _ _ _ (h1.rd.up hB2) (by rw [numB_len]; omega)).mono ?_
 rintro e w' ⟨rfl, rfl⟩
 go_wp2_with fail
 refine (rnum_ok _ _ v1).mono ?_
 rintro e w3 ⟨q3, rfl, h3, hb3⟩
 have o2 := o2.below hb3
 have hb3 := bwstep hB2 hb3
 have k3 := h3.rd
 clear h1 k1 h3 hB2
 go_wp2_with (at_builtin; refine wpList_appB bytesT rfl (.tmp 10) (.tmp 14) rfl rfl o2 rfl k3 (by simp [numB_len]) hb3.size ?_; intro x4 w4 o4 g4 _; have hB4 := hb3.grown g4 hb3.size o2.ge; clear g4)
 have hb4 := bwstep hb1 hB4
 refine (rsum_any _ _ _ _ (hr.up hb4) (by omega)).mono ?_
 rintro e w' ⟨rfl, rfl⟩
 go_wp2_with fail
 refine (rnum_ok _ _ v2).mono ?_
 rintro e w5 ⟨q5, rfl, h5, hb5⟩
 have o4 := o4.below hb5
 have hb5 := bwstep hB4 hb5
 have k5 := h5.rd
 have k6 := hr.up (bwstep hb1 hb5)
 clear o2 k3 h5 hB4 hb3 hb4
 go_wp2_with (first
  | (at_builtin; refine wpList_appB bytesT rfl (.tmp 22) (.tmp 23) rfl rfl o6 rfl k7 (by simp [numB_len]; omega) hB6.size ?_; intro x8 w8 o8 g8 _; have hB8 := hB6.grown g8 hB6.size o6.ge; clear g8)
  | (at_builtin; refine wpList_appB bytesT rfl (.tmp 16) (.tmp 20) rfl rfl o4 rfl k5 (by simp [numB_len]) hb5.size ?_; intro x6 w6 o6 g6 _; have hB6 := hb5.grown g6 hb5.size o4.ge; have k7 := hr.up (bwstep hb1 hB6); clear g6))
 go_ret
 have e1 : ((([] ++ numB r.length) ++ sumB (numB r.length)) ++ sumB r) ++ r = frm r := by unfold frm; simp
 exact ⟨⟨_, rfl, (o8.ofo e1).mono hb1.size⟩, bwstep hb1 hB8⟩
end Go.Proofs.Ytpmlfhgdhnofbaa
namespace Go.Proofs.Ytpmlfhgdhnofbaa
open Go.RowKit Crc Frm
end Go.Proofs.Ytpmlfhgdhnofbaa
