/- The contracts of the reference functions of layer 6: Put, Same, Few. The contract of the reference's Scan of layer 6. -/
import Derived.Test.YtdemdmingelamaaFrmA
import Derived.Test.YtdemdmingelamaaSumA
import Derived.Test.YtdemdmingelamaaRef1
import Derived.Test.YtdemdmingelamaaSls
import Derived.Deep.QuietTactic
import Derived.BigQuiet
import Derived.IntWalk
namespace Go.Proofs.Ytdemdmingelamaa
open Go.RowKit Crc Frm

theorem Ow.ofo {w : World} {B e : Nat} {v : Value} {b c : List UInt8} (h : Ow w B e v (b.map bv)) (k : b = c) : Ow w B e v (c.map bv) := k ▸ h
set_option maxHeartbeats 1000000 in
set_option maxRecDepth 100000 in
theorem rfput_ok (v : Value) (r : List UInt8) (w : World) (hr : Rd w w.heap.size v (r.map bv)) (hl : r.length ≤ 65535) :
    Calls Try.prog 41 #[v] w fun e w' => (∃ x, e = .returned x ∧ Ow w' w.heap.size 5 x ((frm r).map bv)) ∧ Below w.heap.size w w' := by
  obtain ⟨A, c, rfl, hc, hm⟩ := hr.shapeM
  unfold maxLen at hm
  have v1 := vw_le (sum (numB r.length))
  have v2 := vw_le (sum r)
  go_enter Try.func41, Try.ntmps41
  go_wp2_with fail
  refine (rnum_ok _ _ (by omega)).mono ?_
  rintro e w1 ⟨q1, rfl, h1, hb1⟩
  have k1 := h1.rd.up (bwalloc (bwrefl w1) (.cells #[] 5))
  go_wp2_with (at_builtin; refine wpList_appB bytesT rfl (.tmp 8) (.tmp 9) rfl rfl (Ow.empty w1 (Nat.le_refl _) _) rfl k1 (by simp [numB_len]) (by simp) ?_; intro x2 w2 o2 g2 _; have hB2 := Ow.emptyG g2; clear g2)
  refine (rsum_any _ _ _ _ (h1.rd.up hB2) (by rw [numB_len]; omega)).mono ?_
  rintro e w' ⟨rfl, rfl⟩
  go_wp2_with fail
  refine (rnum_ok _ _ v1).mono ?_
  rintro e w3 ⟨q3, rfl, h3, hb3⟩
  have o2 := o2.below hb3
  have hb3 := bwstep hB2 hb3
  have k3 := h3.rd
  clear h1 k1 h3 hB2
  go_wp2_with (at_builtin; refine wpList_appB bytesT rfl (.tmp 10) (.tmp 14) rfl rfl o2 rfl k3 (by simp [numB_len]) hb3.size ?_; intro x4 w4 o4 g4 _; have hB4 := hb3.grown g4 hb3.size o2.ge; clear g4)
  have hb4 := bwstep hb1 hB4
  refine (rsum_any _ _ _ _ (hr.up hb4) (by omega)).mono ?_
  rintro e w' ⟨rfl, rfl⟩
  go_wp2_with fail
  refine (rnum_ok _ _ v2).mono ?_
  rintro e w5 ⟨q5, rfl, h5, hb5⟩
  have o4 := o4.below hb5
  have hb5 := bwstep hB4 hb5
  have k5 := h5.rd
  have k6 := hr.up (bwstep hb1 hb5)
  clear o2 k3 h5 hB4 hb3 hb4
  go_wp2_with (first
    | (at_builtin; refine wpList_appB bytesT rfl (.tmp 22) (.tmp 23) rfl rfl o6 rfl k7 (by simp [numB_len]; omega) hB6.size ?_; intro x8 w8 o8 g8 _; have hB8 := hB6.grown g8 hB6.size o6.ge; clear g8)
    | (at_builtin; refine wpList_appB bytesT rfl (.tmp 16) (.tmp 20) rfl rfl o4 rfl k5 (by simp [numB_len]) hb5.size ?_; intro x6 w6 o6 g6 _; have hB6 := hb5.grown g6 hb5.size o4.ge; have k7 := hr.up (bwstep hb1 hB6); clear g6))
  go_ret
  have e1 : ((([] ++ numB r.length) ++ sumB (numB r.length)) ++ sumB r) ++ r = frm r := by unfold frm; simp
  exact ⟨⟨_, rfl, (o8.ofo e1).mono hb1.size⟩, bwstep hb1 hB8⟩
/-- the same records? -/
def sameL (A B : List (List UInt8)) : Bool := decide (A = B)
theorem sameL_ne {A B : List (List UInt8)} (h : A.length ≠ B.length) : sameL A B = false := by
  unfold sameL
  rw [decide_eq_false_iff_not]
  rintro rfl
  exact h rfl
theorem sameL_not {A B : List (List UInt8)} {k : Nat} (h : gl A k ≠ gl B k) : sameL A B = false := by
  unfold sameL
  rw [decide_eq_false_iff_not]
  rintro rfl
  exact h rfl
theorem sameL_true {A B : List (List UInt8)} (hl : A.length = B.length) (h : ∀ j, j < A.length → gl A j = gl B j) : sameL A B = true := by
  unfold sameL
  rw [decide_eq_true_iff]
  refine List.ext_getElem hl fun j h1 h2 => ?_
  have := h j h1
  rwa [gl_at A h1, gl_at B h2] at this
end Go.Proofs.Ytdemdmingelamaa

namespace Go.Proofs.Ytdemdmingelamaa
open Go.RowKit Crc Frm

theorem numOf_sumB (l : List UInt8) : numOf (sumB l) = vw (sum l) := by
  have := numOf_numB (vw (sum l)) (vw_le _) []
  rwa [List.append_nil] at this
end Go.Proofs.Ytdemdmingelamaa
