/- The contracts of package frame: Put, All, Cut, Scan. -/
import Derived.Test.YtpflcnndloielaaFrmT
import Derived.Test.YtpflcnndloielaaConc
namespace Go.Proofs.Ytpflcnndloielaa
open Go.RowKit Crc Frm

/-- '[][]byte{a, b, c, d}' -/
theorem RdM.build4 {w : World} {a b c d : Value} {x y z u : List UInt8} (e : Nat) (ha : Rd w w.heap.size a (x.map bv)) (hb : Rd w w.heap.size b (y.map bv)) (hc : Rd w w.heap.size c (z.map bv)) (hd : Rd w w.heap.size d (u.map bv)) :
    RdM (w.alloc (.cells #[a, b, c, d] e)) (w.alloc (.cells #[a, b, c, d] e)).heap.size (.slice (some ⟨w.heap.size, 0, none⟩) 4 4) 4 (gl [x, y, z, u]) := by
  have hal := bwalloc (bwrefl w) (.cells #[a, b, c, d] e)
  refine ⟨fun i => [a, b, c, d].getD i undef, Rd.newW w e #[a, b, c, d] rfl (by simp [maxLen]) rfl, fun j hj => ?_⟩
  match j, hj with
  | 0, _ => exact ha.up hal
  | 1, _ => exact hb.up hal
  | 2, _ => exact hc.up hal
  | 3, _ => exact hd.up hal
theorem RdM.build2 {w : World} {a b : Value} {x y : List UInt8} (e : Nat) (ha : Rd w w.heap.size a (x.map bv)) (hb : Rd w w.heap.size b (y.map bv)) :
    RdM (w.alloc (.cells #[a, b] e)) (w.alloc (.cells #[a, b] e)).heap.size (.slice (some ⟨w.heap.size, 0, none⟩) 2 2) 2 (gl [x, y]) := by
  have hal := bwalloc (bwrefl w) (.cells #[a, b] e)
  refine ⟨fun i => [a, b].getD i undef, Rd.newW w e #[a, b] rfl (by simp [maxLen]) rfl, fun j hj => ?_⟩
  match j, hj with
  | 0, _ => exact ha.up hal
  | 1, _ => exact hb.up hal
theorem flatG4 (x y z u : List UInt8) : flatG (gl [x, y, z, u]) 4 = x ++ (y ++ (z ++ u)) := by
  show ((([] ++ x) ++ y) ++ z) ++ u = _
  simp
set_option maxHeartbeats 1000000 in
set_option maxRecDepth 100000 in
theorem fput_ok (v : Value) (r : List UInt8) (w : World) (hr : Rd w w.heap.size v (r.map bv)) (hl : r.length ≤ 65535) :
    Calls Try.prog 28 #[v] w fun e w' => (∃ x, e = .returned x ∧ Ow w' w.heap.size 5 x ((frm r).map bv)) ∧ Below w.heap.size w w' := by
  obtain ⟨A, c, rfl, hc, hm⟩ := hr.shapeM
  unfold maxLen at hm
  go_enter Try.func28, Try.ntmps28
  go_wp2_with fail
  refine (num_ok _ _ (by omega)).mono ?_
  rintro e w1 ⟨q1, rfl, h1, hb1⟩
  go_wp2_with fail
  refine (fsum_any _ _ _ _ h1.rd (by rw [numB_len]; omega)).mono ?_
  rintro e w2 ⟨q2, rfl, h2, hb2⟩
  have hbb := bwstep hb1 hb2
  go_wp2_with fail
  refine (fsum_any _ _ _ _ (hr.up hbb) (by omega)).mono ?_
  rintro e w3 ⟨q3, rfl, h3, hb3⟩
  have hm4 := RdM.build4 33 (h1.rd.up (bwstep hb2 hb3)) (h2.rd.up hb3) h3.rd ((hr.up hbb).up hb3)
  have hbb := bwstep hbb hb3
  have hfl : (flatG (gl [numB r.length, sumB (numB r.length), sumB r, r]) 4).length = 12 + r.length := by rw [flatG4]; exact frm_len r
  obtain ⟨A1, c1, rfl, -, -⟩ := h1.rd.shapeM
  obtain ⟨A2, c2, rfl, -, -⟩ := h2.rd.shapeM
  obtain ⟨A3, c3, rfl, -, -⟩ := h3.rd.shapeM
  have hbl := bwalloc hbb (.cells #[.slice A1 (numB r.length).length c1, .slice A2 (sumB (numB r.length)).length c2, .slice A3 (sumB r).length c3, .slice A r.length c] 33)
  have hcc := concatG_any _ 4 _ _ hm4 (by omega) (by omega) (by omega)
  clear h1 h2 h3 hb1 hb2 hb3 hm4 hbb hr hfl
  go_wp2_with fail
  refine hcc.mono ?_
  rintro e w4 ⟨⟨q4, rfl, h4⟩, hb4⟩
  go_wp2_with fail
  go_ret
  rw [flatG4] at h4
  exact ⟨⟨_, rfl, h4.mono hbl.size⟩, bwstep hbl hb4⟩
set_option maxHeartbeats 400000 in
theorem fput_long (v : Value) (r : List UInt8) (w : World) (B : Nat) (hr : Rd w B v (r.map bv)) (hl : 65535 < r.length) :
    Calls Try.prog 28 #[v] w fun e w' => e = .returned (.slice none 0 0) ∧ w' = w := by
  obtain ⟨A, c, rfl, hc, hm⟩ := hr.shapeM
  unfold maxLen at hm
  go_enter Try.func28, Try.ntmps28
  go_wp2_with fail
  go_ret
  exact ⟨rfl, rfl⟩
set_option maxHeartbeats 1000000 in
set_option maxRecDepth 100000 in
theorem cut_ok (v : Value) (b r m : List UInt8) (w : World) (B : Nat) (hr : Rd w B v (b.map bv)) (hB : B ≤ w.heap.size) (hb : b = frm r ++ m) (hr5 : r.length ≤ 65535) (hl : b.length ≤ 1000000000000) :
    Calls Try.prog 31 #[v] w fun e w' => (∃ x y, e = .returned (.tuple #[x, y, .bool true]) ∧ Ow w' w.heap.size 5 x (r.map bv) ∧ Ow w' w.heap.size 5 y (m.map bv)) ∧ Below w.heap.size w w' := by
  have hlen : r.length ≤ 1000000000000 ∧ m.length ≤ 1000000000000 := by
    rw [hb, List.length_append, frm_len] at hl
    omega
  go_enter Try.func31, Try.ntmps31
  go_wp2_with fail
  refine (split_ok _ b r m _ _ hr hB hb hr5 hl).mono ?_
  rintro e w1 ⟨⟨x, y, rfl, hx, hy⟩, hb1⟩
  have hB1 := Nat.le_trans hB hb1.size
  go_wp2_with fail
  refine (bclone_any _ _ _ _ hx hB1 hlen.1).mono ?_
  rintro e w2 ⟨x2, rfl, hx2, hb2⟩
  go_wp2_with fail
  refine (bclone_any _ _ _ _ (hy.below (hb2.mono hB1)) (Nat.le_trans hB1 hb2.size) hlen.2).mono ?_
  rintro e w3 ⟨y2, rfl, hy2, hb3⟩
  go_wp2_with fail
  go_ret3
  exact ⟨⟨_, _, rfl, (hx2.below hb3).mono hb1.size, hy2.mono (bwstep hb1 hb2).size⟩, bwstep (bwstep hb1 hb2) hb3⟩
set_option maxHeartbeats 1000000 in
set_option maxRecDepth 100000 in
theorem cut_no (v : Value) (b : List UInt8) (w : World) (B : Nat) (hr : Rd w B v (b.map bv)) (hB : B ≤ w.heap.size) (hno : ¬ Whole b) (hl : b.length ≤ 1000000000000) :
    Calls Try.prog 31 #[v] w fun e w' => (∃ x y, e = .returned (.tuple #[x, y, .bool false]) ∧ Ow w' w.heap.size 5 x (([] : List UInt8).map bv) ∧ Ow w' w.heap.size 5 y (([] : List UInt8).map bv)) ∧ Below w.heap.size w w' := by
  have hcl := fun w => bclone_any (.slice none 0 0) [] w 0 (Rd.nil _ _) (Nat.zero_le _) (by simp)
  go_enter Try.func31, Try.ntmps31
  go_wp2_with fail
  refine (split_no _ b _ _ hr hB hno hl).mono ?_
  rintro e w1 ⟨rfl, hb1⟩
  go_wp2_with fail
  refine (hcl _).mono ?_
  rintro e w2 ⟨x2, rfl, hx2, hb2⟩
  go_wp2_with fail
  refine (hcl _).mono ?_
  rintro e w3 ⟨y2, rfl, hy2, hb3⟩
  go_wp2_with fail
  go_ret3
  exact ⟨⟨_, _, rfl, (hx2.below hb3).mono hb1.size, hy2.mono (bwstep hb1 hb2).size⟩, bwstep (bwstep hb1 hb2) hb3⟩
end Go.Proofs.Ytpflcnndloielaa
