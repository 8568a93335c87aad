/- The statements of layer 3: walks of FieldProducts, FieldPowers, FieldRules. -/
import Derived.Test.YthlcifnmeelmpaaFldR
namespace Go.Proofs.Ythlcifnmeelmpaa
open Go.RowKit

theorem byteOf {s : Int} (h : (Lit.int .u8 s).wf = true) : ∃ t : Nat, s = (t : Int) ∧ t < 256 := by
  have := bounds_u8 h
  exact ⟨s.toNat, by omega, by omega⟩
set_option maxHeartbeats 2000000 in
set_option maxRecDepth 100000 in
theorem fieldProducts_walk (a b : Int) (w : World) (ha : (Lit.int .u8 a).wf = true) (hb : (Lit.int .u8 b).wf = true) :
    Calls Try.prog 3 #[.int .u8 a, .int .u8 b] w fun e w' => e = .returned (.bool true) ∧ Below w.heap.size w w' := by
  obtain ⟨x, rfl, hx⟩ := byteOf ha
  obtain ⟨y, rfl, hy⟩ := byteOf hb
  clear ha hb
  have hi := Gf.inv_lt y
  obtain ⟨q, hq1, hq2⟩ : ∃ q : Bool, ((y : Int) != 0) = q ∧ decide (y ≠ 0) = q := ⟨_, rfl, by by_cases h : y = 0 <;> simp [h]⟩
  have HQ := Lib.hid hq2
  clear hq2
  go_enter Try.func3, Try.ntmps3
  go_wp2_with fail
  refine (new_any _).mono ?_
  rintro e w1 ⟨⟨p, rfl, -, hf⟩, hb1⟩
  go_wp2_with fail
  refine (awake_ok _).mono ?_
  rintro e w2 ⟨rfl, hb2⟩
  have hf2 := hf.below hb2
  have hbb := bwstep hb1 hb2
  clear hf hb1 hb2
  go_wp2_with fail
  refine (div_any p x y _ hf2 hx hy).mono ?_
  rintro e w3 ⟨rfl, n1, rfl⟩
  rw [HQ.out]
  go_wp2_with fail
  refine (rinv_any y _ hy).mono ?_
  rintro e w3 ⟨rfl, rfl⟩
  go_wp2_with fail
  refine (rmul_any x (Gf.inv y) _ hx hi).mono ?_
  rintro e w3 ⟨rfl, rfl⟩
  go_wp2_with fail
  refine (mul_any p x y _ (hf2.drewN _) hx hy).mono ?_
  rintro e w3 ⟨rfl, n2, rfl⟩
  go_wp2_with fail
  refine (rmul_any x y _ hx hy).mono ?_
  rintro e w3 ⟨rfl, rfl⟩
  go_wp2_with fail
  refine (inv_any p x _ (hf2.drewN _) hx).mono ?_
  rintro e w3 ⟨rfl, n3, rfl⟩
  go_wp2_with fail
  refine (rinv_any x _ hx).mono ?_
  rintro e w3 ⟨rfl, rfl⟩
  go_wp2_with fail
  go_ret
  exact ⟨rfl, below_drewN hbb _⟩
theorem nat16Of {s : Int} (h : (Lit.int .u16 s).wf = true) : ∃ t : Nat, s = (t : Int) ∧ t < 65536 := by
  have := bounds_u16 h
  exact ⟨s.toNat, by omega, by omega⟩
set_option maxHeartbeats 4000000 in
set_option maxRecDepth 100000 in
theorem fieldPowers_walk (a n m : Int) (w : World) (ha : (Lit.int .u8 a).wf = true) (hn : (Lit.int .u16 n).wf = true) (hm : (Lit.int .i64 m).wf = true) :
    Calls Try.prog 4 #[.int .u8 a, .int .u16 n, .int .i64 m] w fun e w' => e = .returned (.bool true) ∧ Below w.heap.size w w' := by
  obtain ⟨x, rfl, hx⟩ := byteOf ha
  obtain ⟨k0, rfl, hk0⟩ := nat16Of hn
  have hmb := bounds_i64 hm
  clear ha hn hm
  obtain ⟨k, hk, hkb⟩ : ∃ k : Nat, (k0 : Int) % 600 = (k : Int) ∧ k < 600 := ⟨k0 % 600, by omega, by omega⟩
  have HK := Lib.hid hk
  clear hk
  have HG : Hid (Gf.gp x (k + 1) = Gf.gm (Gf.gp x k) x) := Lib.hid rfl
  have hgk := Gf.gp_lt hx k
  by_cases h0 : x = 0
  · have hx0 : ((x : Int) == 0) = true := by simp [h0]
    have hx1 : ((x : Int) != 0) = false := by simp [h0]
    have HX := Lib.hid h0
    clear h0
    go_enter Try.func4, Try.ntmps4
    go_wp2_with fail
    refine (new_any _).mono ?_
    rintro e w1 ⟨⟨p, rfl, -, hf⟩, hb1⟩
    go_wp2_with fail
    refine (awake_ok _).mono ?_
    rintro e w2 ⟨rfl, hb2⟩
    have hf2 := hf.below hb2
    have hbb := bwstep hb1 hb2
    clear hf hb1 hb2
    go_wp2_with fail
    rw [HK.out]
    refine (pow_any p x k _ hf2 hx (by omega)).mono ?_
    rintro e w3 ⟨rfl, n1, rfl⟩
    go_wp2_with fail
    refine (rpow_any x k _ hx (by omega)).mono ?_
    rintro e w3 ⟨rfl, rfl⟩
    go_wp2_with fail
    refine (pow_any p x (k + 1) _ (hf2.drewN _) hx (by omega)).mono ?_
    rintro e w3 ⟨rfl, n2, rfl⟩
    rw [HG.out]
    go_wp2_with fail
    refine (pow_any p x k _ (hf2.drewN _) hx (by omega)).mono ?_
    rintro e w3 ⟨rfl, n3, rfl⟩
    go_wp2_with fail
    refine (mul_any p (Gf.gp x k) x _ (hf2.drewN _) hgk hx).mono ?_
    rintro e w3 ⟨rfl, n4, rfl⟩
    by_cases h1 : m < 1
    · go_wp2_with fail
      go_ret
      exact ⟨rfl, below_drewN hbb _⟩
    · obtain ⟨t, rfl⟩ : ∃ t : Nat, m = (t : Int) := ⟨m.toNat, by omega⟩
      have HZ : Hid ((Gf.gp x t : Int) = 0) := Lib.hid (by rw [HX.out, Gf.gp_zero t (by omega)]; rfl)
      go_wp2_with fail
      refine (pow_any p x t _ (hf2.drewN _) hx (by omega)).mono ?_
      rintro e w3 ⟨rfl, n5, rfl⟩
      rw [HZ.out]
      go_wp2_with fail
      go_ret
      exact ⟨rfl, below_drewN hbb _⟩
  · have hx0 : ((x : Int) == 0) = false := by simp [h0]
    have hx1 : ((x : Int) != 0) = true := by simp [h0]
    have HA := Lib.hid (Gf.gp_add hx h0 k)
    have HM := Lib.hid (Gf.gp_mod hx h0)
    clear h0
    go_enter Try.func4, Try.ntmps4
    go_wp2_with fail
    refine (new_any _).mono ?_
    rintro e w1 ⟨⟨p, rfl, -, hf⟩, hb1⟩
    go_wp2_with fail
    refine (awake_ok _).mono ?_
    rintro e w2 ⟨rfl, hb2⟩
    have hf2 := hf.below hb2
    have hbb := bwstep hb1 hb2
    clear hf hb1 hb2
    go_wp2_with fail
    rw [HK.out]
    refine (pow_any p x k _ hf2 hx (by omega)).mono ?_
    rintro e w3 ⟨rfl, n1, rfl⟩
    go_wp2_with fail
    refine (rpow_any x k _ hx (by omega)).mono ?_
    rintro e w3 ⟨rfl, rfl⟩
    go_wp2_with fail
    refine (pow_any p x (k + 1) _ (hf2.drewN _) hx (by omega)).mono ?_
    rintro e w3 ⟨rfl, n2, rfl⟩
    rw [HG.out]
    go_wp2_with fail
    refine (pow_any p x k _ (hf2.drewN _) hx (by omega)).mono ?_
    rintro e w3 ⟨rfl, n3, rfl⟩
    go_wp2_with fail
    refine (mul_any p (Gf.gp x k) x _ (hf2.drewN _) hgk hx).mono ?_
    rintro e w3 ⟨rfl, n4, rfl⟩
    go_wp2_with fail
    refine (pow_any p x (k + 255) _ (hf2.drewN _) hx (by omega)).mono ?_
    rintro e w3 ⟨rfl, n5, rfl⟩
    rw [HA.out]
    go_wp2_with fail
    refine (pow_any p x k _ (hf2.drewN _) hx (by omega)).mono ?_
    rintro e w3 ⟨rfl, n6, rfl⟩
    by_cases h1 : m < 1
    · go_wp2_with fail
      go_ret
      exact ⟨rfl, below_drewN hbb _⟩
    · obtain ⟨t, rfl⟩ : ∃ t : Nat, m = (t : Int) := ⟨m.toNat, by omega⟩
      go_wp2_with fail
      refine (pow_any p x t _ (hf2.drewN _) hx (by omega)).mono ?_
      rintro e w3 ⟨rfl, n7, rfl⟩
      go_wp2_with fail
      refine (rpow_any x (t % 255) _ hx (by omega)).mono ?_
      rintro e w3 ⟨rfl, rfl⟩
      rw [HM.out]
      go_wp2_with fail
      go_ret
      exact ⟨rfl, below_drewN hbb _⟩
set_option maxHeartbeats 4000000 in
set_option maxRecDepth 100000 in
theorem fieldRules_walk (a b c : Int) (w : World) (ha : (Lit.int .u8 a).wf = true) (hb : (Lit.int .u8 b).wf = true) (hc : (Lit.int .u8 c).wf = true) :
    Calls Try.prog 5 #[.int .u8 a, .int .u8 b, .int .u8 c] w fun e w' => e = .returned (.bool true) ∧ Below w.heap.size w w' := by
  obtain ⟨x, rfl, hx⟩ := byteOf ha
  obtain ⟨y, rfl, hy⟩ := byteOf hb
  obtain ⟨z, rfl, hz⟩ := byteOf hc
  clear ha hb hc
  have hxy := Gf.gm_lt y hx
  have hxz := Gf.gm_lt z hx
  have hyz := Gf.gm_lt z hy
  have hix := Gf.inv_lt x
  have hs := Gf.xor_lt hy hz
  have R1 := Lib.hid (Gf.gm_comm hy hx)
  have R2 := Lib.hid (Gf.gm_assoc hx hy hz)
  have R3 := Lib.hid (xor_n8 y z hy hz)
  have R4 := Lib.hid (xor_n8 (Gf.gm x y) (Gf.gm x z) hxy hxz)
  have R5 := Lib.hid (Gf.gm_xor2 hx hy hz)
  have R6 := Lib.hid (Gf.mul_one hx)
  have R7 := Lib.hid (Gf.inv_inv hx)
  have R8 : Hid ((Gf.gm x 0 : Int) = 0) := Lib.hid (by rw [Gf.gm_zero hx]; rfl)
  go_enter Try.func5, Try.ntmps5
  go_wp2_with fail
  refine (new_any _).mono ?_
  rintro e w1 ⟨⟨p, rfl, -, hf⟩, hb1⟩
  go_wp2_with fail
  refine (awake_ok _).mono ?_
  rintro e w2 ⟨rfl, hb2⟩
  have hf2 := hf.below hb2
  have hbb := bwstep hb1 hb2
  clear hf hb1 hb2
  go_wp2_with fail
  refine (mul_any p x y _ hf2 hx hy).mono ?_
  rintro e w3 ⟨rfl, n1, rfl⟩
  go_wp2_with fail
  refine (mul_any p y x _ (hf2.drewN _) hy hx).mono ?_
  rintro e w3 ⟨rfl, n2, rfl⟩
  rw [R1.out]
  go_wp2_with fail
  refine (mul_any p x y _ (hf2.drewN _) hx hy).mono ?_
  rintro e w3 ⟨rfl, n3, rfl⟩
  go_wp2_with fail
  refine (mul_any p (Gf.gm x y) z _ (hf2.drewN _) hxy hz).mono ?_
  rintro e w3 ⟨rfl, n4, rfl⟩
  rw [R2.out]
  go_wp2_with fail
  refine (mul_any p y z _ (hf2.drewN _) hy hz).mono ?_
  rintro e w3 ⟨rfl, n5, rfl⟩
  go_wp2_with fail
  refine (mul_any p x (Gf.gm y z) _ (hf2.drewN _) hx hyz).mono ?_
  rintro e w3 ⟨rfl, n6, rfl⟩
  go_wp2_with fail
  rw [R3.out]
  refine (mul_any p x (y ^^^ z) _ (hf2.drewN _) hx hs).mono ?_
  rintro e w3 ⟨rfl, n7, rfl⟩
  rw [R5.out]
  go_wp2_with fail
  refine (mul_any p x y _ (hf2.drewN _) hx hy).mono ?_
  rintro e w3 ⟨rfl, n8, rfl⟩
  go_wp2_with fail
  refine (mul_any p x z _ (hf2.drewN _) hx hz).mono ?_
  rintro e w3 ⟨rfl, n9, rfl⟩
  have R4o := R4.out
  go_wp2_with fail
  clear R4o
  refine (mul_any p x 1 _ (hf2.drewN _) hx (by omega)).mono ?_
  rintro e w3 ⟨rfl, n10, rfl⟩
  rw [R6.out]
  go_wp2_with fail
  refine (mul_any p x 0 _ (hf2.drewN _) hx (by omega)).mono ?_
  rintro e w3 ⟨rfl, n11, rfl⟩
  rw [R8.out]
  by_cases h0 : x = 0
  · have hx1 : ((x : Int) != 0) = false := by simp [h0]
    clear h0
    · skip
      go_wp2_with fail
      refine (inv_any p x _ (hf2.drewN _) hx).mono ?_
      rintro e w3 ⟨rfl, n12, rfl⟩
      go_wp2_with fail
      refine (inv_any p (Gf.inv x) _ (hf2.drewN _) hix).mono ?_
      rintro e w3 ⟨rfl, n13, rfl⟩
      rw [R7.out]
      go_wp2_with fail
      refine (mul_any p x y _ (hf2.drewN _) hx hy).mono ?_
      rintro e w3 ⟨rfl, n14, rfl⟩
      go_wp2_with fail
      refine (div_any p (Gf.gm x y) y _ (hf2.drewN _) hxy hy).mono ?_
      rintro e w3 ⟨rfl, n15, rfl⟩
      by_cases hy0 : y = 0
      · have e1 : decide (y ≠ 0) = false := by simp [hy0]
        have e2 : ((y : Int) == 0) = true := by simp [hy0]
        rw [e1]
        clear e1 hy0
        go_wp2_with fail
        go_ret
        exact ⟨rfl, below_drewN hbb _⟩
      · have e1 : decide (y ≠ 0) = true := by simp [hy0]
        have e2 : ((y : Int) == 0) = false := by simp [hy0]
        rw [e1, Gf.div_mul hx hy hy0]
        clear e1 hy0
        go_wp2_with fail
        go_ret
        exact ⟨rfl, below_drewN hbb _⟩
  · have hx1 : ((x : Int) != 0) = true := by simp [h0]
    have R9 : Hid ((Gf.gm x (Gf.inv x) : Int) = 1) := Lib.hid (by rw [Gf.gm_inv hx h0]; rfl)
    clear h0
    go_wp2_with fail
    refine (inv_any p x _ (hf2.drewN _) hx).mono ?_
    rintro e w3 ⟨rfl, m1, rfl⟩
    go_wp2_with fail
    refine (mul_any p x (Gf.inv x) _ (hf2.drewN _) hx hix).mono ?_
    rintro e w3 ⟨rfl, m2, rfl⟩
    rw [R9.out]
    · skip
      go_wp2_with fail
      refine (inv_any p x _ (hf2.drewN _) hx).mono ?_
      rintro e w3 ⟨rfl, n12, rfl⟩
      go_wp2_with fail
      refine (inv_any p (Gf.inv x) _ (hf2.drewN _) hix).mono ?_
      rintro e w3 ⟨rfl, n13, rfl⟩
      rw [R7.out]
      go_wp2_with fail
      refine (mul_any p x y _ (hf2.drewN _) hx hy).mono ?_
      rintro e w3 ⟨rfl, n14, rfl⟩
      go_wp2_with fail
      refine (div_any p (Gf.gm x y) y _ (hf2.drewN _) hxy hy).mono ?_
      rintro e w3 ⟨rfl, n15, rfl⟩
      by_cases hy0 : y = 0
      · have e1 : decide (y ≠ 0) = false := by simp [hy0]
        have e2 : ((y : Int) == 0) = true := by simp [hy0]
        rw [e1]
        clear e1 hy0
        go_wp2_with fail
        go_ret
        exact ⟨rfl, below_drewN hbb _⟩
      · have e1 : decide (y ≠ 0) = true := by simp [hy0]
        have e2 : ((y : Int) == 0) = false := by simp [hy0]
        rw [e1, Gf.div_mul hx hy hy0]
        clear e1 hy0
        go_wp2_with fail
        go_ret
        exact ⟨rfl, below_drewN hbb _⟩
end Go.Proofs.Ythlcifnmeelmpaa
