/- The statements of layer 2: their walks, going on. -/
import Derived.Test.YtcdbmijpccgpdaaSumL
namespace Go.Proofs.Ytcdbmijpccgpdaa
open Go.RowKit Crc

theorem le4_cells (v : W) : (le4 v).map bv = [.int .u8 ((vw v : Int) % 256), .int .u8 ((vw v : Int) / 256 % 256), .int .u8 ((vw v : Int) / 65536 % 256), .int .u8 ((vw v : Int) / 16777216)] := by
  have := vw_lt v
  unfold vw at this ⊢
  simp [le4, bv]
  omega
theorem ends_self (a b : List UInt8) : ((vw (sum (a ++ le4 (sum a))) : Int) == (vw (sum (b ++ le4 (sum b))) : Int)) = true := by rw [sum_ends, sum_ends]; exact beq_self_eq_true _

set_option maxHeartbeats 2000000 in
set_option maxRecDepth 100000 in
theorem checkEnds_walk (x : Value) (a : List UInt8) (y : Value) (b : List UInt8) (w : World) (hx : Rd w w.heap.size x (a.map bv)) (_ha : a.length ≤ 140737488351232) (hy : Rd w w.heap.size y (b.map bv)) (_hb : b.length ≤ 140737488351232) :
    Calls Try.prog 6 #[x, y] w fun e w' => e = .returned (.bool true) ∧ Below w.heap.size w w' := by
  obtain ⟨A, c, rfl, hc, hm⟩ := hx.shapeM
  obtain ⟨A', c', rfl, hc', hm'⟩ := hy.shapeM
  by_cases hsm : a.length ≤ 1000 ∧ b.length ≤ 1000
  · obtain ⟨h1, h2⟩ := hsm
    have HE := Lib.hid (ends_self a b)
    have ka := vw_lt (sum a)
    have kb := vw_lt (sum b)
    go_enter Try.func6, Try.ntmps6
    go_wp2_with fail
    refine (awake_ok _).mono ?_
    rintro e w1 ⟨rfl, hb1⟩
    have hX1 := hx.up hb1
    have hY1 := hy.up hb1
    clear hx hy
    go_wp2_with fail
    refine (sum_any _ a _ _ hX1 (by omega)).mono ?_
    rintro e w' ⟨rfl, rfl⟩
    go_wp2_with fail
    refine (sum_any _ b _ _ hY1 (by omega)).mono ?_
    rintro e w' ⟨rfl, rfl⟩
    go_wp2_with (first
      | (at_builtin; refine wpList_appB bytesT rfl (.tmp 47) (.tmp 62) rfl rfl (ho4.below (bwalloc (Below.refl _ _) _)) rfl (Rd.newW _ _ _ rfl (by simp [maxLen]) (le4_cells (sum b)).symm) (by simp [le4]; omega) (by have := hB4.size; simp; omega) ?_; intro v5 w5 ho5 hg5 _; have hB5 := (bwalloc hB4 _).grown hg5 (by have := hB4.size; simp; omega) ho4.ge)
      | (at_builtin; refine wpList_appB bytesT rfl (.tmp 45) (.tmp 46) rfl rfl (Ow.empty _ (Nat.le_refl _) _) rfl ((hY1.up hB3).up ((Below.refl _ _).alloc (Nat.le_refl _) _)) (by simp; omega) (by simp) ?_; intro v4 w4 ho4 hg4 _; have hB4 := Ow.emptyG hg4)
      | (at_builtin; refine wpList_appB bytesT rfl (.tmp 28) (.tmp 43) rfl rfl (ho2.below (bwalloc (Below.refl _ _) _)) rfl (Rd.newW _ _ _ rfl (by simp [maxLen]) (le4_cells (sum a)).symm) (by simp [le4]; omega) (by have := hB2.size; simp; omega) ?_; intro v3 w3 ho3 hg3 _; have hB3 := (bwalloc hB2 _).grown hg3 (by have := hB2.size; simp; omega) ho2.ge)
      | (at_builtin; refine wpList_appB bytesT rfl (.tmp 26) (.tmp 27) rfl rfl (Ow.empty _ (Nat.le_refl _) _) rfl (hX1.up ((Below.refl _ _).alloc (Nat.le_refl _) _)) (by simp; omega) (by simp) ?_; intro v2 w2 ho2 hg2 _; have hB2 := Ow.emptyG hg2))
    have hP : Rd w5 w5.heap.size v3 ((a ++ le4 (sum a)).map bv) := ho3.rd.up hB5
    have hQ : Rd w5 w5.heap.size v5 ((b ++ le4 (sum b)).map bv) := ho5.rd
    have hbb := bwstep (bwstep hb1 hB3) hB5
    clear hX1 hY1 hb1 hB2 hB3 hB4 hB5 ho2 ho3 ho4 ho5 hg2 hg3 hg4 hg5
    refine (sum_any _ (a ++ le4 (sum a)) _ _ hP (by simp [le4]; omega)).mono ?_
    rintro e w' ⟨rfl, rfl⟩
    go_wp2_with fail
    refine (sum_any _ (b ++ le4 (sum b)) _ _ hQ (by simp [le4]; omega)).mono ?_
    rintro e w' ⟨rfl, rfl⟩
    go_wp2_with fail
    go_ret
    exact ⟨ret1 (vb HE.out), hbb⟩
  · go_enter Try.func6, Try.ntmps6
    go_wp2_with fail
    refine (awake_ok _).mono ?_
    rintro e w1 ⟨rfl, hb1⟩
    rcases Nat.lt_or_ge 1000 a.length with h1 | h1
    · go_wp2_with fail
      refine (awake_ok _).mono ?_
      rintro e w2 ⟨rfl, hb2⟩
      go_wp2_with fail
      go_ret
      exact ⟨rfl, bwstep hb1 hb2⟩
    · have h2 : 1000 < b.length := by omega
      clear hsm
      go_wp2_with fail
      refine (awake_ok _).mono ?_
      rintro e w2 ⟨rfl, hb2⟩
      go_wp2_with fail
      go_ret
      exact ⟨rfl, bwstep hb1 hb2⟩
end Go.Proofs.Ytcdbmijpccgpdaa
