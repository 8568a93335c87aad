/- The statements of layer 2: their walks. -/
import Derived.Test.YtcdbmijpccgpdaaSum
namespace Go.Proofs.Ytcdbmijpccgpdaa
open Go.RowKit Crc

theorem dec_self (a : List UInt8) : decide (sum a = sum a) = true := by simp
theorem sum_at (a b : List UInt8) : eats (sum a ^^^ ones) b ^^^ ones = sum (([] ++ a) ++ b) := sum_app a b
theorem beq_dec (a b : W) : decide (a = b) = ((vw b : Int) == (vw a : Int)) := by
  rw [vw_beq, decide_eq_decide]
  exact eq_comm
set_option maxHeartbeats 2000000 in
set_option maxRecDepth 100000 in
theorem checkSums_walk (x : Value) (a : List UInt8) (y : Value) (b : List UInt8) (s : Int) (w : World) (hx : Rd w w.heap.size x (a.map bv)) (_ha : a.length ≤ 140737488351232) (hy : Rd w w.heap.size y (b.map bv)) (_hb : b.length ≤ 140737488351232) (hs : (Lit.int .u32 s).wf = true) :
    Calls Try.prog 3 #[x, y, .int .u32 s] w fun e w' => e = .returned (.bool true) ∧ Below w.heap.size w w' := by
  obtain ⟨t, rfl⟩ : ∃ t : W, s = (vw t : Int) := wordOf hs
  have ht := vw_lt t
  obtain ⟨A, c, rfl, hc, hm⟩ := hx.shapeM
  obtain ⟨A', c', rfl, hc', hm'⟩ := hy.shapeM
  by_cases hsm : a.length ≤ 1000 ∧ b.length ≤ 1000
  · obtain ⟨h1, h2⟩ := hsm
    go_enter Try.func3, Try.ntmps3
    go_wp2_with fail
    refine (awake_ok _).mono ?_
    rintro e w1 ⟨rfl, hb1⟩
    have hX1 := hx.up hb1
    have hY1 := hy.up hb1
    clear hx hy
    go_wp2_with (first
      | (at_builtin; refine wpList_appB bytesT rfl (.tmp 23) (.tmp 24) rfl rfl ho2 rfl (hY1.up hB2) (by simp; omega) hB2.size ?_; intro v3 w3 ho3 hg3 _; have hB3 := hB2.grown hg3 hB2.size ho2.ge)
      | (at_builtin; refine wpList_appB bytesT rfl (.tmp 21) (.tmp 22) rfl rfl (Ow.empty _ (Nat.le_refl _) _) rfl (hX1.up ((Below.refl _ _).alloc (Nat.le_refl _) _)) (by simp; omega) (by simp) ?_; intro v2 w2 ho2 hg2 _; have hB2 := Ow.emptyG hg2))
    have hX3 := hX1.up hB3
    have hY3 := hY1.up hB3
    have hZ3 : Rd w3 w3.heap.size v3 ((a ++ b).map bv) := ho3.rd
    have hbb := bwstep hb1 hB3
    clear hX1 hY1 ho3 hg3 hB3 ho2 hB2 hg2 hb1
    refine (sum_any _ a _ _ hX3 (by omega)).mono ?_
    rintro e w' ⟨rfl, rfl⟩
    go_wp2_with fail
    refine (rsum_any _ a _ _ hX3 (by omega)).mono ?_
    rintro e w' ⟨rfl, rfl⟩
    go_wp2_with fail
    refine (sum_any _ a _ _ hX3 (by omega)).mono ?_
    rintro e w' ⟨rfl, rfl⟩
    go_wp2_with fail
    refine (more_any _ _ b _ _ hY3 (by omega)).mono ?_
    rintro e w' ⟨rfl, rfl⟩
    rw [sum_app]
    go_wp2_with fail
    refine (rsum_any _ (a ++ b) _ _ hZ3 (by simp; omega)).mono ?_
    rintro e w' ⟨rfl, rfl⟩
    go_wp2_with fail
    refine (good_any _ a t _ _ hX3 (by omega)).mono ?_
    rintro e w' ⟨rfl, rfl⟩
    rw [beq_dec]
    go_wp2_with fail
    refine (rsum_any _ a _ _ hX3 (by omega)).mono ?_
    rintro e w' ⟨rfl, rfl⟩
    go_wp2_with fail
    refine (rsum_any _ a _ _ hX3 (by omega)).mono ?_
    rintro e w' ⟨rfl, rfl⟩
    go_wp2_with fail
    refine (good_any _ a (sum a) _ _ hX3 (by omega)).mono ?_
    rintro e w' ⟨rfl, rfl⟩
    rw [dec_self]
    go_wp2_with fail
    go_ret
    exact ⟨rfl, hbb⟩
  · go_enter Try.func3, Try.ntmps3
    go_wp2_with fail
    refine (awake_ok _).mono ?_
    rintro e w1 ⟨rfl, hb1⟩
    rcases Nat.lt_or_ge 1000 a.length with h1 | h1
    · go_wp2_with fail
      refine (awake_ok _).mono ?_
      rintro e w2 ⟨rfl, hb2⟩
      go_wp2_with fail
      go_ret
      exact ⟨rfl, bwstep hb1 hb2⟩
    · have h2 : 1000 < b.length := by omega
      clear hsm
      go_wp2_with fail
      refine (awake_ok _).mono ?_
      rintro e w2 ⟨rfl, hb2⟩
      go_wp2_with fail
      go_ret
      exact ⟨rfl, bwstep hb1 hb2⟩
end Go.Proofs.Ytcdbmijpccgpdaa
