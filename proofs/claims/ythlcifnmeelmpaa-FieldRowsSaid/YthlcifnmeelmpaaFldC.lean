/- The contracts of package field: Mul, Inv, Div, Pow. -/
import Derived.Test.YthlcifnmeelmpaaFldB
import Derived.IntWalk
namespace Go.Proofs.Ythlcifnmeelmpaa
open Go.RowKit

theorem Fd.drewN {w : World} {b : Nat} (h : Fd w b) (n : Nat) : Fd (w.drewN n) b := h
set_option maxHeartbeats 1000000 in
set_option maxRecDepth 100000 in
theorem mul_any (b x y : Nat) (w : World) (hf : Fd w b) (hx : x < 256) (hy : y < 256) :
    Calls Try.prog 14 #[.pointer (some ⟨b, 0, none⟩), .int .u8 (x : Int), .int .u8 (y : Int)] w fun e w' => e = .returned (.int .u8 (Gf.gm x y : Int)) ∧ ∃ n, w' = w.drewN n := by
  by_cases h0 : x = 0
  · subst h0
    have HZ := Lib.hid (Gf.zero_gm hy)
    go_enter Try.func14, Try.ntmps14
    go_wp2_with fail
    go_ret
    exact ⟨ret1 (vi (by rw [HZ.out]; rfl)), 0, rfl⟩
  by_cases h1 : y = 0
  · subst h1
    have HZ := Lib.hid (Gf.gm_zero hx)
    go_enter Try.func14, Try.ntmps14
    go_wp2_with fail
    go_ret
    exact ⟨ret1 (vi (by rw [HZ.out]; rfl)), 0, rfl⟩
  have HT := Lib.hid (Gf.tab_mul hx hy h0 h1)
  have hx0 : ((x : Int) == 0) = false := by simp; omega
  have hy0 : ((y : Int) == 0) = false := by simp; omega
  have ex1 := hf.ex x hx
  have ex2 := hf.ex y hy
  have hl1 := Gf.ex_lt x
  have hl2 := Gf.ex_lt y
  have hm : (Gf.ex x + Gf.ex y) % 255 < 255 := Nat.mod_lt _ (by omega)
  have cp := hf.pw _ hm
  generalize Gf.ex x = i at *
  generalize Gf.ex y = j at *
  go_enter Try.func14, Try.ntmps14
  go_wp2_with fail
  have s1 : IntKind.i64.wrap ((i : Int) + (j : Int)) = (i : Int) + (j : Int) := IntWalk.i64_in _ (by omega)
  go_quiet (fail)
  go_wp2_with fail
  go_ret
  exact ⟨ret1 (vi (by rw [HT.out])), nq, rfl⟩
set_option maxHeartbeats 1000000 in
set_option maxRecDepth 100000 in
theorem inv_any (b x : Nat) (w : World) (hf : Fd w b) (hx : x < 256) :
    Calls Try.prog 15 #[.pointer (some ⟨b, 0, none⟩), .int .u8 (x : Int)] w fun e w' => e = .returned (.int .u8 (Gf.inv x : Int)) ∧ ∃ n, w' = w.drewN n := by
  by_cases h0 : x = 0
  · subst h0
    go_enter Try.func15, Try.ntmps15
    go_wp2_with fail
    go_ret
    exact ⟨rfl, 0, rfl⟩
  have HT : Hid (Gf.inv x = Gf.pw ((255 - Gf.ex x) % 255)) := Lib.hid (by unfold Gf.inv; rw [if_neg h0])
  have hx0 : ((x : Int) == 0) = false := by simp; omega
  have ex1 := hf.ex x hx
  have hl1 := Gf.ex_lt x
  have hm : (255 - Gf.ex x) % 255 < 255 := Nat.mod_lt _ (by omega)
  have cp := hf.pw _ hm
  generalize Gf.ex x = i at *
  go_enter Try.func15, Try.ntmps15
  go_wp2_with fail
  have s1 : IntKind.i64.wrap (255 - (i : Int)) = ((255 - i : Nat) : Int) := by rw [IntWalk.i64_in _ (by omega)]; omega
  go_quiet (fail)
  go_wp2_with fail
  go_ret
  exact ⟨ret1 (vi (by rw [HT.out])), nq, rfl⟩
theorem drewN_two (w : World) (m n : Nat) : (w.drewN m).drewN n = w.drewN (m + n) := by
  unfold World.drewN
  simp [Nat.add_assoc]
set_option maxHeartbeats 1000000 in
set_option maxRecDepth 100000 in
theorem div_any (b x y : Nat) (w : World) (hf : Fd w b) (hx : x < 256) (hy : y < 256) :
    Calls Try.prog 11 #[.pointer (some ⟨b, 0, none⟩), .int .u8 (x : Int), .int .u8 (y : Int)] w fun e w' =>
      e = .returned (.tuple #[.int .u8 (Gf.gm x (Gf.inv y) : Int), .bool (decide (y ≠ 0))]) ∧ ∃ n, w' = w.drewN n := by
  by_cases h1 : y = 0
  · subst h1
    have HZ := Lib.hid (Gf.gm_zero hx)
    go_enter Try.func11, Try.ntmps11
    go_wp2_with fail
    go_ret2
    exact ⟨ret2 (vi (by show _ = ((Gf.gm x 0 : Nat) : Int); rw [HZ.out]; rfl)) rfl, 0, rfl⟩
  have hy0 : ((y : Int) == 0) = false := by simp; omega
  have HD : Hid (decide (y ≠ 0) = true) := Lib.hid (by simp [h1])
  have hi := Gf.inv_lt y
  clear h1
  go_enter Try.func11, Try.ntmps11
  go_wp2_with fail
  refine (inv_any b y _ hf hy).mono ?_
  rintro e w1 ⟨rfl, n1, rfl⟩
  go_wp2_with fail
  refine (mul_any b x (Gf.inv y) _ (hf.drewN n1) hx hi).mono ?_
  rintro e w2 ⟨rfl, n2, rfl⟩
  go_wp2_with fail
  go_ret2
  exact ⟨ret2 rfl (vb HD.out.symm), n1 + n2, rfl⟩
set_option maxHeartbeats 1000000 in
set_option maxRecDepth 100000 in
theorem pow_any (b x m : Nat) (w : World) (hf : Fd w b) (hx : x < 256) (hm : m < 9223372036854775808) :
    Calls Try.prog 16 #[.pointer (some ⟨b, 0, none⟩), .int .u8 (x : Int), .int .i64 (m : Int)] w fun e w' => e = .returned (.int .u8 (Gf.gp x m : Int)) ∧ ∃ n, w' = w.drewN n := by
  by_cases h1 : m = 0
  · subst h1
    go_enter Try.func16, Try.ntmps16
    go_wp2_with fail
    go_ret
    exact ⟨rfl, 0, rfl⟩
  have hm0 : ((m : Int) == 0) = false := by simp; omega
  by_cases h0 : x = 0
  · subst h0
    have HZ := Lib.hid (Gf.gp_zero m h1)
    clear h1
    go_enter Try.func16, Try.ntmps16
    go_wp2_with fail
    go_ret
    exact ⟨ret1 (vi (by rw [HZ.out]; rfl)), 0, rfl⟩
  have HT := Lib.hid (Gf.tab_gp hx h0 m)
  have hx0 : ((x : Int) == 0) = false := by simp; omega
  have ex1 := hf.ex x hx
  have hl1 := Gf.ex_lt x
  have hq : Gf.ex x * (m % 255) % 255 < 255 := Nat.mod_lt _ (by omega)
  have cp := hf.pw _ hq
  have hp : Gf.ex x * (m % 255) ≤ 254 * 254 := Nat.mul_le_mul (by omega) (by have := Nat.mod_lt m (show 0 < 255 by omega); omega)
  have s1 : IntKind.i64.wrap ((Gf.ex x : Int) * ((m : Int) % 255)) = ((Gf.ex x * (m % 255) : Nat) : Int) := by
    have e : (Gf.ex x : Int) * ((m : Int) % 255) = ((Gf.ex x * (m % 255) : Nat) : Int) := by simp
    rw [e]
    exact IntWalk.i64_in _ (by omega)
  have hq2 : Gf.ex x * (m % 255) < 65536 := by omega
  clear hp
  generalize Gf.ex x * (m % 255) = q at *
  generalize Gf.ex x = i at *
  have S1 := Lib.hid s1
  clear s1
  go_enter Try.func16, Try.ntmps16
  go_wp2_with fail
  have s1 := S1.out
  go_quiet (fail)
  go_wp2_with fail
  go_ret
  exact ⟨ret1 (vi (by rw [HT.out])), nq, rfl⟩
end Go.Proofs.Ythlcifnmeelmpaa
