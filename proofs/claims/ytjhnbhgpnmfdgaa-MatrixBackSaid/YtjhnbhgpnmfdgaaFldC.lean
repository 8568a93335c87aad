/- The contracts of package field: Mul, Inv. -/
import Derived.Test.YtjhnbhgpnmfdgaaFldB
import Derived.IntWalk
namespace Go.Proofs.Ytjhnbhgpnmfdgaa
open Go.RowKit

theorem Fd.drewN {w : World} {b : Nat} (h : Fd w b) (n : Nat) : Fd (w.drewN n) b := h
set_option maxHeartbeats 1000000 in
set_option maxRecDepth 100000 in
theorem mul_any (b x y : Nat) (w : World) (hf : Fd w b) (hx : x < 256) (hy : y < 256) :
    Calls Try.prog 35 #[.pointer (some ⟨b, 0, none⟩), .int .u8 (x : Int), .int .u8 (y : Int)] w fun e w' => e = .returned (.int .u8 (Gf.gm x y : Int)) ∧ ∃ n, w' = w.drewN n := by
  by_cases h0 : x = 0
  · subst h0
    have HZ := Lib.hid (Gf.zero_gm hy)
    go_enter Try.func35, Try.ntmps35
    go_wp2_with fail
    go_ret
    exact ⟨ret1 (vi (by rw [HZ.out]; rfl)), 0, rfl⟩
  by_cases h1 : y = 0
  · subst h1
    have HZ := Lib.hid (Gf.gm_zero hx)
    go_enter Try.func35, Try.ntmps35
    go_wp2_with fail
    go_ret
    exact ⟨ret1 (vi (by rw [HZ.out]; rfl)), 0, rfl⟩
  have HT := Lib.hid (Gf.tab_mul hx hy h0 h1)
  have hx0 : ((x : Int) == 0) = false := by simp; omega
  have hy0 : ((y : Int) == 0) = false := by simp; omega
  have ex1 := hf.ex x hx
  have ex2 := hf.ex y hy
  have hl1 := Gf.ex_lt x
  have hl2 := Gf.ex_lt y
  have hm : (Gf.ex x + Gf.ex y) % 255 < 255 := Nat.mod_lt _ (by omega)
  have cp := hf.pw _ hm
  generalize Gf.ex x = i at *
  generalize Gf.ex y = j at *
  go_enter Try.func35, Try.ntmps35
  go_wp2_with fail
  have s1 : IntKind.i64.wrap ((i : Int) + (j : Int)) = (i : Int) + (j : Int) := IntWalk.i64_in _ (by omega)
  go_quiet (fail)
  go_wp2_with fail
  go_ret
  exact ⟨ret1 (vi (by rw [HT.out])), nq, rfl⟩
set_option maxHeartbeats 1000000 in
set_option maxRecDepth 100000 in
theorem inv_any (b x : Nat) (w : World) (hf : Fd w b) (hx : x < 256) :
    Calls Try.prog 31 #[.pointer (some ⟨b, 0, none⟩), .int .u8 (x : Int)] w fun e w' => e = .returned (.int .u8 (Gf.inv x : Int)) ∧ ∃ n, w' = w.drewN n := by
  by_cases h0 : x = 0
  · subst h0
    go_enter Try.func31, Try.ntmps31
    go_wp2_with fail
    go_ret
    exact ⟨rfl, 0, rfl⟩
  have HT : Hid (Gf.inv x = Gf.pw ((255 - Gf.ex x) % 255)) := Lib.hid (by unfold Gf.inv; rw [if_neg h0])
  have hx0 : ((x : Int) == 0) = false := by simp; omega
  have ex1 := hf.ex x hx
  have hl1 := Gf.ex_lt x
  have hm : (255 - Gf.ex x) % 255 < 255 := Nat.mod_lt _ (by omega)
  have cp := hf.pw _ hm
  generalize Gf.ex x = i at *
  go_enter Try.func31, Try.ntmps31
  go_wp2_with fail
  have s1 : IntKind.i64.wrap (255 - (i : Int)) = ((255 - i : Nat) : Int) := by rw [IntWalk.i64_in _ (by omega)]; omega
  go_quiet (fail)
  go_wp2_with fail
  go_ret
  exact ⟨ret1 (vi (by rw [HT.out])), nq, rfl⟩
end Go.Proofs.Ytjhnbhgpnmfdgaa
