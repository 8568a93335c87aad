/- The contracts of the reference functions of layer 3: Mul, Inv. -/
import Derived.Test.YtjhnbhgpnmfdgaaFld
namespace Go.Proofs.Ytjhnbhgpnmfdgaa
open Go.RowKit

/-- the reference's loop behind k rounds -/
structure St where
  x : Nat
  y : Nat
  o : Nat
def stp (s : St) : St := ⟨Gf.tw s.x, s.y / 2, if s.y % 2 = 1 then s.o ^^^ s.x else s.o⟩
def sts : Nat → St → St
  | 0, s => s
  | n + 1, s => stp (sts n s)
theorem sts_comm (n : Nat) (s : St) : sts n (stp s) = stp (sts n s) := by
  induction n with
  | zero => rfl
  | succ n ih => rw [sts, ih]; rfl
theorem gmL_sts (n : Nat) : ∀ s : St, Gf.gmL n s.x s.y s.o = (sts n s).o := by
  induction n with
  | zero => intro s; rfl
  | succ n ih =>
    intro s
    have := ih (stp s)
    rw [sts_comm] at this
    exact this
theorem sts_lt (n : Nat) (s : St) (hx : s.x < 256) (hy : s.y < 256) (ho : s.o < 256) : (sts n s).x < 256 ∧ (sts n s).y < 256 ∧ (sts n s).o < 256 := by
  induction n with
  | zero => exact ⟨hx, hy, ho⟩
  | succ n ih =>
    refine ⟨Gf.tw_lt ih.1, by show _ / 2 < 256; omega, ?_⟩
    show (if _ then _ else _) < 256
    split
    · exact Gf.xor_lt ih.2.2 ih.1
    · exact ih.2.2
theorem stp_x (s : St) : (stp s).x = Gf.tw s.x := rfl
theorem stp_y (s : St) : ((stp s).y : Int) = (s.y : Int) / 2 := rfl
theorem stp_odd (s : St) (h : ((s.y : Int) % 2 == 1) = true) (hx : s.x < 256) (ho : s.o < 256) : ((stp s).o : Int) = bits .xor .i64 (s.o : Int) (s.x : Int) := by
  rw [beq_iff_eq] at h
  rw [xor_i64 _ _ (by omega) (by omega)]
  show ((if _ then _ else _ : Nat) : Int) = _
  rw [if_pos (by omega)]
theorem stp_even (s : St) (h : ((s.y : Int) % 2 == 1) = false) : ((stp s).o : Int) = (s.o : Int) := by
  rw [beq_eq_false_iff_ne] at h
  show ((if _ then _ else _ : Nat) : Int) = _
  rw [if_neg (by omega)]
set_option maxHeartbeats 1000000 in
set_option maxRecDepth 100000 in
theorem rmul_any (x y : Nat) (w : World) (hx : x < 256) (hy : y < 256) :
    Calls Try.prog 26 #[.int .u8 (x : Int), .int .u8 (y : Int)] w fun e w' => e = .returned (.int .u8 (Gf.gm x y : Int)) ∧ w = w' := by
  have hgl := Gf.gm_lt y hx
  have HG := Lib.hid (gmL_sts 8 ⟨x, y, 0⟩)
  go_enter Try.func26, Try.ntmps26
  go_wp2_with fail
  go_loop [5, 6, 7, 8] (fun p q o i => ∃ k : Nat, k ≤ 8 ∧ i = .int .i64 k ∧ p = .int .i64 ((sts k ⟨x, y, 0⟩).x : Int) ∧ q = .int .i64 ((sts k ⟨x, y, 0⟩).y : Int) ∧ o = .int .i64 ((sts k ⟨x, y, 0⟩).o : Int)) (fun _ _ _ i => 8 - (intOf i).toNat)
  case atStart => exact ⟨0, by omega, rfl, rfl, rfl, rfl⟩
  case round =>
    obtain ⟨k, hk, rfl, rfl, rfl, rfl⟩ := hrel
    obtain ⟨l1, l2, l3⟩ := sts_lt k ⟨x, y, 0⟩ hx hy (by show 0 < 256; omega)
    by_cases hlt : k < 8
    · have HS : Hid (sts (k + 1) ⟨x, y, 0⟩ = stp (sts k ⟨x, y, 0⟩)) := Lib.hid rfl
      generalize sts k ⟨x, y, 0⟩ = s at *
      obtain ⟨sx, sy, so⟩ := s
      simp only at l1 l2 l3
      by_cases ho : ((sy : Int) % 2 == 1) = true
      all_goals (
        by_cases hb : 256 ≤ 2 * sx
        all_goals (
          go_wp2_with fail
          go_round
          case rel => exact ⟨k + 1, by omega, by go_num, vi (by rw [HS.out]; first | exact tw_big sx hb l1 | exact tw_small sx hb), vi (by rw [HS.out]; rfl), vi (by rw [HS.out]; first | exact (stp_odd ⟨sx, sy, so⟩ ho l1 l3).symm | exact (stp_even ⟨sx, sy, so⟩ (by simpa using ho)).symm)⟩
          case measure => simp [intOf]; omega))
    · obtain rfl : k = 8 := by omega
      have HG' : Hid ((sts 8 ⟨x, y, 0⟩).o = Gf.gm x y) := Lib.hid HG.out.symm
      clear HG
      generalize (sts 8 ⟨x, y, 0⟩).o = o at *
      go_wp2_with fail
      go_ret
      exact ⟨ret1 (vi (by have := HG'.out; omega)), rfl⟩
/-- no element below k, but 0, has x's product 1 -/
def NoInv (x k : Nat) : Prop := ∀ j, 1 ≤ j → j < k → Gf.gm x j ≠ 1
theorem NoInv.step {x k : Nat} (h : NoInv x k) (hk : ¬ Gf.gm x k = 1) : NoInv x (k + 1) := by
  intro j h1 h2
  by_cases e : j = k
  · subst e; exact hk
  · exact h j h1 (by omega)
theorem NoInv.all {x : Nat} (hx : x < 256) (h : NoInv x 256) : Gf.inv x = 0 := by
  by_cases h0 : x = 0
  · subst h0; rfl
  · exact absurd (Gf.gm_inv hx h0) (h _ (by have := Gf.inv_ne h0; omega) (Gf.inv_lt x))
set_option maxHeartbeats 1000000 in
set_option maxRecDepth 100000 in
theorem rinv_any (x : Nat) (w : World) (hx : x < 256) :
    Calls Try.prog 32 #[.int .u8 (x : Int)] w fun e w' => e = .returned (.int .u8 (Gf.inv x : Int)) ∧ w = w' := by
  go_enter Try.func32, Try.ntmps32
  go_wp2_with fail
  go_loop [3] (fun i => ∃ k : Nat, 1 ≤ k ∧ k ≤ 256 ∧ i = .int .i64 k ∧ NoInv x k) (fun i => 256 - (intOf i).toNat)
  case atStart => exact ⟨1, by omega, by omega, rfl, fun j h1 h2 => by omega⟩
  case round =>
    obtain ⟨k, hk1, hk, rfl, hn⟩ := hrel
    have HN := Lib.hid hn
    clear hn
    by_cases hlt : k < 256
    · have he : IntKind.u8.wrap (k : Int) = (k : Int) := by rw [IntKind.wrap_u8]; omega
      by_cases hg : Gf.gm x k = 1
      · have HI := Lib.hid (Gf.inv_of hx hlt hg)
        have hg' : ((Gf.gm x k : Int) == 1) = true := by rw [hg]; rfl
        clear hg
        go_wp2_with fail
        refine (rmul_any x k _ hx hlt).mono ?_
        rintro e w' ⟨rfl, rfl⟩
        go_wp2_with fail
        go_ret
        exact ⟨ret1 (vi (by have := HI.out; omega)), rfl⟩
      · have HM := Lib.hid (HN.out.step hg)
        have hg' : ((Gf.gm x k : Int) == 1) = false := by simp; omega
        clear hg
        go_wp2_with fail
        refine (rmul_any x k _ hx hlt).mono ?_
        rintro e w' ⟨rfl, rfl⟩
        go_wp2_with fail
        go_round
        case rel => exact ⟨k + 1, by omega, by omega, by go_num, HM.out⟩
        case measure => simp [intOf]; omega
    · obtain rfl : k = 256 := by omega
      have HZ := Lib.hid (NoInv.all hx HN.out)
      go_wp2_with fail
      go_ret
      exact ⟨ret1 (vi (by rw [HZ.out]; rfl)), rfl⟩
end Go.Proofs.Ytjhnbhgpnmfdgaa
