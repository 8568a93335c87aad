/- The contracts of package check. -/
import Derived.Test.YtglagpaamoigmaaSumP
namespace Go.Proofs.Ytglagpaamoigmaa
open Go.RowKit Crc

/-- a word of 32 bits as a number -/
def vw (w : W) : Nat := w.toNat
theorem vw_lt (w : W) : vw w < 4294967296 := w.isLt
theorem vw_inj {a b : W} (h : vw a = vw b) : a = b := BitVec.eq_of_toNat_eq h
theorem ofInt_vw (a : W) : BitVec.ofInt 32 (vw a : Int) = a := by
  rw [BitVec.ofInt_natCast]
  unfold vw
  simp
theorem wrap_vw (a : W) : IntKind.u32.wrap (a.toNat : Int) = (vw a : Int) := by
  have := vw_lt a
  rw [IntKind.wrap_u32]
  unfold vw at this ⊢
  omega
theorem wordOf {s : Int} (h : (Lit.int .u32 s).wf = true) : ∃ t : W, s = (vw t : Int) := by
  have hb : 0 ≤ s ∧ s < 4294967296 := by
    have := bounds_u32 h
    omega
  refine ⟨BitVec.ofNat 32 s.toNat, ?_⟩
  unfold vw
  rw [BitVec.toNat_ofNat]
  omega
theorem xor_vw (a b : W) : bits .xor .u32 (vw a : Int) (vw b : Int) = (vw (a ^^^ b) : Int) := by
  show IntKind.u32.wrap ((BitVec.ofInt 32 (vw a : Int) ^^^ BitVec.ofInt 32 (vw b : Int)).toNat : Int) = _
  rw [ofInt_vw, ofInt_vw, wrap_vw]
theorem and_vw (a b : W) : bits .and .u32 (vw a : Int) (vw b : Int) = (vw (a &&& b) : Int) := by
  show IntKind.u32.wrap ((BitVec.ofInt 32 (vw a : Int) &&& BitVec.ofInt 32 (vw b : Int)).toNat : Int) = _
  rw [ofInt_vw, ofInt_vw, wrap_vw]
theorem bit0 (a : W) : a.getLsbD 0 = decide (vw a % 2 = 1) := by
  unfold vw
  rw [BitVec.getLsbD, Nat.testBit_zero]
theorem vw_half (a : W) : vw (a >>> 1) = vw a / 2 := by unfold vw; rw [BitVec.toNat_ushiftRight, Nat.shiftRight_eq_div_pow]
theorem vw_low (a : W) : vw (a &&& 1#32) = vw a % 2 := by
  unfold vw
  rw [BitVec.toNat_and, show (1#32).toNat = 1 from rfl, Nat.and_one_is_mod]
theorem and1_vw (a : W) : bits .and .u32 (vw a : Int) 1 = ((vw a % 2 : Nat) : Int) := by
  have := and_vw a 1#32
  rw [vw_low] at this
  exact this
theorem stp_odd (a : W) (h : vw a % 2 = 1) : (vw (stp a) : Int) = bits .xor .u32 ((vw a : Int) / 2) 2197175160 := by
  have e : stp a = (a >>> 1) ^^^ poly := by unfold stp; rw [bit0, h]; rfl
  have := xor_vw (a >>> 1) poly
  rw [vw_half] at this
  rw [e, ← this]
  rfl
theorem stp_even (a : W) (h : vw a % 2 = 0) : (vw (stp a) : Int) = (vw a : Int) / 2 := by
  have e : stp a = (a >>> 1) := by unfold stp; rw [bit0, h]; simp
  rw [e, vw_half]
  rfl
theorem and1_odd (a : W) (h : (bits .and .u32 (vw a : Int) 1 == 1) = true) : vw a % 2 = 1 := by
  rw [and1_vw, beq_iff_eq] at h
  omega
theorem and1_even (a : W) (h : (bits .and .u32 (vw a : Int) 1 == 1) = false) : vw a % 2 = 0 := by
  rw [and1_vw, beq_eq_false_iff_ne] at h
  omega

set_option maxHeartbeats 400000 in
theorem eight_any (x : W) (w : World) : Calls Try.prog 21 #[.int .u32 (vw x : Int)] w fun e w' => e = .returned (.int .u32 (vw (steps 8 x) : Int)) ∧ w = w' := by
  go_enter Try.func21, Try.ntmps21
  go_wp2_with fail
  go_loop [0, 4] (fun a i => ∃ k : Nat, k ≤ 8 ∧ i = .int .i64 k ∧ a = .int .u32 (vw (steps k x) : Int)) (fun _ i => 8 - (intOf i).toNat)
  case atStart => exact ⟨0, by omega, rfl, rfl⟩
  case round =>
    obtain ⟨k, hk, rfl, rfl⟩ := hrel
    have HS := Lib.hid (steps_succ k x)
    have hy := vw_lt (steps k x)
    by_cases hlt : k < 8
    · generalize steps k x = y at HS hy ⊢
      go_wp2_with fail
      · rename_i _ hodd
        go_round
        case rel => exact ⟨k + 1, by omega, by go_num, vi (by rw [HS.out, stp_odd y (and1_odd y hodd)])⟩
        case measure => simp [intOf]; omega
      · rename_i _ hev
        go_round
        case rel => exact ⟨k + 1, by omega, by go_num, vi (by rw [HS.out, stp_even y (and1_even y hev)])⟩
        case measure => simp [intOf]; omega
    · obtain rfl : k = 8 := by omega
      go_wp2_with fail
      go_ret
      exact ⟨rfl, rfl⟩

/-- a byte turns a word -/
theorem bw_vw (c : UInt8) : (vw (bw c) : Int) = (c.toNat : Int) := by
  have := c.toNat_lt
  unfold vw bw
  rw [BitVec.toNat_ofNat]
  omega
theorem eat_vw (y : W) (c : UInt8) : bits .xor .u32 (vw y : Int) (c.toNat : Int) = (vw (y ^^^ bw c) : Int) := by
  rw [← bw_vw, xor_vw]
theorem eat_vwm (y : W) (c : UInt8) : bits .xor .u32 (vw y : Int) ((c.toNat : Int) % 4294967296) = (vw (y ^^^ bw c) : Int) := by
  have := c.toNat_lt
  rw [← eat_vw]
  congr 1
  omega
theorem ones_vw : (vw ones : Int) = 4294967295 := rfl
theorem xor_ones (y : W) : bits .xor .u32 (vw y : Int) 4294967295 = (vw (y ^^^ ones) : Int) := by
  rw [← ones_vw, xor_vw]

set_option maxHeartbeats 1000000 in
theorem more_any (s : W) (v : Value) (l : List UInt8) (w : World) (B : Nat) (hr : Rd w B v (l.map bv)) (hl : l.length ≤ 140737488355328) :
    Calls Try.prog 20 #[.int .u32 (vw s : Int), v] w fun e w' => e = .returned (.int .u32 (vw (eats (s ^^^ ones) l ^^^ ones) : Int)) ∧ w = w' := by
  obtain ⟨A, c, rfl, hc, hm⟩ := hr.shapeM
  have hs := vw_lt s
  go_enter Try.func20, Try.ntmps20
  go_wp2_with fail
  go_loop [6, 13] (fun a i => ∃ k : Nat, k ≤ l.length ∧ i = .int .i64 k ∧ a = .int .u32 (vw (eats (s ^^^ ones) (l.take k)) : Int)) (fun _ i => l.length - (intOf i).toNat)
  case atStart => exact ⟨0, Nat.zero_le _, rfl, vi (xor_ones s)⟩
  case round =>
    obtain ⟨k, hk, rfl, rfl⟩ := hrel
    have hy := vw_lt (eats (s ^^^ ones) (l.take k))
    by_cases hlt : k < l.length
    · have HS := Lib.hid (eats_snoc (s ^^^ ones) l k hlt)
      obtain ⟨b, off, rfl, hb, hcell⟩ := hr.cellM (by omega)
      have hck := hcell k hlt
      simp only [bv] at hck
      clear hcell
      generalize eats (s ^^^ ones) (l.take k) = y at HS hy ⊢
      have HE := Lib.hid (eat_vwm y l[k])
      go_wp2_with fail
      rw [HE.out]
      refine (eight_any _ _).mono ?_
      rintro e w' ⟨rfl, rfl⟩
      go_wp2_with fail
      go_round
      case rel => exact ⟨k + 1, by omega, by go_num, vi (by rw [HS.out]; rfl)⟩
      case measure => simp [intOf]; omega
    · have HT := Lib.hid (List.take_of_length_le (by omega : l.length ≤ k))
      go_wp2_with fail
      go_ret
      exact ⟨ret1 (vi (by rw [HT.out, xor_ones])), rfl⟩

theorem zero_vw : (vw (0#32) : Int) = 0 := rfl
theorem zero_ones : 0#32 ^^^ ones = ones := by decide
set_option maxHeartbeats 400000 in
theorem sum_any (v : Value) (l : List UInt8) (w : World) (B : Nat) (hr : Rd w B v (l.map bv)) (hl : l.length ≤ 140737488355328) :
    Calls Try.prog 19 #[v] w fun e w' => e = .returned (.int .u32 (vw (sum l) : Int)) ∧ w = w' := by
  go_enter Try.func19, Try.ntmps19
  go_wp2_with fail
  rw [← zero_vw]
  refine (more_any _ _ l _ _ hr hl).mono ?_
  rintro e w' ⟨rfl, rfl⟩
  go_wp2_with fail
  go_ret
  exact ⟨ret1 (vi (by first | rfl | (rw [zero_ones]; rfl))), rfl⟩
theorem vw_beq (a b : W) : ((vw a : Int) == (vw b : Int)) = decide (a = b) := by
  rw [Bool.eq_iff_iff, beq_iff_eq, decide_eq_true_iff]
  exact ⟨fun h => vw_inj (by omega), fun h => by rw [h]⟩
end Go.Proofs.Ytglagpaamoigmaa
