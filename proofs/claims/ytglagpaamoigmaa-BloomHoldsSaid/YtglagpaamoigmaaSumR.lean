/- The contract of the reference function of layer 2, and awake. -/
import Derived.Test.YtglagpaamoigmaaSum
import Derived.Lib.SlBytesConst
namespace Go.Proofs.Ytglagpaamoigmaa
open Go.RowKit Crc

theorem rem_odd (a : W) (h : ((vw a : Int) % 2 == 1) = true) : vw a % 2 = 1 := by
  rw [beq_iff_eq] at h
  omega
theorem rem_even (a : W) (h : ((vw a : Int) % 2 == 1) = false) : vw a % 2 = 0 := by
  rw [beq_eq_false_iff_ne] at h
  omega
theorem sub_vw (y : W) : 4294967295 - (vw y : Int) = (vw (y ^^^ ones) : Int) := by
  have e : y ^^^ ones = ~~~y := by
    have : ones = BitVec.allOnes 32 := rfl
    rw [this, BitVec.xor_allOnes]
  have := vw_lt y
  rw [e]
  unfold vw at this ⊢
  rw [BitVec.toNat_not]
  omega
set_option maxHeartbeats 1000000 in
theorem rsum_any (v : Value) (l : List UInt8) (w : World) (B : Nat) (hr : Rd w B v (l.map bv)) (hl : l.length ≤ 140737488355328) :
    Calls Try.prog 18 #[v] w fun e w' => e = .returned (.int .u32 (vw (sum l) : Int)) ∧ w = w' := by
  obtain ⟨A, c, rfl, hc, hm⟩ := hr.shapeM
  go_enter Try.func18, Try.ntmps18
  go_wp2_with fail
  go_loop [3, 4] (fun a i => ∃ k : Nat, k ≤ l.length ∧ i = .int .i64 k ∧ a = .int .u32 (vw (eats ones (l.take k)) : Int)) (fun _ i => l.length - (intOf i).toNat)
  case atStart => exact ⟨0, Nat.zero_le _, rfl, rfl⟩
  case round =>
    obtain ⟨k, hk, rfl, rfl⟩ := hrel
    have hy := vw_lt (eats ones (l.take k))
    by_cases hlt : k < l.length
    · have HS := Lib.hid (eats_snoc ones l k hlt)
      obtain ⟨b, off, rfl, hb, hcell⟩ := hr.cellM (by omega)
      have hck := hcell k hlt
      simp only [bv] at hck
      clear hcell
      generalize eats ones (l.take k) = y at HS hy ⊢
      have HE := Lib.hid (eat_vwm y l[k])
      generalize hx : y ^^^ bw l[k] = x at HE
      have HX := Lib.hid hx
      clear hx
      go_wp2_with fail
      rw [HE.out]
      go_loop [3, 5] (fun a i => ∃ j : Nat, j ≤ 8 ∧ i = .int .i64 j ∧ a = .int .u32 (vw (steps j x) : Int)) (fun _ i => 8 - (intOf i).toNat)
      case atStart => exact ⟨0, by omega, rfl, rfl⟩
      case round =>
        obtain ⟨j, hj, rfl, rfl⟩ := hrel
        have HT := Lib.hid (steps_succ j x)
        have hz := vw_lt (steps j x)
        by_cases hltj : j < 8
        · generalize steps j x = z at HT hz ⊢
          go_wp2_with fail
          · rename_i _ hodd
            go_round
            case rel => exact ⟨j + 1, by omega, by go_num, vi (by rw [HT.out, stp_odd z (rem_odd z hodd)])⟩
            case measure => simp [intOf]; omega
          · rename_i _ hev
            go_round
            case rel => exact ⟨j + 1, by omega, by go_num, vi (by rw [HT.out, stp_even z (rem_even z hev)])⟩
            case measure => simp [intOf]; omega
        · obtain rfl : j = 8 := by omega
          go_wp2_with fail
          go_round
          case rel => exact ⟨k + 1, by omega, by go_num, vi (by rw [HS.out, ← HX.out]; rfl)⟩
          case measure => simp [intOf]; omega
    · have HT := Lib.hid (List.take_of_length_le (by omega : l.length ≤ k))
      go_wp2_with fail
      go_ret
      exact ⟨ret1 (vi (by rw [HT.out, sub_vw]; rfl)), rfl⟩

/-! awake -/
theorem awake1 : (vw (sum [49, 50, 51, 52, 53, 54, 55, 56, 57]) : Int) = 3808858755 := by decide +kernel
theorem awake2 : (vw (eats (sum [49, 50, 51, 52] ^^^ ones) [53, 54, 55, 56, 57] ^^^ ones) : Int) = 3808858755 := by decide +kernel
theorem awake3 : decide (sum [] = 0#32) = true := by decide +kernel
end Go.Proofs.Ytglagpaamoigmaa
