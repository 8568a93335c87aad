/- The contracts of package wire. -/
import Derived.Test.YtlglokjehgejoaaLib
namespace Go.Proofs.Ytlglokjehgejoaa
open Go.RowKit

theorem bytesT : ET Try.prog 26 5 (.int .u8 0) 1 := ⟨Try.underlying26, by kernel_rfl⟩

/-- a number's four bytes -/
def numB (n : Nat) : List UInt8 := [UInt8.ofNat (n / 16777216), UInt8.ofNat (n / 65536), UInt8.ofNat (n / 256), UInt8.ofNat n]
theorem numB_len (n : Nat) : (numB n).length = 4 := rfl
theorem bv_num (n : Nat) (h : n ≤ 4294967295) : (numB n).map bv = [.int .u8 ((n:Int) / 16777216), .int .u8 ((n:Int) / 65536 % 256), .int .u8 ((n:Int) / 256 % 256), .int .u8 ((n:Int) % 256)] := by
  simp [numB, bv]; omega
def textB (s : ByteArray) : List UInt8 := numB s.size ++ s.data.toList

set_option maxHeartbeats 400000 in
theorem num_bad (n : Int) (w : World) (h : n < 0 ∨ 4294967295 < n) :
    Calls Try.prog 12 #[.int .i64 n] w fun e w' => e = .returned (.slice none 0 0) ∧ w = w' := by
  rcases h with h | h
  · go_enter Try.func12, Try.ntmps12
    go_wp2
    go_ret
    exact ⟨rfl, rfl⟩
  · have : ¬ n < 0 := by omega
    go_enter Try.func12, Try.ntmps12
    go_wp2
    go_ret
    exact ⟨rfl, rfl⟩
set_option maxHeartbeats 400000 in
theorem num_ok (n : Nat) (w : World) (h2 : n ≤ 4294967295) :
    Calls Try.prog 12 #[.int .i64 (n : Int)] w fun e w' => ∃ v, e = .returned v ∧ Ow w' w.heap.size 5 v ((numB n).map bv) ∧ Below w.heap.size w w' := by
  go_enter Try.func12, Try.ntmps12
  go_wp2
  go_ret
  exact ⟨_, rfl, Ow.new _ _ rfl (by simp [maxLen]) (by rw [bv_num n h2]) (Nat.le_refl _), (Below.refl _ _).alloc (Nat.le_refl _) _⟩
set_option maxHeartbeats 400000 in
theorem text_ok (s : ByteArray) (w : World) (h2 : s.size ≤ 4294967295) :
    Calls Try.prog 14 #[.string s] w fun e w' => ∃ v, e = .returned v ∧ Ow w' w.heap.size 5 v ((textB s).map bv) ∧ Below w.heap.size w w' := by
  go_enter Try.func14, Try.ntmps14
  go_wp2_with fail
  refine (num_ok _ _ h2).mono ?_
  rintro e w1 ⟨v, rfl, ho, hb⟩
  go_wp2_with (at_builtin; refine wpList_appS bytesT Try.underlying9 rfl _ _ rfl rfl ho rfl (by simp [numB_len]; omega) hb.size ?_; intro v' w' hown' hg)
  go_ret
  exact ⟨v', rfl, hown', hb.grown hg hb.size ho.ge⟩
end Go.Proofs.Ytlglokjehgejoaa
