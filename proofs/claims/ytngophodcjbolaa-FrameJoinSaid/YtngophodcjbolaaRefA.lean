/- The contracts of the reference functions of layer 1. -/
import Derived.Test.YtngophodcjbolaaWir
import Derived.Test.YtngophodcjbolaaSame
namespace Go.Proofs.Ytngophodcjbolaa
open Go.RowKit

set_option maxHeartbeats 400000 in
theorem rnum_bad (n : Int) (w : World) (h : n < 0 ∨ 4294967295 < n) :
    Calls Try.prog 22 #[.int .i64 n] w fun e w' => e = .returned (.slice none 0 0) ∧ w = w' := by
  rcases h with h | h
  · go_enter Try.func22, Try.ntmps22
    go_wp2
    go_ret
    exact ⟨rfl, rfl⟩
  · have : ¬ n < 0 := by omega
    go_enter Try.func22, Try.ntmps22
    go_wp2
    go_ret
    exact ⟨rfl, rfl⟩
set_option maxHeartbeats 400000 in
theorem rnum_ok (n : Nat) (w : World) (h2 : n ≤ 4294967295) :
    Calls Try.prog 22 #[.int .i64 (n : Int)] w fun e w' => ∃ v, e = .returned v ∧ Ow w' w.heap.size 5 v ((numB n).map bv) ∧ Below w.heap.size w w' := by
  go_enter Try.func22, Try.ntmps22
  go_wp2
  go_ret
  exact ⟨_, rfl, Ow.new _ _ rfl (by simp [maxLen]) (by rw [bv_num n h2]) (Nat.le_refl _), (Below.refl _ _).alloc (Nat.le_refl _) _⟩
set_option maxHeartbeats 400000 in
theorem rat_no (x : Value) (l : List UInt8) (at_ B : Nat) (w : World) (hr : Rd w B x (l.map bv)) (h : l.length < at_ + 4) (hat : at_ ≤ 1000000000000) :
    Calls Try.prog 26 #[x, .int .i64 (at_ : Int)] w fun e w' => e = .returned (.int .i64 (-1)) ∧ w = w' := by
  obtain ⟨A, c, rfl, hc, hm⟩ := hr.shapeM
  go_enter Try.func26, Try.ntmps26
  go_wp2
  go_ret
  exact ⟨rfl, rfl⟩
theorem numOf_drop (l : List UInt8) (k : Nat) (h : k + 4 ≤ l.length) : (numOf (l.drop k) : Int) = 16777216 * (l[k].toNat : Int) + 65536 * (l[k + 1].toNat : Int) + 256 * (l[k + 2].toNat : Int) + (l[k + 3].toNat : Int) := by
  rw [numOf4 _ (by simp; omega)]
  simp
set_option maxHeartbeats 1000000 in
theorem rat_okN (x : Value) (l : List UInt8) (at_ B : Nat) (w : World) (hr : Rd w B x (l.map bv)) (h : at_ + 4 ≤ l.length) (hat : l.length ≤ 1000000000000) :
    Calls Try.prog 26 #[x, .int .i64 (at_ : Int)] w fun e w' => e = .returned (.int .i64 (numOf (l.drop at_))) ∧ ∃ m, w' = w.drewN m := by
  obtain ⟨A, c, rfl, hc, hm⟩ := hr.shapeM
  obtain ⟨b, off, rfl, hb, hcell⟩ := hr.cellM (by omega)
  have c0 := hcell at_ (by omega)
  have c1 := hcell (at_ + 1) (by omega)
  have c2 := hcell (at_ + 2) (by omega)
  have c3 := hcell (at_ + 3) (by omega)
  simp only [bv] at c0 c1 c2 c3
  have d0 := UInt8.toNat_lt l[at_]
  have d1 := UInt8.toNat_lt l[at_ + 1]
  have d2 := UInt8.toNat_lt l[at_ + 2]
  have d3 := UInt8.toNat_lt l[at_ + 3]
  have hl1 : (at_ : Int) + 1 < l.length := by omega
  have hl2 : (at_ : Int) + 2 < l.length := by omega
  have hl3 : (at_ : Int) + 3 < l.length := by omega
  have hl0 : (at_ : Int) < l.length := by omega
  clear hcell hr
  have hnd := Lib.hid (numOf_drop l at_ h)
  go_enter Try.func26, Try.ntmps26
  go_wp2
  go_quiet (fail)
  go_wp2
  go_ret
  exact ⟨ret1 (vi hnd.out.symm), _, rfl⟩
theorem rat_ok (x : Value) (l : List UInt8) (at_ B : Nat) (w : World) (hr : Rd w B x (l.map bv)) (h : at_ + 4 ≤ l.length) (hat : l.length ≤ 1000000000000) :
    Calls Try.prog 26 #[x, .int .i64 (at_ : Int)] w fun e w' => e = .returned (.int .i64 (numOf (l.drop at_))) ∧ Below w.heap.size w w' :=
  Calls.bel (rat_okN x l at_ B w hr h hat)

/-- a text that stands at a place -/
def textSize (l : List UInt8) : Nat := if textOk l then 4 + numOf l else 0
def textThere (l : List UInt8) : ByteArray := if textOk l then ⟨(textOf l).toArray⟩ else ⟨#[]⟩
/-- the same texts? -/
def sameT (a b : List ByteArray) : Bool := decide (a = b)
theorem sameT_ne (a b : List ByteArray) (h : a.length ≠ b.length) : sameT a b = false := by
  unfold sameT
  rw [decide_eq_false_iff_not]
  rintro rfl
  exact h rfl
theorem sameT_at (a b : List ByteArray) (k : Nat) (ha : k < a.length) (hb : k < b.length) (h : a[k] ≠ b[k]) : sameT a b = false := by
  unfold sameT
  rw [decide_eq_false_iff_not]
  rintro rfl
  exact h rfl
theorem sameT_all (a b : List ByteArray) (hl : a.length = b.length) (h : ∀ j (ha : j < a.length) (hb : j < b.length), a[j] = b[j]) : sameT a b = true := by
  unfold sameT
  rw [decide_eq_true_iff]
  exact List.ext_getElem hl h
end Go.Proofs.Ytngophodcjbolaa
