/- Plain lemmas of the field GF(256): numbers below 256, products by shift and turn, powers of 2. Of no function in particular. The contracts of package field: twice, tables, New. The contracts of package field: New, Mul, Inv, Div, Pow. The contracts of package field: Mul, Inv. The contract of package field: Row. -/
import Derived.Test.YtfnenehiapibiaaBase
import Derived.OpenShut
import Derived.IntWalk
namespace Go.Proofs.Ytfnenehiapibiaa.Gf

/-- twice -/
def tw (n : Nat) : Nat := if 256 ≤ 2 * n then (2 * n) ^^^ 285 else 2 * n
/-- the product's loop: i rounds to come -/
def gmL : Nat → Nat → Nat → Nat → Nat
  | 0, _, _, o => o
  | i + 1, x, y, o => gmL i (tw x) (y / 2) (if y % 2 = 1 then o ^^^ x else o)
def gm (x y : Nat) : Nat := gmL 8 x y 0
/-- powers of 2 -/
def pw : Nat → Nat
  | 0 => 1
  | k + 1 => tw (pw k)
/-- the powers, one behind the other, n of them, from x on -/
def run : Nat → Nat → List Nat
  | 0, _ => []
  | n + 1, x => x :: run n (tw x)

theorem xor_lt {a b : Nat} (ha : a < 256) (hb : b < 256) : a ^^^ b < 256 := Nat.xor_lt_two_pow (n := 8) ha hb
theorem tw_lt' : ∀ a : Fin 256, tw a.val < 256 := by decide +kernel
theorem tw_lt {a : Nat} (h : a < 256) : tw a < 256 := tw_lt' ⟨a, h⟩
theorem two_xor (a b : Nat) : 2 * (a ^^^ b) = 2 * a ^^^ 2 * b := by
  have := Nat.shiftLeft_xor_distrib (a := a) (b := b) (i := 1)
  simpa [Nat.shiftLeft_eq, Nat.mul_comm] using this
theorem big_iff (a : Nat) (h : a < 256) : 256 ≤ 2 * a ↔ a.testBit 7 = true := by
  have : ∀ x : Fin 256, decide (256 ≤ 2 * x.val) = x.val.testBit 7 := by decide +kernel
  have := this ⟨a, h⟩
  simp only at this
  rw [← this]
  simp
theorem tw_xor {a b : Nat} (ha : a < 256) (hb : b < 256) : tw (a ^^^ b) = tw a ^^^ tw b := by
  have h := big_iff _ (xor_lt ha hb)
  rw [Nat.testBit_xor] at h
  have e : ∀ x y : Nat, x ^^^ 285 ^^^ (y ^^^ 285) = x ^^^ y := by
    intro x y
    have : x ^^^ 285 ^^^ (y ^^^ 285) = x ^^^ y ^^^ (285 ^^^ 285) := by ac_rfl
    rw [this]
    simp
  unfold tw
  by_cases h1 : a.testBit 7 = true <;> by_cases h2 : b.testBit 7 = true
  · rw [if_pos ((big_iff a ha).2 h1), if_pos ((big_iff b hb).2 h2), if_neg (fun k => by have := h.1 k; simp [h1, h2] at this), two_xor, e]
  · rw [if_pos ((big_iff a ha).2 h1), if_neg (fun k => h2 ((big_iff b hb).1 k)), if_pos (h.2 (by simp [h1, h2])), two_xor]
    ac_rfl
  · rw [if_neg (fun k => h1 ((big_iff a ha).1 k)), if_pos ((big_iff b hb).2 h2), if_pos (h.2 (by simp [h1, h2])), two_xor]
    ac_rfl
  · rw [if_neg (fun k => h1 ((big_iff a ha).1 k)), if_neg (fun k => h2 ((big_iff b hb).1 k)), if_neg (fun k => by have := h.1 k; simp [h1, h2] at this), two_xor]
theorem gmL_lt (i : Nat) : ∀ x y o, x < 256 → o < 256 → gmL i x y o < 256 := by
  induction i with
  | zero => intro x y o _ h; exact h
  | succ i ih =>
    intro x y o hx ho
    unfold gmL
    refine ih _ _ _ (tw_lt hx) ?_
    split
    · exact xor_lt ho hx
    · exact ho
theorem gm_lt {x : Nat} (y : Nat) (hx : x < 256) : gm x y < 256 := gmL_lt 8 x y 0 hx (by omega)
theorem gmL_tw (i : Nat) : ∀ x y o, x < 256 → o < 256 → gmL i (tw x) y (tw o) = tw (gmL i x y o) := by
  induction i with
  | zero => intro x y o _ _; rfl
  | succ i ih =>
    intro x y o hx ho
    unfold gmL
    by_cases h : y % 2 = 1
    · rw [if_pos h, if_pos h, ← tw_xor ho hx]
      exact ih _ _ _ (tw_lt hx) (xor_lt ho hx)
    · rw [if_neg h, if_neg h]
      exact ih _ _ _ (tw_lt hx) ho
theorem gm_tw {x : Nat} (y : Nat) (hx : x < 256) : gm (tw x) y = tw (gm x y) := gmL_tw 8 x y 0 hx (by omega)
theorem gmL_xor (i : Nat) : ∀ x x' y o o', x < 256 → x' < 256 → gmL i (x ^^^ x') y (o ^^^ o') = gmL i x y o ^^^ gmL i x' y o' := by
  induction i with
  | zero => intro x x' y o o' _ _; rfl
  | succ i ih =>
    intro x x' y o o' hx hx'
    unfold gmL
    rw [tw_xor hx hx']
    by_cases h : y % 2 = 1
    · simp only [if_pos h]
      rw [← ih _ _ _ _ _ (tw_lt hx) (tw_lt hx')]
      congr 1
      ac_rfl
    · simp only [if_neg h]
      exact ih _ _ _ _ _ (tw_lt hx) (tw_lt hx')
/-- products part over sums -/
theorem gm_xor {x x' : Nat} (y : Nat) (hx : x < 256) (hx' : x' < 256) : gm (x ^^^ x') y = gm x y ^^^ gm x' y :=
  gmL_xor 8 x x' y 0 0 hx hx'
theorem gm_one' : ∀ y : Fin 256, gm 1 y.val = y.val := by decide +kernel
theorem gm_one {y : Nat} (h : y < 256) : gm 1 y = y := gm_one' ⟨y, h⟩
theorem gm_zero' : ∀ y : Fin 256, gm 0 y.val = 0 ∧ gm y.val 0 = 0 := by decide +kernel
theorem zero_gm {y : Nat} (h : y < 256) : gm 0 y = 0 := (gm_zero' ⟨y, h⟩).1
theorem gm_zero {y : Nat} (h : y < 256) : gm y 0 = 0 := (gm_zero' ⟨y, h⟩).2
theorem pw_lt (k : Nat) : pw k < 256 := by
  induction k with
  | zero => decide
  | succ k ih => exact tw_lt ih
/-- k times twice -/
def twn : Nat → Nat → Nat
  | 0, x => x
  | k + 1, x => tw (twn k x)
theorem gm_pw (k : Nat) {y : Nat} (h : y < 256) : gm (pw k) y = twn k y := by
  induction k with
  | zero => exact gm_one h
  | succ k ih => rw [pw, gm_tw _ (pw_lt k), ih]; rfl
theorem twn_pw (i j : Nat) : twn i (pw j) = pw (i + j) := by
  induction i with
  | zero => rw [Nat.zero_add]; rfl
  | succ i ih => rw [twn, ih, Nat.add_right_comm]; rfl
/-- products of powers -/
theorem pw_mul (i j : Nat) : gm (pw i) (pw j) = pw (i + j) := by rw [gm_pw i (pw_lt j), twn_pw]
theorem run_get (n : Nat) : ∀ x k, k < n → (run n x)[k]? = some (twn k x) := by
  induction n with
  | zero => intro x k h; omega
  | succ n ih =>
    intro x k h
    cases k with
    | zero => rfl
    | succ k =>
      rw [run, List.getElem?_cons_succ, ih _ _ (by omega)]
      congr 1
      clear ih h
      induction k with
      | zero => rfl
      | succ k ih => rw [twn, ih]; rfl
theorem run_len (n : Nat) : ∀ x, (run n x).length = n := by
  induction n with
  | zero => intro x; rfl
  | succ n ih => intro x; rw [run, List.length_cons, ih]
theorem twn_one (k : Nat) : twn k 1 = pw k := by
  have := twn_pw k 0
  exact this
theorem run_pw (k : Nat) (h : k < 255) : (run 255 1)[k]? = some (pw k) := by rw [run_get 255 1 k h, twn_one]
theorem run_nodup : (run 255 1).Nodup := by decide +kernel
theorem run_all : ∀ a : Fin 256, a.val = 0 ∨ a.val ∈ run 255 1 := by decide +kernel
theorem pw_succ (k : Nat) : pw (k + 1) = tw (pw k) := rfl
theorem pw_255 : pw 255 = 1 := by
  have e : pw 255 = tw (pw 254) := pw_succ 254
  have h : (run 255 1)[254]? = some 142 := by decide +kernel
  rw [run_pw 254 (by omega)] at h
  have h2 := Option.some.inj h
  clear h
  rw [e, h2]
  decide +kernel
theorem pw_inj {i j : Nat} (hi : i < 255) (hj : j < 255) (h : pw i = pw j) : i = j := by
  have hl := run_len 255 1
  have e : (run 255 1)[i]? = (run 255 1)[j]? := by rw [run_pw i hi, run_pw j hj, h]
  rw [List.getElem?_eq_getElem (by omega), List.getElem?_eq_getElem (by omega), Option.some_inj] at e
  exact (List.getElem_inj run_nodup).1 e
/-- each element but 0 is a power of 2 -/
theorem pw_of {a : Nat} (h : a < 256) (h0 : a ≠ 0) : ∃ e, e < 255 ∧ a = pw e := by
  rcases run_all ⟨a, h⟩ with h1 | h1
  · exact absurd h1 h0
  · obtain ⟨k, hk, he⟩ := List.getElem_of_mem h1
    have hl := run_len 255 1
    refine ⟨k, by omega, ?_⟩
    have := run_pw k (by omega)
    rw [List.getElem?_eq_getElem hk] at this
    injection this with this
    rw [← this, he]
theorem pw_add (k : Nat) : pw (k + 255) = pw k := by
  have := pw_mul k 255
  rw [pw_255] at this
  rw [← this]
  have e := pw_mul k 0
  exact e
theorem pw_adds (k n : Nat) : pw (k + 255 * n) = pw k := by
  induction n with
  | zero => rfl
  | succ n ih => rw [Nat.mul_succ, ← Nat.add_assoc, pw_add, ih]
theorem pw_mod (k : Nat) : pw (k % 255) = pw k := by
  have := pw_adds (k % 255) (k / 255)
  rw [← this]
  congr 1
  omega
theorem pw_ne (k : Nat) : pw k ≠ 0 := by
  have h : ∀ e : Fin 255, (run 255 1)[e.val]? ≠ some 0 := by decide +kernel
  have := h ⟨k % 255, Nat.mod_lt _ (by omega)⟩
  rw [run_pw _ (Nat.mod_lt _ (by omega)), pw_mod] at this
  intro e
  rw [e] at this
  exact this rfl

/-! the rules -/
theorem gm_comm {a b : Nat} (ha : a < 256) (hb : b < 256) : gm a b = gm b a := by
  by_cases h0 : a = 0
  · subst h0; rw [zero_gm hb, gm_zero hb]
  by_cases h1 : b = 0
  · subst h1; rw [zero_gm ha, gm_zero ha]
  obtain ⟨i, _, rfl⟩ := pw_of ha h0
  obtain ⟨j, _, rfl⟩ := pw_of hb h1
  rw [pw_mul, pw_mul, Nat.add_comm]
theorem gm_assoc {a b c : Nat} (ha : a < 256) (hb : b < 256) (hc : c < 256) : gm (gm a b) c = gm a (gm b c) := by
  by_cases h0 : a = 0
  · subst h0; rw [zero_gm hb, zero_gm hc, zero_gm (gm_lt _ hb)]
  by_cases h1 : b = 0
  · subst h1; rw [gm_zero ha, zero_gm hc, gm_zero ha]
  by_cases h2 : c = 0
  · subst h2; rw [gm_zero (gm_lt _ ha), gm_zero hb, gm_zero ha]
  obtain ⟨i, _, rfl⟩ := pw_of ha h0
  obtain ⟨j, _, rfl⟩ := pw_of hb h1
  obtain ⟨k, _, rfl⟩ := pw_of hc h2
  rw [pw_mul, pw_mul, pw_mul, pw_mul, Nat.add_assoc]
theorem gm_xor2 {a b c : Nat} (ha : a < 256) (hb : b < 256) (hc : c < 256) : gm a (b ^^^ c) = gm a b ^^^ gm a c := by
  rw [gm_comm ha (xor_lt hb hc), gm_xor _ hb hc, gm_comm hb ha, gm_comm hc ha]
theorem mul_one {a : Nat} (ha : a < 256) : gm a 1 = a := by rw [gm_comm ha (by omega), gm_one ha]

/-- the exponent, as the table has it behind k rounds -/
def exK : Nat → Nat → Nat
  | 0, _ => 0
  | k + 1, a => if a = pw k then k else exK k a
def ex (a : Nat) : Nat := exK 255 a
theorem exK_pw (k n : Nat) (hk : k ≤ 255) (hn : n < k) : exK k (pw n) = n := by
  induction k with
  | zero => omega
  | succ k ih =>
    unfold exK
    by_cases h : n = k
    · subst h; rw [if_pos rfl]
    · rw [if_neg (fun e => h (pw_inj (by omega) (by omega) e)), ih (by omega) (by omega)]
theorem ex_pw (n : Nat) (h : n < 255) : ex (pw n) = n := exK_pw 255 n (by omega) h
theorem exK_lt (k a : Nat) (hk : k ≤ 255) : exK k a < 255 := by
  induction k with
  | zero => simp [exK]
  | succ k ih =>
    unfold exK
    split
    · omega
    · exact ih (by omega)
theorem ex_lt (a : Nat) : ex a < 255 := exK_lt 255 a (by omega)
theorem pw_ex {a : Nat} (h : a < 256) (h0 : a ≠ 0) : pw (ex a) = a := by
  obtain ⟨e, he, rfl⟩ := pw_of h h0
  rw [ex_pw e he]
/-- the product by the tables -/
theorem tab_mul {a b : Nat} (ha : a < 256) (hb : b < 256) (h0 : a ≠ 0) (h1 : b ≠ 0) : pw ((ex a + ex b) % 255) = gm a b := by
  rw [pw_mod, ← pw_mul, pw_ex ha h0, pw_ex hb h1]
/-- the contrary -/
def inv (a : Nat) : Nat := if a = 0 then 0 else pw ((255 - ex a) % 255)
theorem inv_lt (a : Nat) : inv a < 256 := by
  unfold inv
  split
  · omega
  · exact pw_lt _
theorem gm_inv {a : Nat} (h : a < 256) (h0 : a ≠ 0) : gm a (inv a) = 1 := by
  unfold inv
  rw [if_neg h0]
  obtain ⟨e, he, rfl⟩ := pw_of h h0
  rw [ex_pw e he, pw_mod, pw_mul, show e + (255 - e) = 255 by omega, pw_255]
theorem inv_ne {a : Nat} (h0 : a ≠ 0) : inv a ≠ 0 := by
  unfold inv
  rw [if_neg h0]
  exact pw_ne _
theorem inv_of {a b : Nat} (ha : a < 256) (hb : b < 256) (h : gm a b = 1) : b = inv a := by
  have h0 : a ≠ 0 := by
    intro e
    subst e
    rw [zero_gm hb] at h
    omega
  have h1 := gm_inv ha h0
  have hi := inv_lt a
  have e : gm (inv a) (gm a b) = b := by rw [← gm_assoc hi ha hb, gm_comm hi ha, h1, gm_one hb]
  rw [← e, h, mul_one hi]
theorem inv_inv {a : Nat} (ha : a < 256) : inv (inv a) = a := by
  by_cases h0 : a = 0
  · subst h0; rfl
  · exact (inv_of (inv_lt a) ha (by rw [gm_comm (inv_lt a) ha, gm_inv ha h0])).symm
theorem div_mul {a b : Nat} (ha : a < 256) (hb : b < 256) (h0 : b ≠ 0) : gm (gm a b) (inv b) = a := by
  rw [gm_assoc ha hb (inv_lt b), gm_inv hb h0, mul_one ha]
/-- powers -/
def gp (a : Nat) : Nat → Nat
  | 0 => 1
  | n + 1 => gm (gp a n) a
theorem gp_lt {a : Nat} (ha : a < 256) (n : Nat) : gp a n < 256 := by
  induction n with
  | zero => show 1 < 256; omega
  | succ n ih => exact gm_lt _ ih
theorem gp_pw (e n : Nat) : gp (pw e) n = pw (e * n) := by
  induction n with
  | zero => rfl
  | succ n ih => rw [gp, ih, pw_mul, Nat.mul_succ]
theorem gp_zero (n : Nat) (h : n ≠ 0) : gp 0 n = 0 := by
  obtain ⟨m, rfl⟩ : ∃ m, n = m + 1 := ⟨n - 1, by omega⟩
  rw [gp, gm_zero (gp_lt (by omega) m)]
/-- the power by the tables -/
theorem tab_gp {a : Nat} (ha : a < 256) (h0 : a ≠ 0) (n : Nat) : pw (ex a * (n % 255) % 255) = gp a n := by
  obtain ⟨e, he, rfl⟩ := pw_of ha h0
  rw [ex_pw e he, gp_pw, ← pw_mod (e * n)]
  congr 1
  rw [Nat.mul_mod, Nat.mod_mod, ← Nat.mul_mod]
theorem gp_add {a : Nat} (ha : a < 256) (h0 : a ≠ 0) (n : Nat) : gp a (n + 255) = gp a n := by
  obtain ⟨e, he, rfl⟩ := pw_of ha h0
  rw [gp_pw, gp_pw, Nat.mul_add, Nat.mul_comm e 255, pw_adds]
theorem gp_mod {a : Nat} (ha : a < 256) (h0 : a ≠ 0) (n : Nat) : gp a (n % 255) = gp a n := by
  obtain ⟨e, he, rfl⟩ := pw_of ha h0
  rw [gp_pw, gp_pw, ← pw_mod (e * n), ← pw_mod (e * (n % 255)), Nat.mul_mod, Nat.mod_mod, ← Nat.mul_mod]
theorem gp_two {a : Nat} (ha : a < 256) : gp a 2 = gm a a := by
  show gm (gm 1 a) a = gm a a
  rw [gm_one ha]
theorem square_xor {a b : Nat} (ha : a < 256) (hb : b < 256) : gm (a ^^^ b) (a ^^^ b) = gm a a ^^^ gm b b := by
  rw [gm_xor _ ha hb, gm_xor2 ha ha hb, gm_xor2 hb ha hb, gm_comm hb ha]
  have e : ∀ x y z : Nat, x ^^^ y ^^^ (y ^^^ z) = x ^^^ z ^^^ (y ^^^ y) := by intro x y z; ac_rfl
  rw [e]
  simp
/-- k squares -/
def sq (a : Nat) : Nat → Nat
  | 0 => a
  | k + 1 => gm (sq a k) (sq a k)
theorem sq_lt {a : Nat} (ha : a < 256) (k : Nat) : sq a k < 256 := by
  induction k with
  | zero => exact ha
  | succ k ih => exact gm_lt _ ih
theorem sq_pw (e k : Nat) : sq (pw e) k = pw (e * 2 ^ k) := by
  induction k with
  | zero => rw [Nat.pow_zero, Nat.mul_one]; rfl
  | succ k ih => rw [sq, ih, pw_mul, Nat.pow_succ, ← Nat.mul_assoc]; congr 1; omega
theorem sq_eight {a : Nat} (ha : a < 256) : sq a 8 = a := by
  by_cases h0 : a = 0
  · subst h0; decide
  · obtain ⟨e, he, rfl⟩ := pw_of ha h0
    rw [sq_pw]
    have := pw_adds e e
    rw [← this]
    congr 1
    omega
theorem gp_256 {a : Nat} (ha : a < 256) : gp a 256 = a := by
  by_cases h0 : a = 0
  · subst h0; exact gp_zero 256 (by omega)
  · have := gp_add ha h0 1
    rw [this]
    exact gm_one ha
end Go.Proofs.Ytfnenehiapibiaa.Gf

namespace Go.Proofs.Ytfnenehiapibiaa
open Go.RowKit

/-- a byte as a cell, by its number -/
def nv (n : Nat) : Value := .int .u8 (n : Int)
theorem xor_i64 (a b : Nat) (ha : a < 9223372036854775808) (hb : b < 9223372036854775808) : bits .xor .i64 (a : Int) (b : Int) = ((a ^^^ b : Nat) : Int) := by
  have hx : a ^^^ b < 2 ^ 63 := Nat.xor_lt_two_pow (by omega) (by omega)
  show IntKind.i64.wrap ((BitVec.ofInt 64 (a : Int) ^^^ BitVec.ofInt 64 (b : Int)).toNat : Int) = _
  rw [BitVec.toNat_xor, ofInt64 a ha, ofInt64 b hb, IntKind.wrap_i64]
  omega
theorem ofInt8 (a : Nat) (ha : a < 256) : (BitVec.ofInt 8 (a : Int)).toNat = a := by
  rw [BitVec.ofInt_natCast, BitVec.toNat_ofNat]
  exact Nat.mod_eq_of_lt (by omega)
theorem xor_n8 (a b : Nat) (ha : a < 256) (hb : b < 256) : bits .xor .u8 (a : Int) (b : Int) = ((a ^^^ b : Nat) : Int) := by
  have hx : a ^^^ b < 256 := Gf.xor_lt ha hb
  show IntKind.u8.wrap ((BitVec.ofInt 8 (a : Int) ^^^ BitVec.ofInt 8 (b : Int)).toNat : Int) = _
  rw [BitVec.toNat_xor, ofInt8 a ha, ofInt8 b hb, IntKind.wrap_u8]
  omega
theorem tw_big (a : Nat) (h : 256 ≤ 2 * a) (ha : a < 256) : bits .xor .i64 ((a : Int) * 2) 285 = (Gf.tw a : Int) := by
  have := xor_i64 (2 * a) 285 (by omega) (by omega)
  have e : ((2 * a : Nat) : Int) = (a : Int) * 2 := by omega
  rw [e] at this
  rw [show (285 : Int) = ((285 : Nat) : Int) from rfl, this]
  unfold Gf.tw
  rw [if_pos h]
theorem tw_small (a : Nat) (h : ¬ 256 ≤ 2 * a) : (a : Int) * 2 = (Gf.tw a : Int) := by
  unfold Gf.tw
  rw [if_neg h]
  omega
set_option maxHeartbeats 400000 in
set_option maxRecDepth 100000 in
theorem twice_any (a : Nat) (w : World) (ha : a < 256) : Calls Try.prog 54 #[.int .u8 (a : Int)] w fun e w' => e = .returned (.int .u8 (Gf.tw a : Int)) ∧ w = w' := by
  by_cases h : 256 ≤ 2 * a
  · have HB := Lib.hid (tw_big a h ha)
    go_enter Try.func54, Try.ntmps54
    go_wp2_with fail
    rw [HB.out]
    go_ret
    have ht := Gf.tw_lt ha
    exact ⟨ret1 (vi (by omega)), rfl⟩
  · have HB := Lib.hid (tw_small a h)
    go_enter Try.func54, Try.ntmps54
    go_wp2_with fail
    go_ret
    have ht := Gf.tw_lt ha
    exact ⟨ret1 (vi (by have := HB.out; omega)), rfl⟩
/-- the table of powers behind k rounds, and that of exponents -/
def pc (k : Nat) : Array Value := ((List.range 255).map fun j => nv (if j < k then Gf.pw j else 0)).toArray
def ec (k : Nat) : Array Value := ((List.range 256).map fun a => nv (Gf.exK k a)).toArray
theorem zero39 : (Try.prog.info? 77).map (·.zero) = some (some (.agg (pc 0))) := by kernel_rfl
theorem zero40 : (Try.prog.info? 78).map (·.zero) = some (some (.agg (ec 0))) := by kernel_rfl
theorem pc_size (k : Nat) : (pc k).size = 255 := by simp [pc]
theorem ec_size (k : Nat) : (ec k).size = 256 := by simp [ec]
theorem pc_get (k j : Nat) (h : j < 255) : (pc k)[j]? = some (nv (if j < k then Gf.pw j else 0)) := by simp [pc, h]
theorem ec_get (k j : Nat) (h : j < 256) : (ec k)[j]? = some (nv (Gf.exK k j)) := by simp [ec, h]
theorem pc_step (k : Nat) (h : k < 255) : (pc k).setIfInBounds k (nv (Gf.pw k)) = pc (k + 1) := by
  apply Array.ext_getElem?
  intro j
  rw [Array.getElem?_setIfInBounds]
  by_cases hj : j < 255
  · rw [pc_get _ _ hj, pc_get _ _ hj, pc_size]
    by_cases e : k = j
    · subst e
      rw [if_pos rfl, if_pos h, if_pos (by omega)]
    · rw [if_neg e]
      by_cases h2 : j < k
      · rw [if_pos h2, if_pos (by omega)]
      · rw [if_neg h2, if_neg (by omega)]
  · rw [if_neg (by omega), Array.getElem?_eq_none (by rw [pc_size]; omega), Array.getElem?_eq_none (by rw [pc_size]; omega)]
theorem ec_step (k : Nat) : (ec k).setIfInBounds (Gf.pw k) (nv k) = ec (k + 1) := by
  have hp := Gf.pw_lt k
  apply Array.ext_getElem?
  intro j
  rw [Array.getElem?_setIfInBounds]
  by_cases hj : j < 256
  · rw [ec_get _ _ hj, ec_get _ _ hj, ec_size, Gf.exK]
    by_cases e : Gf.pw k = j
    · rw [if_pos e, if_pos hp, if_pos e.symm]
    · rw [if_neg e, if_neg (fun h => e h.symm)]
  · rw [if_neg (by omega), Array.getElem?_eq_none (by rw [ec_size]; omega), Array.getElem?_eq_none (by rw [ec_size]; omega)]
theorem size39 : (Try.prog.info? 77).map (·.size) = some (pc 255).size := by rw [pc_size]; kernel_rfl
theorem size40 : (Try.prog.info? 78).map (·.size) = some (ec 255).size := by rw [ec_size]; kernel_rfl
theorem pc_one (k : Nat) : (pc k).all (·.oneCell') = true := by
  rw [Array.all_eq_true_iff_forall_mem]
  intro u hu
  obtain ⟨j, _, rfl⟩ := List.mem_map.1 (List.mem_toArray.1 hu)
  rfl
theorem ec_one (k : Nat) : (ec k).all (·.oneCell') = true := by
  rw [Array.all_eq_true_iff_forall_mem]
  intro u hu
  obtain ⟨j, _, rfl⟩ := List.mem_map.1 (List.mem_toArray.1 hu)
  rfl
/-- the two tables behind k rounds, in blocks B and B + 1 -/
def Tb (w wr : World) (k : Nat) : Prop :=
  wr.heap[w.heap.size]? = some (.cells (pc k) 77 (0, 0)) ∧ wr.heap[w.heap.size + 1]? = some (.cells (ec k) 78 (0, 0)) ∧ Below w.heap.size w wr ∧ wr.heap.size = w.heap.size + 2
theorem Tb.start (w : World) : Tb w ((w.alloc (.cells (pc 0) 77)).alloc (.cells (ec 0) 78)) 0 :=
  ⟨heap_alloc2_old w _ _, heap_alloc2_new w _ _, ((Below.refl _ _).alloc (Nat.le_refl _) _).alloc (by simp) _, by simp⟩
theorem Tb.step {w wr : World} {k : Nat} (h : Tb w wr k) (hk : k < 255) :
    Tb w ((wr.setCell ⟨w.heap.size, k, none⟩ (nv (Gf.pw k))).setCell ⟨w.heap.size + 1, Gf.pw k, none⟩ (nv k)) (k + 1) := by
  obtain ⟨h1, h2, h3, h4⟩ := h
  refine ⟨?_, ?_, (h3.setCell (by simp) _).setCell (by simp) _, by simpa using h4⟩
  · rw [heap_setCell_other _ _ _ _ (by simp), heap_setCell_same _ _ _ _ _ _ h1, pc_step k hk]
  · rw [heap_setCell_same _ _ _ (ec k) 78 _ (by rw [heap_setCell_other _ _ _ _ (by simp)]; exact h2), ec_step k]
theorem Tb.cells {w wr : World} {k : Nat} (h : Tb w wr k) (hk : k < 255) (p : Nat) (hp : p < 256) :
    (∃ u, wr.cell? ⟨w.heap.size, k, none⟩ = some u) ∧ wr.frozen? ⟨w.heap.size, k, none⟩ = false ∧ (∃ u, wr.cell? ⟨w.heap.size + 1, p, none⟩ = some u) ∧ wr.frozen? ⟨w.heap.size + 1, p, none⟩ = false := by
  obtain ⟨h1, h2, h3, h4⟩ := h
  exact ⟨⟨_, (cell_of_row wr _ _ _ _ _ h1).trans (pc_get k k hk)⟩, frozen_of_row wr _ _ _ _ h1, ⟨_, (cell_of_row wr _ _ _ _ _ h2).trans (ec_get k p hp)⟩, frozen_of_row wr _ _ _ _ h2⟩
set_option maxHeartbeats 1000000 in
set_option maxRecDepth 100000 in
theorem tables_any (w : World) : Calls Try.prog 45 #[] w fun e w' => e = .returned (.tuple #[.agg (pc 255), .agg (ec 255)]) ∧ Below w.heap.size w w' := by
  go_enter Try.func45, Try.ntmps45
  go_wp2_with (first | refine wpList_allocRow rfl 77 rfl (pc 0) zero39 ?_ | refine wpList_allocRow rfl 78 rfl (ec 0) zero40 ?_)
  go_loopw [2, 4] (fun e i wr => ∃ k : Nat, k ≤ 255 ∧ i = .int .i64 k ∧ e = .int .u8 (Gf.pw k : Int) ∧ Tb w wr k) (fun _ i _ => 255 - (intOf i).toNat)
  case atStart => exact ⟨0, by omega, rfl, rfl, Tb.start w⟩
  case round =>
    obtain ⟨k, hk, rfl, rfl, ht⟩ := hrel
    have hp := Gf.pw_lt k
    by_cases hlt : k < 255
    · have HS := Lib.hid (Gf.pw_succ k)
      have HT := Lib.hid (ht.step hlt)
      obtain ⟨⟨u, h1⟩, h2, ⟨v, h3⟩, h4⟩ := ht.cells hlt (Gf.pw k) hp
      clear ht
      generalize Gf.pw k = p at *
      go_wp2_with fail
      refine (twice_any _ _ hp).mono ?_
      rintro e w' ⟨rfl, rfl⟩
      go_wp2_with fail
      go_roundw
      case rel => exact ⟨k + 1, by omega, by go_num, vi (by rw [HS.out]), HT.out⟩
      case measure => simp [intOf]; omega
    · obtain rfl : k = 255 := by omega
      go_wp2_with fail
      obtain ⟨h1, h2, h3, h4⟩ := ht
      refine wp_region_any (by kernel_rfl) ?_
      repeat' (first
        | with_reducible exact AllReady.nil
        | with_reducible refine AllReady.cons rfl (fun K hK => step_if (by simp [Region.wanted]) ?_) ?_
        | ((with_reducible refine step_load 77 (.tmp 0) rfl ?_); refine step_loadRow w.heap.size rfl 77 (pc 255) (0, 0) _ h1 Try.underlying77 rfl size39 ?_; refine hK _ _ ?_; clear hK K)
        | ((with_reducible refine step_load 78 (.tmp 1) rfl ?_); refine step_loadRow (w.heap.size + 1) rfl 78 (ec 255) (0, 0) _ h2 Try.underlying78 rfl size40 ?_; refine hK _ _ ?_; clear hK K)
        | ((with_reducible refine step_store 77 (.tmp 0) (.tmp 17) rfl ?_); refine step_storeSame w.heap.size (pc 255) rfl rfl 77 h1 size39 (pc_one 255) ?_; refine hK _ _ ?_; clear hK K)
        | ((with_reducible refine step_store 78 (.tmp 1) (.tmp 18) rfl ?_); refine step_storeSame (w.heap.size + 1) (ec 255) rfl rfl 78 h2 size40 (ec_one 255) ?_; refine hK _ _ ?_; clear hK K)
        | (refine wpAny_ready (rs := [0, 1]) (by decide +kernel) (by simp) ?_)
        | (refine wpAny_ready (rs := [1, 2]) (by decide +kernel) (by simp) ?_)
        | (refine wpAny_ready (rs := [2, 3]) (by decide +kernel) (by simp) ?_)
        | (refine wpAny_ready (rs := [1]) (by decide +kernel) (by simp) ?_)
        | (refine wpAny_ready (rs := [0]) (by decide +kernel) (by simp) ?_)
        | (refine wpAny_ready (rs := [2]) (by decide +kernel) (by simp) ?_)
        | (refine wpAny_ready (rs := [3]) (by decide +kernel) (by simp) ?_)
        | (refine wpAny_done (by decide +kernel) ?_ _)
        )
      all_goals
        go_wp2_with fail
        exact bodyPost_ret (v := .tuple #[.agg (pc 255), .agg (ec 255)]) (results_rows2 Try.results45 rfl rfl h1 h2 Try.underlying77 rfl size39 Try.underlying78 rfl size40) rfl ⟨rfl, h3.drew⟩
end Go.Proofs.Ytfnenehiapibiaa

namespace Go.Proofs.Ytfnenehiapibiaa
open Go.RowKit

/-- what a field holds -/
def FC : Array Value := pc 255 ++ ec 255
/-- block b is a field -/
def Fd (w : World) (b : Nat) : Prop := w.heap[b]? = some (.cells FC 82 (0, 0))
theorem Fd.lt {w : World} {b : Nat} (h : Fd w b) : b < w.heap.size := (Array.getElem?_eq_some_iff.1 h).1
theorem Fd.below {w w' : World} {b : Nat} (h : Fd w b) (hb : Below w.heap.size w w') : Fd w' b := (hb.block b h.lt).trans h
theorem Fd.pw {w : World} {b : Nat} (h : Fd w b) (k : Nat) (hk : k < 255) : w.cell? ⟨b, k, none⟩ = some (.int .u8 (Gf.pw k : Int)) := by
  rw [cell_of_row w b k _ _ _ h]
  unfold FC
  rw [Array.getElem?_append_left (by rw [pc_size]; exact hk), pc_get _ _ hk, if_pos hk]
  rfl
theorem Fd.ex {w : World} {b : Nat} (h : Fd w b) (k : Nat) (hk : k < 256) : w.cell? ⟨b, 255 + k, none⟩ = some (.int .u8 (Gf.ex k : Int)) := by
  rw [cell_of_row w b _ _ _ _ h]
  unfold FC
  rw [Array.getElem?_append_right (by rw [pc_size]; omega), pc_size, Nat.add_sub_cancel_left, ec_get _ _ hk]
  rfl
theorem built44 : Try.prog.built 82 [(0, .agg (pc 255)), (1, .agg (ec 255))] = some FC := by
  have h : ∀ l, Try.prog.built 82 l = Instr.fill (#[(0, 255), (255, 256)][·]?) (List.replicate 511 (nv 0)).toArray l := fun l => by kernel_rfl
  rw [h]
  exact fill_two _ _ _ _ (by rw [pc_size]; rfl) (by rw [pc_size, ec_size]; rfl) (by rw [pc_size, ec_size, List.size_toArray, List.length_replicate])
/-- the two variables' blocks in New, at their making and behind the stores -/
theorem new_rows (w : World) : ∃ w3, (((w.alloc (.cells (pc 0) 77)).alloc (.cells (ec 0) 78)).setRow w.heap.size (pc 255)).setRow (w.heap.size + 1) (ec 255) = w3 ∧
    w3.heap[w.heap.size]? = some (.cells (pc 255) 77 (0, 0)) ∧ w3.heap[w.heap.size + 1]? = some (.cells (ec 255) 78 (0, 0)) ∧ Below w.heap.size w w3 := by
  refine ⟨_, rfl, ?_, ?_, ?_⟩
  · rw [setRow_other _ _ _ _ (by omega)]
    exact setRow_heap _ _ (pc 0) _ _ _ (heap_alloc2_old w _ _)
  · exact setRow_heap _ _ (ec 0) _ _ _ ((setRow_other _ _ _ _ (by omega)).trans (heap_alloc2_new w _ _))
  · have h : Below w.heap.size w ((w.alloc (.cells (pc 0) 77)).alloc (.cells (ec 0) 78)) := ((Below.refl _ _).alloc (Nat.le_refl _) _).alloc (by simp) _
    exact below_setRow (below_setRow h (Nat.le_refl _) _) (by omega) _
theorem new_row1 (w : World) : ((w.alloc (.cells (pc 0) 77)).alloc (.cells (ec 0) 78)).heap[w.heap.size]? = some (.cells (pc 0) 77 (0, 0)) := heap_alloc2_old w _ _
theorem new_row2 (w : World) : (((w.alloc (.cells (pc 0) 77)).alloc (.cells (ec 0) 78)).setRow w.heap.size (pc 255)).heap[w.heap.size + 1]? = some (.cells (ec 0) 78 (0, 0)) :=
  (setRow_other _ _ _ _ (by omega)).trans (heap_alloc2_new w _ _)
set_option maxHeartbeats 1000000 in
set_option maxRecDepth 100000 in
theorem new_any (w : World) : Calls Try.prog 32 #[] w fun e w' => (∃ b, e = .returned (.pointer (some ⟨b, 0, none⟩)) ∧ w.heap.size ≤ b ∧ Fd w' b) ∧ Below w.heap.size w w' := by
  go_enter Try.func32, Try.ntmps32
  go_wp2_with fail
  refine (tables_any _).mono ?_
  rintro e w1 ⟨rfl, hb⟩
  have tok : True := trivial
  go_wp2_with (first
    | refine wpList_allocRow rfl 77 rfl (pc 0) zero39 ?_
    | refine wpList_allocRow rfl 78 rfl (ec 0) zero40 ?_
    | refine wpList_storeRow rfl 77 (.tmp 1) (.tmp 5) rfl w1.heap.size (pc 255) rfl rfl 77 (pc 0) (new_row1 w1) size39 ((pc_size 0).trans (pc_size 255).symm) (pc_one 255) ?_
    | refine stopStore 78 (.tmp 2) (.tmp 6) rfl ?_)
  constructor
  refine wpList_storeRow rfl 78 (.tmp 2) (.tmp 6) rfl (w1.heap.size + 1) (ec 255) rfl rfl 78 (ec 0) (new_row2 w1) size40 ((ec_size 0).trans (ec_size 255).symm) (ec_one 255) ?_
  obtain ⟨w3, hw3, hA, hB, hb3⟩ := new_rows w1
  rw [hw3]
  clear hw3
  go_wp2_with (first
    | refine wpList_load_row rfl 77 (.tmp 1) rfl w1.heap.size rfl 77 (pc 255) _ _ hA Try.underlying77 rfl size39 ?_
    | refine wpList_load_row rfl 78 (.tmp 2) rfl (w1.heap.size + 1) rfl 78 (ec 255) _ _ hB Try.underlying78 rfl size40 ?_
    | (refine stopBuild 82 #[(0, .tmp 7), (1, .tmp 8)] rfl ?_))
  constructor
  refine wpList_buildRow2 rfl 82 0 1 (.tmp 7) (.tmp 8) rfl (.agg (pc 255)) (.agg (ec 255)) rfl rfl FC built44 ?_
  clear hA hB
  go_wp2_with (refine wpList_boxRow rfl 82 (.tmp 9) rfl FC rfl ?_)
  go_ret
  exact ⟨⟨w3.heap.size, rfl, Nat.le_trans hb.size hb3.size, heap_alloc_new _ _⟩, bwalloc (bwstep hb hb3) _⟩
end Go.Proofs.Ytfnenehiapibiaa

namespace Go.Proofs.Ytfnenehiapibiaa
open Go.RowKit

theorem Fd.drewN {w : World} {b : Nat} (h : Fd w b) (n : Nat) : Fd (w.drewN n) b := h
set_option maxHeartbeats 1000000 in
set_option maxRecDepth 100000 in
theorem mul_any (b x y : Nat) (w : World) (hf : Fd w b) (hx : x < 256) (hy : y < 256) :
    Calls Try.prog 46 #[.pointer (some ⟨b, 0, none⟩), .int .u8 (x : Int), .int .u8 (y : Int)] w fun e w' => e = .returned (.int .u8 (Gf.gm x y : Int)) ∧ ∃ n, w' = w.drewN n := by
  by_cases h0 : x = 0
  · subst h0
    have HZ := Lib.hid (Gf.zero_gm hy)
    go_enter Try.func46, Try.ntmps46
    go_wp2_with fail
    go_ret
    exact ⟨ret1 (vi (by rw [HZ.out]; rfl)), 0, rfl⟩
  by_cases h1 : y = 0
  · subst h1
    have HZ := Lib.hid (Gf.gm_zero hx)
    go_enter Try.func46, Try.ntmps46
    go_wp2_with fail
    go_ret
    exact ⟨ret1 (vi (by rw [HZ.out]; rfl)), 0, rfl⟩
  have HT := Lib.hid (Gf.tab_mul hx hy h0 h1)
  have hx0 : ((x : Int) == 0) = false := by simp; omega
  have hy0 : ((y : Int) == 0) = false := by simp; omega
  have ex1 := hf.ex x hx
  have ex2 := hf.ex y hy
  have hl1 := Gf.ex_lt x
  have hl2 := Gf.ex_lt y
  have hm : (Gf.ex x + Gf.ex y) % 255 < 255 := Nat.mod_lt _ (by omega)
  have cp := hf.pw _ hm
  generalize Gf.ex x = i at *
  generalize Gf.ex y = j at *
  go_enter Try.func46, Try.ntmps46
  go_wp2_with fail
  have s1 : IntKind.i64.wrap ((i : Int) + (j : Int)) = (i : Int) + (j : Int) := IntWalk.i64_in _ (by omega)
  go_quiet (fail)
  go_wp2_with fail
  go_ret
  exact ⟨ret1 (vi (by rw [HT.out])), nq, rfl⟩
set_option maxHeartbeats 1000000 in
set_option maxRecDepth 100000 in
theorem inv_any (b x : Nat) (w : World) (hf : Fd w b) (hx : x < 256) :
    Calls Try.prog 36 #[.pointer (some ⟨b, 0, none⟩), .int .u8 (x : Int)] w fun e w' => e = .returned (.int .u8 (Gf.inv x : Int)) ∧ ∃ n, w' = w.drewN n := by
  by_cases h0 : x = 0
  · subst h0
    go_enter Try.func36, Try.ntmps36
    go_wp2_with fail
    go_ret
    exact ⟨rfl, 0, rfl⟩
  have HT : Hid (Gf.inv x = Gf.pw ((255 - Gf.ex x) % 255)) := Lib.hid (by unfold Gf.inv; rw [if_neg h0])
  have hx0 : ((x : Int) == 0) = false := by simp; omega
  have ex1 := hf.ex x hx
  have hl1 := Gf.ex_lt x
  have hm : (255 - Gf.ex x) % 255 < 255 := Nat.mod_lt _ (by omega)
  have cp := hf.pw _ hm
  generalize Gf.ex x = i at *
  go_enter Try.func36, Try.ntmps36
  go_wp2_with fail
  have s1 : IntKind.i64.wrap (255 - (i : Int)) = ((255 - i : Nat) : Int) := by rw [IntWalk.i64_in _ (by omega)]; omega
  go_quiet (fail)
  go_wp2_with fail
  go_ret
  exact ⟨ret1 (vi (by rw [HT.out])), nq, rfl⟩
end Go.Proofs.Ytfnenehiapibiaa

namespace Go.Proofs.Ytfnenehiapibiaa
open Go.RowKit

/-- each byte's product with c -/
def gmB (c : Nat) (b : UInt8) : UInt8 := UInt8.ofNat (Gf.gm c b.toNat)
def rowL (c : Nat) (l : List UInt8) : List UInt8 := l.map (gmB c)
theorem gmB_nat {c : Nat} (hc : c < 256) (b : UInt8) : (gmB c b).toNat = Gf.gm c b.toNat := by
  have := Gf.gm_lt b.toNat hc
  unfold gmB
  simp
  omega
theorem bv_gmB {c : Nat} (hc : c < 256) (b : UInt8) : bv (gmB c b) = .int .u8 (Gf.gm c b.toNat : Int) := by
  unfold bv
  rw [gmB_nat hc]
theorem rowL_len (c : Nat) (l : List UInt8) : (rowL c l).length = l.length := by simp [rowL]
/-- the row behind k rounds -/
def rowK (c : Nat) (l : List UInt8) (k : Nat) : List UInt8 := rowL c (l.take k) ++ List.replicate (l.length - k) 0
theorem rowK_len (c : Nat) (l : List UInt8) (k : Nat) (h : k ≤ l.length) : (rowK c l k).length = l.length := by
  simp [rowK, rowL_len]; omega
theorem rowK_set (c : Nat) (l : List UInt8) (k : Nat) (h : k < l.length) : (rowK c l k).set k (gmB c l[k]) = rowK c l (k + 1) := by
  have e : (rowL c (l.take k)).length = k := by simp [rowL_len]; omega
  unfold rowK
  rw [List.set_append_right _ _ (by omega), e, Nat.sub_self, show l.length - k = (l.length - (k + 1)) + 1 by omega, List.replicate_succ, List.set_cons_zero, List.take_succ_eq_append_getElem h]
  unfold rowL
  rw [List.map_append, List.append_assoc]
  rfl
theorem rowK_0 (c : Nat) (l : List UInt8) : rowK c l 0 = List.replicate l.length 0 := by simp [rowK, rowL]
theorem rowK_all (c : Nat) (l : List UInt8) : rowK c l l.length = rowL c l := by simp [rowK]
set_option maxHeartbeats 1000000 in
set_option maxRecDepth 100000 in
theorem row_any (b c : Nat) (v : Value) (l : List UInt8) (w : World) (hf : Fd w b) (hc : c < 256) (hr : Rd w w.heap.size v (l.map bv)) (hl : l.length ≤ 140737488355328) :
    Calls Try.prog 35 #[.pointer (some ⟨b, 0, none⟩), .int .u8 (c : Int), v] w fun e w' =>
      (∃ x, e = .returned x ∧ Ow w' w.heap.size 5 x ((rowL c l).map bv)) ∧ Below w.heap.size w w' := by
  obtain ⟨A, cap, rfl, hcp, hm⟩ := hr.shapeM
  go_enter Try.func35, Try.ntmps35
  go_wp2_with (refine wpList_makeB bytesT rfl (.tmp 14) (.tmp 14) rfl l.length rfl rfl hl ?_; intro w1 ho hb)
  rw [← rowK_0 c l] at ho
  go_loopw [9, 10, 18] (fun _ _ i wr => ∃ k : Nat, k ≤ l.length ∧ i = .int .i64 k ∧ Ow wr w.heap.size 5 (.slice (some ⟨w.heap.size, 0, none⟩) l.length l.length) ((rowK c l k).map bv) ∧ Below w.heap.size w wr) (fun _ _ i _ => l.length - (intOf i).toNat)
  case atStart => exact ⟨0, by omega, rfl, ho, hb⟩
  case round =>
    clear ho hb
    obtain ⟨k, hk, rfl, ho, hb⟩ := hrel
    by_cases hlt : k < l.length
    · have hfw := hf.below hb
      obtain ⟨bb, off, rfl, hbb, hcell⟩ := (hr.up hb).cellM (by omega)
      have hck := hcell k hlt
      simp only [bv] at hck
      clear hcell
      have hx := l[k].toNat_lt
      have HS := Lib.hid (rowK_set c l k hlt)
      have HB := Lib.hid (bv_gmB hc l[k])
      have hlen := rowK_len c l k hk
      obtain ⟨g, hg, hgb, hgs, hgc, hgf, hset⟩ := ho.at_ (k := k) (by rw [List.length_map]; omega)
      have hg' : w.heap.size = g := by injection hg with hg; injection hg
      subst hg'
      have hset' := hset (bv (gmB c l[k]))
      rw [← List.map_set, HS.out] at hset'
      have HO := Lib.hid hset'
      have hgc' : ∃ u, wr.cell? ⟨w.heap.size, k, none⟩ = some u := ⟨_, hgc⟩
      clear hset hset' hg hgc hlen hgb
      obtain ⟨u, hgc⟩ := hgc'
      go_wp2_with fail
      refine (mul_any b c l[k].toNat _ hfw hc hx).mono ?_
      rintro e w2 ⟨rfl, n1, rfl⟩
      go_wp2_with fail
      go_roundw
      case rel => exact ⟨k + 1, by omega, by go_num, by rw [HB.out] at HO; exact HO.out, ((below_drewN hb n1).setCell (p := ⟨w.heap.size, k, none⟩) (Nat.le_refl _) _)⟩
      case measure => simp [intOf]; omega
    · obtain rfl : k = l.length := by omega
      rw [rowK_all] at ho
      go_wp2_with fail
      go_ret
      exact ⟨⟨_, rfl, ho⟩, hb⟩
end Go.Proofs.Ytfnenehiapibiaa
