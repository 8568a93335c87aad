/- Plain lemmas of the field GF(256): numbers below 256, products by shift and turn, powers of 2. Of no function in particular. -/
import Derived.Test.YtjhnbhgpnmfdgaaLib
namespace Go.Proofs.Ytjhnbhgpnmfdgaa.Gf

/-- twice -/
def tw (n : Nat) : Nat := if 256 ≤ 2 * n then (2 * n) ^^^ 285 else 2 * n
/-- the product's loop: i rounds to come -/
def gmL : Nat → Nat → Nat → Nat → Nat
  | 0, _, _, o => o
  | i + 1, x, y, o => gmL i (tw x) (y / 2) (if y % 2 = 1 then o ^^^ x else o)
def gm (x y : Nat) : Nat := gmL 8 x y 0
/-- powers of 2 -/
def pw : Nat → Nat
  | 0 => 1
  | k + 1 => tw (pw k)
/-- the powers, one behind the other, n of them, from x on -/
def run : Nat → Nat → List Nat
  | 0, _ => []
  | n + 1, x => x :: run n (tw x)

theorem xor_lt {a b : Nat} (ha : a < 256) (hb : b < 256) : a ^^^ b < 256 := Nat.xor_lt_two_pow (n := 8) ha hb
theorem tw_lt' : ∀ a : Fin 256, tw a.val < 256 := by decide +kernel
theorem tw_lt {a : Nat} (h : a < 256) : tw a < 256 := tw_lt' ⟨a, h⟩
theorem two_xor (a b : Nat) : 2 * (a ^^^ b) = 2 * a ^^^ 2 * b := by
  have := Nat.shiftLeft_xor_distrib (a := a) (b := b) (i := 1)
  simpa [Nat.shiftLeft_eq, Nat.mul_comm] using this
theorem big_iff (a : Nat) (h : a < 256) : 256 ≤ 2 * a ↔ a.testBit 7 = true := by
  have : ∀ x : Fin 256, decide (256 ≤ 2 * x.val) = x.val.testBit 7 := by decide +kernel
  have := this ⟨a, h⟩
  simp only at this
  rw [← this]
  simp
theorem tw_xor {a b : Nat} (ha : a < 256) (hb : b < 256) : tw (a ^^^ b) = tw a ^^^ tw b := by
  have h := big_iff _ (xor_lt ha hb)
  rw [Nat.testBit_xor] at h
  have e : ∀ x y : Nat, x ^^^ 285 ^^^ (y ^^^ 285) = x ^^^ y := by
    intro x y
    have : x ^^^ 285 ^^^ (y ^^^ 285) = x ^^^ y ^^^ (285 ^^^ 285) := by ac_rfl
    rw [this]
    simp
  unfold tw
  by_cases h1 : a.testBit 7 = true <;> by_cases h2 : b.testBit 7 = true
  · rw [if_pos ((big_iff a ha).2 h1), if_pos ((big_iff b hb).2 h2), if_neg (fun k => by have := h.1 k; simp [h1, h2] at this), two_xor, e]
  · rw [if_pos ((big_iff a ha).2 h1), if_neg (fun k => h2 ((big_iff b hb).1 k)), if_pos (h.2 (by simp [h1, h2])), two_xor]
    ac_rfl
  · rw [if_neg (fun k => h1 ((big_iff a ha).1 k)), if_pos ((big_iff b hb).2 h2), if_pos (h.2 (by simp [h1, h2])), two_xor]
    ac_rfl
  · rw [if_neg (fun k => h1 ((big_iff a ha).1 k)), if_neg (fun k => h2 ((big_iff b hb).1 k)), if_neg (fun k => by have := h.1 k; simp [h1, h2] at this), two_xor]
theorem gmL_lt (i : Nat) : ∀ x y o, x < 256 → o < 256 → gmL i x y o < 256 := by
  induction i with
  | zero => intro x y o _ h; exact h
  | succ i ih =>
    intro x y o hx ho
    unfold gmL
    refine ih _ _ _ (tw_lt hx) ?_
    split
    · exact xor_lt ho hx
    · exact ho
theorem gm_lt {x : Nat} (y : Nat) (hx : x < 256) : gm x y < 256 := gmL_lt 8 x y 0 hx (by omega)
theorem gmL_tw (i : Nat) : ∀ x y o, x < 256 → o < 256 → gmL i (tw x) y (tw o) = tw (gmL i x y o) := by
  induction i with
  | zero => intro x y o _ _; rfl
  | succ i ih =>
    intro x y o hx ho
    unfold gmL
    by_cases h : y % 2 = 1
    · rw [if_pos h, if_pos h, ← tw_xor ho hx]
      exact ih _ _ _ (tw_lt hx) (xor_lt ho hx)
    · rw [if_neg h, if_neg h]
      exact ih _ _ _ (tw_lt hx) ho
theorem gm_tw {x : Nat} (y : Nat) (hx : x < 256) : gm (tw x) y = tw (gm x y) := gmL_tw 8 x y 0 hx (by omega)
theorem gmL_xor (i : Nat) : ∀ x x' y o o', x < 256 → x' < 256 → gmL i (x ^^^ x') y (o ^^^ o') = gmL i x y o ^^^ gmL i x' y o' := by
  induction i with
  | zero => intro x x' y o o' _ _; rfl
  | succ i ih =>
    intro x x' y o o' hx hx'
    unfold gmL
    rw [tw_xor hx hx']
    by_cases h : y % 2 = 1
    · simp only [if_pos h]
      rw [← ih _ _ _ _ _ (tw_lt hx) (tw_lt hx')]
      congr 1
      ac_rfl
    · simp only [if_neg h]
      exact ih _ _ _ _ _ (tw_lt hx) (tw_lt hx')
/-- products part over sums -/
theorem gm_xor {x x' : Nat} (y : Nat) (hx : x < 256) (hx' : x' < 256) : gm (x ^^^ x') y = gm x y ^^^ gm x' y :=
  gmL_xor 8 x x' y 0 0 hx hx'
theorem gm_one' : ∀ y : Fin 256, gm 1 y.val = y.val := by decide +kernel
theorem gm_one {y : Nat} (h : y < 256) : gm 1 y = y := gm_one' ⟨y, h⟩
theorem gm_zero' : ∀ y : Fin 256, gm 0 y.val = 0 ∧ gm y.val 0 = 0 := by decide +kernel
theorem zero_gm {y : Nat} (h : y < 256) : gm 0 y = 0 := (gm_zero' ⟨y, h⟩).1
theorem gm_zero {y : Nat} (h : y < 256) : gm y 0 = 0 := (gm_zero' ⟨y, h⟩).2
theorem pw_lt (k : Nat) : pw k < 256 := by
  induction k with
  | zero => decide
  | succ k ih => exact tw_lt ih
/-- k times twice -/
def twn : Nat → Nat → Nat
  | 0, x => x
  | k + 1, x => tw (twn k x)
theorem gm_pw (k : Nat) {y : Nat} (h : y < 256) : gm (pw k) y = twn k y := by
  induction k with
  | zero => exact gm_one h
  | succ k ih => rw [pw, gm_tw _ (pw_lt k), ih]; rfl
theorem twn_pw (i j : Nat) : twn i (pw j) = pw (i + j) := by
  induction i with
  | zero => rw [Nat.zero_add]; rfl
  | succ i ih => rw [twn, ih, Nat.add_right_comm]; rfl
/-- products of powers -/
theorem pw_mul (i j : Nat) : gm (pw i) (pw j) = pw (i + j) := by rw [gm_pw i (pw_lt j), twn_pw]
theorem run_get (n : Nat) : ∀ x k, k < n → (run n x)[k]? = some (twn k x) := by
  induction n with
  | zero => intro x k h; omega
  | succ n ih =>
    intro x k h
    cases k with
    | zero => rfl
    | succ k =>
      rw [run, List.getElem?_cons_succ, ih _ _ (by omega)]
      congr 1
      clear ih h
      induction k with
      | zero => rfl
      | succ k ih => rw [twn, ih]; rfl
theorem run_len (n : Nat) : ∀ x, (run n x).length = n := by
  induction n with
  | zero => intro x; rfl
  | succ n ih => intro x; rw [run, List.length_cons, ih]
theorem twn_one (k : Nat) : twn k 1 = pw k := by
  have := twn_pw k 0
  exact this
theorem run_pw (k : Nat) (h : k < 255) : (run 255 1)[k]? = some (pw k) := by rw [run_get 255 1 k h, twn_one]
theorem run_nodup : (run 255 1).Nodup := by decide +kernel
theorem run_all : ∀ a : Fin 256, a.val = 0 ∨ a.val ∈ run 255 1 := by decide +kernel
theorem pw_succ (k : Nat) : pw (k + 1) = tw (pw k) := rfl
theorem pw_255 : pw 255 = 1 := by
  have e : pw 255 = tw (pw 254) := pw_succ 254
  have h : (run 255 1)[254]? = some 142 := by decide +kernel
  rw [run_pw 254 (by omega)] at h
  have h2 := Option.some.inj h
  clear h
  rw [e, h2]
  decide +kernel
theorem pw_inj {i j : Nat} (hi : i < 255) (hj : j < 255) (h : pw i = pw j) : i = j := by
  have hl := run_len 255 1
  have e : (run 255 1)[i]? = (run 255 1)[j]? := by rw [run_pw i hi, run_pw j hj, h]
  rw [List.getElem?_eq_getElem (by omega), List.getElem?_eq_getElem (by omega), Option.some_inj] at e
  exact (List.getElem_inj run_nodup).1 e
/-- each element but 0 is a power of 2 -/
theorem pw_of {a : Nat} (h : a < 256) (h0 : a ≠ 0) : ∃ e, e < 255 ∧ a = pw e := by
  rcases run_all ⟨a, h⟩ with h1 | h1
  · exact absurd h1 h0
  · obtain ⟨k, hk, he⟩ := List.getElem_of_mem h1
    have hl := run_len 255 1
    refine ⟨k, by omega, ?_⟩
    have := run_pw k (by omega)
    rw [List.getElem?_eq_getElem hk] at this
    injection this with this
    rw [← this, he]
theorem pw_add (k : Nat) : pw (k + 255) = pw k := by
  have := pw_mul k 255
  rw [pw_255] at this
  rw [← this]
  have e := pw_mul k 0
  exact e
theorem pw_adds (k n : Nat) : pw (k + 255 * n) = pw k := by
  induction n with
  | zero => rfl
  | succ n ih => rw [Nat.mul_succ, ← Nat.add_assoc, pw_add, ih]
theorem pw_mod (k : Nat) : pw (k % 255) = pw k := by
  have := pw_adds (k % 255) (k / 255)
  rw [← this]
  congr 1
  omega
theorem pw_ne (k : Nat) : pw k ≠ 0 := by
  have h : ∀ e : Fin 255, (run 255 1)[e.val]? ≠ some 0 := by decide +kernel
  have := h ⟨k % 255, Nat.mod_lt _ (by omega)⟩
  rw [run_pw _ (Nat.mod_lt _ (by omega)), pw_mod] at this
  intro e
  rw [e] at this
  exact this rfl

/-! the rules -/
theorem gm_comm {a b : Nat} (ha : a < 256) (hb : b < 256) : gm a b = gm b a := by
  by_cases h0 : a = 0
  · subst h0; rw [zero_gm hb, gm_zero hb]
  by_cases h1 : b = 0
  · subst h1; rw [zero_gm ha, gm_zero ha]
  obtain ⟨i, _, rfl⟩ := pw_of ha h0
  obtain ⟨j, _, rfl⟩ := pw_of hb h1
  rw [pw_mul, pw_mul, Nat.add_comm]
theorem gm_assoc {a b c : Nat} (ha : a < 256) (hb : b < 256) (hc : c < 256) : gm (gm a b) c = gm a (gm b c) := by
  by_cases h0 : a = 0
  · subst h0; rw [zero_gm hb, zero_gm hc, zero_gm (gm_lt _ hb)]
  by_cases h1 : b = 0
  · subst h1; rw [gm_zero ha, zero_gm hc, gm_zero ha]
  by_cases h2 : c = 0
  · subst h2; rw [gm_zero (gm_lt _ ha), gm_zero hb, gm_zero ha]
  obtain ⟨i, _, rfl⟩ := pw_of ha h0
  obtain ⟨j, _, rfl⟩ := pw_of hb h1
  obtain ⟨k, _, rfl⟩ := pw_of hc h2
  rw [pw_mul, pw_mul, pw_mul, pw_mul, Nat.add_assoc]
theorem gm_xor2 {a b c : Nat} (ha : a < 256) (hb : b < 256) (hc : c < 256) : gm a (b ^^^ c) = gm a b ^^^ gm a c := by
  rw [gm_comm ha (xor_lt hb hc), gm_xor _ hb hc, gm_comm hb ha, gm_comm hc ha]
theorem mul_one {a : Nat} (ha : a < 256) : gm a 1 = a := by rw [gm_comm ha (by omega), gm_one ha]

/-- the exponent, as the table has it behind k rounds -/
def exK : Nat → Nat → Nat
  | 0, _ => 0
  | k + 1, a => if a = pw k then k else exK k a
def ex (a : Nat) : Nat := exK 255 a
theorem exK_pw (k n : Nat) (hk : k ≤ 255) (hn : n < k) : exK k (pw n) = n := by
  induction k with
  | zero => omega
  | succ k ih =>
    unfold exK
    by_cases h : n = k
    · subst h; rw [if_pos rfl]
    · rw [if_neg (fun e => h (pw_inj (by omega) (by omega) e)), ih (by omega) (by omega)]
theorem ex_pw (n : Nat) (h : n < 255) : ex (pw n) = n := exK_pw 255 n (by omega) h
theorem exK_lt (k a : Nat) (hk : k ≤ 255) : exK k a < 255 := by
  induction k with
  | zero => simp [exK]
  | succ k ih =>
    unfold exK
    split
    · omega
    · exact ih (by omega)
theorem ex_lt (a : Nat) : ex a < 255 := exK_lt 255 a (by omega)
theorem pw_ex {a : Nat} (h : a < 256) (h0 : a ≠ 0) : pw (ex a) = a := by
  obtain ⟨e, he, rfl⟩ := pw_of h h0
  rw [ex_pw e he]
/-- the product by the tables -/
theorem tab_mul {a b : Nat} (ha : a < 256) (hb : b < 256) (h0 : a ≠ 0) (h1 : b ≠ 0) : pw ((ex a + ex b) % 255) = gm a b := by
  rw [pw_mod, ← pw_mul, pw_ex ha h0, pw_ex hb h1]
/-- the contrary -/
def inv (a : Nat) : Nat := if a = 0 then 0 else pw ((255 - ex a) % 255)
theorem inv_lt (a : Nat) : inv a < 256 := by
  unfold inv
  split
  · omega
  · exact pw_lt _
theorem gm_inv {a : Nat} (h : a < 256) (h0 : a ≠ 0) : gm a (inv a) = 1 := by
  unfold inv
  rw [if_neg h0]
  obtain ⟨e, he, rfl⟩ := pw_of h h0
  rw [ex_pw e he, pw_mod, pw_mul, show e + (255 - e) = 255 by omega, pw_255]
theorem inv_ne {a : Nat} (h0 : a ≠ 0) : inv a ≠ 0 := by
  unfold inv
  rw [if_neg h0]
  exact pw_ne _
theorem inv_of {a b : Nat} (ha : a < 256) (hb : b < 256) (h : gm a b = 1) : b = inv a := by
  have h0 : a ≠ 0 := by
    intro e
    subst e
    rw [zero_gm hb] at h
    omega
  have h1 := gm_inv ha h0
  have hi := inv_lt a
  have e : gm (inv a) (gm a b) = b := by rw [← gm_assoc hi ha hb, gm_comm hi ha, h1, gm_one hb]
  rw [← e, h, mul_one hi]
theorem inv_inv {a : Nat} (ha : a < 256) : inv (inv a) = a := by
  by_cases h0 : a = 0
  · subst h0; rfl
  · exact (inv_of (inv_lt a) ha (by rw [gm_comm (inv_lt a) ha, gm_inv ha h0])).symm
theorem div_mul {a b : Nat} (ha : a < 256) (hb : b < 256) (h0 : b ≠ 0) : gm (gm a b) (inv b) = a := by
  rw [gm_assoc ha hb (inv_lt b), gm_inv hb h0, mul_one ha]
/-- powers -/
def gp (a : Nat) : Nat → Nat
  | 0 => 1
  | n + 1 => gm (gp a n) a
theorem gp_lt {a : Nat} (ha : a < 256) (n : Nat) : gp a n < 256 := by
  induction n with
  | zero => show 1 < 256; omega
  | succ n ih => exact gm_lt _ ih
theorem gp_pw (e n : Nat) : gp (pw e) n = pw (e * n) := by
  induction n with
  | zero => rfl
  | succ n ih => rw [gp, ih, pw_mul, Nat.mul_succ]
theorem gp_zero (n : Nat) (h : n ≠ 0) : gp 0 n = 0 := by
  obtain ⟨m, rfl⟩ : ∃ m, n = m + 1 := ⟨n - 1, by omega⟩
  rw [gp, gm_zero (gp_lt (by omega) m)]
/-- the power by the tables -/
theorem tab_gp {a : Nat} (ha : a < 256) (h0 : a ≠ 0) (n : Nat) : pw (ex a * (n % 255) % 255) = gp a n := by
  obtain ⟨e, he, rfl⟩ := pw_of ha h0
  rw [ex_pw e he, gp_pw, ← pw_mod (e * n)]
  congr 1
  rw [Nat.mul_mod, Nat.mod_mod, ← Nat.mul_mod]
theorem gp_add {a : Nat} (ha : a < 256) (h0 : a ≠ 0) (n : Nat) : gp a (n + 255) = gp a n := by
  obtain ⟨e, he, rfl⟩ := pw_of ha h0
  rw [gp_pw, gp_pw, Nat.mul_add, Nat.mul_comm e 255, pw_adds]
theorem gp_mod {a : Nat} (ha : a < 256) (h0 : a ≠ 0) (n : Nat) : gp a (n % 255) = gp a n := by
  obtain ⟨e, he, rfl⟩ := pw_of ha h0
  rw [gp_pw, gp_pw, ← pw_mod (e * n), ← pw_mod (e * (n % 255)), Nat.mul_mod, Nat.mod_mod, ← Nat.mul_mod]
theorem gp_two {a : Nat} (ha : a < 256) : gp a 2 = gm a a := by
  show gm (gm 1 a) a = gm a a
  rw [gm_one ha]
theorem square_xor {a b : Nat} (ha : a < 256) (hb : b < 256) : gm (a ^^^ b) (a ^^^ b) = gm a a ^^^ gm b b := by
  rw [gm_xor _ ha hb, gm_xor2 ha ha hb, gm_xor2 hb ha hb, gm_comm hb ha]
  have e : ∀ x y z : Nat, x ^^^ y ^^^ (y ^^^ z) = x ^^^ z ^^^ (y ^^^ y) := by intro x y z; ac_rfl
  rw [e]
  simp
/-- k squares -/
def sq (a : Nat) : Nat → Nat
  | 0 => a
  | k + 1 => gm (sq a k) (sq a k)
theorem sq_lt {a : Nat} (ha : a < 256) (k : Nat) : sq a k < 256 := by
  induction k with
  | zero => exact ha
  | succ k ih => exact gm_lt _ ih
theorem sq_pw (e k : Nat) : sq (pw e) k = pw (e * 2 ^ k) := by
  induction k with
  | zero => rw [Nat.pow_zero, Nat.mul_one]; rfl
  | succ k ih => rw [sq, ih, pw_mul, Nat.pow_succ, ← Nat.mul_assoc]; congr 1; omega
theorem sq_eight {a : Nat} (ha : a < 256) : sq a 8 = a := by
  by_cases h0 : a = 0
  · subst h0; decide
  · obtain ⟨e, he, rfl⟩ := pw_of ha h0
    rw [sq_pw]
    have := pw_adds e e
    rw [← this]
    congr 1
    omega
theorem gp_256 {a : Nat} (ha : a < 256) : gp a 256 = a := by
  by_cases h0 : a = 0
  · subst h0; exact gp_zero 256 (by omega)
  · have := gp_add ha h0 1
    rw [this]
    exact gm_one ha
end Go.Proofs.Ytjhnbhgpnmfdgaa.Gf
