/- Plain lemmas on sums of 32 bits: a stp is linear and loses nothing; what a turned bit, a turned run, a sum behind its bytes does to a sum. Of no function in particular. The contracts of package check. The contract of the reference function of layer 2, and awake. -/
import Derived.Test.YtkpdadnmbjmfpaaDoorBase
import Derived.Lib.SlBytesConst
namespace Go.Proofs.YtkpdadnmbjmfpaaDoor.Crc

abbrev W := BitVec 32
def poly : W := 2197175160#32
def stp (w : W) : W := (w >>> 1) ^^^ (if w.getLsbD 0 then poly else 0#32)
def steps : Nat → W → W
  | 0, w => w
  | n + 1, w => steps n (stp w)
/-- a byte, as a word -/
def bw (c : UInt8) : W := BitVec.ofNat 32 c.toNat
def eat (w : W) (c : UInt8) : W := steps 8 (w ^^^ bw c)
def eats (w : W) (l : List UInt8) : W := l.foldl eat w
def ones : W := 4294967295#32
def sum (l : List UInt8) : W := eats ones l ^^^ ones

theorem eats_nil (w : W) : eats w [] = w := rfl
theorem eats_cons (w : W) (c : UInt8) (l : List UInt8) : eats w (c :: l) = eats (eat w c) l := rfl
theorem eats_app (w : W) (a b : List UInt8) : eats w (a ++ b) = eats (eats w a) b := by unfold eats; rw [List.foldl_append]
theorem eats_snoc (w : W) (l : List UInt8) (k : Nat) (h : k < l.length) : eats w (l.take (k + 1)) = eat (eats w (l.take k)) l[k] := by
  rw [List.take_succ_eq_append_getElem h, eats_app]; rfl

theorem stp_bit (w : W) (i : Nat) : (stp w).getLsbD i = (w.getLsbD (1 + i) ^^ (w.getLsbD 0 && poly.getLsbD i)) := by
  unfold stp
  rw [BitVec.getLsbD_xor, BitVec.getLsbD_ushiftRight]
  cases w.getLsbD 0 <;> simp
theorem stp_xor (a b : W) : stp (a ^^^ b) = stp a ^^^ stp b := by
  apply BitVec.eq_of_getLsbD_eq
  intro i hi
  rw [BitVec.getLsbD_xor, stp_bit, stp_bit, stp_bit, BitVec.getLsbD_xor, BitVec.getLsbD_xor]
  cases a.getLsbD 0 <;> cases b.getLsbD 0 <;> cases a.getLsbD (1 + i) <;> cases b.getLsbD (1 + i) <;> cases poly.getLsbD i <;> rfl
theorem stp_zero : stp 0#32 = 0#32 := by decide
theorem stp_ne (w : W) (h : w ≠ 0#32) : stp w ≠ 0#32 := by
  intro hs
  apply h
  have hb : ∀ i, (w.getLsbD (1 + i) ^^ (w.getLsbD 0 && poly.getLsbD i)) = false := by intro i; rw [← stp_bit, hs]; simp
  have h31 := hb 31
  have hp : poly.getLsbD 31 = true := by decide
  rw [hp, BitVec.getLsbD_of_ge w (1 + 31) (by omega)] at h31
  have h0 : w.getLsbD 0 = false := by cases hw : w.getLsbD 0 with
    | false => rfl
    | true => rw [hw] at h31; cases h31
  apply BitVec.eq_of_getLsbD_eq
  intro i hi
  rw [BitVec.getLsbD_zero]
  cases i with
  | zero => exact h0
  | succ i =>
    have := hb i
    rw [h0, Nat.add_comm] at this
    simpa using this

theorem steps_succ (n : Nat) (w : W) : steps (n + 1) w = stp (steps n w) := by
  induction n generalizing w with
  | zero => rfl
  | succ n ih => show steps (n + 1) (stp w) = _; rw [ih]; rfl
theorem steps_add (m n : Nat) (w : W) : steps (m + n) w = steps n (steps m w) := by
  induction n with
  | zero => rfl
  | succ n ih => rw [← Nat.add_assoc, steps_succ, steps_succ, ih]
theorem steps_xor (n : Nat) (a b : W) : steps n (a ^^^ b) = steps n a ^^^ steps n b := by
  induction n generalizing a b with
  | zero => rfl
  | succ n ih => show steps n (stp (a ^^^ b)) = _; rw [stp_xor, ih]; rfl
theorem steps_zero (n : Nat) : steps n 0#32 = 0#32 := by
  induction n with
  | zero => rfl
  | succ n ih => show steps n (stp 0#32) = _; rw [stp_zero, ih]
theorem steps_ne (n : Nat) (w : W) (h : w ≠ 0#32) : steps n w ≠ 0#32 := by
  induction n generalizing w with
  | zero => exact h
  | succ n ih => exact ih _ (stp_ne _ h)

/-- a word of few bits, shifted up, comes down again -/
theorem stp_one (i : Nat) (h : i < 31) : stp (BitVec.twoPow 32 (i + 1)) = BitVec.twoPow 32 i := by
  apply BitVec.eq_of_getLsbD_eq
  intro j hj
  rw [stp_bit]
  simp only [BitVec.getLsbD_twoPow]
  by_cases hij : i = j
  · subst hij
    have e1 : i + 1 < 32 := by omega
    have e2 : i < 32 := by omega
    simp [e1, e2, Nat.add_comm]
  · have : ¬ i + 1 = 1 + j := by omega
    simp [hij, this]
theorem steps_one (n i : Nat) (h : i < 32) (hn : i ≤ n) : steps n (BitVec.twoPow 32 i) = steps (n - i) (BitVec.twoPow 32 0) := by
  induction i generalizing n with
  | zero => rfl
  | succ i ih =>
    cases n with
    | zero => omega
    | succ n =>
      show steps n (stp _) = _
      rw [stp_one i (by omega), ih n (by omega) (by omega)]
      congr 1
      omega

theorem bw_xor (a b : UInt8) : bw (a ^^^ b) = bw a ^^^ bw b := by
  unfold bw
  apply BitVec.eq_of_toNat_eq
  simp

theorem eat_xor (w v : W) (c d : UInt8) : eat (w ^^^ v) (c ^^^ d) = eat w c ^^^ eat v d := by
  unfold eat
  rw [bw_xor, ← steps_xor]
  congr 1
  rw [BitVec.xor_assoc, BitVec.xor_assoc]
  congr 1
  rw [← BitVec.xor_assoc, ← BitVec.xor_assoc, BitVec.xor_comm v]
theorem eat_xorw (w v : W) (c : UInt8) : eat (w ^^^ v) c = eat w c ^^^ steps 8 v := by
  unfold eat
  rw [← steps_xor]
  congr 1
  rw [BitVec.xor_assoc, BitVec.xor_assoc, BitVec.xor_comm v]
theorem eats_xorw (w v : W) (l : List UInt8) : eats (w ^^^ v) l = eats w l ^^^ steps (8 * l.length) v := by
  induction l generalizing w v with
  | nil => rfl
  | cons c l ih =>
    rw [eats_cons, eats_cons, eat_xorw, ih, List.length_cons, ← steps_add]
    congr 2
    omega

/-- bytes with bit p turned -/
def flip (l : List UInt8) (p : Nat) : List UInt8 := l.set (p / 8) ((l[p / 8]?.getD 0) ^^^ (1 <<< UInt8.ofNat (p % 8)))
theorem flip_len (l : List UInt8) (p : Nat) : (flip l p).length = l.length := by unfold flip; simp
theorem bw_bit : ∀ r, r < 8 → bw (1 <<< UInt8.ofNat r) = BitVec.twoPow 32 r := by decide
theorem eats_flip (w : W) (l : List UInt8) (p : Nat) (h : p < 8 * l.length) : eats w (flip l p) = eats w l ^^^ steps (8 * l.length - p) (BitVec.twoPow 32 0) := by
  have hq : p / 8 < l.length := by omega
  unfold flip
  rw [List.getElem?_eq_getElem hq, Option.getD_some]
  generalize hr : p % 8 = r
  have hr8 : r < 8 := by omega
  generalize hc : l[p / 8] = c
  rw [List.set_eq_take_append_cons_drop, if_pos hq]
  have el : l = l.take (p / 8) ++ c :: l.drop (p / 8 + 1) := by rw [← hc, ← List.drop_eq_getElem_cons hq, List.take_append_drop]
  conv => rhs; arg 1; rw [el]
  rw [eats_app, eats_app, eats_cons, eats_cons]
  have e1 : eat (eats w (l.take (p / 8))) (c ^^^ 1 <<< UInt8.ofNat r) = eat (eats w (l.take (p / 8))) c ^^^ steps (8 - r) (BitVec.twoPow 32 0) := by
    rw [← steps_one 8 r (by omega) (by omega)]
    unfold eat
    rw [bw_xor, bw_bit r hr8, ← steps_xor, BitVec.xor_assoc]
  rw [e1, eats_xorw, List.length_drop, ← steps_add]
  congr 2
  omega

/-- the lowest i bits of a word -/
def low (t : W) (i : Nat) : W := t &&& (BitVec.ofNat 32 (2 ^ i - 1))
theorem low_getLsbD (t : W) (i j : Nat) (hj : j < 32) : (low t i).getLsbD j = (t.getLsbD j && decide (j < i)) := by
  unfold low
  rw [BitVec.getLsbD_and, BitVec.getLsbD_ofNat, Nat.testBit_two_pow_sub_one]
  simp [hj]
theorem low_zero (t : W) : low t 0 = 0#32 := by
  apply BitVec.eq_of_getLsbD_eq
  intro j hj
  rw [low_getLsbD t 0 j hj]
  simp
theorem low_all (t : W) : low t 32 = t := by
  apply BitVec.eq_of_getLsbD_eq
  intro j hj
  rw [low_getLsbD t 32 j hj]
  simp [hj]
theorem low_succ (t : W) (i : Nat) : low t (i + 1) = if t.getLsbD i then low t i ^^^ BitVec.twoPow 32 i else low t i := by
  apply BitVec.eq_of_getLsbD_eq
  intro j hj
  rw [low_getLsbD t (i + 1) j hj]
  by_cases hij : i = j
  · subst hij
    have hl := low_getLsbD t i i hj
    have e : decide (i < i + 1) = true := by simp
    have e2 : decide (i < i) = false := by simp
    rw [e2, Bool.and_false] at hl
    rw [e]
    cases ht : t.getLsbD i
    · rw [if_neg (by simp), hl]; rfl
    · rw [if_pos rfl, BitVec.getLsbD_xor, hl, BitVec.getLsbD_twoPow]; simp [hj]
  · have e : decide (j < i + 1) = decide (j < i) := by rw [decide_eq_decide]; omega
    rw [e]
    rw [← low_getLsbD t i j hj]
    cases ht : t.getLsbD i
    · rw [if_neg (by simp)]
    · rw [if_pos rfl, BitVec.getLsbD_xor, BitVec.getLsbD_twoPow]; simp [hij]
/-- a run of the bits of t, the lowest i of them, turned from bit k on -/
def flips (l : List UInt8) (t : W) (k : Nat) : Nat → List UInt8
  | 0 => l
  | i + 1 => if t.getLsbD i then flip (flips l t k i) (k + i) else flips l t k i
theorem flips_len (l : List UInt8) (t : W) (k i : Nat) : (flips l t k i).length = l.length := by
  induction i with
  | zero => rfl
  | succ i ih => unfold flips; split <;> simp [flip_len, ih]
theorem eats_flips (w : W) (l : List UInt8) (t : W) (k i : Nat) (hi : i ≤ 32) (h : k + 32 ≤ 8 * l.length) :
    eats w (flips l t k i) = eats w l ^^^ steps (8 * l.length - k) (low t i) := by
  induction i with
  | zero => rw [low_zero, steps_zero]; simp [flips]
  | succ i ih =>
    have := ih (by omega)
    unfold flips
    rw [low_succ t i]
    split
    · rw [eats_flip _ _ _ (by rw [flips_len]; omega), this, flips_len, steps_xor, steps_one _ i (by omega) (by omega), BitVec.xor_assoc]
      congr 3
      omega
    · exact this
theorem xor_self_ne (a b : W) (h : b ≠ 0#32) : a ^^^ b ≠ a := by
  intro e
  apply h
  have : a ^^^ (a ^^^ b) = a ^^^ a := by rw [e]
  rw [← BitVec.xor_assoc, BitVec.xor_self] at this
  simpa using this
/-- P2.2 -/
theorem sum_flips (l : List UInt8) (t : W) (k : Nat) (ht : t ≠ 0#32) (h : k + 32 ≤ 8 * l.length) : sum (flips l t k 32) ≠ sum l := by
  unfold sum
  rw [eats_flips _ _ _ _ _ (Nat.le_refl _) h, low_all, BitVec.xor_assoc, BitVec.xor_comm (steps _ t), ← BitVec.xor_assoc]
  exact xor_self_ne _ _ (steps_ne _ _ ht)

/-- three by three -/
def mix3 (l : List (UInt8 × UInt8 × UInt8)) : List UInt8 := l.map fun x => x.1 ^^^ x.2.1 ^^^ x.2.2
theorem eats_mix (l : List (UInt8 × UInt8 × UInt8)) (w1 w2 w3 : W) :
    eats (w1 ^^^ w2 ^^^ w3) (mix3 l) = eats w1 (l.map (·.1)) ^^^ eats w2 (l.map (·.2.1)) ^^^ eats w3 (l.map (·.2.2)) := by
  induction l generalizing w1 w2 w3 with
  | nil => rfl
  | cons x l ih =>
    simp only [mix3, List.map_cons, eats_cons] at ih ⊢
    rw [eat_xor, eat_xor]
    exact ih _ _ _
theorem sum_mix (l : List (UInt8 × UInt8 × UInt8)) : sum (mix3 l) = sum (l.map (·.1)) ^^^ sum (l.map (·.2.1)) ^^^ sum (l.map (·.2.2)) := by
  have h3 : ones = ones ^^^ ones ^^^ ones := by decide
  unfold sum
  have := eats_mix l ones ones ones
  rw [← h3] at this
  rw [this]
  generalize eats ones _ = a
  generalize eats ones _ = b
  generalize eats ones _ = c
  generalize ones = o
  apply BitVec.eq_of_getLsbD_eq
  intro i hi
  simp
  cases a.getLsbD i <;> cases b.getLsbD i <;> cases c.getLsbD i <;> cases o.getLsbD i <;> rfl

/-- a word as four bytes, the lowest first -/
def le4 (v : W) : List UInt8 := [UInt8.ofNat (v.toNat % 256), UInt8.ofNat (v.toNat / 256 % 256), UInt8.ofNat (v.toNat / 65536 % 256), UInt8.ofNat (v.toNat / 16777216)]
theorem stp_up (x : W) (h : x.getLsbD 31 = false) : stp (x <<< 1) = x := by
  apply BitVec.eq_of_getLsbD_eq
  intro j hj
  rw [stp_bit, BitVec.getLsbD_shiftLeft, BitVec.getLsbD_shiftLeft]
  have e : 1 + j - 1 = j := by omega
  rw [e]
  rcases Nat.lt_or_ge (1 + j) 32 with h1 | h1
  · have e2 : ¬ 1 + j < 1 := by omega
    simp [h1, e2]
  · have : j = 31 := by omega
    subst this
    rw [h]
    simp
theorem steps_up (n : Nat) (x : W) (h : x.toNat < 2 ^ (32 - n)) (hn : n ≤ 32) : steps n (x <<< n) = x := by
  induction n generalizing x with
  | zero => simp [steps]
  | succ n ih =>
    have e : x <<< (n + 1) = (x <<< n) <<< 1 := by rw [BitVec.shiftLeft_add]
    rw [e]
    show steps n (stp _) = x
    have hp : 2 ^ (32 - (n + 1)) ≤ 2 ^ (32 - n) := Nat.pow_le_pow_right (by omega) (by omega)
    rw [stp_up, ih x (by omega) (by omega)]
    rw [BitVec.getLsbD_shiftLeft]
    simp
    intro _
    rw [BitVec.getLsbD, Nat.testBit_lt_two_pow]
    refine Nat.lt_of_lt_of_le h (Nat.pow_le_pow_right (by omega) (by omega))
/-- the lowest byte is taken off -/
theorem eat_low (s v : W) (c : UInt8) (r : W) (hv : v = bw c ^^^ (r <<< 8)) (hr : r.toNat < 2 ^ 24) : steps 8 (s ^^^ v) = eat s c ^^^ r := by
  rw [hv, ← BitVec.xor_assoc, steps_xor, steps_up 8 r hr (by omega)]
  rfl
theorem low_byte (v : W) : v = bw (UInt8.ofNat (v.toNat % 256)) ^^^ ((v >>> 8) <<< 8) := by
  apply BitVec.eq_of_getLsbD_eq
  intro i hi
  have e : bw (UInt8.ofNat (v.toNat % 256)) = v &&& 255#32 := by
    apply BitVec.eq_of_toNat_eq
    unfold bw
    have : (255 : Nat) = 2 ^ 8 - 1 := rfl
    simp only [BitVec.toNat_and, BitVec.toNat_ofNat]
    rw [show (255 % 2 ^ 32 : Nat) = 2 ^ 8 - 1 from rfl, Nat.and_two_pow_sub_one_eq_mod]
    simp
    omega
  rw [e]
  have h255 : (255#32 : W).getLsbD i = decide (i < 8) := by
    rw [BitVec.getLsbD_ofNat, show (255 : Nat) = 2 ^ 8 - 1 from rfl, Nat.testBit_two_pow_sub_one]; simp [hi]
  simp [h255]
  by_cases h8 : i < 8
  · simp [h8]
  · have : 8 + (i - 8) = i := by omega
    simp [h8, this, hi]
theorem shr8_lt (v : W) : (v >>> 8).toNat < 2 ^ 24 := by
  rw [BitVec.toNat_ushiftRight, Nat.shiftRight_eq_div_pow]
  have := v.isLt
  omega
theorem eat_next (s v : W) : eat s (UInt8.ofNat (v.toNat % 256)) ^^^ (v >>> 8) = steps 8 (s ^^^ v) :=
  (eat_low s v _ _ (low_byte v) (shr8_lt v)).symm
theorem shr_toNat (v : W) (n : Nat) : (v >>> n).toNat = v.toNat / 2 ^ n := by rw [BitVec.toNat_ushiftRight, Nat.shiftRight_eq_div_pow]
theorem eat_le4 (s v : W) : eats s (le4 v) = steps 32 (s ^^^ v) := by
  have h1 := eat_next s v
  have h2 := eat_next (eat s (UInt8.ofNat (v.toNat % 256))) (v >>> 8)
  have h3 := eat_next (eat (eat s (UInt8.ofNat (v.toNat % 256))) (UInt8.ofNat (v.toNat / 256 % 256))) (v >>> 16)
  have h4 := eat_next (eat (eat (eat s (UInt8.ofNat (v.toNat % 256))) (UInt8.ofNat (v.toNat / 256 % 256))) (UInt8.ofNat (v.toNat / 65536 % 256))) (v >>> 24)
  have hv := v.isLt
  have e16 : v >>> 8 >>> 8 = v >>> 16 := by rw [← BitVec.shiftRight_add]
  have e24 : v >>> 16 >>> 8 = v >>> 24 := by rw [← BitVec.shiftRight_add]
  have e32 : v >>> 24 >>> 8 = 0#32 := by
    rw [← BitVec.shiftRight_add]
    apply BitVec.eq_of_toNat_eq
    rw [shr_toNat]
    simp
    omega
  rw [shr_toNat, e16] at h2
  rw [shr_toNat, e24] at h3
  rw [shr_toNat, e32, BitVec.xor_zero] at h4
  have m4 : v.toNat / 2 ^ 24 % 256 = v.toNat / 16777216 := by omega
  rw [m4] at h4
  show eat (eat (eat (eat s _) _) _) _ = _
  rw [h4]
  rw [h3, h2, h1, ← steps_add, ← steps_add, ← steps_add]
/-- bytes with their sum behind them -/
theorem sum_ends (l : List UInt8) : sum (l ++ le4 (sum l)) = steps 32 ones ^^^ ones := by
  unfold sum
  rw [eats_app, eat_le4, ← BitVec.xor_assoc, BitVec.xor_self, BitVec.zero_xor]
/-- more, behind a sum -/
theorem sum_app (a b : List UInt8) : eats (sum a ^^^ ones) b ^^^ ones = sum (a ++ b) := by
  unfold sum
  rw [BitVec.xor_assoc, BitVec.xor_self, BitVec.xor_zero, eats_app]
end Go.Proofs.YtkpdadnmbjmfpaaDoor.Crc

namespace Go.Proofs.YtkpdadnmbjmfpaaDoor
open Go.RowKit Crc

/-- a word of 32 bits as a number -/
def vw (w : W) : Nat := w.toNat
theorem vw_lt (w : W) : vw w < 4294967296 := w.isLt
theorem vw_inj {a b : W} (h : vw a = vw b) : a = b := BitVec.eq_of_toNat_eq h
theorem ofInt_vw (a : W) : BitVec.ofInt 32 (vw a : Int) = a := by
  rw [BitVec.ofInt_natCast]
  unfold vw
  simp
theorem wrap_vw (a : W) : IntKind.u32.wrap (a.toNat : Int) = (vw a : Int) := by
  have := vw_lt a
  rw [IntKind.wrap_u32]
  unfold vw at this ⊢
  omega
theorem wordOf {s : Int} (h : (Lit.int .u32 s).wf = true) : ∃ t : W, s = (vw t : Int) := by
  have hb : 0 ≤ s ∧ s < 4294967296 := by
    have := bounds_u32 h
    omega
  refine ⟨BitVec.ofNat 32 s.toNat, ?_⟩
  unfold vw
  rw [BitVec.toNat_ofNat]
  omega
theorem xor_vw (a b : W) : bits .xor .u32 (vw a : Int) (vw b : Int) = (vw (a ^^^ b) : Int) := by
  show IntKind.u32.wrap ((BitVec.ofInt 32 (vw a : Int) ^^^ BitVec.ofInt 32 (vw b : Int)).toNat : Int) = _
  rw [ofInt_vw, ofInt_vw, wrap_vw]
theorem and_vw (a b : W) : bits .and .u32 (vw a : Int) (vw b : Int) = (vw (a &&& b) : Int) := by
  show IntKind.u32.wrap ((BitVec.ofInt 32 (vw a : Int) &&& BitVec.ofInt 32 (vw b : Int)).toNat : Int) = _
  rw [ofInt_vw, ofInt_vw, wrap_vw]
theorem bit0 (a : W) : a.getLsbD 0 = decide (vw a % 2 = 1) := by
  unfold vw
  rw [BitVec.getLsbD, Nat.testBit_zero]
theorem vw_half (a : W) : vw (a >>> 1) = vw a / 2 := by unfold vw; rw [BitVec.toNat_ushiftRight, Nat.shiftRight_eq_div_pow]
theorem vw_low (a : W) : vw (a &&& 1#32) = vw a % 2 := by
  unfold vw
  rw [BitVec.toNat_and, show (1#32).toNat = 1 from rfl, Nat.and_one_is_mod]
theorem and1_vw (a : W) : bits .and .u32 (vw a : Int) 1 = ((vw a % 2 : Nat) : Int) := by
  have := and_vw a 1#32
  rw [vw_low] at this
  exact this
theorem stp_odd (a : W) (h : vw a % 2 = 1) : (vw (stp a) : Int) = bits .xor .u32 ((vw a : Int) / 2) 2197175160 := by
  have e : stp a = (a >>> 1) ^^^ poly := by unfold stp; rw [bit0, h]; rfl
  have := xor_vw (a >>> 1) poly
  rw [vw_half] at this
  rw [e, ← this]
  rfl
theorem stp_even (a : W) (h : vw a % 2 = 0) : (vw (stp a) : Int) = (vw a : Int) / 2 := by
  have e : stp a = (a >>> 1) := by unfold stp; rw [bit0, h]; simp
  rw [e, vw_half]
  rfl
theorem and1_odd (a : W) (h : (bits .and .u32 (vw a : Int) 1 == 1) = true) : vw a % 2 = 1 := by
  rw [and1_vw, beq_iff_eq] at h
  omega
theorem and1_even (a : W) (h : (bits .and .u32 (vw a : Int) 1 == 1) = false) : vw a % 2 = 0 := by
  rw [and1_vw, beq_eq_false_iff_ne] at h
  omega

/-- a byte turns a word -/
theorem bw_vw (c : UInt8) : (vw (bw c) : Int) = (c.toNat : Int) := by
  have := c.toNat_lt
  unfold vw bw
  rw [BitVec.toNat_ofNat]
  omega
theorem eat_vw (y : W) (c : UInt8) : bits .xor .u32 (vw y : Int) (c.toNat : Int) = (vw (y ^^^ bw c) : Int) := by
  rw [← bw_vw, xor_vw]
theorem eat_vwm (y : W) (c : UInt8) : bits .xor .u32 (vw y : Int) ((c.toNat : Int) % 4294967296) = (vw (y ^^^ bw c) : Int) := by
  have := c.toNat_lt
  rw [← eat_vw]
  congr 1
  omega
theorem ones_vw : (vw ones : Int) = 4294967295 := rfl
theorem xor_ones (y : W) : bits .xor .u32 (vw y : Int) 4294967295 = (vw (y ^^^ ones) : Int) := by
  rw [← ones_vw, xor_vw]

theorem zero_vw : (vw (0#32) : Int) = 0 := rfl
theorem zero_ones : 0#32 ^^^ ones = ones := by decide
theorem vw_beq (a b : W) : ((vw a : Int) == (vw b : Int)) = decide (a = b) := by
  rw [Bool.eq_iff_iff, beq_iff_eq, decide_eq_true_iff]
  exact ⟨fun h => vw_inj (by omega), fun h => by rw [h]⟩
end Go.Proofs.YtkpdadnmbjmfpaaDoor

namespace Go.Proofs.YtkpdadnmbjmfpaaDoor
open Go.RowKit Crc

theorem rem_odd (a : W) (h : ((vw a : Int) % 2 == 1) = true) : vw a % 2 = 1 := by
  rw [beq_iff_eq] at h
  omega
theorem rem_even (a : W) (h : ((vw a : Int) % 2 == 1) = false) : vw a % 2 = 0 := by
  rw [beq_eq_false_iff_ne] at h
  omega
theorem sub_vw (y : W) : 4294967295 - (vw y : Int) = (vw (y ^^^ ones) : Int) := by
  have e : y ^^^ ones = ~~~y := by
    have : ones = BitVec.allOnes 32 := rfl
    rw [this, BitVec.xor_allOnes]
  have := vw_lt y
  rw [e]
  unfold vw at this ⊢
  rw [BitVec.toNat_not]
  omega
/-! awake -/
theorem awake1 : (vw (sum [49, 50, 51, 52, 53, 54, 55, 56, 57]) : Int) = 3808858755 := by decide +kernel
theorem awake2 : (vw (eats (sum [49, 50, 51, 52] ^^^ ones) [53, 54, 55, 56, 57] ^^^ ones) : Int) = 3808858755 := by decide +kernel
theorem awake3 : decide (sum [] = 0#32) = true := by decide +kernel
end Go.Proofs.YtkpdadnmbjmfpaaDoor
