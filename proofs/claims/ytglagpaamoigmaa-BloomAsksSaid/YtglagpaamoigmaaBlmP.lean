/- Bloom filters as plain lists of bytes: a key's bits, the filter of keys, whether it has a key. Plain. -/
import Derived.Test.YtglagpaamoigmaaSum
namespace Go.Proofs.Ytglagpaamoigmaa.Blm
open Go.RowKit Crc

def ba (key : List UInt8) : Nat := vw (sum key)
def bb (key : List UInt8) : Nat := vw (sum (1 :: key))
/-- a key's bits, of n -/
def bitsL (key : List UInt8) (n : Nat) : List Nat := [ba key % n, (ba key + bb key) % 4294967296 % n, (ba key + 2 * bb key) % 4294967296 % n]
theorem bitsL_lt {key : List UInt8} {n i : Nat} (h : 0 < n) (hi : i ∈ bitsL key n) : i < n := by
  unfold bitsL at hi
  simp only [List.mem_cons, List.not_mem_nil, or_false] at hi
  rcases hi with rfl | rfl | rfl <;> exact Nat.mod_lt _ h
/-- bit k of a byte -/
def bt (b : UInt8) (k : Nat) : Bool := b.toNat.testBit k
/-- bit i of a filter -/
def bitAt (f : List UInt8) (i : Nat) : Bool := bt (f.getD (i / 8) 0) (i % 8)
/-- has the filter the key? -/
def hasB (f : List UInt8) (key : List UInt8) : Bool := f.isEmpty || (bitsL key (8 * f.length)).all (bitAt f)
theorem bt_div (b : UInt8) (k : Nat) : bt b k = decide (b.toNat / 2 ^ k % 2 = 1) := by
  unfold bt
  rw [Nat.testBit_eq_decide_div_mod_eq]
theorem bt_or (a b : UInt8) (k : Nat) : bt (a ||| b) k = (bt a k || bt b k) := by
  unfold bt
  rw [UInt8.toNat_or, Nat.testBit_or]
theorem bt_zero (k : Nat) : bt 0 k = false := by unfold bt; simp
theorem bt_ext {a b : UInt8} (h : ∀ k, k < 8 → bt a k = bt b k) : a = b := by
  apply UInt8.toNat_inj.1
  apply Nat.eq_of_testBit_eq
  intro k
  by_cases hk : k < 8
  · exact h k hk
  · have e : ∀ c : UInt8, c.toNat.testBit k = false := fun c => Nat.testBit_lt_two_pow (Nat.lt_of_lt_of_le c.toNat_lt (Nat.pow_le_pow_right (by decide) (by omega)))
    rw [e, e]
theorem bt_pow {i k : Nat} (hi : i < 8) : bt (UInt8.ofNat (2 ^ i)) k = decide (i = k) := by
  unfold bt
  rw [UInt8.toNat_ofNat', Nat.mod_eq_of_lt (Nat.pow_lt_pow_right (by decide) hi), Nat.testBit_two_pow]
/-- filters of one length with the same bits are one -/
theorem bits_ext {f g : List UInt8} (hl : f.length = g.length) (h : ∀ i, i < 8 * f.length → bitAt f i = bitAt g i) : f = g := by
  refine List.ext_getElem hl fun j h1 h2 => bt_ext fun k hk => ?_
  have := h (8 * j + k) (by omega)
  unfold bitAt at this
  rw [show (8 * j + k) / 8 = j by omega, show (8 * j + k) % 8 = k by omega] at this
  simpa [List.getD, h1, h2] using this
theorem bitAt_out {f : List UInt8} {i : Nat} (h : 8 * f.length ≤ i) : bitAt f i = false := by
  unfold bitAt
  rw [List.getD_eq_getElem?_getD, List.getElem?_eq_none (by omega)]
  exact bt_zero _
/-- one bit more is set -/
theorem bitAt_set {f : List UInt8} {i : Nat} (hi : i < 8 * f.length) (j : Nat) : bitAt (f.set (i / 8) (f.getD (i / 8) 0 ||| UInt8.ofNat (2 ^ (i % 8)))) j = (bitAt f j || decide (i = j)) := by
  have h8 : i / 8 < f.length := by omega
  unfold bitAt
  by_cases e : i / 8 = j / 8
  · rw [← e, List.getD_eq_getElem?_getD, List.getElem?_set_self h8, Option.getD_some, bt_or, bt_pow (by omega)]
    congr 1
    rw [decide_eq_decide]
    omega
  · rw [List.getD_eq_getElem?_getD, List.getElem?_set_ne e, ← List.getD_eq_getElem?_getD, decide_eq_false (show ¬ i = j from fun h => e (by rw [h])), Bool.or_false]
theorem bitAt_zeros (n i : Nat) : bitAt (List.replicate n 0) i = false := by
  unfold bitAt
  rw [List.getD_eq_getElem?_getD, List.getElem?_replicate]
  split <;> exact bt_zero _

/-! a byte, bit by bit, from the highest on -/
def hor (S : Nat → Bool) (j : Nat) : Nat → Nat
  | 0 => 0
  | d + 1 => 2 * hor S j d + (if S (8 * j + (7 - d)) then 1 else 0)
theorem hor_lt (S : Nat → Bool) (j : Nat) : ∀ d, hor S j d < 2 ^ d
  | 0 => by simp [hor]
  | d + 1 => by
    have := hor_lt S j d
    rw [hor, Nat.pow_succ]
    split <;> omega
theorem hor_bit (S : Nat → Bool) (j : Nat) : ∀ d i, d ≤ 8 → i < d → (hor S j d).testBit i = S (8 * j + (8 - d) + i)
  | 0, i, _, h => by omega
  | d + 1, 0, hd, _ => by
    rw [hor, show 8 * j + (8 - (d + 1)) + 0 = 8 * j + (7 - d) by omega, Nat.testBit_zero]
    cases S (8 * j + (7 - d))
    · simp
    · simp
  | d + 1, i + 1, hd, hi => by
    have ih := hor_bit S j d i (by omega) (by omega)
    rw [hor, Nat.testBit_succ]
    have e : (2 * hor S j d + (if S (8 * j + (7 - d)) then 1 else 0)) / 2 = hor S j d := by split <;> omega
    rw [e, ih]
    congr 1
    omega
def byteS (S : Nat → Bool) (j : Nat) : UInt8 := UInt8.ofNat (hor S j 8)
theorem byteS_bit (S : Nat → Bool) (j k : Nat) (hk : k < 8) : bt (byteS S j) k = S (8 * j + k) := by
  unfold bt byteS
  have := hor_lt S j 8
  rw [UInt8.toNat_ofNat', Nat.mod_eq_of_lt (by simpa using this), hor_bit S j 8 k (by omega) hk]
  congr 1
def filterS (S : Nat → Bool) (n : Nat) : List UInt8 := (List.range n).map (byteS S)
theorem filterS_len (S : Nat → Bool) (n : Nat) : (filterS S n).length = n := by simp [filterS]
theorem filterS_bit (S : Nat → Bool) {n i : Nat} (hi : i < 8 * n) : bitAt (filterS S n) i = S i := by
  unfold bitAt
  have h8 : i / 8 < n := by omega
  rw [List.getD_eq_getElem?_getD, filterS, List.getElem?_map, List.getElem?_range h8, Option.map_some, Option.getD_some, byteS_bit S _ _ (by omega)]
  congr 1
  omega

/-! the filter of keys -/
def size (keys : List (List UInt8)) : Nat := if keys.length = 0 then 1 else keys.length
theorem size_pos (keys : List (List UInt8)) : 0 < size keys := by unfold size; split <;> omega
def setIn (keys : List (List UInt8)) (n i : Nat) : Bool := keys.any fun key => (bitsL key n).contains i
def mkB (keys : List (List UInt8)) : List UInt8 := filterS (setIn keys (8 * size keys)) (size keys)
theorem mkB_len (keys : List (List UInt8)) : (mkB keys).length = size keys := filterS_len _ _
theorem mkB_bit (keys : List (List UInt8)) {i : Nat} (hi : i < 8 * size keys) : bitAt (mkB keys) i = setIn keys (8 * size keys) i := filterS_bit _ hi
/-- just its keys' bits are set: there is one such -/
theorem mkB_of {keys : List (List UInt8)} {f : List UInt8} (hl : f.length = size keys) (h : ∀ i, i < 8 * size keys → bitAt f i = setIn keys (8 * size keys) i) : f = mkB keys := by
  refine bits_ext (by rw [hl, mkB_len]) fun i hi => ?_
  rw [hl] at hi
  rw [h i hi, mkB_bit keys hi]
theorem setIn_snoc {keys : List (List UInt8)} {k n i : Nat} {key : List UInt8} (h : keys[k]? = some key) : setIn (keys.take (k + 1)) n i = (setIn (keys.take k) n i || (bitsL key n).contains i) := by
  obtain ⟨hl, rfl⟩ := List.getElem?_eq_some_iff.1 h
  unfold setIn
  rw [List.take_succ_eq_append_getElem hl, List.any_append, List.any_cons, List.any_nil, Bool.or_false]
theorem hasB_iff {f key : List UInt8} : hasB f key = true ↔ f = [] ∨ ∀ i ∈ bitsL key (8 * f.length), bitAt f i = true := by
  unfold hasB
  rw [Bool.or_eq_true, List.isEmpty_iff, List.all_eq_true]
/-- P11.3 -/
theorem has_make {keys : List (List UInt8)} {key : List UInt8} (h : key ∈ keys) : hasB (mkB keys) key = true := by
  refine hasB_iff.2 (.inr fun i hi => ?_)
  rw [mkB_len] at hi
  rw [mkB_bit keys (bitsL_lt (by have := size_pos keys; omega) hi)]
  exact List.any_eq_true.2 ⟨key, h, by simpa using hi⟩
theorem has_more {f g key : List UInt8} (hl : g.length = f.length) (h : ∀ i, bitAt f i = true → bitAt g i = true) (hf : hasB f key = true) : hasB g key = true := by
  rcases hasB_iff.1 hf with rfl | hf
  · exact hasB_iff.2 (.inl (List.eq_nil_of_length_eq_zero hl))
  · refine hasB_iff.2 (.inr fun i hi => h i (hf i (by rwa [hl] at hi)))
theorem bitAt_or {f : List UInt8} {k : Nat} {m : UInt8} (i : Nat) (h : bitAt f i = true) : bitAt (f.set k (f.getD k 0 ||| m)) i = true := by
  unfold bitAt at h ⊢
  by_cases e : k = i / 8
  · subst e
    by_cases hk : i / 8 < f.length
    · rw [List.getD_eq_getElem?_getD, List.getElem?_set_self hk, Option.getD_some, bt_or, h, Bool.true_or]
    · rw [List.set_eq_of_length_le (by omega)]
      exact h
  · rw [List.getD_eq_getElem?_getD, List.getElem?_set_ne e, ← List.getD_eq_getElem?_getD]
    exact h
/-- the order of keys doesn't matter -/
theorem mkB_perm {keys keys' : List (List UInt8)} (h : keys.Perm keys') : mkB keys = mkB keys' := by
  have hl := h.length_eq
  have hs : size keys = size keys' := by unfold size; rw [hl]
  refine mkB_of (by rw [mkB_len, hs]) fun i hi => ?_
  rw [← hs] at hi ⊢
  rw [mkB_bit keys hi]
  unfold setIn
  rw [Bool.eq_iff_iff, List.any_eq_true, List.any_eq_true]
  exact ⟨fun ⟨k, h1, h2⟩ => ⟨k, h.mem_iff.1 h1, h2⟩, fun ⟨k, h1, h2⟩ => ⟨k, h.mem_iff.2 h1, h2⟩⟩
end Go.Proofs.Ytglagpaamoigmaa.Blm
