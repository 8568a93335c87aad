/- Plain words of layer 5: a value's text, its pieces, its shards. -/
import Derived.Test.YtfnenehiapibiaaMatPl
import Derived.Test.YtfnenehiapibiaaWir
namespace Go.Proofs.Ytfnenehiapibiaa
open Mx (rw rw_len rw_get rw_congr dl cod mm fm sm)

/-- a value's text, zeros behind it -/
def tx (s : ByteArray) (t : Nat) : UInt8 := (textB s).getD t 0
theorem textB_len (s : ByteArray) : (textB s).length = s.size + 4 := by
  have : s.data.size = s.size := rfl
  simp [textB, numB_len]
  omega
/-- how long a piece is -/
def mlen (k : Nat) (s : ByteArray) : Nat := (s.size + 4 + (k - 1)) / k
theorem mlen_of {k L c n : Nat} (hk : 0 < k) (h1 : n = k * c) (h2 : L ≤ n) (h3 : n < L + k) : (L + (k - 1)) / k = c := by
  subst h1
  have hle : L ≤ k * c := h2
  rw [show L + (k - 1) = (k * c + (L + (k - 1) - k * c)) by omega, Nat.mul_add_div hk, Nat.div_eq_of_lt (by omega), Nat.add_zero]
theorem mlen_le {k : Nat} (hk : 0 < k) (s : ByteArray) : s.size + 4 ≤ k * mlen k s := by
  unfold mlen
  have h := Nat.div_add_mod (s.size + 4 + (k - 1)) k
  have := Nat.mod_lt (s.size + 4 + (k - 1)) hk
  omega
theorem mlen_lt {k : Nat} (hk : 0 < k) (s : ByteArray) : k * mlen k s < s.size + 4 + k := by
  unfold mlen
  have h := Nat.div_add_mod (s.size + 4 + (k - 1)) k
  omega
theorem mlen_pos {k : Nat} (hk : 0 < k) (s : ByteArray) : 0 < mlen k s := by
  have := mlen_le hk s
  apply Nat.pos_of_ne_zero
  intro h
  rw [h, Nat.mul_zero] at this
  omega
theorem mlen_small {k : Nat} (hk : 0 < k) (s : ByteArray) (hs : s.size ≤ 1000) : mlen k s ≤ 1010 := by
  have h := mlen_lt hk s
  apply Classical.byContradiction
  intro hn
  have h1 : k * 1011 ≤ k * mlen k s := Nat.mul_le_mul_left k (by omega)
  omega
/-- the pieces, the shards -/
def pcM (k : Nat) (s : ByteArray) : Mx.M := fun i j => tx s (i * mlen k s + j)
def shM (k : Nat) (s : ByteArray) : Mx.M := mm k (cod k) (pcM k s)
/-- the text behind some zeros -/
theorem tx_all (s : ByteArray) (n : Nat) (h : s.size + 4 ≤ n) : textB s ++ List.replicate (n - (s.size + 4)) 0 = rw n (tx s) := by
  apply List.ext_getElem?
  intro j
  by_cases h1 : j < s.size + 4
  · rw [List.getElem?_append_left (by rw [textB_len]; exact h1), rw_get (by omega)]
    unfold tx
    simp [List.getD, List.getElem?_eq_getElem (show j < (textB s).length by rw [textB_len]; exact h1)]
  · rw [List.getElem?_append_right (by rw [textB_len]; omega), textB_len]
    by_cases h2 : j < n
    · rw [rw_get h2]
      unfold tx
      rw [List.getElem?_replicate, if_pos (by omega)]
      simp [List.getD, List.getElem?_eq_none (show (textB s).length ≤ j by rw [textB_len]; omega)]
    · rw [List.getElem?_eq_none (by simp; omega), List.getElem?_eq_none (by rw [rw_len]; omega)]
theorem tx_step (s : ByteArray) (n : Nat) (h : s.size + 4 ≤ n) : rw n (tx s) ++ [0] = rw (n + 1) (tx s) := by
  rw [Mx.rw_succ]
  congr 2
  unfold tx
  simp [List.getD, List.getElem?_eq_none (show (textB s).length ≤ n by rw [textB_len]; omega)]
theorem tx_start (s : ByteArray) : textB s = rw (s.size + 4) (tx s) := by
  have := tx_all s (s.size + 4) (Nat.le_refl _)
  rw [Nat.sub_self, List.replicate_zero, List.append_nil] at this
  exact this
/-- a piece is cut out -/
theorem rw_cut (f : Nat → UInt8) (n lo m : Nat) (h : lo + m ≤ n) : ((rw n f).take (lo + m)).drop lo = rw m (fun j => f (lo + j)) := by
  apply List.ext_getElem?
  intro j
  rw [List.getElem?_drop, List.getElem?_take]
  by_cases hj : j < m
  · rw [if_pos (by omega), rw_get (by omega), rw_get hj]
  · rw [if_neg (by omega), List.getElem?_eq_none (by rw [rw_len]; omega)]
/-- rows behind one another -/
def flatM (k m : Nat) (f : Mx.M) : List UInt8 := (List.range k).flatMap fun i => rw m (f i)
theorem flatM_succ (k m : Nat) (f : Mx.M) : flatM (k + 1) m f = flatM k m f ++ rw m (f k) := by
  unfold flatM
  rw [List.range_succ, List.flatMap_append]
  simp
theorem flatM_len (k m : Nat) (f : Mx.M) : (flatM k m f).length = k * m := by
  induction k with
  | zero => simp [flatM]
  | succ k ih => rw [flatM_succ, List.length_append, ih, rw_len, Nat.succ_mul]
theorem flatM_congr {k m : Nat} {f g : Mx.M} (h : ∀ i, i < k → ∀ j, j < m → f i j = g i j) : flatM k m f = flatM k m g := by
  induction k with
  | zero => rfl
  | succ k ih => rw [flatM_succ, flatM_succ, ih (fun i hi => h i (by omega)), rw_congr (h k (by omega))]
theorem flat_pc (k m : Nat) (t : Nat → UInt8) : flatM k m (fun i j => t (i * m + j)) = rw (k * m) t := by
  induction k with
  | zero => rw [Nat.zero_mul]; rfl
  | succ k ih =>
    rw [flatM_succ, ih, Nat.succ_mul, Mx.rw_app]
    exact rw_congr fun j hj => by
      by_cases h : j < k * m
      · rw [if_pos h]
      · rw [if_neg h]; congr 1; omega
/-- the text is whole there, and it is the value -/
theorem getD_app_l {l r : List UInt8} {k : Nat} (h : k < l.length) : (l ++ r).getD k 0 = l.getD k 0 := by
  simp [List.getD, List.getElem?_append_left h]
theorem tx_num (s : ByteArray) (n : Nat) (h : s.size + 4 ≤ n) (hs : s.size ≤ 4294967295) : numOf (rw n (tx s)) = s.size := by
  rw [← tx_all s n h]
  unfold textB numOf
  rw [List.append_assoc]
  rw [getD_app_l (by rw [numB_len]; omega), getD_app_l (by rw [numB_len]; omega), getD_app_l (by rw [numB_len]; omega), getD_app_l (by rw [numB_len]; omega)]
  simp [numB]
  omega
theorem tx_ok (s : ByteArray) (n : Nat) (h : s.size + 4 ≤ n) (hs : s.size ≤ 4294967295) : textOk (rw n (tx s)) := by
  unfold textOk
  rw [tx_num s n h hs, rw_len]
  omega
theorem tx_of (s : ByteArray) (n : Nat) (h : s.size + 4 ≤ n) (hs : s.size ≤ 4294967295) : (⟨(textOf (rw n (tx s))).toArray⟩ : ByteArray) = s := by
  unfold textOf
  rw [tx_num s n h hs, ← tx_all s n h]
  unfold textB
  rw [List.append_assoc, List.drop_append_of_le_length (by rw [numB_len]; omega), show (numB s.size).drop 4 = [] from rfl, List.nil_append, List.take_append_of_le_length (by simp),
    List.take_of_length_le (by simp)]
/-- a coding's rows at places -/
theorem sh_add {k : Nat} {a b c d : Mx.M} (i j : Nat) (h : ∀ l, l < k → d l j = (a l j ^^^ b l j) ^^^ c l j) : mm k (cod k) d i j = (mm k (cod k) a i j ^^^ mm k (cod k) b i j) ^^^ mm k (cod k) c i j := by
  rw [← Mx.mm_add, ← Mx.mm_add]
  exact Mx.mm_congr (fun _ _ => rfl) h
/-- two lists of pieces whose shards are the same at k places, are the same -/
theorem sh_eq {k n m : Nat} (hn : n ≤ 256) {p q : Mx.M} (at_ : List Nat) (hlen : at_.length = k) (hnd : at_.Nodup) (hat : ∀ a ∈ at_, a < n)
    (h : ∀ a ∈ at_, ∀ j, j < m → mm k (cod k) p a j = mm k (cod k) q a j) : ∀ i, i < k → ∀ j, j < m → p i j = q i j := by
  intro i hi j hj
  refine Mx.x_eq_zero (Mx.cod_any hn at_ hlen hnd hat (fun l => p l j ^^^ q l j) (fun a ha => ?_) i hi)
  have := h a ha j hj
  unfold mm at this
  have e : sm k (fun l => fm (cod k a l) (p l j ^^^ q l j)) = sm k (fun l => fm (cod k a l) (p l j)) ^^^ sm k (fun l => fm (cod k a l) (q l j)) := by
    rw [← Mx.sm_add]
    exact Mx.sm_congr fun l _ => Mx.fm_add _ _ _
  rw [e, this, Mx.xx]
end Go.Proofs.Ytfnenehiapibiaa
