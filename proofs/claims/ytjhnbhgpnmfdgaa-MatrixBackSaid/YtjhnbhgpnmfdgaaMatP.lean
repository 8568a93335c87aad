/- Plain lemmas of matrices over GF(256): bytes as elements, sums, products, tables of rows. Of no function in particular. -/
import Derived.Test.YtjhnbhgpnmfdgaaFldP
namespace Go.Proofs.Ytjhnbhgpnmfdgaa.Mx

/-- the product of bytes, the contrary -/
def fm (a b : UInt8) : UInt8 := UInt8.ofNat (Gf.gm a.toNat b.toNat)
def fi (a : UInt8) : UInt8 := UInt8.ofNat (Gf.inv a.toNat)
theorem ofNat_nat {n : Nat} (h : n < 256) : (UInt8.ofNat n).toNat = n := by simp; omega
theorem fm_nat (a b : UInt8) : (fm a b).toNat = Gf.gm a.toNat b.toNat := ofNat_nat (Gf.gm_lt _ a.toNat_lt)
theorem fi_nat (a : UInt8) : (fi a).toNat = Gf.inv a.toNat := ofNat_nat (Gf.inv_lt _)
theorem nat_eq {a b : UInt8} (h : a.toNat = b.toNat) : a = b := UInt8.toNat_inj.1 h
theorem nat_zero {a : UInt8} : a.toNat = 0 ↔ a = 0 := ⟨fun h => nat_eq h, fun h => by subst h; rfl⟩
theorem fm_comm (a b : UInt8) : fm a b = fm b a := nat_eq (by rw [fm_nat, fm_nat, Gf.gm_comm a.toNat_lt b.toNat_lt])
theorem fm_assoc (a b c : UInt8) : fm (fm a b) c = fm a (fm b c) := nat_eq (by rw [fm_nat, fm_nat, fm_nat, fm_nat, Gf.gm_assoc a.toNat_lt b.toNat_lt c.toNat_lt])
theorem fm_add (a b c : UInt8) : fm a (b ^^^ c) = fm a b ^^^ fm a c := nat_eq (by rw [UInt8.toNat_xor, fm_nat, fm_nat, fm_nat, UInt8.toNat_xor, Gf.gm_xor2 a.toNat_lt b.toNat_lt c.toNat_lt])
theorem add_fm (a b c : UInt8) : fm (a ^^^ b) c = fm a c ^^^ fm b c := by rw [fm_comm, fm_add, fm_comm c, fm_comm c]
theorem fm_one (a : UInt8) : fm a 1 = a := nat_eq (by rw [fm_nat]; exact Gf.mul_one a.toNat_lt)
theorem one_fm (a : UInt8) : fm 1 a = a := by rw [fm_comm, fm_one]
theorem fm_zero (a : UInt8) : fm a 0 = 0 := nat_eq (by rw [fm_nat]; exact Gf.gm_zero a.toNat_lt)
theorem zero_fm (a : UInt8) : fm 0 a = 0 := by rw [fm_comm, fm_zero]
theorem fm_fi {a : UInt8} (h : a ≠ 0) : fm a (fi a) = 1 := nat_eq (by
  rw [fm_nat, fi_nat, Gf.gm_inv a.toNat_lt (fun e => h (nat_zero.1 e))]; rfl)
theorem fi_fm {a : UInt8} (h : a ≠ 0) : fm (fi a) a = 1 := by rw [fm_comm, fm_fi h]
theorem fi_ne {a : UInt8} (h : a ≠ 0) : fi a ≠ 0 := fun e => by
  have := fm_fi h
  rw [e, fm_zero] at this
  exact absurd this (by decide)
theorem fm_eq_zero {a b : UInt8} (h : fm a b = 0) (ha : a ≠ 0) : b = 0 := by
  have : fm (fi a) (fm a b) = b := by rw [← fm_assoc, fi_fm ha, one_fm]
  rw [h, fm_zero] at this
  exact this.symm
theorem xx (a : UInt8) : a ^^^ a = 0 := UInt8.xor_self
theorem x0 (a : UInt8) : a ^^^ 0 = a := UInt8.xor_zero
theorem zx (a : UInt8) : 0 ^^^ a = a := by rw [UInt8.xor_comm, x0]
theorem xxa (a b : UInt8) : a ^^^ (a ^^^ b) = b := by rw [← UInt8.xor_assoc, xx, zx]
theorem x_eq_zero {a b : UInt8} (h : a ^^^ b = 0) : a = b := by
  have := xxa a b
  rw [h, x0] at this
  exact this
theorem x4 (a b c d : UInt8) : (a ^^^ b) ^^^ (c ^^^ d) = (a ^^^ c) ^^^ (b ^^^ d) := by
  rw [UInt8.xor_assoc, UInt8.xor_assoc, ← UInt8.xor_assoc b, ← UInt8.xor_assoc c, UInt8.xor_comm b c]

/-- sums -/
def sm : Nat → (Nat → UInt8) → UInt8
  | 0, _ => 0
  | n + 1, f => sm n f ^^^ f n
theorem sm_congr {n : Nat} {f g : Nat → UInt8} (h : ∀ k, k < n → f k = g k) : sm n f = sm n g := by
  induction n with
  | zero => rfl
  | succ n ih => rw [sm, sm, ih (fun k hk => h k (by omega)), h n (by omega)]
theorem sm_add (n : Nat) (f g : Nat → UInt8) : sm n (fun k => f k ^^^ g k) = sm n f ^^^ sm n g := by
  induction n with
  | zero => exact (xx 0).symm
  | succ n ih => rw [sm, sm, sm, ih, x4]
theorem sm_mul (n : Nat) (c : UInt8) (f : Nat → UInt8) : sm n (fun k => fm c (f k)) = fm c (sm n f) := by
  induction n with
  | zero => exact (fm_zero c).symm
  | succ n ih => rw [sm, sm, ih, fm_add]
theorem mul_sm (n : Nat) (c : UInt8) (f : Nat → UInt8) : sm n (fun k => fm (f k) c) = fm (sm n f) c := by
  rw [fm_comm, ← sm_mul]
  exact sm_congr fun k _ => fm_comm _ _
theorem sm_zero {n : Nat} {f : Nat → UInt8} (h : ∀ k, k < n → f k = 0) : sm n f = 0 := by
  induction n with
  | zero => rfl
  | succ n ih => rw [sm, ih (fun k hk => h k (by omega)), h n (by omega)]; rfl
theorem sm_swap (m n : Nat) (f : Nat → Nat → UInt8) : sm m (fun i => sm n (fun j => f i j)) = sm n (fun j => sm m (fun i => f i j)) := by
  induction m with
  | zero => exact (sm_zero (n := n) (fun _ _ => rfl)).symm
  | succ m ih =>
    show sm m (fun i => sm n (fun j => f i j)) ^^^ sm n (fun j => f m j) = _
    rw [ih, ← sm_add]
    rfl
/-- One's elements -/
def dl (i j : Nat) : UInt8 := if i = j then 1 else 0
theorem dl_self (i : Nat) : dl i i = 1 := if_pos rfl
theorem dl_ne {i j : Nat} (h : i ≠ j) : dl i j = 0 := if_neg h
theorem dl_comm (i j : Nat) : dl i j = dl j i := by
  unfold dl
  by_cases h : i = j
  · rw [if_pos h, if_pos h.symm]
  · rw [if_neg h, if_neg (fun e => h e.symm)]
theorem sm_one {n i : Nat} {f : Nat → UInt8} (hi : i < n) (h : ∀ k, k < n → k ≠ i → f k = 0) : sm n f = f i := by
  induction n with
  | zero => omega
  | succ n ih =>
    rw [sm]
    by_cases e : i = n
    · subst e
      rw [sm_zero (fun k hk => h k (by omega) (by omega)), zx]
    · rw [ih (by omega) (fun k hk => h k (by omega)), h n (by omega) (fun e' => e e'.symm), x0]
theorem sm_dl {n i : Nat} (f : Nat → UInt8) (hi : i < n) : sm n (fun k => fm (dl i k) (f k)) = f i := by
  rw [sm_one hi (fun k _ hk => by rw [dl_ne (fun e => hk e.symm), zero_fm]), dl_self, one_fm]
theorem sm_dl2 {n j : Nat} (f : Nat → UInt8) (hj : j < n) : sm n (fun k => fm (f k) (dl k j)) = f j := by
  rw [sm_one hj (fun k _ hk => by rw [dl_ne hk, fm_zero]), dl_self, fm_one]
/-- what stands behind m adds nothing -/
theorem sm_cut {m n : Nat} {f : Nat → UInt8} (hm : m ≤ n) (h : ∀ k, m ≤ k → k < n → f k = 0) : sm n f = sm m f := by
  induction n with
  | zero => obtain rfl : m = 0 := by omega
            rfl
  | succ n ih =>
    by_cases e : m = n + 1
    · rw [e]
    · rw [sm, ih (by omega) (fun k h1 h2 => h k h1 (by omega)), h n (by omega) (by omega), x0]

/-- matrices are functions of row and column -/
abbrev M := Nat → Nat → UInt8
def mm (n : Nat) (a b : M) : M := fun i j => sm n fun k => fm (a i k) (b k j)
theorem mm_assoc (q r : Nat) (a b c : M) (i j : Nat) : mm r (mm q a b) c i j = mm q a (mm r b c) i j := by
  unfold mm
  have e1 : (fun k => fm (sm q fun l => fm (a i l) (b l k)) (c k j)) = fun k => sm q fun l => fm (a i l) (fm (b l k) (c k j)) := by
    funext k
    rw [← mul_sm]
    exact sm_congr fun l _ => fm_assoc _ _ _
  rw [e1, sm_swap]
  exact sm_congr fun l _ => by rw [sm_mul]
theorem mm_congr {n : Nat} {a a' b b' : M} {i j : Nat} (h : ∀ k, k < n → a i k = a' i k) (h' : ∀ k, k < n → b k j = b' k j) : mm n a b i j = mm n a' b' i j :=
  sm_congr fun k hk => by rw [h k hk, h' k hk]
theorem mm_add (n : Nat) (a b b' : M) (i j : Nat) : mm n a (fun k l => b k l ^^^ b' k l) i j = mm n a b i j ^^^ mm n a b' i j := by
  unfold mm
  rw [← sm_add]
  exact sm_congr fun k _ => fm_add _ _ _
theorem one_mm {n : Nat} (a : M) {i : Nat} (j : Nat) (hi : i < n) : mm n dl a i j = a i j := sm_dl (fun k => a k j) hi
theorem mm_one {n : Nat} (a : M) (i : Nat) {j : Nat} (hj : j < n) : mm n a dl i j = a i j := sm_dl2 (fun k => a i k) hj

/-- a row, and a matrix, as lists -/
def rw (wd : Nat) (f : Nat → UInt8) : List UInt8 := (List.range wd).map f
def tab (h wd : Nat) (f : M) : List (List UInt8) := (List.range h).map fun i => rw wd (f i)
theorem rw_len (wd : Nat) (f : Nat → UInt8) : (rw wd f).length = wd := by simp [rw]
theorem rw_congr {wd : Nat} {f g : Nat → UInt8} (h : ∀ k, k < wd → f k = g k) : rw wd f = rw wd g := by
  unfold rw
  exact List.map_congr_left fun k hk => h k (List.mem_range.1 hk)
theorem rw_get {wd : Nat} {f : Nat → UInt8} {k : Nat} (h : k < wd) : (rw wd f)[k]? = some (f k) := by simp [rw, h]
theorem rw_eq {wd : Nat} {f g : Nat → UInt8} (h : rw wd f = rw wd g) (k : Nat) (hk : k < wd) : f k = g k := by
  have h1 := rw_get (f := f) hk
  rw [h, rw_get hk] at h1
  exact (Option.some.inj h1).symm
theorem rw_of (l : List UInt8) : rw l.length (fun k => l.getD k 0) = l := by
  apply List.ext_getElem?
  intro k
  by_cases h : k < l.length
  · rw [rw_get h]
    simp [List.getD, h]
  · rw [List.getElem?_eq_none (by rw [rw_len]; omega), List.getElem?_eq_none (by omega)]
theorem rw_succ (wd : Nat) (f : Nat → UInt8) : rw (wd + 1) f = rw wd f ++ [f wd] := by simp [rw, List.range_succ]
theorem rw_zero (wd : Nat) : rw wd (fun _ => 0) = List.replicate wd 0 := by
  unfold rw
  rw [List.map_const', List.length_range]
theorem rw_set (wd : Nat) (f : Nat → UInt8) (k : Nat) (u : UInt8) : (rw wd f).set k u = rw wd (fun j => if j = k then u else f j) := by
  apply List.ext_getElem?
  intro j
  by_cases hj : j < wd
  · rw [rw_get hj, List.getElem?_set, rw_len]
    by_cases e : k = j
    · subst e; simp [hj]
    · rw [if_neg e, rw_get hj, if_neg (fun h => e h.symm)]
  · rw [List.getElem?_eq_none (by rw [List.length_set, rw_len]; omega), List.getElem?_eq_none (by rw [rw_len]; omega)]
theorem rw_map (wd : Nat) (f : Nat → UInt8) (g : UInt8 → UInt8) : (rw wd f).map g = rw wd (fun k => g (f k)) := by
  unfold rw
  rw [List.map_map]
  rfl
theorem rw_drop (m n : Nat) (f : Nat → UInt8) : (rw (m + n) f).drop m = rw n (fun k => f (m + k)) := by
  apply List.ext_getElem?
  intro j
  rw [List.getElem?_drop]
  by_cases hj : j < n
  · rw [rw_get hj, rw_get (by omega)]
  · rw [List.getElem?_eq_none (by rw [rw_len]; omega), List.getElem?_eq_none (by rw [rw_len]; omega)]
theorem rw_app (m n : Nat) (f g : Nat → UInt8) : rw m f ++ rw n g = rw (m + n) (fun k => if k < m then f k else g (k - m)) := by
  apply List.ext_getElem?
  intro j
  by_cases h1 : j < m
  · rw [List.getElem?_append_left (by rw [rw_len]; omega), rw_get h1, rw_get (by omega), if_pos h1]
  · rw [List.getElem?_append_right (by rw [rw_len]; omega), rw_len]
    by_cases h2 : j < m + n
    · rw [rw_get (by omega), rw_get h2, if_neg h1]
    · rw [List.getElem?_eq_none (by rw [rw_len]; omega), List.getElem?_eq_none (by rw [rw_len]; omega)]
/-- the matrix that a list of rows is -/
def ent (m : List (List UInt8)) : M := fun i j => (m.getD i []).getD j 0
end Go.Proofs.Ytjhnbhgpnmfdgaa.Mx
