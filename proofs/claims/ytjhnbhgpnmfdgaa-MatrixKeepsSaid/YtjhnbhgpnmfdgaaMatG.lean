/- Plain lemmas: a matrix with One beside it, turned till its left half is One. Of no function in particular. -/
import Derived.Test.YtjhnbhgpnmfdgaaMatD
namespace Go.Proofs.Ytjhnbhgpnmfdgaa.Mx

/-- a with One beside it -/
def bes (n : Nat) (a : M) : M := fun i j => if j < n then a i j else dl i (j - n)
/-- row c, turned so that it has 1 in column c -/
def scl (W : M) (c : Nat) : V := fun j => fm (fi (W c c)) (W c j)
/-- the others turned behind k rounds -/
def stk (W : M) (c k : Nat) : M := fun i => if i = c then scl W c else if i < k then fun j => W i j ^^^ fm (W i c) (scl W c j) else W i
theorem stk_c (W : M) (c k : Nat) : stk W c k c = scl W c := if_pos rfl
theorem stk_old {W : M} {c k i : Nat} (h : i ≠ c) (hk : k ≤ i) : stk W c k i = W i := by unfold stk; rw [if_neg h, if_neg (by omega)]
theorem stk_new {W : M} {c k i : Nat} (h : i ≠ c) (hk : i < k) : stk W c k i = fun j => W i j ^^^ fm (W i c) (scl W c j) := by unfold stk; rw [if_neg h, if_pos hk]
theorem stk_succ_c (W : M) (c : Nat) : stk W c (c + 1) = stk W c c := by
  funext i
  by_cases h : i = c
  · subst h; rw [stk_c, stk_c]
  · by_cases h2 : i < c
    · rw [stk_new h h2, stk_new h (by omega)]
    · rw [stk_old h (by omega), stk_old h (by omega)]
theorem stk_succ {W : M} {c k i : Nat} (h : i ≠ k) : stk W c (k + 1) i = stk W c k i := by
  by_cases h1 : i = c
  · subst h1; rw [stk_c, stk_c]
  · by_cases h2 : i < k
    · rw [stk_new h1 (by omega), stk_new h1 h2]
    · rw [stk_old h1 (by omega), stk_old h1 (by omega)]

/-- a row that is a sum of multiples of n rows of W -/
def Sp (n : Nat) (W : M) (v : V) : Prop := ∃ q : Nat → UInt8, ∀ j, j < 2 * n → sm n (fun k => fm (q k) (W k j)) = v j
theorem Sp.self {n i : Nat} (W : M) (hi : i < n) : Sp n W (W i) := ⟨dl i, fun j _ => sm_dl (fun k => W k j) hi⟩
theorem Sp.mul {n : Nat} {W : M} {v : V} (h : Sp n W v) (c : UInt8) : Sp n W (fun j => fm c (v j)) := by
  obtain ⟨q, hq⟩ := h
  refine ⟨fun k => fm c (q k), fun j hj => ?_⟩
  show sm n (fun k => fm (fm c (q k)) (W k j)) = fm c (v j)
  rw [← hq j hj, ← sm_mul]
  exact sm_congr fun k _ => fm_assoc _ _ _
theorem Sp.add {n : Nat} {W : M} {u v : V} (h : Sp n W u) (h' : Sp n W v) : Sp n W (fun j => u j ^^^ v j) := by
  obtain ⟨q, hq⟩ := h
  obtain ⟨r, hr⟩ := h'
  refine ⟨fun k => q k ^^^ r k, fun j hj => ?_⟩
  show sm n (fun k => fm (q k ^^^ r k) (W k j)) = u j ^^^ v j
  rw [← hq j hj, ← hr j hj, ← sm_add]
  exact sm_congr fun k _ => add_fm _ _ _
theorem Sp.congr {n : Nat} {W : M} {u v : V} (h : Sp n W u) (e : ∀ j, j < 2 * n → u j = v j) : Sp n W v := by
  obtain ⟨q, hq⟩ := h
  exact ⟨q, fun j hj => (hq j hj).trans (e j hj)⟩
theorem Sp.trans {n : Nat} {W X : M} {v : V} (h : Sp n W v) (hX : ∀ k, k < n → Sp n X (W k)) : Sp n X v := by
  obtain ⟨q, hq⟩ := h
  have hR : ∃ r : Nat → Nat → UInt8, ∀ k, k < n → ∀ j, j < 2 * n → sm n (fun l => fm (r k l) (X l j)) = W k j :=
    ⟨fun k => if h : k < n then Classical.choose (hX k h) else fun _ => 0, fun k hk j hj => by simp only [dif_pos hk]; exact Classical.choose_spec (hX k hk) j hj⟩
  obtain ⟨r, hr⟩ := hR
  refine ⟨fun l => sm n fun k => fm (q k) (r k l), fun j hj => ?_⟩
  rw [← hq j hj]
  have e1 : (fun l => fm (sm n fun k => fm (q k) (r k l)) (X l j)) = fun l => sm n fun k => fm (q k) (fm (r k l) (X l j)) := by
    funext l
    rw [← mul_sm]
    exact sm_congr fun k _ => fm_assoc _ _ _
  rw [e1, sm_swap]
  exact sm_congr fun k hk => by rw [sm_mul, hr k hk j hj]
/-- the left half is the right half times a -/
def Lf (n : Nat) (a : M) (v : V) : Prop := ∀ j, j < n → v j = sm n fun k => fm (v (n + k)) (a k j)
theorem Lf.mul {n : Nat} {a : M} {v : V} (h : Lf n a v) (c : UInt8) : Lf n a (fun j => fm c (v j)) := fun j hj => by
  show fm c (v j) = _
  rw [h j hj, ← sm_mul]
  exact sm_congr fun k _ => (fm_assoc _ _ _).symm
theorem Lf.add {n : Nat} {a : M} {u v : V} (h : Lf n a u) (h' : Lf n a v) : Lf n a (fun j => u j ^^^ v j) := fun j hj => by
  show u j ^^^ v j = _
  rw [h j hj, h' j hj, ← sm_add]
  exact sm_congr fun k _ => (add_fm _ _ _).symm

/-- c columns are turned -/
structure Gj (n : Nat) (a : M) (c : Nat) (W : M) : Prop where
  one : ∀ i, i < n → ∀ j, j < c → W i j = dl i j
  lft : ∀ i, i < n → Lf n a (W i)
  spn : ∀ i, i < n → Sp n W (bes n a i)
  det : ∃ s, s ≠ 0 ∧ dt n (rws n a) = fm s (dt n (rws n W))
theorem Gj.start (n : Nat) (a : M) : Gj n a 0 (bes n a) := by
  refine ⟨fun i _ j hj => by omega, fun i hi j hj => ?_, fun i hi => Sp.self _ hi, 1, by decide, ?_⟩
  · show (if _ then _ else _) = _
    rw [if_pos hj]
    have e : (fun k => fm (bes n a i (n + k)) (a k j)) = fun k => fm (dl i k) (a k j) := by
      funext k
      unfold bes
      rw [if_neg (by omega), Nat.add_sub_cancel_left]
    rw [e, sm_dl (fun k => a k j) hi]
  · rw [one_fm]
    exact rws_congr fun i _ j hj => by unfold bes; rw [if_pos hj]
theorem Gj.swp {n c p : Nat} {a W : M} (h : Gj n a c W) (hc : c < n) (h1 : c ≤ p) (hp : p < n) : Gj n a c (swp W c p) := by
  refine ⟨fun i hi j hj => ?_, fun i hi => h.lft _ (sw_lt hc hp hi), fun i hi => (h.spn i hi).trans fun k hk => ?_, ?_⟩
  · show W (sw c p i) j = _
    rw [h.one _ (sw_lt hc hp hi) j hj]
    unfold sw
    by_cases e1 : i = c
    · rw [if_pos e1, dl_ne (by omega), dl_ne (by omega)]
    · rw [if_neg e1]
      by_cases e2 : i = p
      · rw [if_pos e2, dl_ne (by omega), dl_ne (by omega)]
      · rw [if_neg e2]
  · have := Sp.self (Mx.swp W c p) (sw_lt hc hp hk)
    unfold Mx.swp at this
    rwa [sw_sw] at this
  · obtain ⟨s, hs, e⟩ := h.det
    exact ⟨s, hs, by rw [e, dt_swp W hc hp]⟩
theorem dt_stk {n c : Nat} (W : M) (hc : c < n) (k : Nat) (hk : k ≤ n) : dt n (rws n (stk W c k)) = fm (fi (W c c)) (dt n (rws n W)) := by
  induction k with
  | zero => exact dt_times hc (fun k hk => stk_old hk (Nat.zero_le _)) (stk_c W c 0)
  | succ k ih =>
    rw [← ih (by omega)]
    by_cases e : k = c
    · subst e; rw [stk_succ_c]
    · exact dt_more (a := W k c) (by omega) hc e (fun i hi => stk_succ hi) (by rw [stk_new e (by omega), stk_old e (Nat.le_refl _), stk_c])
theorem Gj.stl {n c : Nat} {a W : M} (h : Gj n a c W) (hc : c < n) (h0 : W c c ≠ 0) : Gj n a (c + 1) (stk W c n) := by
  have hz : ∀ j, j < c → scl W c j = 0 := fun j hj => by unfold scl; rw [h.one c hc j hj, dl_ne (by omega), fm_zero]
  have h1 : scl W c c = 1 := fi_fm h0
  refine ⟨fun i hi j hj => ?_, fun i hi => ?_, fun i hi => (h.spn i hi).trans fun k hk => ?_, ?_⟩
  · by_cases e : i = c
    · subst e
      rw [stk_c]
      by_cases e2 : j = i
      · rw [e2, h1, dl_self]
      · rw [hz j (by omega), dl_ne (fun h => e2 h.symm)]
    · rw [stk_new e hi]
      show W i j ^^^ fm (W i c) (scl W c j) = _
      by_cases e2 : j = c
      · rw [e2, h1, fm_one, xx, dl_ne e]
      · rw [hz j (by omega), fm_zero, x0, h.one i hi j (by omega)]
  · by_cases e : i = c
    · subst e
      rw [stk_c]
      exact (h.lft i hi).mul _
    · rw [stk_new e hi]
      exact (h.lft i hi).add (((h.lft c hc).mul _).mul _)
  · have sc : Sp n (stk W c n) (scl W c) := by
      have := Sp.self (stk W c n) hc
      rwa [stk_c] at this
    by_cases e : k = c
    · subst e
      refine (sc.mul (W k k)).congr fun j _ => ?_
      show fm (W k k) (fm (fi (W k k)) (W k j)) = _
      rw [← fm_assoc, fm_fi h0, one_fm]
    · have sk := Sp.self (stk W c n) hk
      rw [stk_new e hk] at sk
      refine (sk.add (sc.mul (W k c))).congr fun j _ => ?_
      show (W k j ^^^ fm (W k c) (scl W c j)) ^^^ fm (W k c) (scl W c j) = _
      rw [UInt8.xor_assoc, xx, x0]
  · obtain ⟨s, hs, e⟩ := h.det
    refine ⟨fm s (W c c), fun h' => h0 (fm_eq_zero h' hs), ?_⟩
    rw [dt_stk W hc n (Nat.le_refl _), fm_assoc, ← fm_assoc (W c c), fm_fi h0, one_fm, e]
/-- what the right half is in the end -/
def rgt (n : Nat) (W : M) : M := fun i j => W i (n + j)
theorem Gj.done {n : Nat} {a W : M} (h : Gj n a n W) :
    (∀ i, i < n → ∀ j, j < n → mm n (rgt n W) a i j = dl i j) ∧ (∀ i, i < n → ∀ j, j < n → mm n a (rgt n W) i j = dl i j) ∧ dt n (rws n a) ≠ 0 := by
  refine ⟨fun i hi j hj => ?_, fun i hi j hj => ?_, ?_⟩
  · rw [← h.one i hi j hj, h.lft i hi j hj]
    rfl
  · obtain ⟨q, hq⟩ := h.spn i hi
    have hqa : ∀ k, k < n → q k = a i k := fun k hk => by
      have := hq k (by omega)
      unfold bes at this
      rw [if_pos hk] at this
      rw [← this, ← sm_dl2 q hk]
      exact sm_congr fun l hl => by rw [h.one l hl k hk]
    have := hq (n + j) (by omega)
    unfold bes at this
    rw [if_neg (by omega), Nat.add_sub_cancel_left] at this
    rw [← this]
    exact sm_congr fun k hk => by rw [hqa k hk]; rfl
  · obtain ⟨s, hs, e⟩ := h.det
    rw [e, dt_one n W (fun i hi j hj => h.one i hi j hj), fm_one]
    exact hs
theorem Gj.fail {n c : Nat} {a W : M} (h : Gj n a c W) (hc : c < n) (hz : ∀ i, c ≤ i → i < n → W i c = 0) :
    dt n (rws n a) = 0 ∧ ∃ y : Nat → UInt8, (∃ j, j < n ∧ y j ≠ 0) ∧ ∀ i, i < n → sm n (fun j => fm (a i j) (y j)) = 0 := by
  refine ⟨?_, fun j => if j < c then W j c else if j = c then 1 else 0, ⟨c, hc, ?_⟩, fun i hi => ?_⟩
  · obtain ⟨s, hs, e⟩ := h.det
    rw [e, dt_none c n W hc h.one hz, fm_zero]
  · simp
  · have hw : ∀ k, k < n → sm n (fun j => fm (W k j) (if j < c then W j c else if j = c then 1 else 0)) = 0 := fun k hk => by
      rw [sm_cut (m := c + 1) (by omega) (fun j h1 _ => by rw [if_neg (by omega), if_neg (by omega), fm_zero]), sm]
      rw [if_neg (by omega), if_pos rfl, fm_one]
      by_cases e : k < c
      · rw [sm_one e (fun j hj hne => by rw [h.one k hk j hj, dl_ne (fun h => hne h.symm), zero_fm]), h.one k hk k e, dl_self, one_fm, if_pos e, xx]
      · rw [sm_zero (fun j hj => by rw [h.one k hk j hj, dl_ne (by omega), zero_fm]), hz k (by omega) hk, xx]
    obtain ⟨q, hq⟩ := h.spn i hi
    have e1 : sm n (fun j => fm (a i j) (if j < c then W j c else if j = c then 1 else 0)) = sm n fun j => sm n fun k => fm (q k) (fm (W k j) (if j < c then W j c else if j = c then 1 else 0)) := by
      refine sm_congr fun j hj => ?_
      have := hq j (by omega)
      unfold bes at this
      rw [if_pos hj] at this
      rw [← this, ← mul_sm]
      exact sm_congr fun k _ => fm_assoc _ _ _
    rw [e1, sm_swap]
    exact sm_zero fun k hk => by rw [sm_mul, hw k hk, fm_zero]
end Go.Proofs.Ytjhnbhgpnmfdgaa.Mx
