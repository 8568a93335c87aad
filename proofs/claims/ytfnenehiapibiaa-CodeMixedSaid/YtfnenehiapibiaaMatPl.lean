/- Plain lemmas of matrices over GF(256): bytes as elements, sums, products, tables of rows. Of no function in particular. Plain lemmas of determinants (in this field plus and minus are one), and of turning a matrix to One row by row. Of no function in particular. Plain lemmas: a matrix with One beside it, turned till its left half is One. Of no function in particular. Plain lemmas of the coding: any as many of its rows as it has columns hang together. Of no function in particular. -/
import Derived.Test.YtfnenehiapibiaaFldAll
namespace Go.Proofs.Ytfnenehiapibiaa.Mx

/-- the product of bytes, the contrary -/
def fm (a b : UInt8) : UInt8 := UInt8.ofNat (Gf.gm a.toNat b.toNat)
def fi (a : UInt8) : UInt8 := UInt8.ofNat (Gf.inv a.toNat)
theorem ofNat_nat {n : Nat} (h : n < 256) : (UInt8.ofNat n).toNat = n := by simp; omega
theorem fm_nat (a b : UInt8) : (fm a b).toNat = Gf.gm a.toNat b.toNat := ofNat_nat (Gf.gm_lt _ a.toNat_lt)
theorem fi_nat (a : UInt8) : (fi a).toNat = Gf.inv a.toNat := ofNat_nat (Gf.inv_lt _)
theorem nat_eq {a b : UInt8} (h : a.toNat = b.toNat) : a = b := UInt8.toNat_inj.1 h
theorem nat_zero {a : UInt8} : a.toNat = 0 ↔ a = 0 := ⟨fun h => nat_eq h, fun h => by subst h; rfl⟩
theorem fm_comm (a b : UInt8) : fm a b = fm b a := nat_eq (by rw [fm_nat, fm_nat, Gf.gm_comm a.toNat_lt b.toNat_lt])
theorem fm_assoc (a b c : UInt8) : fm (fm a b) c = fm a (fm b c) := nat_eq (by rw [fm_nat, fm_nat, fm_nat, fm_nat, Gf.gm_assoc a.toNat_lt b.toNat_lt c.toNat_lt])
theorem fm_add (a b c : UInt8) : fm a (b ^^^ c) = fm a b ^^^ fm a c := nat_eq (by rw [UInt8.toNat_xor, fm_nat, fm_nat, fm_nat, UInt8.toNat_xor, Gf.gm_xor2 a.toNat_lt b.toNat_lt c.toNat_lt])
theorem add_fm (a b c : UInt8) : fm (a ^^^ b) c = fm a c ^^^ fm b c := by rw [fm_comm, fm_add, fm_comm c, fm_comm c]
theorem fm_one (a : UInt8) : fm a 1 = a := nat_eq (by rw [fm_nat]; exact Gf.mul_one a.toNat_lt)
theorem one_fm (a : UInt8) : fm 1 a = a := by rw [fm_comm, fm_one]
theorem fm_zero (a : UInt8) : fm a 0 = 0 := nat_eq (by rw [fm_nat]; exact Gf.gm_zero a.toNat_lt)
theorem zero_fm (a : UInt8) : fm 0 a = 0 := by rw [fm_comm, fm_zero]
theorem fm_fi {a : UInt8} (h : a ≠ 0) : fm a (fi a) = 1 := nat_eq (by
  rw [fm_nat, fi_nat, Gf.gm_inv a.toNat_lt (fun e => h (nat_zero.1 e))]; rfl)
theorem fi_fm {a : UInt8} (h : a ≠ 0) : fm (fi a) a = 1 := by rw [fm_comm, fm_fi h]
theorem fi_ne {a : UInt8} (h : a ≠ 0) : fi a ≠ 0 := fun e => by
  have := fm_fi h
  rw [e, fm_zero] at this
  exact absurd this (by decide)
theorem fm_eq_zero {a b : UInt8} (h : fm a b = 0) (ha : a ≠ 0) : b = 0 := by
  have : fm (fi a) (fm a b) = b := by rw [← fm_assoc, fi_fm ha, one_fm]
  rw [h, fm_zero] at this
  exact this.symm
theorem xx (a : UInt8) : a ^^^ a = 0 := UInt8.xor_self
theorem x0 (a : UInt8) : a ^^^ 0 = a := UInt8.xor_zero
theorem zx (a : UInt8) : 0 ^^^ a = a := by rw [UInt8.xor_comm, x0]
theorem xxa (a b : UInt8) : a ^^^ (a ^^^ b) = b := by rw [← UInt8.xor_assoc, xx, zx]
theorem x_eq_zero {a b : UInt8} (h : a ^^^ b = 0) : a = b := by
  have := xxa a b
  rw [h, x0] at this
  exact this
theorem x4 (a b c d : UInt8) : (a ^^^ b) ^^^ (c ^^^ d) = (a ^^^ c) ^^^ (b ^^^ d) := by
  rw [UInt8.xor_assoc, UInt8.xor_assoc, ← UInt8.xor_assoc b, ← UInt8.xor_assoc c, UInt8.xor_comm b c]

/-- sums -/
def sm : Nat → (Nat → UInt8) → UInt8
  | 0, _ => 0
  | n + 1, f => sm n f ^^^ f n
theorem sm_congr {n : Nat} {f g : Nat → UInt8} (h : ∀ k, k < n → f k = g k) : sm n f = sm n g := by
  induction n with
  | zero => rfl
  | succ n ih => rw [sm, sm, ih (fun k hk => h k (by omega)), h n (by omega)]
theorem sm_add (n : Nat) (f g : Nat → UInt8) : sm n (fun k => f k ^^^ g k) = sm n f ^^^ sm n g := by
  induction n with
  | zero => exact (xx 0).symm
  | succ n ih => rw [sm, sm, sm, ih, x4]
theorem sm_mul (n : Nat) (c : UInt8) (f : Nat → UInt8) : sm n (fun k => fm c (f k)) = fm c (sm n f) := by
  induction n with
  | zero => exact (fm_zero c).symm
  | succ n ih => rw [sm, sm, ih, fm_add]
theorem mul_sm (n : Nat) (c : UInt8) (f : Nat → UInt8) : sm n (fun k => fm (f k) c) = fm (sm n f) c := by
  rw [fm_comm, ← sm_mul]
  exact sm_congr fun k _ => fm_comm _ _
theorem sm_zero {n : Nat} {f : Nat → UInt8} (h : ∀ k, k < n → f k = 0) : sm n f = 0 := by
  induction n with
  | zero => rfl
  | succ n ih => rw [sm, ih (fun k hk => h k (by omega)), h n (by omega)]; rfl
theorem sm_swap (m n : Nat) (f : Nat → Nat → UInt8) : sm m (fun i => sm n (fun j => f i j)) = sm n (fun j => sm m (fun i => f i j)) := by
  induction m with
  | zero => exact (sm_zero (n := n) (fun _ _ => rfl)).symm
  | succ m ih =>
    show sm m (fun i => sm n (fun j => f i j)) ^^^ sm n (fun j => f m j) = _
    rw [ih, ← sm_add]
    rfl
/-- One's elements -/
def dl (i j : Nat) : UInt8 := if i = j then 1 else 0
theorem dl_self (i : Nat) : dl i i = 1 := if_pos rfl
theorem dl_ne {i j : Nat} (h : i ≠ j) : dl i j = 0 := if_neg h
theorem dl_comm (i j : Nat) : dl i j = dl j i := by
  unfold dl
  by_cases h : i = j
  · rw [if_pos h, if_pos h.symm]
  · rw [if_neg h, if_neg (fun e => h e.symm)]
theorem sm_one {n i : Nat} {f : Nat → UInt8} (hi : i < n) (h : ∀ k, k < n → k ≠ i → f k = 0) : sm n f = f i := by
  induction n with
  | zero => omega
  | succ n ih =>
    rw [sm]
    by_cases e : i = n
    · subst e
      rw [sm_zero (fun k hk => h k (by omega) (by omega)), zx]
    · rw [ih (by omega) (fun k hk => h k (by omega)), h n (by omega) (fun e' => e e'.symm), x0]
theorem sm_dl {n i : Nat} (f : Nat → UInt8) (hi : i < n) : sm n (fun k => fm (dl i k) (f k)) = f i := by
  rw [sm_one hi (fun k _ hk => by rw [dl_ne (fun e => hk e.symm), zero_fm]), dl_self, one_fm]
theorem sm_dl2 {n j : Nat} (f : Nat → UInt8) (hj : j < n) : sm n (fun k => fm (f k) (dl k j)) = f j := by
  rw [sm_one hj (fun k _ hk => by rw [dl_ne hk, fm_zero]), dl_self, fm_one]
/-- what stands behind m adds nothing -/
theorem sm_cut {m n : Nat} {f : Nat → UInt8} (hm : m ≤ n) (h : ∀ k, m ≤ k → k < n → f k = 0) : sm n f = sm m f := by
  induction n with
  | zero => obtain rfl : m = 0 := by omega
            rfl
  | succ n ih =>
    by_cases e : m = n + 1
    · rw [e]
    · rw [sm, ih (by omega) (fun k h1 h2 => h k h1 (by omega)), h n (by omega) (by omega), x0]

/-- matrices are functions of row and column -/
abbrev M := Nat → Nat → UInt8
def mm (n : Nat) (a b : M) : M := fun i j => sm n fun k => fm (a i k) (b k j)
theorem mm_assoc (q r : Nat) (a b c : M) (i j : Nat) : mm r (mm q a b) c i j = mm q a (mm r b c) i j := by
  unfold mm
  have e1 : (fun k => fm (sm q fun l => fm (a i l) (b l k)) (c k j)) = fun k => sm q fun l => fm (a i l) (fm (b l k) (c k j)) := by
    funext k
    rw [← mul_sm]
    exact sm_congr fun l _ => fm_assoc _ _ _
  rw [e1, sm_swap]
  exact sm_congr fun l _ => by rw [sm_mul]
theorem mm_congr {n : Nat} {a a' b b' : M} {i j : Nat} (h : ∀ k, k < n → a i k = a' i k) (h' : ∀ k, k < n → b k j = b' k j) : mm n a b i j = mm n a' b' i j :=
  sm_congr fun k hk => by rw [h k hk, h' k hk]
theorem mm_add (n : Nat) (a b b' : M) (i j : Nat) : mm n a (fun k l => b k l ^^^ b' k l) i j = mm n a b i j ^^^ mm n a b' i j := by
  unfold mm
  rw [← sm_add]
  exact sm_congr fun k _ => fm_add _ _ _
theorem one_mm {n : Nat} (a : M) {i : Nat} (j : Nat) (hi : i < n) : mm n dl a i j = a i j := sm_dl (fun k => a k j) hi
theorem mm_one {n : Nat} (a : M) (i : Nat) {j : Nat} (hj : j < n) : mm n a dl i j = a i j := sm_dl2 (fun k => a i k) hj

/-- a row, and a matrix, as lists -/
def rw (wd : Nat) (f : Nat → UInt8) : List UInt8 := (List.range wd).map f
def tab (h wd : Nat) (f : M) : List (List UInt8) := (List.range h).map fun i => rw wd (f i)
theorem rw_len (wd : Nat) (f : Nat → UInt8) : (rw wd f).length = wd := by simp [rw]
theorem rw_congr {wd : Nat} {f g : Nat → UInt8} (h : ∀ k, k < wd → f k = g k) : rw wd f = rw wd g := by
  unfold rw
  exact List.map_congr_left fun k hk => h k (List.mem_range.1 hk)
theorem rw_get {wd : Nat} {f : Nat → UInt8} {k : Nat} (h : k < wd) : (rw wd f)[k]? = some (f k) := by simp [rw, h]
theorem rw_eq {wd : Nat} {f g : Nat → UInt8} (h : rw wd f = rw wd g) (k : Nat) (hk : k < wd) : f k = g k := by
  have h1 := rw_get (f := f) hk
  rw [h, rw_get hk] at h1
  exact (Option.some.inj h1).symm
theorem rw_of (l : List UInt8) : rw l.length (fun k => l.getD k 0) = l := by
  apply List.ext_getElem?
  intro k
  by_cases h : k < l.length
  · rw [rw_get h]
    simp [List.getD, h]
  · rw [List.getElem?_eq_none (by rw [rw_len]; omega), List.getElem?_eq_none (by omega)]
theorem rw_succ (wd : Nat) (f : Nat → UInt8) : rw (wd + 1) f = rw wd f ++ [f wd] := by simp [rw, List.range_succ]
theorem rw_zero (wd : Nat) : rw wd (fun _ => 0) = List.replicate wd 0 := by
  unfold rw
  rw [List.map_const', List.length_range]
theorem rw_set (wd : Nat) (f : Nat → UInt8) (k : Nat) (u : UInt8) : (rw wd f).set k u = rw wd (fun j => if j = k then u else f j) := by
  apply List.ext_getElem?
  intro j
  by_cases hj : j < wd
  · rw [rw_get hj, List.getElem?_set, rw_len]
    by_cases e : k = j
    · subst e; simp [hj]
    · rw [if_neg e, rw_get hj, if_neg (fun h => e h.symm)]
  · rw [List.getElem?_eq_none (by rw [List.length_set, rw_len]; omega), List.getElem?_eq_none (by rw [rw_len]; omega)]
theorem rw_map (wd : Nat) (f : Nat → UInt8) (g : UInt8 → UInt8) : (rw wd f).map g = rw wd (fun k => g (f k)) := by
  unfold rw
  rw [List.map_map]
  rfl
theorem rw_drop (m n : Nat) (f : Nat → UInt8) : (rw (m + n) f).drop m = rw n (fun k => f (m + k)) := by
  apply List.ext_getElem?
  intro j
  rw [List.getElem?_drop]
  by_cases hj : j < n
  · rw [rw_get hj, rw_get (by omega)]
  · rw [List.getElem?_eq_none (by rw [rw_len]; omega), List.getElem?_eq_none (by rw [rw_len]; omega)]
theorem rw_app (m n : Nat) (f g : Nat → UInt8) : rw m f ++ rw n g = rw (m + n) (fun k => if k < m then f k else g (k - m)) := by
  apply List.ext_getElem?
  intro j
  by_cases h1 : j < m
  · rw [List.getElem?_append_left (by rw [rw_len]; omega), rw_get h1, rw_get (by omega), if_pos h1]
  · rw [List.getElem?_append_right (by rw [rw_len]; omega), rw_len]
    by_cases h2 : j < m + n
    · rw [rw_get (by omega), rw_get h2, if_neg h1]
    · rw [List.getElem?_eq_none (by rw [rw_len]; omega), List.getElem?_eq_none (by rw [rw_len]; omega)]
/-- the matrix that a list of rows is -/
def ent (m : List (List UInt8)) : M := fun i j => (m.getD i []).getD j 0
end Go.Proofs.Ytfnenehiapibiaa.Mx

namespace Go.Proofs.Ytfnenehiapibiaa.Mx

/-- all ways to take one out of a list -/
def picks {α : Type} : List α → List (α × List α)
  | [] => []
  | x :: l => (x, l) :: (picks l).map fun p => (p.1, x :: p.2)
/-- the sum over them -/
def ps {α : Type} (F : α → List α → UInt8) : List α → UInt8
  | [] => 0
  | x :: l => F x l ^^^ ps (fun y r => F y (x :: r)) l
theorem ps_congr {α : Type} : ∀ (l : List α) (F G : α → List α → UInt8), (∀ y r, y ∈ l → F y r = G y r) → ps F l = ps G l := by
  intro l
  induction l with
  | nil => intro F G _; rfl
  | cons x l ih =>
    intro F G h
    rw [ps, ps, h x l (by simp), ih _ _ (fun y r hy => h y (x :: r) (by simp [hy]))]
theorem ps_add {α : Type} : ∀ (l : List α) (F G : α → List α → UInt8), ps (fun y r => F y r ^^^ G y r) l = ps F l ^^^ ps G l := by
  intro l
  induction l with
  | nil => intro F G; exact (xx 0).symm
  | cons x l ih => intro F G; rw [ps, ps, ps, ih, x4]
theorem ps_mul {α : Type} (c : UInt8) : ∀ (l : List α) (F : α → List α → UInt8), ps (fun y r => fm c (F y r)) l = fm c (ps F l) := by
  intro l
  induction l with
  | nil => intro F; exact (fm_zero c).symm
  | cons x l ih => intro F; rw [ps, ps, ih, fm_add]
theorem ps_zero {α : Type} : ∀ (l : List α) (F : α → List α → UInt8), (∀ y r, y ∈ l → F y r = 0) → ps F l = 0 := by
  intro l
  induction l with
  | nil => intro F _; rfl
  | cons x l ih =>
    intro F h
    rw [ps, h x l (by simp), ih _ (fun y r hy => h y (x :: r) (by simp [hy])), xx]
theorem ps_perm {α : Type} {l l' : List α} (h : l.Perm l') : ∀ F : α → List α → UInt8, (∀ y r r', r.Perm r' → F y r = F y r') → ps F l = ps F l' := by
  induction h with
  | nil => intro F _; rfl
  | cons x h ih =>
    intro F hF
    rw [ps, ps, hF x _ _ h, ih _ (fun y r r' hr => hF y _ _ (hr.cons x))]
  | swap x y l =>
    intro F hF
    rw [ps, ps, ps, ps, ps_congr l (fun z r => F z (y :: x :: r)) (fun z r => F z (x :: y :: r)) (fun z r _ => hF z _ _ (List.Perm.swap x y r))]
    rw [← UInt8.xor_assoc, ← UInt8.xor_assoc, UInt8.xor_comm (F y _)]
  | trans _ _ ih1 ih2 => intro F hF; exact (ih1 F hF).trans (ih2 F hF)

/-- the determinant of n rows, by the first column -/
abbrev V := Nat → UInt8
def tl (f : V) : V := fun j => f (j + 1)
def dt : Nat → List V → UInt8
  | 0, l => if l.isEmpty then 1 else 0
  | n + 1, l => ps (fun y r => fm (y 0) (dt n (r.map tl))) l
theorem dt_perm (n : Nat) : ∀ {l l' : List V}, l.Perm l' → dt n l = dt n l' := by
  induction n with
  | zero =>
    intro l l' h
    have := h.length_eq
    unfold dt
    cases l <;> cases l' <;> simp_all
  | succ n ih => intro l l' h; exact ps_perm h _ fun y r r' hr => by rw [ih (hr.map tl)]
theorem dt_add (n : Nat) : ∀ (u v : V) (l : List V), dt n ((fun j => u j ^^^ v j) :: l) = dt n (u :: l) ^^^ dt n (v :: l) := by
  induction n with
  | zero => intro u v l; exact (xx 0).symm
  | succ n ih =>
    intro u v l
    have e : ∀ r : List V, dt n ((tl fun j => u j ^^^ v j) :: r.map tl) = dt n (tl u :: r.map tl) ^^^ dt n (tl v :: r.map tl) := fun r => ih (tl u) (tl v) (r.map tl)
    simp only [dt, ps, List.map_cons, e, add_fm, fm_add, ps_add]
    exact x4 _ _ _ _
theorem dt_mul (n : Nat) : ∀ (c : UInt8) (u : V) (l : List V), dt n ((fun j => fm c (u j)) :: l) = fm c (dt n (u :: l)) := by
  induction n with
  | zero => intro c u l; exact (fm_zero c).symm
  | succ n ih =>
    intro c u l
    have e : ∀ r : List V, dt n ((tl fun j => fm c (u j)) :: r.map tl) = fm c (dt n (tl u :: r.map tl)) := fun r => ih c (tl u) (r.map tl)
    have e2 : ∀ a b d : UInt8, fm a (fm b d) = fm b (fm a d) := fun a b d => by rw [← fm_assoc, fm_comm a b, fm_assoc]
    simp only [dt, ps, List.map_cons, e, fm_assoc, e2 _ c, ps_mul, fm_add]
theorem dt_two (n : Nat) : ∀ (u : V) (l : List V), dt n (u :: u :: l) = 0 := by
  induction n with
  | zero => intro u l; rfl
  | succ n ih =>
    intro u l
    simp only [dt, ps, List.map_cons]
    rw [xxa]
    exact ps_zero _ _ fun y r _ => by rw [ih, fm_zero]
theorem dt_congr (n : Nat) : ∀ (l : List Nat) (f g : Nat → V), (∀ i ∈ l, ∀ j, j < n → f i j = g i j) → dt n (l.map f) = dt n (l.map g) := by
  induction n with
  | zero => intro l f g _; unfold dt; cases l <;> rfl
  | succ n ih =>
    intro l f g h
    have key : ∀ (l : List Nat) (pre : List Nat), (∀ i ∈ l, f i 0 = g i 0) → (∀ i ∈ pre ++ l, ∀ j, j < n → f i (j + 1) = g i (j + 1)) →
        ∀ (A B : List V → List V), (∀ r : List Nat, (∀ i ∈ r, i ∈ pre ++ l) → dt n ((A (r.map f)).map tl) = dt n ((B (r.map g)).map tl)) →
        ps (fun y r => fm (y 0) (dt n ((A r).map tl))) (l.map f) = ps (fun y r => fm (y 0) (dt n ((B r).map tl))) (l.map g) := by
      intro l
      induction l with
      | nil => intro pre _ _ A B _; rfl
      | cons x l ihl =>
        intro pre h0 h1 A B hAB
        simp only [List.map_cons, ps]
        rw [h0 x (by simp), hAB l (by intro i hi; simp [hi])]
        congr 1
        refine ihl (pre ++ [x]) (fun i hi => h0 i (by simp [hi])) (fun i hi => h1 i (by simpa using hi)) (fun r => A (f x :: r)) (fun r => B (g x :: r)) fun r hr => ?_
        have := hAB (x :: r) (by
          intro i hi
          rcases List.mem_cons.1 hi with rfl | hi
          · simp
          · have := hr i hi; simpa using this)
        simpa using this
    refine key l [] (fun i hi => h i hi 0 (by omega)) (fun i hi j hj => h i (by simpa using hi) _ (by omega)) id id fun r hr => ?_
    have := ih r (fun i => tl (f i)) (fun i => tl (g i)) fun i hi j hj => h i (by simpa using hr i hi) _ (by omega)
    simpa [List.map_map, Function.comp_def] using this

/-- the rows of a matrix -/
def rws (n : Nat) (W : M) : List V := (List.range n).map W
theorem rws_congr {n : Nat} {A B : M} (h : ∀ i, i < n → ∀ j, j < n → A i j = B i j) : dt n (rws n A) = dt n (rws n B) :=
  dt_congr n _ _ _ fun i hi j hj => h i (List.mem_range.1 hi) j hj
/-- one row to the front -/
theorem rws_front {n i : Nat} (W : M) (hi : i < n) : (rws n W).Perm (W i :: ((List.range n).erase i).map W) :=
  (List.perm_cons_erase (List.mem_range.2 hi)).map W
theorem rws_rest {n i : Nat} {A B : M} (h : ∀ k, k ≠ i → A k = B k) : ((List.range n).erase i).map A = ((List.range n).erase i).map B :=
  List.map_congr_left fun k hk => h k ((List.Nodup.mem_erase_iff List.nodup_range).1 hk).1
/-- a row that is another one's multiple more -/
theorem dt_more {n i c : Nat} {A B : M} {a : UInt8} (hi : i < n) (hc : c < n) (hne : i ≠ c) (h : ∀ k, k ≠ i → B k = A k) (hB : B i = fun j => A i j ^^^ fm a (A c j)) :
    dt n (rws n B) = dt n (rws n A) := by
  rw [dt_perm n (rws_front A hi), dt_perm n (rws_front B hi), rws_rest h, hB, dt_add, dt_mul]
  have hm : c ∈ (List.range n).erase i := (List.Nodup.mem_erase_iff List.nodup_range).2 ⟨fun e => hne e.symm, List.mem_range.2 hc⟩
  have hp := (List.perm_cons_erase hm).map A
  rw [dt_perm n (hp.cons (A c)), List.map_cons, dt_two, fm_zero, x0]
theorem dt_times {n i : Nat} {A B : M} {a : UInt8} (hi : i < n) (h : ∀ k, k ≠ i → B k = A k) (hB : B i = fun j => fm a (A i j)) :
    dt n (rws n B) = fm a (dt n (rws n A)) := by
  rw [dt_perm n (rws_front A hi), dt_perm n (rws_front B hi), rws_rest h, hB, dt_mul]
/-- two rows change places -/
def sw (c p i : Nat) : Nat := if i = c then p else if i = p then c else i
theorem sw_sw (c p i : Nat) : sw c p (sw c p i) = i := by
  unfold sw
  by_cases h1 : i = c
  · subst h1
    simp only [if_true]
    by_cases h2 : p = i <;> simp [h2]
  · by_cases h2 : i = p
    · subst h2; simp
    · simp [h1, h2]
theorem sw_lt {c p i n : Nat} (hc : c < n) (hp : p < n) (hi : i < n) : sw c p i < n := by
  unfold sw
  split
  · exact hp
  · split <;> assumption
def swp (W : M) (c p : Nat) : M := fun i => W (sw c p i)
theorem dt_swp {n c p : Nat} (W : M) (hc : c < n) (hp : p < n) : dt n (rws n (swp W c p)) = dt n (rws n W) := by
  refine dt_perm n ?_
  have e : rws n (swp W c p) = ((List.range n).map (sw c p)).map W := by unfold rws; rw [List.map_map]; rfl
  rw [e]
  refine List.Perm.map W ?_
  have nd : ((List.range n).map (sw c p)).Nodup := by
    refine List.pairwise_map.2 (List.Pairwise.imp (fun {a b} hab h => hab ?_) List.nodup_range)
    have := congrArg (sw c p) h
    rwa [sw_sw, sw_sw] at this
  rw [List.perm_ext_iff_of_nodup nd List.nodup_range]
  intro a
  rw [List.mem_map, List.mem_range]
  constructor
  · rintro ⟨b, hb, rfl⟩
    exact sw_lt hc hp (List.mem_range.1 hb)
  · intro ha
    exact ⟨sw c p a, List.mem_range.2 (sw_lt hc hp ha), sw_sw c p a⟩
theorem rws_succ (n : Nat) (W : M) : rws (n + 1) W = W 0 :: rws n (fun i => W (i + 1)) := by
  unfold rws
  rw [List.range_succ_eq_map, List.map_cons, List.map_map]
  rfl
theorem rws_tl (n : Nat) (W : M) : (rws n W).map tl = rws n (fun i j => W i (j + 1)) := by unfold rws; rw [List.map_map]; rfl
/-- only the first row has something in the first column -/
theorem dt_step (n : Nat) (W : M) (h : ∀ i, i < n → W (i + 1) 0 = 0) : dt (n + 1) (rws (n + 1) W) = fm (W 0 0) (dt n (rws n fun i j => W (i + 1) (j + 1))) := by
  rw [rws_succ]
  show fm (W 0 0) (dt n ((rws n fun i => W (i + 1)).map tl)) ^^^ ps _ (rws n fun i => W (i + 1)) = _
  rw [ps_zero _ _ (fun y r hy => by
    obtain ⟨i, hi, rfl⟩ := List.mem_map.1 hy
    show fm (W (i + 1) 0) _ = 0
    rw [h i (List.mem_range.1 hi), zero_fm]), x0, rws_tl]
theorem dt_none (c : Nat) : ∀ (n : Nat) (W : M), c < n → (∀ i, i < n → ∀ j, j < c → W i j = dl i j) → (∀ i, c ≤ i → i < n → W i c = 0) → dt n (rws n W) = 0 := by
  induction c with
  | zero =>
    intro n W hc _ hz
    obtain ⟨m, rfl⟩ : ∃ m, n = m + 1 := ⟨n - 1, by omega⟩
    exact ps_zero _ _ fun y r hy => by
      obtain ⟨i, hi, rfl⟩ := List.mem_map.1 hy
      rw [hz i (by omega) (List.mem_range.1 hi), zero_fm]
  | succ c ih =>
    intro n W hc h1 hz
    obtain ⟨m, rfl⟩ : ∃ m, n = m + 1 := ⟨n - 1, by omega⟩
    rw [dt_step m W (fun i hi => by rw [h1 (i + 1) (by omega) 0 (by omega), dl_ne (by omega)]), ih m _ (by omega) ?_ ?_, fm_zero]
    · intro i hi j hj
      show W (i + 1) (j + 1) = _
      rw [h1 (i + 1) (by omega) (j + 1) (by omega)]
      unfold dl
      by_cases e : i = j
      · rw [if_pos (by omega), if_pos e]
      · rw [if_neg (by omega), if_neg e]
    · intro i h2 h3
      exact hz (i + 1) (by omega) (by omega)
theorem dt_one : ∀ (n : Nat) (W : M), (∀ i, i < n → ∀ j, j < n → W i j = dl i j) → dt n (rws n W) = 1 := by
  intro n
  induction n with
  | zero => intro W _; rfl
  | succ n ih =>
    intro W h
    rw [dt_step n W (fun i hi => by rw [h (i + 1) (by omega) 0 (by omega), dl_ne (by omega)]), ih _ ?_, fm_one, h 0 (by omega) 0 (by omega), dl_self]
    intro i hi j hj
    show W (i + 1) (j + 1) = _
    rw [h (i + 1) (by omega) (j + 1) (by omega)]
    unfold dl
    by_cases e : i = j
    · rw [if_pos (by omega), if_pos e]
    · rw [if_neg (by omega), if_neg e]
end Go.Proofs.Ytfnenehiapibiaa.Mx

namespace Go.Proofs.Ytfnenehiapibiaa.Mx

/-- a with One beside it -/
def bes (n : Nat) (a : M) : M := fun i j => if j < n then a i j else dl i (j - n)
/-- row c, turned so that it has 1 in column c -/
def scl (W : M) (c : Nat) : V := fun j => fm (fi (W c c)) (W c j)
/-- the others turned behind k rounds -/
def stk (W : M) (c k : Nat) : M := fun i => if i = c then scl W c else if i < k then fun j => W i j ^^^ fm (W i c) (scl W c j) else W i
theorem stk_c (W : M) (c k : Nat) : stk W c k c = scl W c := if_pos rfl
theorem stk_old {W : M} {c k i : Nat} (h : i ≠ c) (hk : k ≤ i) : stk W c k i = W i := by unfold stk; rw [if_neg h, if_neg (by omega)]
theorem stk_new {W : M} {c k i : Nat} (h : i ≠ c) (hk : i < k) : stk W c k i = fun j => W i j ^^^ fm (W i c) (scl W c j) := by unfold stk; rw [if_neg h, if_pos hk]
theorem stk_succ_c (W : M) (c : Nat) : stk W c (c + 1) = stk W c c := by
  funext i
  by_cases h : i = c
  · subst h; rw [stk_c, stk_c]
  · by_cases h2 : i < c
    · rw [stk_new h h2, stk_new h (by omega)]
    · rw [stk_old h (by omega), stk_old h (by omega)]
theorem stk_succ {W : M} {c k i : Nat} (h : i ≠ k) : stk W c (k + 1) i = stk W c k i := by
  by_cases h1 : i = c
  · subst h1; rw [stk_c, stk_c]
  · by_cases h2 : i < k
    · rw [stk_new h1 (by omega), stk_new h1 h2]
    · rw [stk_old h1 (by omega), stk_old h1 (by omega)]

/-- a row that is a sum of multiples of n rows of W -/
def Sp (n : Nat) (W : M) (v : V) : Prop := ∃ q : Nat → UInt8, ∀ j, j < 2 * n → sm n (fun k => fm (q k) (W k j)) = v j
theorem Sp.self {n i : Nat} (W : M) (hi : i < n) : Sp n W (W i) := ⟨dl i, fun j _ => sm_dl (fun k => W k j) hi⟩
theorem Sp.mul {n : Nat} {W : M} {v : V} (h : Sp n W v) (c : UInt8) : Sp n W (fun j => fm c (v j)) := by
  obtain ⟨q, hq⟩ := h
  refine ⟨fun k => fm c (q k), fun j hj => ?_⟩
  show sm n (fun k => fm (fm c (q k)) (W k j)) = fm c (v j)
  rw [← hq j hj, ← sm_mul]
  exact sm_congr fun k _ => fm_assoc _ _ _
theorem Sp.add {n : Nat} {W : M} {u v : V} (h : Sp n W u) (h' : Sp n W v) : Sp n W (fun j => u j ^^^ v j) := by
  obtain ⟨q, hq⟩ := h
  obtain ⟨r, hr⟩ := h'
  refine ⟨fun k => q k ^^^ r k, fun j hj => ?_⟩
  show sm n (fun k => fm (q k ^^^ r k) (W k j)) = u j ^^^ v j
  rw [← hq j hj, ← hr j hj, ← sm_add]
  exact sm_congr fun k _ => add_fm _ _ _
theorem Sp.congr {n : Nat} {W : M} {u v : V} (h : Sp n W u) (e : ∀ j, j < 2 * n → u j = v j) : Sp n W v := by
  obtain ⟨q, hq⟩ := h
  exact ⟨q, fun j hj => (hq j hj).trans (e j hj)⟩
theorem Sp.trans {n : Nat} {W X : M} {v : V} (h : Sp n W v) (hX : ∀ k, k < n → Sp n X (W k)) : Sp n X v := by
  obtain ⟨q, hq⟩ := h
  have hR : ∃ r : Nat → Nat → UInt8, ∀ k, k < n → ∀ j, j < 2 * n → sm n (fun l => fm (r k l) (X l j)) = W k j :=
    ⟨fun k => if h : k < n then Classical.choose (hX k h) else fun _ => 0, fun k hk j hj => by simp only [dif_pos hk]; exact Classical.choose_spec (hX k hk) j hj⟩
  obtain ⟨r, hr⟩ := hR
  refine ⟨fun l => sm n fun k => fm (q k) (r k l), fun j hj => ?_⟩
  rw [← hq j hj]
  have e1 : (fun l => fm (sm n fun k => fm (q k) (r k l)) (X l j)) = fun l => sm n fun k => fm (q k) (fm (r k l) (X l j)) := by
    funext l
    rw [← mul_sm]
    exact sm_congr fun k _ => fm_assoc _ _ _
  rw [e1, sm_swap]
  exact sm_congr fun k hk => by rw [sm_mul, hr k hk j hj]
/-- the left half is the right half times a -/
def Lf (n : Nat) (a : M) (v : V) : Prop := ∀ j, j < n → v j = sm n fun k => fm (v (n + k)) (a k j)
theorem Lf.mul {n : Nat} {a : M} {v : V} (h : Lf n a v) (c : UInt8) : Lf n a (fun j => fm c (v j)) := fun j hj => by
  show fm c (v j) = _
  rw [h j hj, ← sm_mul]
  exact sm_congr fun k _ => (fm_assoc _ _ _).symm
theorem Lf.add {n : Nat} {a : M} {u v : V} (h : Lf n a u) (h' : Lf n a v) : Lf n a (fun j => u j ^^^ v j) := fun j hj => by
  show u j ^^^ v j = _
  rw [h j hj, h' j hj, ← sm_add]
  exact sm_congr fun k _ => (add_fm _ _ _).symm

/-- c columns are turned -/
structure Gj (n : Nat) (a : M) (c : Nat) (W : M) : Prop where
  one : ∀ i, i < n → ∀ j, j < c → W i j = dl i j
  lft : ∀ i, i < n → Lf n a (W i)
  spn : ∀ i, i < n → Sp n W (bes n a i)
  det : ∃ s, s ≠ 0 ∧ dt n (rws n a) = fm s (dt n (rws n W))
theorem Gj.start (n : Nat) (a : M) : Gj n a 0 (bes n a) := by
  refine ⟨fun i _ j hj => by omega, fun i hi j hj => ?_, fun i hi => Sp.self _ hi, 1, by decide, ?_⟩
  · show (if _ then _ else _) = _
    rw [if_pos hj]
    have e : (fun k => fm (bes n a i (n + k)) (a k j)) = fun k => fm (dl i k) (a k j) := by
      funext k
      unfold bes
      rw [if_neg (by omega), Nat.add_sub_cancel_left]
    rw [e, sm_dl (fun k => a k j) hi]
  · rw [one_fm]
    exact rws_congr fun i _ j hj => by unfold bes; rw [if_pos hj]
theorem Gj.swp {n c p : Nat} {a W : M} (h : Gj n a c W) (hc : c < n) (h1 : c ≤ p) (hp : p < n) : Gj n a c (swp W c p) := by
  refine ⟨fun i hi j hj => ?_, fun i hi => h.lft _ (sw_lt hc hp hi), fun i hi => (h.spn i hi).trans fun k hk => ?_, ?_⟩
  · show W (sw c p i) j = _
    rw [h.one _ (sw_lt hc hp hi) j hj]
    unfold sw
    by_cases e1 : i = c
    · rw [if_pos e1, dl_ne (by omega), dl_ne (by omega)]
    · rw [if_neg e1]
      by_cases e2 : i = p
      · rw [if_pos e2, dl_ne (by omega), dl_ne (by omega)]
      · rw [if_neg e2]
  · have := Sp.self (Mx.swp W c p) (sw_lt hc hp hk)
    unfold Mx.swp at this
    rwa [sw_sw] at this
  · obtain ⟨s, hs, e⟩ := h.det
    exact ⟨s, hs, by rw [e, dt_swp W hc hp]⟩
theorem dt_stk {n c : Nat} (W : M) (hc : c < n) (k : Nat) (hk : k ≤ n) : dt n (rws n (stk W c k)) = fm (fi (W c c)) (dt n (rws n W)) := by
  induction k with
  | zero => exact dt_times hc (fun k hk => stk_old hk (Nat.zero_le _)) (stk_c W c 0)
  | succ k ih =>
    rw [← ih (by omega)]
    by_cases e : k = c
    · subst e; rw [stk_succ_c]
    · exact dt_more (a := W k c) (by omega) hc e (fun i hi => stk_succ hi) (by rw [stk_new e (by omega), stk_old e (Nat.le_refl _), stk_c])
theorem Gj.stl {n c : Nat} {a W : M} (h : Gj n a c W) (hc : c < n) (h0 : W c c ≠ 0) : Gj n a (c + 1) (stk W c n) := by
  have hz : ∀ j, j < c → scl W c j = 0 := fun j hj => by unfold scl; rw [h.one c hc j hj, dl_ne (by omega), fm_zero]
  have h1 : scl W c c = 1 := fi_fm h0
  refine ⟨fun i hi j hj => ?_, fun i hi => ?_, fun i hi => (h.spn i hi).trans fun k hk => ?_, ?_⟩
  · by_cases e : i = c
    · subst e
      rw [stk_c]
      by_cases e2 : j = i
      · rw [e2, h1, dl_self]
      · rw [hz j (by omega), dl_ne (fun h => e2 h.symm)]
    · rw [stk_new e hi]
      show W i j ^^^ fm (W i c) (scl W c j) = _
      by_cases e2 : j = c
      · rw [e2, h1, fm_one, xx, dl_ne e]
      · rw [hz j (by omega), fm_zero, x0, h.one i hi j (by omega)]
  · by_cases e : i = c
    · subst e
      rw [stk_c]
      exact (h.lft i hi).mul _
    · rw [stk_new e hi]
      exact (h.lft i hi).add (((h.lft c hc).mul _).mul _)
  · have sc : Sp n (stk W c n) (scl W c) := by
      have := Sp.self (stk W c n) hc
      rwa [stk_c] at this
    by_cases e : k = c
    · subst e
      refine (sc.mul (W k k)).congr fun j _ => ?_
      show fm (W k k) (fm (fi (W k k)) (W k j)) = _
      rw [← fm_assoc, fm_fi h0, one_fm]
    · have sk := Sp.self (stk W c n) hk
      rw [stk_new e hk] at sk
      refine (sk.add (sc.mul (W k c))).congr fun j _ => ?_
      show (W k j ^^^ fm (W k c) (scl W c j)) ^^^ fm (W k c) (scl W c j) = _
      rw [UInt8.xor_assoc, xx, x0]
  · obtain ⟨s, hs, e⟩ := h.det
    refine ⟨fm s (W c c), fun h' => h0 (fm_eq_zero h' hs), ?_⟩
    rw [dt_stk W hc n (Nat.le_refl _), fm_assoc, ← fm_assoc (W c c), fm_fi h0, one_fm, e]
/-- what the right half is in the end -/
def rgt (n : Nat) (W : M) : M := fun i j => W i (n + j)
theorem Gj.done {n : Nat} {a W : M} (h : Gj n a n W) :
    (∀ i, i < n → ∀ j, j < n → mm n (rgt n W) a i j = dl i j) ∧ (∀ i, i < n → ∀ j, j < n → mm n a (rgt n W) i j = dl i j) ∧ dt n (rws n a) ≠ 0 := by
  refine ⟨fun i hi j hj => ?_, fun i hi j hj => ?_, ?_⟩
  · rw [← h.one i hi j hj, h.lft i hi j hj]
    rfl
  · obtain ⟨q, hq⟩ := h.spn i hi
    have hqa : ∀ k, k < n → q k = a i k := fun k hk => by
      have := hq k (by omega)
      unfold bes at this
      rw [if_pos hk] at this
      rw [← this, ← sm_dl2 q hk]
      exact sm_congr fun l hl => by rw [h.one l hl k hk]
    have := hq (n + j) (by omega)
    unfold bes at this
    rw [if_neg (by omega), Nat.add_sub_cancel_left] at this
    rw [← this]
    exact sm_congr fun k hk => by rw [hqa k hk]; rfl
  · obtain ⟨s, hs, e⟩ := h.det
    rw [e, dt_one n W (fun i hi j hj => h.one i hi j hj), fm_one]
    exact hs
theorem Gj.fail {n c : Nat} {a W : M} (h : Gj n a c W) (hc : c < n) (hz : ∀ i, c ≤ i → i < n → W i c = 0) :
    dt n (rws n a) = 0 ∧ ∃ y : Nat → UInt8, (∃ j, j < n ∧ y j ≠ 0) ∧ ∀ i, i < n → sm n (fun j => fm (a i j) (y j)) = 0 := by
  refine ⟨?_, fun j => if j < c then W j c else if j = c then 1 else 0, ⟨c, hc, ?_⟩, fun i hi => ?_⟩
  · obtain ⟨s, hs, e⟩ := h.det
    rw [e, dt_none c n W hc h.one hz, fm_zero]
  · simp
  · have hw : ∀ k, k < n → sm n (fun j => fm (W k j) (if j < c then W j c else if j = c then 1 else 0)) = 0 := fun k hk => by
      rw [sm_cut (m := c + 1) (by omega) (fun j h1 _ => by rw [if_neg (by omega), if_neg (by omega), fm_zero]), sm]
      rw [if_neg (by omega), if_pos rfl, fm_one]
      by_cases e : k < c
      · rw [sm_one e (fun j hj hne => by rw [h.one k hk j hj, dl_ne (fun h => hne h.symm), zero_fm]), h.one k hk k e, dl_self, one_fm, if_pos e, xx]
      · rw [sm_zero (fun j hj => by rw [h.one k hk j hj, dl_ne (by omega), zero_fm]), hz k (by omega) hk, xx]
    obtain ⟨q, hq⟩ := h.spn i hi
    have e1 : sm n (fun j => fm (a i j) (if j < c then W j c else if j = c then 1 else 0)) = sm n fun j => sm n fun k => fm (q k) (fm (W k j) (if j < c then W j c else if j = c then 1 else 0)) := by
      refine sm_congr fun j hj => ?_
      have := hq j (by omega)
      unfold bes at this
      rw [if_pos hj] at this
      rw [← this, ← mul_sm]
      exact sm_congr fun k _ => fm_assoc _ _ _
    rw [e1, sm_swap]
    exact sm_zero fun k hk => by rw [sm_mul, hw k hk, fm_zero]
end Go.Proofs.Ytfnenehiapibiaa.Mx

namespace Go.Proofs.Ytfnenehiapibiaa.Mx

/-- a sum over a list -/
def ls {α : Type} (l : List α) (f : α → UInt8) : UInt8 := l.foldr (fun x s => f x ^^^ s) 0
theorem ls_nil {α : Type} (f : α → UInt8) : ls [] f = 0 := rfl
theorem ls_cons {α : Type} (x : α) (l : List α) (f : α → UInt8) : ls (x :: l) f = f x ^^^ ls l f := rfl
theorem ls_app {α : Type} (l l' : List α) (f : α → UInt8) : ls (l ++ l') f = ls l f ^^^ ls l' f := by
  induction l with
  | nil => rw [List.nil_append, ls_nil, zx]
  | cons x l ih => rw [List.cons_append, ls_cons, ls_cons, ih, UInt8.xor_assoc]
theorem ls_congr {α : Type} {l : List α} {f g : α → UInt8} (h : ∀ x ∈ l, f x = g x) : ls l f = ls l g := by
  induction l with
  | nil => rfl
  | cons x l ih => rw [ls_cons, ls_cons, h x (by simp), ih (fun y hy => h y (by simp [hy]))]
theorem ls_add {α : Type} (l : List α) (f g : α → UInt8) : ls l (fun x => f x ^^^ g x) = ls l f ^^^ ls l g := by
  induction l with
  | nil => exact (xx 0).symm
  | cons x l ih => rw [ls_cons, ls_cons, ls_cons, ih, x4]
theorem ls_mul {α : Type} (l : List α) (c : UInt8) (f : α → UInt8) : ls l (fun x => fm c (f x)) = fm c (ls l f) := by
  induction l with
  | nil => exact (fm_zero c).symm
  | cons x l ih => rw [ls_cons, ls_cons, ih, fm_add]
theorem ls_zero {α : Type} {l : List α} {f : α → UInt8} (h : ∀ x ∈ l, f x = 0) : ls l f = 0 := by
  induction l with
  | nil => rfl
  | cons x l ih => rw [ls_cons, h x (by simp), ih (fun y hy => h y (by simp [hy])), xx]
theorem ls_perm {α : Type} {l l' : List α} (h : l.Perm l') (f : α → UInt8) : ls l f = ls l' f := by
  induction h with
  | nil => rfl
  | cons x _ ih => rw [ls_cons, ls_cons, ih]
  | swap x y l => rw [ls_cons, ls_cons, ls_cons, ls_cons, ← UInt8.xor_assoc, ← UInt8.xor_assoc, UInt8.xor_comm (f y)]
  | trans _ _ h1 h2 => exact h1.trans h2
theorem ls_map {α β : Type} (g : α → β) (l : List α) (f : β → UInt8) : ls (l.map g) f = ls l (fun x => f (g x)) := by
  induction l with
  | nil => rfl
  | cons x l ih => rw [List.map_cons, ls_cons, ls_cons, ih]
theorem sm_ls (n : Nat) (f : Nat → UInt8) : sm n f = ls (List.range n) f := by
  induction n with
  | zero => rfl
  | succ n ih => rw [sm, ih, List.range_succ, ls_app, ls_cons, ls_nil, x0]
theorem ls_filter {α : Type} (p : α → Bool) (l : List α) (f : α → UInt8) (h : ∀ x ∈ l, p x = false → f x = 0) : ls l f = ls (l.filter p) f := by
  rw [← ls_perm (List.filter_append_perm p l) f, ls_app, ls_zero (l := List.filter (fun x => !p x) l) (fun x hx => by
    rw [List.mem_filter] at hx
    exact h x hx.1 (by simpa using hx.2)), x0]

theorem xne {a b : UInt8} (h : a ≠ b) : a ^^^ b ≠ 0 := fun e => h (x_eq_zero e)
/-- what the proof's step turns on -/
theorem cau_step {x x0' y y0 : UInt8} (h1 : x ≠ y) (h2 : x0' ≠ y) :
    fm (fi (x ^^^ y)) (x ^^^ y0) ^^^ fm (fi (x0' ^^^ y)) (x0' ^^^ y0) = fm (x ^^^ x0') (fm (fm (y ^^^ y0) (fi (x0' ^^^ y))) (fi (x ^^^ y))) := by
  have hp : x ^^^ y ≠ 0 := xne h1
  have hq : x0' ^^^ y ≠ 0 := xne h2
  have e1 : x ^^^ y0 = (x ^^^ y) ^^^ (y ^^^ y0) := by rw [UInt8.xor_assoc, xxa]
  have e2 : x0' ^^^ y0 = (x0' ^^^ y) ^^^ (y ^^^ y0) := by rw [UInt8.xor_assoc, xxa]
  have e3 : x ^^^ x0' = (x ^^^ y) ^^^ (x0' ^^^ y) := by rw [UInt8.xor_comm x0' y, UInt8.xor_assoc, xxa]
  rw [e1, e2, e3]
  generalize x ^^^ y = p at *
  generalize x0' ^^^ y = q at *
  generalize y ^^^ y0 = d
  rw [fm_add, fm_add, fi_fm hp, fi_fm hq, x4, xx, zx, add_fm]
  have r1 : fm p (fm (fm d (fi q)) (fi p)) = fm (fi q) d := by
    rw [fm_comm _ (fi p), ← fm_assoc, fm_fi hp, one_fm, fm_comm]
  have r2 : fm q (fm (fm d (fi q)) (fi p)) = fm (fi p) d := by
    rw [← fm_assoc, ← fm_assoc, fm_comm q d, fm_assoc d q, fm_fi hq, fm_one, fm_comm]
  rw [r1, r2, UInt8.xor_comm]
theorem cau : ∀ (ys xs : List UInt8), xs.length = ys.length → xs.Nodup → ys.Nodup → (∀ x ∈ xs, ∀ y ∈ ys, x ≠ y) → ∀ c : UInt8 → UInt8,
    (∀ x ∈ xs, ls ys (fun y => fm (c y) (fi (x ^^^ y))) = 0) → ∀ y ∈ ys, c y = 0 := by
  intro ys
  induction ys with
  | nil => intro xs _ _ _ _ c _ y hy; cases hy
  | cons y0 ys ih =>
    intro xs hlen hnx hny hne c hz
    cases xs with
    | nil => simp at hlen
    | cons x0' xs =>
      obtain ⟨nx0, hnx⟩ := List.nodup_cons.1 hnx
      obtain ⟨ny0, hny⟩ := List.nodup_cons.1 hny
      have E : ∀ x ∈ x0' :: xs, c y0 ^^^ ls ys (fun y => fm (c y) (fm (fi (x ^^^ y)) (x ^^^ y0))) = 0 := fun x hx => by
        have h1 := hz x hx
        rw [ls_cons] at h1
        have hxy := xne (hne x hx y0 (by simp))
        have h2 : fm (x ^^^ y0) (fm (c y0) (fi (x ^^^ y0)) ^^^ ls ys (fun y => fm (c y) (fi (x ^^^ y)))) = 0 := by rw [h1, fm_zero]
        rw [fm_add, ← ls_mul] at h2
        have e1 : fm (x ^^^ y0) (fm (c y0) (fi (x ^^^ y0))) = c y0 := by rw [fm_comm (c y0), ← fm_assoc, fm_fi hxy, one_fm]
        have e2 : ls ys (fun y => fm (x ^^^ y0) (fm (c y) (fi (x ^^^ y)))) = ls ys (fun y => fm (c y) (fm (fi (x ^^^ y)) (x ^^^ y0))) :=
          ls_congr fun y _ => by rw [fm_comm (x ^^^ y0), fm_assoc]
        rw [e1, e2] at h2
        exact h2
      have hc : ∀ y ∈ ys, fm (c y) (fm (y ^^^ y0) (fi (x0' ^^^ y))) = 0 := by
        refine ih xs (by simpa using hlen) hnx hny (fun x hx y hy => hne x (by simp [hx]) y (by simp [hy])) (fun y => fm (c y) (fm (y ^^^ y0) (fi (x0' ^^^ y)))) fun x hx => ?_
        have hxx : x ^^^ x0' ≠ 0 := xne (fun e => nx0 (e ▸ hx))
        have e1 := E x (by simp [hx])
        have e2 := E x0' (by simp)
        refine fm_eq_zero (a := x ^^^ x0') ?_ hxx
        have e3 : (c y0 ^^^ ls ys (fun y => fm (c y) (fm (fi (x ^^^ y)) (x ^^^ y0)))) ^^^ (c y0 ^^^ ls ys (fun y => fm (c y) (fm (fi (x0' ^^^ y)) (x0' ^^^ y0)))) = 0 := by rw [e1, e2, xx]
        rw [x4, xx, zx, ← ls_add] at e3
        refine Eq.trans ?_ e3
        rw [← ls_mul]
        refine ls_congr fun y hy => ?_
        rw [← fm_add, cau_step (hne x (by simp [hx]) y (by simp [hy])) (hne x0' (by simp) y (by simp [hy]))]
        rw [fm_assoc (c y), ← fm_assoc (x ^^^ x0') (c y), fm_comm (x ^^^ x0') (c y), fm_assoc (c y)]
      have hall : ∀ y ∈ ys, c y = 0 := fun y hy => by
        have h1 := hc y hy
        have hd : y ^^^ y0 ≠ 0 := xne (fun e => ny0 (e ▸ hy))
        have hf : fi (x0' ^^^ y) ≠ 0 := fi_ne (xne (hne x0' (by simp) y (by simp [hy])))
        rw [fm_comm] at h1
        refine fm_eq_zero h1 (fun e => hf (fm_eq_zero e hd))
      intro y hy
      rcases List.mem_cons.1 hy with rfl | hy
      · have h1 := hz x0' (by simp)
        rw [ls_cons, ls_zero (fun z hz' => by rw [hall z hz', zero_fm]), x0, fm_comm] at h1
        exact fm_eq_zero h1 (fi_ne (xne (hne x0' (by simp) y (by simp))))
      · exact hall y hy

/-- the coding -/
def cod (k : Nat) : M := fun i j => if i < k then dl i j else fi (UInt8.ofNat (i ^^^ j))
theorem ofNat_inj {a b : Nat} (ha : a < 256) (hb : b < 256) (h : UInt8.ofNat a = UInt8.ofNat b) : a = b := by
  have := congrArg UInt8.toNat h
  rwa [ofNat_nat ha, ofNat_nat hb] at this
theorem nodup_of {l : List Nat} (h : l.Nodup) (hl : ∀ a ∈ l, a < 256) : (l.map UInt8.ofNat).Nodup := by
  induction l with
  | nil => exact List.nodup_nil
  | cons a l ih =>
    obtain ⟨h1, h2⟩ := List.nodup_cons.1 h
    rw [List.map_cons, List.nodup_cons]
    refine ⟨fun hm => ?_, ih h2 (fun b hb => hl b (by simp [hb]))⟩
    obtain ⟨b, hb, e⟩ := List.mem_map.1 hm
    exact h1 (ofNat_inj (hl b (by simp [hb])) (hl a (by simp)) e ▸ hb)
theorem nodup_filter {l : List Nat} (h : l.Nodup) (p : Nat → Bool) : (l.filter p).Nodup := List.Pairwise.filter p h
/-- any k rows: only 0 is turned to 0 -/
theorem cod_any {k r : Nat} (hr : r ≤ 256) (at_ : List Nat) (hlen : at_.length = k) (hnd : at_.Nodup) (hat : ∀ a ∈ at_, a < r) (y : Nat → UInt8)
    (hz : ∀ a ∈ at_, sm k (fun j => fm (cod k a j) (y j)) = 0) : ∀ j, j < k → y j = 0 := by
  have hsmall : ∀ a ∈ at_, a < k → y a = 0 := fun a ha hk => by
    have := hz a ha
    rw [← sm_dl (n := k) y hk, ← this]
    exact sm_congr fun j _ => by unfold cod; rw [if_pos hk]
  have hk256 : at_ ≠ [] → k ≤ 256 := by
    intro _
    have h1 : at_.length ≤ r := by
      have hp : (List.range r).filter (fun i => decide (i ∈ at_)) |>.Perm at_ := by
        rw [List.perm_ext_iff_of_nodup (nodup_filter List.nodup_range _) hnd]
        intro a
        rw [List.mem_filter, List.mem_range, decide_eq_true_iff]
        exact ⟨fun h => h.2, fun h => ⟨hat a h, h⟩⟩
      have := hp.length_eq
      have h2 := List.length_filter_le (fun i => decide (i ∈ at_)) (List.range r)
      rw [List.length_range] at h2
      omega
    omega
  by_cases hne : at_ = []
  · subst hne
    intro j hj
    simp at hlen
    omega
  have hk := hk256 hne
  let J := (List.range k).filter fun i => decide (i ∉ at_)
  let I := at_.filter fun a => decide (k ≤ a)
  have hJl : J.length + (at_.filter fun a => decide (a < k)).length = k := by
    have hp : ((List.range k).filter fun i => decide (i ∈ at_)).Perm (at_.filter fun a => decide (a < k)) := by
      rw [List.perm_ext_iff_of_nodup (nodup_filter List.nodup_range _) (nodup_filter hnd _)]
      intro a
      rw [List.mem_filter, List.mem_filter, List.mem_range, decide_eq_true_iff, decide_eq_true_iff]
      exact ⟨fun h => ⟨h.2, h.1⟩, fun h => ⟨h.2, h.1⟩⟩
    have h1 := (List.filter_append_perm (fun i => decide (i ∈ at_)) (List.range k)).length_eq
    rw [List.length_append, List.length_range, hp.length_eq] at h1
    have e : J = List.filter (fun x => !decide (x ∈ at_)) (List.range k) := List.filter_congr fun x _ => by simp
    rw [e]
    omega
  have hIl : I.length + (at_.filter fun a => decide (a < k)).length = k := by
    have h1 := (List.filter_append_perm (fun a => decide (a < k)) at_).length_eq
    rw [List.length_append, hlen] at h1
    have e : I = List.filter (fun x => !decide (x < k)) at_ := List.filter_congr fun x _ => by rw [← decide_not]; exact decide_eq_decide.2 (by omega)
    rw [e]
    omega
  have hJ : ∀ j ∈ J, j < k ∧ j ∉ at_ := fun j hj => by
    have := List.mem_filter.1 hj
    exact ⟨List.mem_range.1 this.1, of_decide_eq_true this.2⟩
  have hI : ∀ a ∈ I, a ∈ at_ ∧ k ≤ a := fun a ha => by
    have := List.mem_filter.1 ha
    exact ⟨this.1, of_decide_eq_true this.2⟩
  have key := cau (J.map UInt8.ofNat) (I.map UInt8.ofNat) (by rw [List.length_map, List.length_map]; omega)
    (nodup_of (nodup_filter hnd _) fun a ha => by have := hat a (hI a ha).1; omega)
    (nodup_of (nodup_filter List.nodup_range _) fun j hj => by have := (hJ j hj).1; omega)
    (fun x hx y' hy' => by
      obtain ⟨a, ha, rfl⟩ := List.mem_map.1 hx
      obtain ⟨j, hj, rfl⟩ := List.mem_map.1 hy'
      intro e
      have h1 := hI a ha
      have h2 := hJ j hj
      have := ofNat_inj (by have := hat a h1.1; omega) (by omega) e
      omega)
    (fun b => y b.toNat) (fun x hx => by
      obtain ⟨a, ha, rfl⟩ := List.mem_map.1 hx
      have h1 := hI a ha
      have h2 := hz a h1.1
      rw [ls_map, ← h2, sm_ls, ls_filter (fun i => decide (i ∉ at_)) (List.range k) _ (fun j hj hp => ?_)]
      · refine ls_congr fun j hj => ?_
        have h3 := hJ j hj
        unfold cod
        rw [if_neg (by omega), ofNat_nat (by omega), fm_comm, UInt8.ofNat_xor]
      · have hm : j ∈ at_ := by simpa using hp
        rw [hsmall j hm (List.mem_range.1 hj), fm_zero])
  intro j hj
  by_cases hm : j ∈ at_
  · exact hsmall j hm hj
  · have hjJ : j ∈ J := List.mem_filter.2 ⟨List.mem_range.2 hj, decide_eq_true hm⟩
    have := key (UInt8.ofNat j) (List.mem_map.2 ⟨j, hjJ, rfl⟩)
    rwa [ofNat_nat (by omega)] at this
end Go.Proofs.Ytfnenehiapibiaa.Mx
