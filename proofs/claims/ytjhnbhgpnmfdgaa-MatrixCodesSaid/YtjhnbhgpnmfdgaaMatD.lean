/- Plain lemmas of determinants (in this field plus and minus are one), and of turning a matrix to One row by row. Of no function in particular. -/
import Derived.Test.YtjhnbhgpnmfdgaaMatP
namespace Go.Proofs.Ytjhnbhgpnmfdgaa.Mx

/-- all ways to take one out of a list -/
def picks {α : Type} : List α → List (α × List α)
  | [] => []
  | x :: l => (x, l) :: (picks l).map fun p => (p.1, x :: p.2)
/-- the sum over them -/
def ps {α : Type} (F : α → List α → UInt8) : List α → UInt8
  | [] => 0
  | x :: l => F x l ^^^ ps (fun y r => F y (x :: r)) l
theorem ps_congr {α : Type} : ∀ (l : List α) (F G : α → List α → UInt8), (∀ y r, y ∈ l → F y r = G y r) → ps F l = ps G l := by
  intro l
  induction l with
  | nil => intro F G _; rfl
  | cons x l ih =>
    intro F G h
    rw [ps, ps, h x l (by simp), ih _ _ (fun y r hy => h y (x :: r) (by simp [hy]))]
theorem ps_add {α : Type} : ∀ (l : List α) (F G : α → List α → UInt8), ps (fun y r => F y r ^^^ G y r) l = ps F l ^^^ ps G l := by
  intro l
  induction l with
  | nil => intro F G; exact (xx 0).symm
  | cons x l ih => intro F G; rw [ps, ps, ps, ih, x4]
theorem ps_mul {α : Type} (c : UInt8) : ∀ (l : List α) (F : α → List α → UInt8), ps (fun y r => fm c (F y r)) l = fm c (ps F l) := by
  intro l
  induction l with
  | nil => intro F; exact (fm_zero c).symm
  | cons x l ih => intro F; rw [ps, ps, ih, fm_add]
theorem ps_zero {α : Type} : ∀ (l : List α) (F : α → List α → UInt8), (∀ y r, y ∈ l → F y r = 0) → ps F l = 0 := by
  intro l
  induction l with
  | nil => intro F _; rfl
  | cons x l ih =>
    intro F h
    rw [ps, h x l (by simp), ih _ (fun y r hy => h y (x :: r) (by simp [hy])), xx]
theorem ps_perm {α : Type} {l l' : List α} (h : l.Perm l') : ∀ F : α → List α → UInt8, (∀ y r r', r.Perm r' → F y r = F y r') → ps F l = ps F l' := by
  induction h with
  | nil => intro F _; rfl
  | cons x h ih =>
    intro F hF
    rw [ps, ps, hF x _ _ h, ih _ (fun y r r' hr => hF y _ _ (hr.cons x))]
  | swap x y l =>
    intro F hF
    rw [ps, ps, ps, ps, ps_congr l (fun z r => F z (y :: x :: r)) (fun z r => F z (x :: y :: r)) (fun z r _ => hF z _ _ (List.Perm.swap x y r))]
    rw [← UInt8.xor_assoc, ← UInt8.xor_assoc, UInt8.xor_comm (F y _)]
  | trans _ _ ih1 ih2 => intro F hF; exact (ih1 F hF).trans (ih2 F hF)

/-- the determinant of n rows, by the first column -/
abbrev V := Nat → UInt8
def tl (f : V) : V := fun j => f (j + 1)
def dt : Nat → List V → UInt8
  | 0, l => if l.isEmpty then 1 else 0
  | n + 1, l => ps (fun y r => fm (y 0) (dt n (r.map tl))) l
theorem dt_perm (n : Nat) : ∀ {l l' : List V}, l.Perm l' → dt n l = dt n l' := by
  induction n with
  | zero =>
    intro l l' h
    have := h.length_eq
    unfold dt
    cases l <;> cases l' <;> simp_all
  | succ n ih => intro l l' h; exact ps_perm h _ fun y r r' hr => by rw [ih (hr.map tl)]
theorem dt_add (n : Nat) : ∀ (u v : V) (l : List V), dt n ((fun j => u j ^^^ v j) :: l) = dt n (u :: l) ^^^ dt n (v :: l) := by
  induction n with
  | zero => intro u v l; exact (xx 0).symm
  | succ n ih =>
    intro u v l
    have e : ∀ r : List V, dt n ((tl fun j => u j ^^^ v j) :: r.map tl) = dt n (tl u :: r.map tl) ^^^ dt n (tl v :: r.map tl) := fun r => ih (tl u) (tl v) (r.map tl)
    simp only [dt, ps, List.map_cons, e, add_fm, fm_add, ps_add]
    exact x4 _ _ _ _
theorem dt_mul (n : Nat) : ∀ (c : UInt8) (u : V) (l : List V), dt n ((fun j => fm c (u j)) :: l) = fm c (dt n (u :: l)) := by
  induction n with
  | zero => intro c u l; exact (fm_zero c).symm
  | succ n ih =>
    intro c u l
    have e : ∀ r : List V, dt n ((tl fun j => fm c (u j)) :: r.map tl) = fm c (dt n (tl u :: r.map tl)) := fun r => ih c (tl u) (r.map tl)
    have e2 : ∀ a b d : UInt8, fm a (fm b d) = fm b (fm a d) := fun a b d => by rw [← fm_assoc, fm_comm a b, fm_assoc]
    simp only [dt, ps, List.map_cons, e, fm_assoc, e2 _ c, ps_mul, fm_add]
theorem dt_two (n : Nat) : ∀ (u : V) (l : List V), dt n (u :: u :: l) = 0 := by
  induction n with
  | zero => intro u l; rfl
  | succ n ih =>
    intro u l
    simp only [dt, ps, List.map_cons]
    rw [xxa]
    exact ps_zero _ _ fun y r _ => by rw [ih, fm_zero]
theorem dt_congr (n : Nat) : ∀ (l : List Nat) (f g : Nat → V), (∀ i ∈ l, ∀ j, j < n → f i j = g i j) → dt n (l.map f) = dt n (l.map g) := by
  induction n with
  | zero => intro l f g _; unfold dt; cases l <;> rfl
  | succ n ih =>
    intro l f g h
    have key : ∀ (l : List Nat) (pre : List Nat), (∀ i ∈ l, f i 0 = g i 0) → (∀ i ∈ pre ++ l, ∀ j, j < n → f i (j + 1) = g i (j + 1)) →
        ∀ (A B : List V → List V), (∀ r : List Nat, (∀ i ∈ r, i ∈ pre ++ l) → dt n ((A (r.map f)).map tl) = dt n ((B (r.map g)).map tl)) →
        ps (fun y r => fm (y 0) (dt n ((A r).map tl))) (l.map f) = ps (fun y r => fm (y 0) (dt n ((B r).map tl))) (l.map g) := by
      intro l
      induction l with
      | nil => intro pre _ _ A B _; rfl
      | cons x l ihl =>
        intro pre h0 h1 A B hAB
        simp only [List.map_cons, ps]
        rw [h0 x (by simp), hAB l (by intro i hi; simp [hi])]
        congr 1
        refine ihl (pre ++ [x]) (fun i hi => h0 i (by simp [hi])) (fun i hi => h1 i (by simpa using hi)) (fun r => A (f x :: r)) (fun r => B (g x :: r)) fun r hr => ?_
        have := hAB (x :: r) (by
          intro i hi
          rcases List.mem_cons.1 hi with rfl | hi
          · simp
          · have := hr i hi; simpa using this)
        simpa using this
    refine key l [] (fun i hi => h i hi 0 (by omega)) (fun i hi j hj => h i (by simpa using hi) _ (by omega)) id id fun r hr => ?_
    have := ih r (fun i => tl (f i)) (fun i => tl (g i)) fun i hi j hj => h i (by simpa using hr i hi) _ (by omega)
    simpa [List.map_map, Function.comp_def] using this

/-- the rows of a matrix -/
def rws (n : Nat) (W : M) : List V := (List.range n).map W
theorem rws_congr {n : Nat} {A B : M} (h : ∀ i, i < n → ∀ j, j < n → A i j = B i j) : dt n (rws n A) = dt n (rws n B) :=
  dt_congr n _ _ _ fun i hi j hj => h i (List.mem_range.1 hi) j hj
/-- one row to the front -/
theorem rws_front {n i : Nat} (W : M) (hi : i < n) : (rws n W).Perm (W i :: ((List.range n).erase i).map W) :=
  (List.perm_cons_erase (List.mem_range.2 hi)).map W
theorem rws_rest {n i : Nat} {A B : M} (h : ∀ k, k ≠ i → A k = B k) : ((List.range n).erase i).map A = ((List.range n).erase i).map B :=
  List.map_congr_left fun k hk => h k ((List.Nodup.mem_erase_iff List.nodup_range).1 hk).1
/-- a row that is another one's multiple more -/
theorem dt_more {n i c : Nat} {A B : M} {a : UInt8} (hi : i < n) (hc : c < n) (hne : i ≠ c) (h : ∀ k, k ≠ i → B k = A k) (hB : B i = fun j => A i j ^^^ fm a (A c j)) :
    dt n (rws n B) = dt n (rws n A) := by
  rw [dt_perm n (rws_front A hi), dt_perm n (rws_front B hi), rws_rest h, hB, dt_add, dt_mul]
  have hm : c ∈ (List.range n).erase i := (List.Nodup.mem_erase_iff List.nodup_range).2 ⟨fun e => hne e.symm, List.mem_range.2 hc⟩
  have hp := (List.perm_cons_erase hm).map A
  rw [dt_perm n (hp.cons (A c)), List.map_cons, dt_two, fm_zero, x0]
theorem dt_times {n i : Nat} {A B : M} {a : UInt8} (hi : i < n) (h : ∀ k, k ≠ i → B k = A k) (hB : B i = fun j => fm a (A i j)) :
    dt n (rws n B) = fm a (dt n (rws n A)) := by
  rw [dt_perm n (rws_front A hi), dt_perm n (rws_front B hi), rws_rest h, hB, dt_mul]
/-- two rows change places -/
def sw (c p i : Nat) : Nat := if i = c then p else if i = p then c else i
theorem sw_sw (c p i : Nat) : sw c p (sw c p i) = i := by
  unfold sw
  by_cases h1 : i = c
  · subst h1
    simp only [if_true]
    by_cases h2 : p = i <;> simp [h2]
  · by_cases h2 : i = p
    · subst h2; simp
    · simp [h1, h2]
theorem sw_lt {c p i n : Nat} (hc : c < n) (hp : p < n) (hi : i < n) : sw c p i < n := by
  unfold sw
  split
  · exact hp
  · split <;> assumption
def swp (W : M) (c p : Nat) : M := fun i => W (sw c p i)
theorem dt_swp {n c p : Nat} (W : M) (hc : c < n) (hp : p < n) : dt n (rws n (swp W c p)) = dt n (rws n W) := by
  refine dt_perm n ?_
  have e : rws n (swp W c p) = ((List.range n).map (sw c p)).map W := by unfold rws; rw [List.map_map]; rfl
  rw [e]
  refine List.Perm.map W ?_
  have nd : ((List.range n).map (sw c p)).Nodup := by
    refine List.pairwise_map.2 (List.Pairwise.imp (fun {a b} hab h => hab ?_) List.nodup_range)
    have := congrArg (sw c p) h
    rwa [sw_sw, sw_sw] at this
  rw [List.perm_ext_iff_of_nodup nd List.nodup_range]
  intro a
  rw [List.mem_map, List.mem_range]
  constructor
  · rintro ⟨b, hb, rfl⟩
    exact sw_lt hc hp (List.mem_range.1 hb)
  · intro ha
    exact ⟨sw c p a, List.mem_range.2 (sw_lt hc hp ha), sw_sw c p a⟩
theorem rws_succ (n : Nat) (W : M) : rws (n + 1) W = W 0 :: rws n (fun i => W (i + 1)) := by
  unfold rws
  rw [List.range_succ_eq_map, List.map_cons, List.map_map]
  rfl
theorem rws_tl (n : Nat) (W : M) : (rws n W).map tl = rws n (fun i j => W i (j + 1)) := by unfold rws; rw [List.map_map]; rfl
/-- only the first row has something in the first column -/
theorem dt_step (n : Nat) (W : M) (h : ∀ i, i < n → W (i + 1) 0 = 0) : dt (n + 1) (rws (n + 1) W) = fm (W 0 0) (dt n (rws n fun i j => W (i + 1) (j + 1))) := by
  rw [rws_succ]
  show fm (W 0 0) (dt n ((rws n fun i => W (i + 1)).map tl)) ^^^ ps _ (rws n fun i => W (i + 1)) = _
  rw [ps_zero _ _ (fun y r hy => by
    obtain ⟨i, hi, rfl⟩ := List.mem_map.1 hy
    show fm (W (i + 1) 0) _ = 0
    rw [h i (List.mem_range.1 hi), zero_fm]), x0, rws_tl]
theorem dt_none (c : Nat) : ∀ (n : Nat) (W : M), c < n → (∀ i, i < n → ∀ j, j < c → W i j = dl i j) → (∀ i, c ≤ i → i < n → W i c = 0) → dt n (rws n W) = 0 := by
  induction c with
  | zero =>
    intro n W hc _ hz
    obtain ⟨m, rfl⟩ : ∃ m, n = m + 1 := ⟨n - 1, by omega⟩
    exact ps_zero _ _ fun y r hy => by
      obtain ⟨i, hi, rfl⟩ := List.mem_map.1 hy
      rw [hz i (by omega) (List.mem_range.1 hi), zero_fm]
  | succ c ih =>
    intro n W hc h1 hz
    obtain ⟨m, rfl⟩ : ∃ m, n = m + 1 := ⟨n - 1, by omega⟩
    rw [dt_step m W (fun i hi => by rw [h1 (i + 1) (by omega) 0 (by omega), dl_ne (by omega)]), ih m _ (by omega) ?_ ?_, fm_zero]
    · intro i hi j hj
      show W (i + 1) (j + 1) = _
      rw [h1 (i + 1) (by omega) (j + 1) (by omega)]
      unfold dl
      by_cases e : i = j
      · rw [if_pos (by omega), if_pos e]
      · rw [if_neg (by omega), if_neg e]
    · intro i h2 h3
      exact hz (i + 1) (by omega) (by omega)
theorem dt_one : ∀ (n : Nat) (W : M), (∀ i, i < n → ∀ j, j < n → W i j = dl i j) → dt n (rws n W) = 1 := by
  intro n
  induction n with
  | zero => intro W _; rfl
  | succ n ih =>
    intro W h
    rw [dt_step n W (fun i hi => by rw [h (i + 1) (by omega) 0 (by omega), dl_ne (by omega)]), ih _ ?_, fm_one, h 0 (by omega) 0 (by omega), dl_self]
    intro i hi j hj
    show W (i + 1) (j + 1) = _
    rw [h (i + 1) (by omega) (j + 1) (by omega)]
    unfold dl
    by_cases e : i = j
    · rw [if_pos (by omega), if_pos e]
    · rw [if_neg (by omega), if_neg e]
end Go.Proofs.Ytjhnbhgpnmfdgaa.Mx
