/- Plain lemmas of the coding: any as many of its rows as it has columns hang together. Of no function in particular. -/
import Derived.Test.YtjhnbhgpnmfdgaaMatG
namespace Go.Proofs.Ytjhnbhgpnmfdgaa.Mx

/-- a sum over a list -/
def ls {α : Type} (l : List α) (f : α → UInt8) : UInt8 := l.foldr (fun x s => f x ^^^ s) 0
theorem ls_nil {α : Type} (f : α → UInt8) : ls [] f = 0 := rfl
theorem ls_cons {α : Type} (x : α) (l : List α) (f : α → UInt8) : ls (x :: l) f = f x ^^^ ls l f := rfl
theorem ls_app {α : Type} (l l' : List α) (f : α → UInt8) : ls (l ++ l') f = ls l f ^^^ ls l' f := by
  induction l with
  | nil => rw [List.nil_append, ls_nil, zx]
  | cons x l ih => rw [List.cons_append, ls_cons, ls_cons, ih, UInt8.xor_assoc]
theorem ls_congr {α : Type} {l : List α} {f g : α → UInt8} (h : ∀ x ∈ l, f x = g x) : ls l f = ls l g := by
  induction l with
  | nil => rfl
  | cons x l ih => rw [ls_cons, ls_cons, h x (by simp), ih (fun y hy => h y (by simp [hy]))]
theorem ls_add {α : Type} (l : List α) (f g : α → UInt8) : ls l (fun x => f x ^^^ g x) = ls l f ^^^ ls l g := by
  induction l with
  | nil => exact (xx 0).symm
  | cons x l ih => rw [ls_cons, ls_cons, ls_cons, ih, x4]
theorem ls_mul {α : Type} (l : List α) (c : UInt8) (f : α → UInt8) : ls l (fun x => fm c (f x)) = fm c (ls l f) := by
  induction l with
  | nil => exact (fm_zero c).symm
  | cons x l ih => rw [ls_cons, ls_cons, ih, fm_add]
theorem ls_zero {α : Type} {l : List α} {f : α → UInt8} (h : ∀ x ∈ l, f x = 0) : ls l f = 0 := by
  induction l with
  | nil => rfl
  | cons x l ih => rw [ls_cons, h x (by simp), ih (fun y hy => h y (by simp [hy])), xx]
theorem ls_perm {α : Type} {l l' : List α} (h : l.Perm l') (f : α → UInt8) : ls l f = ls l' f := by
  induction h with
  | nil => rfl
  | cons x _ ih => rw [ls_cons, ls_cons, ih]
  | swap x y l => rw [ls_cons, ls_cons, ls_cons, ls_cons, ← UInt8.xor_assoc, ← UInt8.xor_assoc, UInt8.xor_comm (f y)]
  | trans _ _ h1 h2 => exact h1.trans h2
theorem ls_map {α β : Type} (g : α → β) (l : List α) (f : β → UInt8) : ls (l.map g) f = ls l (fun x => f (g x)) := by
  induction l with
  | nil => rfl
  | cons x l ih => rw [List.map_cons, ls_cons, ls_cons, ih]
theorem sm_ls (n : Nat) (f : Nat → UInt8) : sm n f = ls (List.range n) f := by
  induction n with
  | zero => rfl
  | succ n ih => rw [sm, ih, List.range_succ, ls_app, ls_cons, ls_nil, x0]
theorem ls_filter {α : Type} (p : α → Bool) (l : List α) (f : α → UInt8) (h : ∀ x ∈ l, p x = false → f x = 0) : ls l f = ls (l.filter p) f := by
  rw [← ls_perm (List.filter_append_perm p l) f, ls_app, ls_zero (l := List.filter (fun x => !p x) l) (fun x hx => by
    rw [List.mem_filter] at hx
    exact h x hx.1 (by simpa using hx.2)), x0]

theorem xne {a b : UInt8} (h : a ≠ b) : a ^^^ b ≠ 0 := fun e => h (x_eq_zero e)
/-- what the proof's step turns on -/
theorem cau_step {x x0' y y0 : UInt8} (h1 : x ≠ y) (h2 : x0' ≠ y) :
    fm (fi (x ^^^ y)) (x ^^^ y0) ^^^ fm (fi (x0' ^^^ y)) (x0' ^^^ y0) = fm (x ^^^ x0') (fm (fm (y ^^^ y0) (fi (x0' ^^^ y))) (fi (x ^^^ y))) := by
  have hp : x ^^^ y ≠ 0 := xne h1
  have hq : x0' ^^^ y ≠ 0 := xne h2
  have e1 : x ^^^ y0 = (x ^^^ y) ^^^ (y ^^^ y0) := by rw [UInt8.xor_assoc, xxa]
  have e2 : x0' ^^^ y0 = (x0' ^^^ y) ^^^ (y ^^^ y0) := by rw [UInt8.xor_assoc, xxa]
  have e3 : x ^^^ x0' = (x ^^^ y) ^^^ (x0' ^^^ y) := by rw [UInt8.xor_comm x0' y, UInt8.xor_assoc, xxa]
  rw [e1, e2, e3]
  generalize x ^^^ y = p at *
  generalize x0' ^^^ y = q at *
  generalize y ^^^ y0 = d
  rw [fm_add, fm_add, fi_fm hp, fi_fm hq, x4, xx, zx, add_fm]
  have r1 : fm p (fm (fm d (fi q)) (fi p)) = fm (fi q) d := by
    rw [fm_comm _ (fi p), ← fm_assoc, fm_fi hp, one_fm, fm_comm]
  have r2 : fm q (fm (fm d (fi q)) (fi p)) = fm (fi p) d := by
    rw [← fm_assoc, ← fm_assoc, fm_comm q d, fm_assoc d q, fm_fi hq, fm_one, fm_comm]
  rw [r1, r2, UInt8.xor_comm]
theorem cau : ∀ (ys xs : List UInt8), xs.length = ys.length → xs.Nodup → ys.Nodup → (∀ x ∈ xs, ∀ y ∈ ys, x ≠ y) → ∀ c : UInt8 → UInt8,
    (∀ x ∈ xs, ls ys (fun y => fm (c y) (fi (x ^^^ y))) = 0) → ∀ y ∈ ys, c y = 0 := by
  intro ys
  induction ys with
  | nil => intro xs _ _ _ _ c _ y hy; cases hy
  | cons y0 ys ih =>
    intro xs hlen hnx hny hne c hz
    cases xs with
    | nil => simp at hlen
    | cons x0' xs =>
      obtain ⟨nx0, hnx⟩ := List.nodup_cons.1 hnx
      obtain ⟨ny0, hny⟩ := List.nodup_cons.1 hny
      have E : ∀ x ∈ x0' :: xs, c y0 ^^^ ls ys (fun y => fm (c y) (fm (fi (x ^^^ y)) (x ^^^ y0))) = 0 := fun x hx => by
        have h1 := hz x hx
        rw [ls_cons] at h1
        have hxy := xne (hne x hx y0 (by simp))
        have h2 : fm (x ^^^ y0) (fm (c y0) (fi (x ^^^ y0)) ^^^ ls ys (fun y => fm (c y) (fi (x ^^^ y)))) = 0 := by rw [h1, fm_zero]
        rw [fm_add, ← ls_mul] at h2
        have e1 : fm (x ^^^ y0) (fm (c y0) (fi (x ^^^ y0))) = c y0 := by rw [fm_comm (c y0), ← fm_assoc, fm_fi hxy, one_fm]
        have e2 : ls ys (fun y => fm (x ^^^ y0) (fm (c y) (fi (x ^^^ y)))) = ls ys (fun y => fm (c y) (fm (fi (x ^^^ y)) (x ^^^ y0))) :=
          ls_congr fun y _ => by rw [fm_comm (x ^^^ y0), fm_assoc]
        rw [e1, e2] at h2
        exact h2
      have hc : ∀ y ∈ ys, fm (c y) (fm (y ^^^ y0) (fi (x0' ^^^ y))) = 0 := by
        refine ih xs (by simpa using hlen) hnx hny (fun x hx y hy => hne x (by simp [hx]) y (by simp [hy])) (fun y => fm (c y) (fm (y ^^^ y0) (fi (x0' ^^^ y)))) fun x hx => ?_
        have hxx : x ^^^ x0' ≠ 0 := xne (fun e => nx0 (e ▸ hx))
        have e1 := E x (by simp [hx])
        have e2 := E x0' (by simp)
        refine fm_eq_zero (a := x ^^^ x0') ?_ hxx
        have e3 : (c y0 ^^^ ls ys (fun y => fm (c y) (fm (fi (x ^^^ y)) (x ^^^ y0)))) ^^^ (c y0 ^^^ ls ys (fun y => fm (c y) (fm (fi (x0' ^^^ y)) (x0' ^^^ y0)))) = 0 := by rw [e1, e2, xx]
        rw [x4, xx, zx, ← ls_add] at e3
        refine Eq.trans ?_ e3
        rw [← ls_mul]
        refine ls_congr fun y hy => ?_
        rw [← fm_add, cau_step (hne x (by simp [hx]) y (by simp [hy])) (hne x0' (by simp) y (by simp [hy]))]
        rw [fm_assoc (c y), ← fm_assoc (x ^^^ x0') (c y), fm_comm (x ^^^ x0') (c y), fm_assoc (c y)]
      have hall : ∀ y ∈ ys, c y = 0 := fun y hy => by
        have h1 := hc y hy
        have hd : y ^^^ y0 ≠ 0 := xne (fun e => ny0 (e ▸ hy))
        have hf : fi (x0' ^^^ y) ≠ 0 := fi_ne (xne (hne x0' (by simp) y (by simp [hy])))
        rw [fm_comm] at h1
        refine fm_eq_zero h1 (fun e => hf (fm_eq_zero e hd))
      intro y hy
      rcases List.mem_cons.1 hy with rfl | hy
      · have h1 := hz x0' (by simp)
        rw [ls_cons, ls_zero (fun z hz' => by rw [hall z hz', zero_fm]), x0, fm_comm] at h1
        exact fm_eq_zero h1 (fi_ne (xne (hne x0' (by simp) y (by simp))))
      · exact hall y hy

/-- the coding -/
def cod (k : Nat) : M := fun i j => if i < k then dl i j else fi (UInt8.ofNat (i ^^^ j))
theorem ofNat_inj {a b : Nat} (ha : a < 256) (hb : b < 256) (h : UInt8.ofNat a = UInt8.ofNat b) : a = b := by
  have := congrArg UInt8.toNat h
  rwa [ofNat_nat ha, ofNat_nat hb] at this
theorem nodup_of {l : List Nat} (h : l.Nodup) (hl : ∀ a ∈ l, a < 256) : (l.map UInt8.ofNat).Nodup := by
  induction l with
  | nil => exact List.nodup_nil
  | cons a l ih =>
    obtain ⟨h1, h2⟩ := List.nodup_cons.1 h
    rw [List.map_cons, List.nodup_cons]
    refine ⟨fun hm => ?_, ih h2 (fun b hb => hl b (by simp [hb]))⟩
    obtain ⟨b, hb, e⟩ := List.mem_map.1 hm
    exact h1 (ofNat_inj (hl b (by simp [hb])) (hl a (by simp)) e ▸ hb)
theorem nodup_filter {l : List Nat} (h : l.Nodup) (p : Nat → Bool) : (l.filter p).Nodup := List.Pairwise.filter p h
/-- any k rows: only 0 is turned to 0 -/
theorem cod_any {k r : Nat} (hr : r ≤ 256) (at_ : List Nat) (hlen : at_.length = k) (hnd : at_.Nodup) (hat : ∀ a ∈ at_, a < r) (y : Nat → UInt8)
    (hz : ∀ a ∈ at_, sm k (fun j => fm (cod k a j) (y j)) = 0) : ∀ j, j < k → y j = 0 := by
  have hsmall : ∀ a ∈ at_, a < k → y a = 0 := fun a ha hk => by
    have := hz a ha
    rw [← sm_dl (n := k) y hk, ← this]
    exact sm_congr fun j _ => by unfold cod; rw [if_pos hk]
  have hk256 : at_ ≠ [] → k ≤ 256 := by
    intro _
    have h1 : at_.length ≤ r := by
      have hp : (List.range r).filter (fun i => decide (i ∈ at_)) |>.Perm at_ := by
        rw [List.perm_ext_iff_of_nodup (nodup_filter List.nodup_range _) hnd]
        intro a
        rw [List.mem_filter, List.mem_range, decide_eq_true_iff]
        exact ⟨fun h => h.2, fun h => ⟨hat a h, h⟩⟩
      have := hp.length_eq
      have h2 := List.length_filter_le (fun i => decide (i ∈ at_)) (List.range r)
      rw [List.length_range] at h2
      omega
    omega
  by_cases hne : at_ = []
  · subst hne
    intro j hj
    simp at hlen
    omega
  have hk := hk256 hne
  let J := (List.range k).filter fun i => decide (i ∉ at_)
  let I := at_.filter fun a => decide (k ≤ a)
  have hJl : J.length + (at_.filter fun a => decide (a < k)).length = k := by
    have hp : ((List.range k).filter fun i => decide (i ∈ at_)).Perm (at_.filter fun a => decide (a < k)) := by
      rw [List.perm_ext_iff_of_nodup (nodup_filter List.nodup_range _) (nodup_filter hnd _)]
      intro a
      rw [List.mem_filter, List.mem_filter, List.mem_range, decide_eq_true_iff, decide_eq_true_iff]
      exact ⟨fun h => ⟨h.2, h.1⟩, fun h => ⟨h.2, h.1⟩⟩
    have h1 := (List.filter_append_perm (fun i => decide (i ∈ at_)) (List.range k)).length_eq
    rw [List.length_append, List.length_range, hp.length_eq] at h1
    have e : J = List.filter (fun x => !decide (x ∈ at_)) (List.range k) := List.filter_congr fun x _ => by simp
    rw [e]
    omega
  have hIl : I.length + (at_.filter fun a => decide (a < k)).length = k := by
    have h1 := (List.filter_append_perm (fun a => decide (a < k)) at_).length_eq
    rw [List.length_append, hlen] at h1
    have e : I = List.filter (fun x => !decide (x < k)) at_ := List.filter_congr fun x _ => by rw [← decide_not]; exact decide_eq_decide.2 (by omega)
    rw [e]
    omega
  have hJ : ∀ j ∈ J, j < k ∧ j ∉ at_ := fun j hj => by
    have := List.mem_filter.1 hj
    exact ⟨List.mem_range.1 this.1, of_decide_eq_true this.2⟩
  have hI : ∀ a ∈ I, a ∈ at_ ∧ k ≤ a := fun a ha => by
    have := List.mem_filter.1 ha
    exact ⟨this.1, of_decide_eq_true this.2⟩
  have key := cau (J.map UInt8.ofNat) (I.map UInt8.ofNat) (by rw [List.length_map, List.length_map]; omega)
    (nodup_of (nodup_filter hnd _) fun a ha => by have := hat a (hI a ha).1; omega)
    (nodup_of (nodup_filter List.nodup_range _) fun j hj => by have := (hJ j hj).1; omega)
    (fun x hx y' hy' => by
      obtain ⟨a, ha, rfl⟩ := List.mem_map.1 hx
      obtain ⟨j, hj, rfl⟩ := List.mem_map.1 hy'
      intro e
      have h1 := hI a ha
      have h2 := hJ j hj
      have := ofNat_inj (by have := hat a h1.1; omega) (by omega) e
      omega)
    (fun b => y b.toNat) (fun x hx => by
      obtain ⟨a, ha, rfl⟩ := List.mem_map.1 hx
      have h1 := hI a ha
      have h2 := hz a h1.1
      rw [ls_map, ← h2, sm_ls, ls_filter (fun i => decide (i ∉ at_)) (List.range k) _ (fun j hj hp => ?_)]
      · refine ls_congr fun j hj => ?_
        have h3 := hJ j hj
        unfold cod
        rw [if_neg (by omega), ofNat_nat (by omega), fm_comm, UInt8.ofNat_xor]
      · have hm : j ∈ at_ := by simpa using hp
        rw [hsmall j hm (List.mem_range.1 hj), fm_zero])
  intro j hj
  by_cases hm : j ∈ at_
  · exact hsmall j hm hj
  · have hjJ : j ∈ J := List.mem_filter.2 ⟨List.mem_range.2 hj, decide_eq_true hm⟩
    have := key (UInt8.ofNat j) (List.mem_map.2 ⟨j, hjJ, rfl⟩)
    rwa [ofNat_nat (by omega)] at this
end Go.Proofs.Ytjhnbhgpnmfdgaa.Mx
