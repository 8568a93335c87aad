/- Merging as plain lists: what the cell ahead tells of a cell; the runs of a heap; one cell after the other. Plain. -/
import Derived.Test.YtknkdehjgkjljaaMgP
import Derived.Test.YtknkdehjgkjljaaHpD
namespace Go.Proofs.Ytknkdehjgkjljaa.Ce
open Go.RowKit

theorem klt_same {a b : Cl} (h : klt a b) (hr : a.row = b.row) (hc : a.col = b.col) : b.at_ < a.at_ := by
  rcases h with h | ⟨-, h | ⟨-, h⟩⟩
  · rw [hr] at h; exact absurd h (List.lt_irrefl _)
  · rw [hc] at h; exact absurd h (List.lt_irrefl _)
  · exact h
/-- a cell is the newest just where the one ahead does not hide it -/
theorem isNewB_at {L : List Cl} (hs : Srt L) {i : Nat} {c : Cl} {t : Int} (hc : L[i]? = some c) :
    isNewB L t c = true ↔ c.at_ ≤ t ∧ (∀ p, 0 < i → L[i - 1]? = some p → t < p.at_ ∨ ¬ (p.row = c.row ∧ p.col = c.col)) := by
  rw [isNewB_iff hs]
  constructor
  · intro h
    refine ⟨h.le, fun p hi hp => ?_⟩
    by_cases e : p.row = c.row ∧ p.col = c.col
    · left
      by_cases ht : t < p.at_
      · exact ht
      · exfalso
        have h1 := h.top p (List.mem_of_getElem? hp) e.1 e.2 (by omega)
        have h2 := klt_same (srt_at hs (show i - 1 < i by omega) hp hc) e.1 e.2
        omega
    · exact .inr e
  · rintro ⟨h1, h2⟩
    refine ⟨List.mem_of_getElem? hc, h1, fun d hd hr hcl hdt => ?_⟩
    by_cases hlt : d.at_ ≤ c.at_
    · exact hlt
    · exfalso
      obtain ⟨j, hj⟩ := List.getElem?_of_mem hd
      have hji : j < i := by
        rcases Nat.lt_trichotomy j i with e | e | e
        · exact e
        · subst e
          rw [hj] at hc
          injection hc with hc
          subst hc
          omega
        · have := klt_same (srt_at hs e hc hj) hr.symm hcl.symm
          omega
      have hil := (List.getElem?_eq_some_iff.1 hc).1
      have hp : L[i - 1]? = some (L[i - 1]'(by omega)) := List.getElem?_eq_getElem _
      generalize L[i - 1]'(by omega) = p at hp
      by_cases e : j = i - 1
      · subst e
        rw [hj] at hp
        injection hp with hp
        subst hp
        rcases h2 d (by omega) hj with h3 | h3
        · omega
        · exact h3 ⟨hr, hcl⟩
      · have k1 := srt_at hs (show j < i - 1 by omega) hj hp
        have k2 := srt_at hs (show i - 1 < i by omega) hp hc
        obtain ⟨e1, e2⟩ := between k1 (.inl k2) hr hcl
        have k3 := klt_same k1 (hr.trans e1.symm) (hcl.trans e2.symm)
        rcases h2 p (by omega) hp with h3 | h3
        · omega
        · exact h3 ⟨e1, e2⟩
/-- may it be seen at that time? -/
def fndB (L : List Cl) (t : Int) (c : Cl) : Bool := isNewB L t c && !c.gone
theorem fnd_late {L : List Cl} (hs : Srt L) {i : Nat} {c : Cl} {t : Int} (hc : L[i]? = some c) (h : t < c.at_) : fndB L t c = false := by
  unfold fndB
  have : isNewB L t c = false := by
    rw [Bool.eq_false_iff]
    intro h1
    have := ((isNewB_at hs hc).1 h1).1
    omega
  rw [this]
  rfl
theorem fnd_gone {L : List Cl} {c : Cl} {t : Int} (h : c.gone = true) : fndB L t c = false := by
  unfold fndB
  rw [h]
  simp
theorem fnd_first {L : List Cl} (hs : Srt L) {c : Cl} {t : Int} (hc : L[0]? = some c) (h : c.at_ ≤ t) (hg : c.gone = false) : fndB L t c = true := by
  unfold fndB
  rw [hg, (isNewB_at hs hc).2 ⟨h, fun p h0 => absurd h0 (Nat.lt_irrefl _)⟩]
  rfl
theorem fnd_next {L : List Cl} (hs : Srt L) {i : Nat} {p c : Cl} {t : Int} (hp : L[i]? = some p) (hc : L[i + 1]? = some c) (h : c.at_ ≤ t) (hg : c.gone = false) (hn : t < p.at_ ∨ ¬ (p.row = c.row ∧ p.col = c.col)) : fndB L t c = true := by
  unfold fndB
  rw [hg, (isNewB_at hs hc).2 ⟨h, fun q h0 hq => by
    rw [Nat.add_sub_cancel, hp] at hq
    injection hq with hq
    exact hq ▸ hn⟩]
  rfl
theorem fnd_hid {L : List Cl} (hs : Srt L) {i : Nat} {p c : Cl} {t : Int} (hp : L[i]? = some p) (hc : L[i + 1]? = some c) (h1 : ¬ t < p.at_) (h2 : p.row = c.row ∧ p.col = c.col) : fndB L t c = false := by
  unfold fndB
  have : isNewB L t c = false := by
    rw [Bool.eq_false_iff]
    intro h
    rcases ((isNewB_at hs hc).1 h).2 p (by omega) (by simpa using hp) with h3 | h3
    · exact h1 h3
    · exact h3 h2
  rw [this]
  rfl

/-! a heap's runs -/
/-- a run: its block, its first cell, those behind it, the place of its list -/
structure Rn where
  blk : Nat
  c : Cl
  rest : List Cl
  place : Nat
def rlt (x y : Rn) : Bool := decide (ccmp x.c y.c < 0 ∨ (ccmp x.c y.c = 0 ∧ x.place < y.place))
theorem rle_iff {x y : Rn} : Hp.leB rlt x y ↔ klt x.c y.c ∨ (keq x.c y.c ∧ x.place ≤ y.place) := by
  unfold Hp.leB rlt
  rw [decide_eq_false_iff_not]
  rcases ccmp_cases y.c x.c with ⟨e, k⟩ | ⟨e, k⟩ | ⟨e, k⟩
  · rw [e]
    refine ⟨fun h => absurd (.inl (by omega)) h, fun h => ?_⟩
    rcases h with h | ⟨h, -⟩
    · exact absurd (klt_trans h k) (klt_irrefl _)
    · exact absurd (keq_symm h) (klt_neq k)
  · rw [e]
    refine ⟨fun h => .inr ⟨keq_symm k, by omega⟩, fun h => ?_⟩
    rcases h with h | ⟨-, h⟩
    · exact absurd (keq_symm k) (klt_neq h)
    · omega
  · rw [e]
    exact ⟨fun _ => .inl k, fun _ => by omega⟩
theorem rle_ord : Hp.Ord (Hp.leB rlt) := by
  refine ⟨fun a b => ?_, fun {a b c} h k => ?_⟩
  · rw [rle_iff, rle_iff]
    rcases ccmp_cases a.c b.c with ⟨-, k⟩ | ⟨-, k⟩ | ⟨-, k⟩
    · exact .inl (.inl k)
    · rcases Nat.le_total a.place b.place with h | h
      · exact .inl (.inr ⟨k, h⟩)
      · exact .inr (.inr ⟨keq_symm k, h⟩)
    · exact .inr (.inl k)
  · rw [rle_iff] at h k ⊢
    rcases h with h | ⟨h, h'⟩
    · rcases k with k | ⟨k, -⟩
      · exact .inl (klt_trans h k)
      · exact .inl (klt_eq h k)
    · rcases k with k | ⟨k, k'⟩
      · exact .inl (eq_klt h k)
      · exact .inr ⟨keq_trans h k, Nat.le_trans h' k'⟩
/-- the runs are just the lists that have cells -/
structure Runs (LL : List (List Cl)) (es : List Rn) : Prop where
  is : ∀ e ∈ es, LL[e.place]? = some (e.c :: e.rest)
  all : ∀ (j : Nat) (d : Cl) (r : List Cl), LL[j]? = some (d :: r) → ∃ e ∈ es, e.place = j
  one : (es.map Rn.place).Nodup
section
variable {LL : List (List Cl)} {es fs : List Rn} {e : Rn}
theorem Runs.nil : Runs [] [] := ⟨fun e h => (by cases h), fun j d r h => (by simp at h), List.nodup_nil⟩
theorem Runs.perm (h : Runs LL es) (p : fs.Perm es) : Runs LL fs :=
  ⟨fun e he => h.is e (p.mem_iff.1 he), fun j d r hj => by
    obtain ⟨e, he, q⟩ := h.all j d r hj
    exact ⟨e, p.mem_iff.2 he, q⟩, (p.map Rn.place).nodup_iff.2 h.one⟩
/-- the first of them is the least -/
theorem Runs.least (h : Runs LL (e :: es)) (hl : ∀ f ∈ es, Hp.leB rlt e f) : Least LL e.place e.c e.rest := by
  refine ⟨h.is e (by simp), fun j d r hj => ?_⟩
  obtain ⟨f, hf, rfl⟩ := h.all j d r hj
  have hd := h.is f hf
  rw [hj] at hd
  injection hd with hd
  injection hd with hd _
  rw [hd]
  rcases List.mem_cons.1 hf with rfl | hf
  · exact .inr ⟨⟨rfl, rfl, rfl⟩, Nat.le_refl _⟩
  · exact rle_iff.1 (hl f hf)
theorem Runs.ne (h : Runs LL (e :: es)) : ∀ f ∈ es, f.place ≠ e.place := fun f hf q => by
  have := (List.nodup_cons.1 (by simpa using h.one : (e.place :: es.map Rn.place).Nodup)).1
  exact this (q ▸ List.mem_map.2 ⟨f, hf, rfl⟩)
/-- it is used up -/
theorem Runs.end_ (h : Runs LL (e :: es)) (hr : e.rest = []) : Runs (LL.set e.place e.rest) es := by
  have hlt := (List.getElem?_eq_some_iff.1 (h.is e (by simp))).1
  refine ⟨fun f hf => ?_, fun j d r hj => ?_, (List.nodup_cons.1 (by simpa using h.one : (e.place :: es.map Rn.place).Nodup)).2⟩
  · rw [List.getElem?_set_ne (fun q => h.ne f hf q.symm)]
    exact h.is f (by simp [hf])
  · by_cases q : e.place = j
    · subst q
      rw [List.getElem?_set_self hlt, hr] at hj
      cases hj
    · rw [List.getElem?_set_ne q] at hj
      obtain ⟨f, hf, rfl⟩ := h.all j d r hj
      rcases List.mem_cons.1 hf with rfl | hf
      · exact absurd rfl q
      · exact ⟨f, hf, rfl⟩
/-- it has more -/
theorem Runs.more (h : Runs LL (e :: es)) {d : Cl} {r : List Cl} (hr : e.rest = d :: r) (b : Nat) : Runs (LL.set e.place e.rest) (⟨b, d, r, e.place⟩ :: es) := by
  have hlt := (List.getElem?_eq_some_iff.1 (h.is e (by simp))).1
  refine ⟨fun f hf => ?_, fun j d' r' hj => ?_, by simpa using h.one⟩
  · rcases List.mem_cons.1 hf with rfl | hf
    · simp only
      rw [List.getElem?_set_self hlt, hr]
    · rw [List.getElem?_set_ne (fun q => h.ne f hf q.symm)]
      exact h.is f (by simp [hf])
  · by_cases q : e.place = j
    · exact ⟨⟨b, d, r, e.place⟩, by simp, q⟩
    · rw [List.getElem?_set_ne q] at hj
      obtain ⟨f, hf, rfl⟩ := h.all j d' r' hj
      rcases List.mem_cons.1 hf with rfl | hf
      · exact absurd rfl q
      · exact ⟨f, by simp [hf], rfl⟩
theorem Runs.places (h : Runs LL es) : ∀ f ∈ es, f.place < LL.length := fun f hf => (List.getElem?_eq_some_iff.1 (h.is f hf)).1
/-- a list more, without cells -/
theorem Runs.snoc0 (h : Runs LL es) : Runs (LL ++ [[]]) es := by
  refine ⟨fun f hf => ?_, fun j d r hj => ?_, h.one⟩
  · rw [List.getElem?_append_left (h.places f hf)]
    exact h.is f hf
  · by_cases q : j < LL.length
    · rw [List.getElem?_append_left q] at hj
      exact h.all j d r hj
    · rw [List.getElem?_append_right (by omega)] at hj
      have h0 : j - LL.length = 0 := by
        have := (List.getElem?_eq_some_iff.1 hj).1
        simp at this
        omega
      rw [h0] at hj
      simp at hj
theorem Runs.snoc1 (h : Runs LL es) (b : Nat) (d : Cl) (r : List Cl) : Runs (LL ++ [d :: r]) (⟨b, d, r, LL.length⟩ :: es) := by
  refine ⟨fun f hf => ?_, fun j d' r' hj => ?_, ?_⟩
  · rcases List.mem_cons.1 hf with rfl | hf
    · simp
    · rw [List.getElem?_append_left (h.places f hf)]
      exact h.is f hf
  · by_cases q : j < LL.length
    · rw [List.getElem?_append_left q] at hj
      obtain ⟨f, hf, e⟩ := h.all j d' r' hj
      exact ⟨f, by simp [hf], e⟩
    · have := (List.getElem?_eq_some_iff.1 hj).1
      simp at this
      exact ⟨⟨b, d, r, LL.length⟩, by simp, show LL.length = j by omega⟩
  · simp only [List.map_cons, List.nodup_cons]
    refine ⟨fun hm => ?_, h.one⟩
    obtain ⟨f, hf, e⟩ := List.mem_map.1 hm
    have := h.places f hf
    omega
theorem Runs.done (h : Runs LL []) : ∀ M ∈ LL, M = [] := fun M hM => by
  obtain ⟨j, hj⟩ := List.getElem?_of_mem hM
  cases M with
  | nil => rfl
  | cons d r =>
    obtain ⟨e, he, -⟩ := h.all j d r hj
    cases he
end

/-! one cell after the other -/
/-- x has not the key of the last cell that was taken -/
def behind (O : List Cl) (x : Cl) : Bool := match O.getLast? with | none => true | some o => notKey o x
theorem behind_snoc (O : List Cl) (c : Cl) : behind (O ++ [c]) = notKey c := by
  funext x
  unfold behind
  simp
/-- all that is left is not ahead of the last one -/
def Fol (O : List Cl) (LL : List (List Cl)) : Prop := ∀ o, O.getLast? = some o → ∀ M ∈ LL, ∀ x ∈ M, klt o x ∨ keq o x
theorem Fol.nil (LL : List (List Cl)) : Fol [] LL := fun o h => by simp at h
theorem mem_all_in {LL : List (List Cl)} (hs : ∀ M ∈ LL, Srt M) {x : Cl} (h : x ∈ allP LL) : ∃ M ∈ LL, x ∈ M := by
  obtain ⟨i, M, h1, h2, -⟩ := (mem_all hs).1 h
  exact ⟨M, List.mem_of_getElem? h1, h2⟩
theorem set_srt {LL : List (List Cl)} {i : Nat} {c : Cl} {rest : List Cl} (hs : ∀ M ∈ LL, Srt M) (h : LL[i]? = some (c :: rest)) : ∀ M ∈ LL.set i rest, Srt M := fun M hM => by
  rcases List.mem_or_eq_of_mem_set hM with q | q
  · exact hs M q
  · rw [q]
    exact (List.pairwise_cons.1 (hs _ (List.mem_of_getElem? h))).2
theorem set_from {LL : List (List Cl)} {i : Nat} {c : Cl} {rest : List Cl} (h : LL[i]? = some (c :: rest)) : ∀ M ∈ LL.set i rest, ∀ x ∈ M, ∃ (j : Nat) (A : List Cl), LL[j]? = some A ∧ x ∈ A := fun M hM x hx => by
  rcases List.mem_or_eq_of_mem_set hM with q | q
  · obtain ⟨j, hj⟩ := List.getElem?_of_mem q
    exact ⟨j, M, hj, hx⟩
  · subst q
    exact ⟨i, _, h, by simp [hx]⟩
section
variable {LL : List (List Cl)} {i : Nat} {c : Cl} {rest O A : List Cl}
theorem step_fol (h : Least LL i c rest) (hs : ∀ M ∈ LL, Srt M) : ∀ M ∈ LL.set i rest, ∀ x ∈ M, klt c x ∨ keq c x := fun M hM x hx => by
  obtain ⟨j, B, hB, hxB⟩ := set_from h.at_ M hM x hx
  rcases h.ahead hs hB hxB with q | ⟨q, -⟩
  · exact .inl q
  · exact .inr q
theorem step_new (h : Least LL i c rest) (hs : ∀ M ∈ LL, Srt M) (hf : Fol O LL) (hA : A = O ++ (allP LL).filter (behind O)) (hb : behind O c = true) :
    A = (O ++ [c]) ++ (allP (LL.set i rest)).filter (behind (O ++ [c])) ∧ Fol (O ++ [c]) (LL.set i rest) := by
  have hs' := set_srt hs h.at_
  have hfol := step_fol h hs
  refine ⟨?_, fun o ho => by
    simp at ho
    subst ho
    exact hfol⟩
  rw [hA, all_pop h hs, List.filter_cons, if_pos hb, behind_snoc, List.append_assoc]
  congr 1
  rw [List.singleton_append]
  congr 1
  refine List.filter_eq_self.2 fun x hx => ?_
  obtain ⟨h1, h2⟩ := List.mem_filter.1 hx
  obtain ⟨M, hM, hxM⟩ := mem_all_in hs' h1
  have hcx : klt c x := by
    rcases hfol M hM x hxM with q | q
    · exact q
    · exact absurd (keq_symm q) (notKey_iff.1 h2)
  unfold behind at hb ⊢
  cases ho : O.getLast? with
  | none => rfl
  | some o =>
    rw [ho] at hb
    have hoc : klt o c := by
      rcases hf o ho _ (List.mem_of_getElem? h.at_) c (by simp) with q | q
      · exact q
      · exact absurd (keq_symm q) (notKey_iff.1 hb)
    exact notKey_iff.2 fun q => klt_neq (klt_trans hoc hcx) (keq_symm q)
theorem step_old (h : Least LL i c rest) (hs : ∀ M ∈ LL, Srt M) (hf : Fol O LL) (hA : A = O ++ (allP LL).filter (behind O)) (hb : behind O c = false) :
    A = O ++ (allP (LL.set i rest)).filter (behind O) ∧ Fol O (LL.set i rest) := by
  refine ⟨?_, fun o ho M hM x hx => ?_⟩
  · rw [hA, all_pop h hs, List.filter_cons, if_neg (by rw [hb]; simp), List.filter_filter]
    congr 1
    refine List.filter_congr fun x _ => ?_
    unfold behind at hb ⊢
    cases ho : O.getLast? with
    | none => rw [ho] at hb; cases hb
    | some o =>
      rw [ho] at hb
      have hco : keq c o := by
        by_cases q : keq c o
        · exact q
        · have h3 := notKey_iff.2 q
          simp only at hb
          rw [h3] at hb
          cases hb
      simp only
      cases hq : notKey o x with
      | false => rfl
      | true =>
        rw [Bool.true_and]
        exact notKey_iff.2 fun k => notKey_iff.1 hq (keq_trans k hco)
  · obtain ⟨j, B, hB, hxB⟩ := set_from h.at_ M hM x hx
    exact hf o ho B (List.mem_of_getElem? hB) x hxB
theorem flat_set : ∀ {LL : List (List Cl)} {i : Nat}, LL[i]? = some (c :: rest) → (LL.set i rest).flatten.length + 1 = LL.flatten.length
  | [], i, h => by simp at h
  | M :: LL, 0, h => by
    obtain rfl : M = c :: rest := by simpa using h
    simp
  | M :: LL, i + 1, h => by
    have ih := flat_set (LL := LL) (i := i) (by simpa using h)
    rw [List.set_cons_succ, List.flatten_cons, List.flatten_cons, List.length_append, List.length_append]
    omega
end
end Go.Proofs.Ytknkdehjgkjljaa.Ce
