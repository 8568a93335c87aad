/- Heaps as container/heap has them, over a function of places: what one step of down and of up does, that the first place is the least, that exchanges lose nothing. Plain. -/
import Derived.Test.YtknkdehjgkjljaaBase
namespace Go.Proofs.Ytknkdehjgkjljaa.Hp

variable {α : Type}
structure Ord (le : α → α → Prop) : Prop where
  tot : ∀ a b, le a b ∨ le b a
  tr : ∀ {a b c}, le a b → le b c → le a c
theorem Ord.self {le : α → α → Prop} (h : Ord le) (a : α) : le a a := (h.tot a a).elim id id
theorem Ord.of_not {le : α → α → Prop} (h : Ord le) {a b : α} (hn : ¬ le b a) : le a b := (h.tot a b).resolve_right hn
/-- two places exchanged -/
def swp (a : Nat → α) (i j : Nat) : Nat → α := fun k => if k = i then a j else if k = j then a i else a k
theorem swp_i (a : Nat → α) (i j : Nat) : swp a i j i = a j := by simp [swp]
theorem swp_j (a : Nat → α) (i j : Nat) : swp a i j j = a i := by
  unfold swp
  by_cases h : j = i
  · rw [if_pos h, h]
  · rw [if_neg h, if_pos rfl]
theorem swp_ne {a : Nat → α} {i j k : Nat} (h1 : k ≠ i) (h2 : k ≠ j) : swp a i j k = a k := by unfold swp; rw [if_neg h1, if_neg h2]
/-- from place lo on each of n is no greater than its children -/
def Heap (le : α → α → Prop) (a : Nat → α) (lo n : Nat) : Prop := ∀ c, 0 < c → c < n → lo ≤ (c - 1) / 2 → le (a ((c - 1) / 2)) (a c)
/-- the same but at i, whose parent is no greater than its children -/
structure Down (le : α → α → Prop) (a : Nat → α) (lo n i : Nat) : Prop where
  rest : ∀ c, 0 < c → c < n → lo ≤ (c - 1) / 2 → (c - 1) / 2 ≠ i → le (a ((c - 1) / 2)) (a c)
  over : ∀ c, 0 < c → c < n → (c - 1) / 2 = i → 0 < i → lo ≤ (i - 1) / 2 → le (a ((i - 1) / 2)) (a c)
/-- the same but above j -/
structure Up (le : α → α → Prop) (a : Nat → α) (n j : Nat) : Prop where
  rest : ∀ c, 0 < c → c < n → c ≠ j → le (a ((c - 1) / 2)) (a c)
  over : ∀ c, 0 < c → c < n → (c - 1) / 2 = j → 0 < j → le (a ((j - 1) / 2)) (a c)
section
variable {le : α → α → Prop} {a b : Nat → α} {lo n i j : Nat}
theorem Heap.none (le : α → α → Prop) (a : Nat → α) (n : Nat) : Heap le a (n / 2) n := fun c h1 h2 h3 => by omega
theorem Heap.down (h : Heap le a (i + 1) n) : Down le a i n i :=
  ⟨fun c h1 h2 h3 h4 => h c h1 h2 (by omega), fun c _ _ _ h4 h5 => by omega⟩
/-- the first place is another now -/
theorem Heap.first (h : Heap le a 0 n) (hab : ∀ k, 0 < k → k < n → b k = a k) : Down le b 0 n 0 :=
  ⟨fun c h1 h2 h3 h4 => by
    have := h c h1 h2 h3
    rwa [hab c h1 h2, hab ((c - 1) / 2) (by omega) (by omega)], fun c _ _ _ h4 => by omega⟩
theorem Heap.congr (h : Heap le a lo n) (hab : ∀ k, k < n → b k = a k) : Heap le b lo n := fun c h1 h2 h3 => by
  rw [hab c h2, hab _ (by omega)]
  exact h c h1 h2 h3
theorem Heap.less {m : Nat} (h : Heap le a lo n) (hm : m ≤ n) : Heap le a lo m := fun c h1 h2 h3 => h c h1 (by omega) h3
theorem Down.stop (h : Down le a lo n i) (hs : ∀ c, 0 < c → c < n → (c - 1) / 2 = i → le (a i) (a c)) : Heap le a lo n := fun c h1 h2 h3 => by
  by_cases e : (c - 1) / 2 = i
  · rw [e]
    exact hs c h1 h2 e
  · exact h.rest c h1 h2 h3 e
/-- one step down: j is the least child of i, and no greater than i -/
theorem Down.step (h : Down le a lo n i) (hlo : lo ≤ i) (h0 : 0 < j) (hp : (j - 1) / 2 = i) (hn : j < n) (hmin : ∀ c, 0 < c → c < n → (c - 1) / 2 = i → le (a j) (a c)) (hle : le (a j) (a i)) : Down le (swp a i j) lo n j := by
  refine ⟨fun c h1 h2 h3 h4 => ?_, fun c h1 h2 h3 _ _ => ?_⟩
  · by_cases e : (c - 1) / 2 = i
    · rw [e, swp_i]
      by_cases ej : c = j
      · subst ej
        rw [swp_j]
        exact hle
      · rw [swp_ne (by omega) ej]
        exact hmin c h1 h2 e
    · rw [swp_ne e h4]
      by_cases ei : c = i
      · subst ei
        rw [swp_i]
        exact h.over j h0 hn hp h1 h3
      · rw [swp_ne ei (by omega)]
        exact h.rest c h1 h2 h3 e
  · rw [hp, swp_i, swp_ne (by omega) (by omega), ← h3]
    exact h.rest c h1 h2 (by omega) (by omega)
/-- the least of one or two children -/
theorem min_one {k : Nat} (hO : Ord le) (hk : k = 2 * i + 1) (hn : n ≤ k + 1) : ∀ c, 0 < c → c < n → (c - 1) / 2 = i → le (a k) (a c) := fun c h1 h2 h3 => by
  obtain rfl : c = k := by omega
  exact hO.self _
theorem min_left (hO : Ord le) (h : le (a (2 * i + 1)) (a (2 * i + 2))) : ∀ c, 0 < c → c < n → (c - 1) / 2 = i → le (a (2 * i + 1)) (a c) := fun c h1 h2 h3 => by
  rcases (by omega : c = 2 * i + 1 ∨ c = 2 * i + 2) with rfl | rfl
  · exact hO.self _
  · exact h
theorem min_right (hO : Ord le) (h : le (a (2 * i + 2)) (a (2 * i + 1))) : ∀ c, 0 < c → c < n → (c - 1) / 2 = i → le (a (2 * i + 2)) (a c) := fun c h1 h2 h3 => by
  rcases (by omega : c = 2 * i + 1 ∨ c = 2 * i + 2) with rfl | rfl
  · exact h
  · exact hO.self _
/-- where the least child is no less than i -/
theorem stop_min {k : Nat} (hO : Ord le) (hmin : ∀ c, 0 < c → c < n → (c - 1) / 2 = i → le (a k) (a c)) (h : le (a i) (a k)) : ∀ c, 0 < c → c < n → (c - 1) / 2 = i → le (a i) (a c) := fun c h1 h2 h3 => hO.tr h (hmin c h1 h2 h3)
/-- one place more -/
theorem Heap.push (h : Heap le a 0 n) (hab : ∀ k, k < n → b k = a k) : Up le b (n + 1) n :=
  ⟨fun c h1 h2 h3 => by
    rw [hab c (by omega), hab _ (by omega)]
    exact h c h1 (by omega) (Nat.zero_le _), fun c h1 h2 h3 _ => by omega⟩
theorem Up.stop (h : Up le a n j) (hs : j = 0 ∨ le (a ((j - 1) / 2)) (a j)) : Heap le a 0 n := fun c h1 h2 _ => by
  by_cases e : c = j
  · subst e
    exact hs.resolve_left (by omega)
  · exact h.rest c h1 h2 e
theorem Up.step (hO : Ord le) (h : Up le a n j) (h0 : 0 < j) (hn : j < n) (hle : le (a j) (a ((j - 1) / 2))) : Up le (swp a ((j - 1) / 2) j) n ((j - 1) / 2) := by
  obtain ⟨i, hi⟩ : ∃ i, i = (j - 1) / 2 := ⟨_, rfl⟩
  rw [← hi] at hle ⊢
  have hij : i ≠ j := by omega
  refine ⟨fun c h1 h2 h3 => ?_, fun c h1 h2 h3 h4 => ?_⟩
  · by_cases ej : c = j
    · subst ej
      rw [← hi, swp_i, swp_j]
      exact hle
    · rw [swp_ne (k := c) h3 ej]
      by_cases ep : (c - 1) / 2 = i
      · rw [ep, swp_i]
        have := h.rest c h1 h2 ej
        rw [ep] at this
        exact hO.tr hle this
      · by_cases ep2 : (c - 1) / 2 = j
        · rw [ep2, swp_j]
          have := h.over c h1 h2 ep2 h0
          rwa [← hi] at this
        · rw [swp_ne ep ep2]
          exact h.rest c h1 h2 ej
  · have hpi := h.rest i h4 (by omega) hij
    rw [swp_ne (k := (i - 1) / 2) (by omega) (by omega)]
    by_cases ej : c = j
    · subst ej
      rw [swp_j]
      exact hpi
    · rw [swp_ne (by omega) ej]
      have := h.rest c h1 h2 ej
      rw [h3] at this
      exact hO.tr hpi this
/-- the first is the least -/
theorem Heap.top (hO : Ord le) (h : Heap le a 0 n) : ∀ c, c < n → le (a 0) (a c) := by
  intro c
  induction c using Nat.strongRecOn with
  | ind c ih =>
    intro hc
    rcases Nat.eq_zero_or_pos c with rfl | hp
    · exact hO.self _
    · exact hO.tr (ih ((c - 1) / 2) (by omega) (by omega)) (h c hp hc (Nat.zero_le _))
end
/-! exchanges lose nothing -/
theorem swp_map (a : Nat → α) (i j k : Nat) : swp a i j k = a (swp id i j k) := by
  unfold swp
  split
  · rfl
  · split <;> rfl
theorem swp_perm (a : Nat → α) {n i j : Nat} (hi : i < n) (hj : j < n) : ((List.range n).map (swp a i j)).Perm ((List.range n).map a) := by
  have h1 : (List.range n).map (swp a i j) = ((List.range n).map (swp id i j)).map a := by
    rw [List.map_map]
    exact List.map_congr_left fun k _ => swp_map a i j k
  rw [h1]
  refine List.Perm.map a ?_
  have hinj : ∀ x y, swp id i j x = swp id i j y → x = y := by
    intro x y
    unfold swp
    simp only [id]
    repeat' split
    all_goals omega
  refine (List.perm_ext_iff_of_nodup ?_ List.nodup_range).2 fun x => ?_
  · exact List.Pairwise.map (swp id i j) (fun x y h e => h (hinj x y e)) List.nodup_range
  · rw [List.mem_map, List.mem_range]
    constructor
    · rintro ⟨y, hy, rfl⟩
      rw [List.mem_range] at hy
      unfold swp
      simp only [id]
      repeat' split
      all_goals omega
    · intro hx
      refine ⟨swp id i j x, List.mem_range.2 ?_, ?_⟩
      · unfold swp
        simp only [id]
        repeat' split
        all_goals omega
      · unfold swp
        simp only [id]
        repeat' split
        all_goals omega
end Go.Proofs.Ytknkdehjgkjljaa.Hp
