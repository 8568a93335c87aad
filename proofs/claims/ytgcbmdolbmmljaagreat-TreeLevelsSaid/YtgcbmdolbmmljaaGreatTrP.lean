/- A tree as plain lists: memory, and levels of tables; put, flushed, cleaned; the newest of merged lists. Plain. -/
import Derived.Test.YtgcbmdolbmmljaaGreatMgPl
namespace Go.Proofs.YtgcbmdolbmmljaaGreat.Ce
open Go.RowKit

/-! the newest of merged lists: the newest of each, of like times the first list's -/
structure IsN (L : List Cl) (row col : ByteArray) (t : Int) (c : Cl) : Prop where
  mem : c ∈ L
  fit : fits row col t c
  top : ∀ d ∈ L, fits row col t d → d.at_ ≤ c.at_
theorem newest_isN {L : List Cl} (hs : Srt L) {row col : ByteArray} {t : Int} {c : Cl} : newest row col t L = some c ↔ IsN L row col t c := by
  constructor
  · intro h
    obtain ⟨h1, h2⟩ := nws_some h
    have h3 : newest c.row c.col t L = some c := by rw [h2.1, h2.2.1]; exact h
    have h4 := (newest_iff hs).1 h3
    exact ⟨h1, h2, fun d hd hf => h4.top d hd (hf.1.trans h2.1.symm) (hf.2.1.trans h2.2.1.symm) hf.2.2⟩
  · intro h
    have h3 := (newest_iff hs (c := c) (t := t)).2 ⟨h.mem, h.fit.2.2, fun d hd hr hc hle => h.top d hd ⟨hr.trans h.fit.1, hc.trans h.fit.2.1, hle⟩⟩
    rw [h.fit.1, h.fit.2.1] at h3
    exact h3
theorem tr_newest_none {L : List Cl} {row col : ByteArray} {t : Int} : newest row col t L = none ↔ ∀ d ∈ L, ¬ fits row col t d := by
  unfold newest
  rw [List.find?_eq_none]
  simp
def best : Option Cl → Option Cl → Option Cl
  | none, y => y
  | some c, none => some c
  | some c, some d => if c.at_ < d.at_ then some d else some c
theorem best_lt {c d : Cl} (h : c.at_ < d.at_) : best (some c) (some d) = some d := by simp [best, h]
theorem best_ge {c d : Cl} (h : ¬ c.at_ < d.at_) : best (some c) (some d) = some c := by simp [best, h]
theorem best_none (a : Option Cl) : best a none = a := by cases a <;> rfl
theorem fits_key {row col : ByteArray} {t : Int} {c d : Cl} (h : fits row col t c) (k : keq c d) : fits row col t d := ⟨k.1 ▸ h.1, k.2.1 ▸ h.2.1, k.2.2 ▸ h.2.2⟩
theorem newest_over {M acc : List Cl} (hM : Srt M) (ha : Srt acc) (row col : ByteArray) (t : Int) : newest row col t (over M acc) = best (newest row col t M) (newest row col t acc) := by
  have ho : Srt (over M acc) := srt_over ha
  have hm := fun x => mem_over (x := x) ha (srt_unl hM)
  cases h1 : newest row col t M with
  | none =>
    have n1 := tr_newest_none.1 h1
    cases h2 : newest row col t acc with
    | none =>
      have n2 := tr_newest_none.1 h2
      refine tr_newest_none.2 fun d hd => ?_
      rcases (hm d).1 hd with hd | ⟨hd, -⟩
      · exact n1 d hd
      · exact n2 d hd
    | some d =>
      have n2 := (newest_isN ha).1 h2
      refine (newest_isN ho).2 ⟨(hm d).2 (.inr ⟨n2.mem, fun c hc hk => n1 c hc (fits_key n2.fit hk)⟩), n2.fit, fun x hx hf => ?_⟩
      rcases (hm x).1 hx with hx | ⟨hx, -⟩
      · exact absurd hf (n1 x hx)
      · exact n2.top x hx hf
  | some c =>
    have n1 := (newest_isN hM).1 h1
    cases h2 : newest row col t acc with
    | none =>
      have n2 := tr_newest_none.1 h2
      refine (newest_isN ho).2 ⟨(hm c).2 (.inl n1.mem), n1.fit, fun x hx hf => ?_⟩
      rcases (hm x).1 hx with hx | ⟨hx, -⟩
      · exact n1.top x hx hf
      · exact absurd hf (n2 x hx)
    | some d =>
      have n2 := (newest_isN ha).1 h2
      by_cases hlt : c.at_ < d.at_
      · rw [best_lt hlt]
        refine (newest_isN ho).2 ⟨(hm d).2 (.inr ⟨n2.mem, fun m hmM hk => ?_⟩), n2.fit, fun x hx hf => ?_⟩
        · have := n1.top m hmM (fits_key n2.fit hk)
          have := hk.2.2
          omega
        · rcases (hm x).1 hx with hx | ⟨hx, -⟩
          · have := n1.top x hx hf; omega
          · exact n2.top x hx hf
      · rw [best_ge hlt]
        refine (newest_isN ho).2 ⟨(hm c).2 (.inl n1.mem), n1.fit, fun x hx hf => ?_⟩
        rcases (hm x).1 hx with hx | ⟨hx, -⟩
        · exact n1.top x hx hf
        · have := n2.top x hx hf; omega
theorem newest_all (row col : ByteArray) (t : Int) : ∀ {LL : List (List Cl)}, (∀ M ∈ LL, Srt M) → newest row col t (allP LL) = LL.foldr (fun M r => best (newest row col t M) r) none
  | [], _ => rfl
  | M :: LL, h => by
    rw [allP_cons, newest_over (h M (by simp)) (srt_all LL), newest_all row col t fun A hA => h A (by simp [hA])]
    rfl
theorem best_assoc (a b c : Option Cl) : best a (best b c) = best (best a b) c := by
  cases a with
  | none => rfl
  | some x => cases b with
    | none => rfl
    | some y => cases c with
      | none => rw [best_none, best_none]
      | some z =>
        by_cases h1 : y.at_ < z.at_
        · by_cases h2 : x.at_ < y.at_
          · rw [best_lt h1, best_lt h2, best_lt h1, best_lt (by omega)]
          · rw [best_lt h1, best_ge h2]
        · by_cases h2 : x.at_ < y.at_
          · rw [best_ge h1, best_lt h2, best_ge h1]
          · rw [best_ge h1, best_ge h2, best_ge (by omega)]
theorem asked_from (row col : ByteArray) (t : Int) : ∀ (X : List (List Cl)) (a : Option Cl), X.foldl (fun r M => best r (newest row col t M)) a = best a (X.foldr (fun M r => best (newest row col t M) r) none)
  | [], a => by rw [List.foldl_nil, List.foldr_nil, best_none]
  | M :: X, a => by rw [List.foldl_cons, asked_from row col t X, List.foldr_cons, best_assoc]
/-- asked one after the other, from the first on -/
theorem newest_asked (row col : ByteArray) (t : Int) {LL : List (List Cl)} (h : ∀ M ∈ LL, Srt M) : newest row col t (allP LL) = LL.foldl (fun r M => best r (newest row col t M)) none := by
  rw [newest_all row col t h]
  rw [asked_from]
  rfl

/-! a tree -/
structure Tr where
  mem : List Cl
  lv : List (List (List Cl))
def Tr.cells (t : Tr) : List Cl := allP (t.mem :: t.lv.flatten)
/-- all lists are in order, all cells right -/
structure Tr.ok (t : Tr) : Prop where
  mem : Srt t.mem
  tab : ∀ T ∈ t.lv, ∀ M ∈ T, Srt M
  okm : ∀ c ∈ t.mem, c.ok
  okt : ∀ T ∈ t.lv, ∀ M ∈ T, ∀ c ∈ M, c.ok
theorem Tr.ok.srt {t : Tr} (h : t.ok) : ∀ M ∈ t.mem :: t.lv.flatten, Srt M := fun M hM => by
  rcases List.mem_cons.1 hM with rfl | hM
  · exact h.mem
  · obtain ⟨T, hT, hM⟩ := List.mem_flatten.1 hM
    exact h.tab T hT M hM
theorem Tr.ok.all {t : Tr} (h : t.ok) : ∀ M ∈ t.mem :: t.lv.flatten, ∀ c ∈ M, c.ok := fun M hM => by
  rcases List.mem_cons.1 hM with rfl | hM
  · exact h.okm
  · obtain ⟨T, hT, hM⟩ := List.mem_flatten.1 hM
    exact h.okt T hT M hM
theorem over_put1 {M acc : List Cl} (hM : Srt M) (ha : Srt acc) (c : Cl) : over (put1 c M) acc = put1 c (over M acc) := by
  refine srt_ext (srt_over ha) (srt_put1 (srt_over ha)) fun x => ?_
  rw [mem_over ha (srt_unl (srt_put1 hM)), mem_put1_iff (srt_over ha), mem_over ha (srt_unl hM), mem_put1_iff hM]
  constructor
  · rintro ((rfl | ⟨h, hn⟩) | ⟨h, hn⟩)
    · exact .inl rfl
    · exact .inr ⟨.inl h, hn⟩
    · refine .inr ⟨.inr ⟨h, fun d hd hk => ?_⟩, hn c (mem_put1_self c M)⟩
      by_cases hdc : keq d c
      · exact hn c (mem_put1_self c M) (keq_trans hk hdc)
      · exact hn d (mem_put1_old hd hdc) hk
  · rintro (rfl | ⟨h | ⟨h, hn⟩, hc⟩)
    · exact .inl (.inl rfl)
    · exact .inl (.inr ⟨h, hc⟩)
    · refine .inr ⟨h, fun d hd => ?_⟩
      rcases mem_put1 hd with rfl | hd
      · exact hc
      · exact hn d hd
def Tr.put (t : Tr) (c : Cl) : Tr := ⟨put1 c t.mem, t.lv⟩
theorem tput_cells {t : Tr} (h : t.ok) (c : Cl) : (t.put c).cells = put1 c t.cells := by
  unfold Tr.cells Tr.put
  rw [allP_cons, allP_cons, over_put1 h.mem (srt_all _)]
theorem tput_ok {t : Tr} (h : t.ok) {c : Cl} (hc : c.ok) : (t.put c).ok := ⟨srt_put1 h.mem, h.tab, ok_put1 hc h.okm, h.okt⟩
/-- levels that have too many tables are merged into the next one -/
def casc (fan : Nat) : Nat → List (List (List Cl)) → List (List (List Cl))
  | 0, X => X
  | _ + 1, [] => []
  | _ + 1, [T] => if fan < T.length then [[], [allP T]] else [T]
  | n + 1, T :: U :: X => if fan < T.length then [] :: casc fan n ([allP (T ++ U)] :: X) else T :: casc fan n (U :: X)
theorem casc_all (fan : Nat) : ∀ (n : Nat) (X : List (List (List Cl))), (∀ T ∈ X, ∀ M ∈ T, Srt M) → (∀ T ∈ casc fan n X, ∀ M ∈ T, Srt M) ∧ allP (casc fan n X).flatten = allP X.flatten
  | 0, X, h => ⟨h, rfl⟩
  | _ + 1, [], h => ⟨h, rfl⟩
  | _ + 1, [T], h => by
    rw [casc]
    split
    · refine ⟨fun A hA M hM => ?_, ?_⟩
      · simp only [List.mem_cons, List.not_mem_nil, or_false] at hA
        rcases hA with rfl | rfl
        · cases hM
        · rw [List.mem_singleton.1 hM]
          exact srt_all T
      · simp only [List.flatten_cons, List.flatten_nil, List.nil_append, List.append_nil]
        exact all_one (srt_all T)
    · exact ⟨h, rfl⟩
  | n + 1, T :: U :: X, h => by
    have hT := h T (by simp)
    have hU := h U (by simp)
    have hTU : ∀ M ∈ T ++ U, Srt M := fun M hM => by
      rcases List.mem_append.1 hM with q | q
      · exact hT M q
      · exact hU M q
    rw [casc]
    split
    · obtain ⟨h1, h2⟩ := casc_all fan n ([allP (T ++ U)] :: X) fun A hA M hM => by
        rcases List.mem_cons.1 hA with rfl | hA
        · rw [List.mem_singleton.1 hM]; exact srt_all _
        · exact h A (by simp [hA]) M hM
      refine ⟨fun A hA M hM => ?_, ?_⟩
      · rcases List.mem_cons.1 hA with rfl | hA
        · cases hM
        · exact h1 A hA M hM
      · rw [List.flatten_cons, List.nil_append, h2, List.flatten_cons, List.flatten_cons, List.flatten_cons, List.singleton_append, allP_cons, ← all_app _ hTU, List.append_assoc]
    · obtain ⟨h1, h2⟩ := casc_all fan n (U :: X) fun A hA => h A (List.mem_cons_of_mem _ hA)
      refine ⟨fun A hA M hM => ?_, ?_⟩
      · rcases List.mem_cons.1 hA with rfl | hA
        · exact hT M hM
        · exact h1 A hA M hM
      · rw [List.flatten_cons, all_app _ hT, h2, ← all_app _ hT]
        rfl
theorem casc_ok (fan : Nat) : ∀ (n : Nat) (X : List (List (List Cl))), (∀ T ∈ X, ∀ M ∈ T, ∀ c ∈ M, c.ok) → ∀ T ∈ casc fan n X, ∀ M ∈ T, ∀ c ∈ M, c.ok
  | 0, X, h => h
  | _ + 1, [], h => h
  | _ + 1, [T], h => by
    rw [casc]
    split
    · intro A hA M hM
      simp only [List.mem_cons, List.not_mem_nil, or_false] at hA
      rcases hA with rfl | rfl
      · cases hM
      · rw [List.mem_singleton.1 hM]
        exact ok_all (h T (by simp))
    · exact h
  | n + 1, T :: U :: X, h => by
    rw [casc]
    split
    · have h1 := casc_ok fan n ([allP (T ++ U)] :: X) fun A hA M hM => by
        rcases List.mem_cons.1 hA with rfl | hA
        · rw [List.mem_singleton.1 hM]
          refine ok_all fun B hB => ?_
          rcases List.mem_append.1 hB with q | q
          · exact h T (by simp) B q
          · exact h U (by simp) B q
        · exact h A (by simp [hA]) M hM
      intro A hA M hM
      rcases List.mem_cons.1 hA with rfl | hA
      · cases hM
      · exact h1 A hA M hM
    · have h1 := casc_ok fan n (U :: X) fun A hA => h A (List.mem_cons_of_mem _ hA)
      intro A hA M hM
      rcases List.mem_cons.1 hA with rfl | hA
      · exact h A (by simp) M hM
      · exact h1 A hA M hM
/-- memory's cells become the first table of level 0 -/
def first0 (M : List Cl) (X : List (List (List Cl))) : List (List (List Cl)) := if M = [] then X else match X with | [] => [[M]] | T :: X => (M :: T) :: X
theorem first0_flat (M : List Cl) (X : List (List (List Cl))) : allP (first0 M X).flatten = allP (M :: X.flatten) := by
  unfold first0
  split
  · next h => rw [h]; rfl
  · cases X <;> rfl
def Tr.flush (fan : Nat) (t : Tr) : Tr := ⟨[], casc fan (first0 t.mem t.lv).length (first0 t.mem t.lv)⟩
theorem first0_srt {M : List Cl} {X : List (List (List Cl))} (hM : Srt M) (h : ∀ T ∈ X, ∀ A ∈ T, Srt A) : ∀ T ∈ first0 M X, ∀ A ∈ T, Srt A := by
  unfold first0
  split
  · exact h
  · intro T hT A hA
    cases X with
    | nil =>
      rw [List.mem_singleton.1 hT] at hA
      rw [List.mem_singleton.1 hA]
      exact hM
    | cons U X =>
      rcases List.mem_cons.1 hT with rfl | hT
      · rcases List.mem_cons.1 hA with rfl | hA
        · exact hM
        · exact h U (by simp) A hA
      · exact h T (by simp [hT]) A hA
theorem first0_ok {M : List Cl} {X : List (List (List Cl))} (hM : ∀ c ∈ M, c.ok) (h : ∀ T ∈ X, ∀ A ∈ T, ∀ c ∈ A, c.ok) : ∀ T ∈ first0 M X, ∀ A ∈ T, ∀ c ∈ A, c.ok := by
  unfold first0
  split
  · exact h
  · intro T hT A hA
    cases X with
    | nil =>
      rw [List.mem_singleton.1 hT] at hA
      rw [List.mem_singleton.1 hA]
      exact hM
    | cons U X =>
      rcases List.mem_cons.1 hT with rfl | hT
      · rcases List.mem_cons.1 hA with rfl | hA
        · exact hM
        · exact h U (by simp) A hA
      · exact h T (by simp [hT]) A hA
theorem flush_ok {t : Tr} (h : t.ok) (fan : Nat) : (t.flush fan).ok :=
  ⟨List.Pairwise.nil, (casc_all fan _ _ (first0_srt h.mem h.tab)).1, fun c hc => (by cases hc), casc_ok fan _ _ (first0_ok h.okm h.okt)⟩
/-- P14.4: however it was flushed -/
theorem flush_cells {t : Tr} (h : t.ok) (fan : Nat) : (t.flush fan).cells = t.cells := by
  unfold Tr.cells Tr.flush
  rw [allP_cons]
  show allP _ = _
  rw [(casc_all fan _ _ (first0_srt h.mem h.tab)).2, first0_flat]
/-- cleaned: one table, the only one of the last level -/
def oneAt (n : Nat) (L : List Cl) : List (List (List Cl)) := List.replicate (n - 1) [] ++ [if L = [] then [] else [L]]
def Tr.clean (u : Int) (t : Tr) : Tr := ⟨[], oneAt (if t.lv.length = 0 then 1 else t.lv.length) (cleanP u t.cells)⟩
theorem oneAt_flat (n : Nat) (L : List Cl) : (oneAt n L).flatten = if L = [] then [] else [L] := by
  unfold oneAt
  rw [List.flatten_append, List.flatten_replicate_nil, List.nil_append, List.flatten_cons, List.flatten_nil, List.append_nil]
theorem clean_cells (t : Tr) (u : Int) : (t.clean u).cells = cleanP u t.cells := by
  have hs : Srt (cleanP u t.cells) := srt_clean (srt_all _) u
  unfold Tr.clean
  generalize cleanP u t.cells = L at *
  unfold Tr.cells
  rw [allP_cons]
  show allP (oneAt _ L).flatten = L
  rw [oneAt_flat]
  split
  · next h => rw [h]; rfl
  · exact all_one hs
/-- what it tells at a time -/
theorem get_vis {L : List Cl} (hs : Srt L) {row col : ByteArray} {t : Int} {c : Cl} (h : newest row col t L = some c) : c ∈ visP t L ↔ c.gone = false := by
  rw [mem_vis hs]
  have h1 := nws_some h
  have h2 : newest c.row c.col t L = some c := by rw [h1.2.1, h1.2.2.1]; exact h
  exact ⟨fun q => q.2, fun q => ⟨(newest_iff hs).1 h2, q⟩⟩
end Go.Proofs.YtgcbmdolbmmljaaGreat.Ce
