/- Lists of cells in order: cells put in, in whatever order; two with the same cells are one. Plain. Merging as plain lists: lists of cells merged, cleaned, what is visible at a time. Plain. -/
import Derived.Test.YtcpkhhbbjimdaaaGreatDoorClA
namespace Go.Proofs.YtcpkhhbbjimdaaaGreatDoor.Ce
open Go.RowKit
theorem mem_put1_self (c : Cl) : ∀ L : List Cl, c ∈ put1 c L
 | [] => by simp [put1]
 | d :: r => by
  unfold put1
  split
  ·exact List.mem_cons_of_mem _ (mem_put1_self c r)
  ·split <;> simp
theorem mem_put1_old {c x : Cl} : ∀ {L : List Cl}, x ∈ L → ¬ keq x c → x ∈ put1 c L
 | d :: r, h, hn => by
  unfold put1
  rcases List.mem_cons.1 h with rfl | h
  ·split
   ·simp
   ·split
    ·rename_i h0
     exact absurd (ccmp_eq.1 h0) hn
    ·simp
  ·split
   ·exact List.mem_cons_of_mem _ (mem_put1_old h hn)
   ·split
    ·exact List.mem_cons_of_mem _ h
    ·exact List.mem_cons_of_mem _ (List.mem_cons_of_mem _ h)
def unl (a b : Cl) : Prop := ¬ keq a b
theorem srt_ext : ∀ {A C : List Cl}, Srt A → Srt C → (∀ x, x ∈ A ↔ x ∈ C) → A = C
 | [], [], _, _, _ => rfl
 | [], c :: C, _, _, h => by have := (h c).2 (by simp); cases this
 | a :: A, [], _, _, h => by have := (h a).1 (by simp); cases this
 | a :: A, c :: C, hA, hC, h => by
  obtain ⟨a1, a2⟩ := List.pairwise_cons.1 hA
  obtain ⟨c1, c2⟩ := List.pairwise_cons.1 hC
  have e : a = c := by
   rcases List.mem_cons.1 ((h a).1 (by simp)) with e | ha
   ·exact e
   ·rcases List.mem_cons.1 ((h c).2 (by simp)) with e | hc
    ·exact e.symm
    ·exact absurd (klt_trans (a1 c hc) (c1 a ha)) (klt_irrefl _)
  subst e
  rw [srt_ext a2 c2 fun x => ?_]
  constructor
  ·intro hx
   rcases List.mem_cons.1 ((h x).1 (by simp [hx])) with e | q
   ·subst e; exact absurd (a1 x hx) (klt_irrefl _)
   ·exact q
  ·intro hx
   rcases List.mem_cons.1 ((h x).2 (by simp [hx])) with e | q
   ·subst e; exact absurd (c1 x hx) (klt_irrefl _)
   ·exact q
end Go.Proofs.YtcpkhhbbjimdaaaGreatDoor.Ce
namespace Go.Proofs.YtcpkhhbbjimdaaaGreatDoor.Ce
open Go.RowKit
def over (M acc : List Cl) : List Cl := M.foldl (fun s c => put1 c s) acc
def allP (LL : List (List Cl)) : List Cl := LL.foldr over []
theorem allP_cons (M : List Cl) (LL : List (List Cl)) : allP (M :: LL) = over M (allP LL) := rfl
theorem srt_over {M acc : List Cl} (h : Srt acc) : Srt (over M acc) := by
 unfold over
 induction M generalizing acc with
 | nil => exact h
 | cons c M ih => exact ih (srt_put1 h)
theorem ok_over {M acc : List Cl} (h : ∀ c ∈ acc, c.ok) (hM : ∀ c ∈ M, c.ok) : ∀ c ∈ over M acc, c.ok := by
 unfold over
 induction M generalizing acc with
 | nil => exact h
 | cons c M ih => exact ih (ok_put1 (hM c (by simp)) h) (fun d hd => hM d (by simp [hd]))
theorem mem_put1_iff {c x : Cl} {L : List Cl} (hL : Srt L) : x ∈ put1 c L ↔ x = c ∨ (x ∈ L ∧ ¬ keq x c) := by
 constructor
 ·intro h
  rcases mem_put1 h with e | h2
  ·exact .inl e
  ·by_cases hk : keq x c
   ·left
    have hs := srt_put1 (c := c) hL
    have hc := mem_put1_self c L
    obtain ⟨i, hi⟩ := List.getElem?_of_mem h
    obtain ⟨j, hj⟩ := List.getElem?_of_mem hc
    rcases Nat.lt_trichotomy i j with e | e | e
    ·exact absurd hk (klt_neq (srt_at hs e hi hj))
    ·subst e
     rw [hi] at hj
     exact Option.some.inj hj
    ·exact absurd (keq_symm hk) (klt_neq (srt_at hs e hj hi))
   ·exact .inr ⟨h2, hk⟩
 ·rintro (rfl | ⟨h, hn⟩)
  ·exact mem_put1_self x L
  ·exact mem_put1_old h hn
theorem mem_over {x : Cl} : ∀ {M acc : List Cl}, Srt acc → M.Pairwise unl → (x ∈ over M acc ↔ x ∈ M ∨ (x ∈ acc ∧ ∀ c ∈ M, ¬ keq x c))
 | [], acc, _, _ => by simp [over]
 | c :: M, acc, hs, hp => by
  obtain ⟨h1, h2⟩ := List.pairwise_cons.1 hp
  have ih := mem_over (x := x) (M := M) (acc := put1 c acc) (srt_put1 hs) h2
  rw [show over (c :: M) acc = over M (put1 c acc) from rfl, ih, mem_put1_iff hs]
  constructor
  ·rintro (h | ⟨rfl | ⟨h, hn⟩, hM⟩)
   ·exact .inl (by simp [h])
   ·exact .inl (by simp)
   ·refine .inr ⟨h, fun d hd => ?_⟩
    rcases List.mem_cons.1 hd with rfl | hd
    ·exact hn
    ·exact hM d hd
  ·rintro (h | ⟨h, hn⟩)
   ·rcases List.mem_cons.1 h with rfl | h
    ·exact .inr ⟨.inl rfl, h1⟩
    ·exact .inl h
   ·exact .inr ⟨.inr ⟨h, hn c (by simp)⟩, fun d hd => hn d (by simp [hd])⟩
theorem srt_filter0 {L : List Cl} (h : Srt L) (p : Cl → Bool) : Srt (L.filter p) := h.sublist List.filter_sublist
theorem srt_unl {L : List Cl} (h : Srt L) : L.Pairwise unl := List.Pairwise.imp (fun h => klt_neq h) h
def first (LL : List (List Cl)) (x : Cl) : Prop := ∃ (i : Nat) (M : List Cl), LL[i]? = some M ∧ x ∈ M ∧ ∀ (j : Nat) (A : List Cl), j < i → LL[j]? = some A → ∀ c ∈ A, ¬ keq x c
theorem srt_all (LL : List (List Cl)) : Srt (allP LL) := by
 induction LL with
 | nil => exact List.Pairwise.nil
 | cons M LL ih => exact srt_over ih
theorem ok_all {LL : List (List Cl)} (h : ∀ M ∈ LL, ∀ c ∈ M, c.ok) : ∀ c ∈ allP LL, c.ok := by
 induction LL with
 | nil => intro c hc; cases hc
 | cons M LL ih => exact ok_over (ih fun A hA => h A (by simp [hA])) (h M (by simp))
theorem mem_all {x : Cl} : ∀ {LL : List (List Cl)}, (∀ M ∈ LL, Srt M) → (x ∈ allP LL ↔ first LL x)
 | [], _ => by
  constructor
  ·intro h; cases h
  ·rintro ⟨i, M, h, -⟩; simp at h
 | M :: LL, hs => by
  rw [allP_cons, mem_over (srt_all LL) (srt_unl (hs M (by simp))), mem_all fun A hA => hs A (by simp [hA])]
  constructor
  ·rintro (h | ⟨⟨i, A, h1, h2, h3⟩, hn⟩)
   ·exact ⟨0, M, rfl, h, fun j A hj => by omega⟩
   ·refine ⟨i + 1, A, h1, h2, fun j C hj hC => ?_⟩
    cases j with
    | zero =>
     obtain rfl : M = C := by simpa using hC
     exact hn
    | succ j => exact h3 j C (by omega) (by simpa using hC)
  ·rintro ⟨i, A, h1, h2, h3⟩
   cases i with
   | zero =>
    obtain rfl : M = A := by simpa using h1
    exact .inl h2
   | succ i => exact .inr ⟨⟨i, A, by simpa using h1, h2, fun j C hj hC => h3 (j + 1) C (by omega) (by simpa using hC)⟩, h3 0 M (by omega) rfl⟩
theorem all_of {LL : List (List Cl)} {L : List Cl} (hs : ∀ M ∈ LL, Srt M) (hL : Srt L) (h : ∀ x, x ∈ L ↔ first LL x) : L = allP LL :=
 srt_ext hL (srt_all LL) fun x => by rw [mem_all hs, h x]
theorem over_nil {L : List Cl} (h : Srt L) : over L [] = L := srt_ext (srt_over List.Pairwise.nil) h fun x => by
 rw [mem_over List.Pairwise.nil (srt_unl h)]
 simp
theorem all_one {L : List Cl} (h : Srt L) : allP [L] = L := over_nil h
theorem srt_key {L : List Cl} (h : Srt L) {c d : Cl} (hc : c ∈ L) (hd : d ∈ L) (hk : keq c d) : c = d := by
 obtain ⟨i, hi⟩ := List.getElem?_of_mem hc
 obtain ⟨j, hj⟩ := List.getElem?_of_mem hd
 rcases Nat.lt_trichotomy i j with e | e | e
 ·exact absurd hk (klt_neq (srt_at h e hi hj))
 ·subst e
  rw [hi] at hj
  exact Option.some.inj hj
 ·exact absurd (keq_symm hk) (klt_neq (srt_at h e hj hi))
theorem over_over {A C : List Cl} (hA : Srt A) (hC : Srt C) : ∀ {acc : List Cl}, Srt acc → over A (over C acc) = over (over A C) acc := fun {acc} hacc => by
 refine srt_ext (srt_over (srt_over hacc)) (srt_over hacc) fun x => ?_
 rw [mem_over (srt_over hacc) (srt_unl hA), mem_over hacc (srt_unl hC), mem_over hacc (srt_unl (srt_over hC)), mem_over hC (srt_unl hA)]
 constructor
 ·rintro (h | ⟨h | ⟨h, hn⟩, hm⟩)
  ·exact .inl (.inl h)
  ·exact .inl (.inr ⟨h, hm⟩)
  ·refine .inr ⟨h, fun c hc => ?_⟩
   rcases (mem_over hC (srt_unl hA)).1 hc with hc | ⟨hc, -⟩
   ·exact hm c hc
   ·exact hn c hc
 ·rintro ((h | ⟨h, hm⟩) | ⟨h, hn⟩)
  ·exact .inl h
  ·exact .inr ⟨.inl h, hm⟩
  ·have h1 : ∀ c ∈ A, ¬ keq x c := fun c hc => hn c ((mem_over hC (srt_unl hA)).2 (.inl hc))
   refine .inr ⟨.inr ⟨h, fun c hc hk => ?_⟩, h1⟩
   by_cases hx : ∃ d ∈ A, keq c d
   ·obtain ⟨d, hd, hcd⟩ := hx
    exact h1 d hd (keq_trans hk hcd)
   ·exact hn c ((mem_over hC (srt_unl hA)).2 (.inr ⟨hc, fun d hd hcd => hx ⟨d, hd, hcd⟩⟩)) hk
theorem all_app : ∀ {A : List (List Cl)} (C : List (List Cl)), (∀ M ∈ A, Srt M) → allP (A ++ C) = over (allP A) (allP C)
 | [], C, _ => rfl
 | M :: A, C, h => by
  rw [List.cons_append, allP_cons, all_app C (fun X hX => h X (by simp [hX])), allP_cons, over_over (h M (by simp)) (srt_all A) (srt_all C)]
def notKey (c x : Cl) : Bool := !decide (ccmp x c = 0)
theorem notKey_iff {c x : Cl} : notKey c x = true ↔ ¬ keq x c := by
 unfold notKey
 rw [Bool.not_eq_true', decide_eq_false_iff_not, ccmp_eq]
structure Least (LL : List (List Cl)) (i : Nat) (c : Cl) (rest : List Cl) : Prop where
 at_ : LL[i]? = some (c :: rest)
 le : ∀ (j : Nat) (d : Cl) (r : List Cl), LL[j]? = some (d :: r) → klt c d ∨ (keq c d ∧ i ≤ j)
theorem srt_head {d : Cl} {r : List Cl} (h : Srt (d :: r)) {x : Cl} (hx : x ∈ d :: r) : x = d ∨ klt d x := by
 rcases List.mem_cons.1 hx with rfl | hx
 ·exact .inl rfl
 ·exact .inr ((List.pairwise_cons.1 h).1 x hx)
theorem Least.ahead {LL : List (List Cl)} {i : Nat} {c : Cl} {rest : List Cl} (h : Least LL i c rest) (hs : ∀ M ∈ LL, Srt M) {j : Nat} {A : List Cl} (hA : LL[j]? = some A) {x : Cl} (hx : x ∈ A) : klt c x ∨ (keq c x ∧ i ≤ j) := by
 cases A with
 | nil => cases hx
 | cons d r =>
  rcases srt_head (hs _ (List.mem_of_getElem? hA)) hx with rfl | hdx
  ·exact h.le j _ r hA
  ·rcases h.le j d r hA with h1 | ⟨h1, -⟩
   ·exact .inl (klt_trans h1 hdx)
   ·exact .inl (eq_klt h1 hdx)
theorem all_pop {LL : List (List Cl)} {i : Nat} {c : Cl} {rest : List Cl} (h : Least LL i c rest) (hs : ∀ M ∈ LL, Srt M) : allP LL = c :: (allP (LL.set i rest)).filter (notKey c) := by
 have hil := (List.getElem?_eq_some_iff.1 h.at_).1
 have hsi := hs _ (List.mem_of_getElem? h.at_)
 have hset : ∀ (j : Nat) (A : List Cl), (LL.set i rest)[j]? = some A → (j = i ∧ A = rest) ∨ (j ≠ i ∧ LL[j]? = some A) := fun j A hA => by
  by_cases e : i = j
  ·subst e
   rw [List.getElem?_set_self hil] at hA
   exact .inl ⟨rfl, (Option.some.inj hA).symm⟩
  ·rw [List.getElem?_set_ne e] at hA
   exact .inr ⟨fun q => e q.symm, hA⟩
 have hs' : ∀ M ∈ LL.set i rest, Srt M := fun M hM => by
  obtain ⟨j, hj⟩ := List.getElem?_of_mem hM
  rcases hset j M hj with ⟨-, rfl⟩ | ⟨-, hj⟩
  ·exact (List.pairwise_cons.1 hsi).2
  ·exact hs M (List.mem_of_getElem? hj)
 refine (all_of hs ?_ fun x => ?_).symm
 ·refine List.pairwise_cons.2 ⟨fun x hx => ?_, srt_filter0 (srt_all _) _⟩
  obtain ⟨h1, h2⟩ := List.mem_filter.1 hx
  obtain ⟨j, A, hj, hxA, -⟩ := (mem_all hs').1 h1
  have hn := notKey_iff.1 h2
  have : ∃ A', LL[j]? = some A' ∧ x ∈ A' := by
   rcases hset j A hj with ⟨rfl, rfl⟩ | ⟨-, hj⟩
   ·exact ⟨_, h.at_, by simp [hxA]⟩
   ·exact ⟨A, hj, hxA⟩
  obtain ⟨A', hA', hxA'⟩ := this
  rcases h.ahead hs hA' hxA' with q | ⟨q, -⟩
  ·exact q
  ·exact absurd (keq_symm q) hn
 ·rw [List.mem_cons, List.mem_filter, mem_all hs', notKey_iff]
  constructor
  ·rintro (rfl | ⟨⟨j, A, hj, hxA, hfx⟩, hn⟩)
   ·refine ⟨i, _, h.at_, by simp, fun j A hji hA d hd hk => ?_⟩
    rcases h.ahead hs hA hd with q | ⟨-, q⟩
    ·exact klt_neq q hk
    ·omega
   ·rcases hset j A hj with ⟨rfl, rfl⟩ | ⟨hne, hj'⟩
    ·refine ⟨j, _, h.at_, by simp [hxA], fun k B hk hB => hfx k B hk ?_⟩
     rw [List.getElem?_set_ne (by omega)]
     exact hB
    ·refine ⟨j, A, hj', hxA, fun k B hk hB d hd => ?_⟩
     by_cases e : i = k
     ·subst e
      rw [h.at_] at hB
      obtain rfl : c :: rest = B := Option.some.inj hB
      rcases List.mem_cons.1 hd with rfl | hd
      ·exact hn
      ·exact hfx i rest hk (List.getElem?_set_self hil) d hd
     ·exact hfx k B hk (by rw [List.getElem?_set_ne e]; exact hB) d hd
  ·rintro ⟨j, A, hj, hxA, hfx⟩
   by_cases hk : keq x c
   ·left
    rcases h.ahead hs hj hxA with q | ⟨q, hij⟩
    ·exact absurd (keq_symm hk) (klt_neq q)
    ·rcases Nat.eq_or_lt_of_le hij with e | e
     ·subst e
      rw [h.at_] at hj
      obtain rfl : c :: rest = A := Option.some.inj hj
      exact srt_key hsi hxA (by simp) hk
     ·exact absurd hk (hfx i _ e h.at_ c (by simp))
   ·right
    refine ⟨?_, hk⟩
    by_cases e : i = j
    ·subst e
     rw [h.at_] at hj
     obtain rfl : c :: rest = A := Option.some.inj hj
     have hxr : x ∈ rest := by
      rcases List.mem_cons.1 hxA with rfl | q
      ·exact absurd ⟨rfl, rfl, rfl⟩ hk
      ·exact q
     refine ⟨i, rest, List.getElem?_set_self hil, hxr, fun k B hki hB => hfx k B hki ?_⟩
     rwa [List.getElem?_set_ne (by omega)] at hB
    ·refine ⟨j, A, by rw [List.getElem?_set_ne e]; exact hj, hxA, fun k B hkj hB d hd => ?_⟩
     rcases hset k B hB with ⟨rfl, rfl⟩ | ⟨-, hB'⟩
     ·exact hfx k _ hkj h.at_ d (by simp [hd])
     ·exact hfx k B hkj hB' d hd
theorem all_done {LL : List (List Cl)} (h : ∀ M ∈ LL, M = []) : allP LL = [] := by
 induction LL with
 | nil => rfl
 | cons M LL ih =>
  rw [allP_cons, h M (by simp), ih fun A hA => h A (by simp [hA])]
  rfl
structure isNew (L : List Cl) (c : Cl) (t : Int) : Prop where
 mem : c ∈ L
 le : c.at_ ≤ t
 top : ∀ d ∈ L, d.row = c.row → d.col = c.col → d.at_ ≤ t → d.at_ ≤ c.at_
theorem nws_some {row col : ByteArray} {t : Int} {L : List Cl} {c : Cl} (h : newest row col t L = some c) : c ∈ L ∧ fits row col t c := by
 unfold newest at h
 have h2 := List.find?_some h
 exact ⟨List.mem_of_find?_eq_some h, of_decide_eq_true h2⟩
theorem newest_iff {L : List Cl} (hs : Srt L) {c : Cl} {t : Int} : newest c.row c.col t L = some c ↔ isNew L c t := by
 constructor
 ·intro h
  obtain ⟨h1, h2⟩ := nws_some h
  refine ⟨h1, h2.2.2, fun d hd hr hc hle => ?_⟩
  unfold newest at h
  obtain ⟨-, l1, l2, e, hn⟩ := List.find?_eq_some_iff_append.1 h
  have hfd : fits c.row c.col t d := ⟨hr, hc, hle⟩
  subst e
  rcases List.mem_append.1 hd with hd | hd
  ·have := hn d hd
   simp [hfd] at this
  ·rcases List.mem_cons.1 hd with rfl | hd
   ·omega
   ·have hlt := (List.pairwise_cons.1 (List.pairwise_append.1 hs).2.1).1 d hd
    rcases hlt with hlt | ⟨-, hlt | ⟨-, hlt⟩⟩
    ·rw [hr] at hlt; exact absurd hlt (List.lt_irrefl _)
    ·rw [hc] at hlt; exact absurd hlt (List.lt_irrefl _)
    ·omega
 ·intro h
  have hf : fits c.row c.col t c := ⟨rfl, rfl, h.le⟩
  cases hx : newest c.row c.col t L with
  | none =>
   unfold newest at hx
   rw [List.find?_eq_none] at hx
   exact absurd (decide_eq_true hf) (hx c h.mem)
  | some d =>
   have ⟨h1, h2⟩ := nws_some hx
   have h3 := h.top d h1 h2.1 h2.2.1 h2.2.2
   have hd : newest d.row d.col t L = some d := by rw [h2.1, h2.2.1]; exact hx
   congr 1
   have h4 : c.at_ ≤ d.at_ := by
    unfold newest at hd
    obtain ⟨-, l1, l2, e, hn⟩ := List.find?_eq_some_iff_append.1 hd
    have hm := h.mem
    subst e
    rcases List.mem_append.1 hm with hm | hm
    ·have := hn c hm
     simp [show fits d.row d.col t c from ⟨h2.1.symm, h2.2.1.symm, h.le⟩] at this
    ·rcases List.mem_cons.1 hm with rfl | hm
     ·omega
     ·have hlt := (List.pairwise_cons.1 (List.pairwise_append.1 hs).2.1).1 c hm
      rcases hlt with hlt | ⟨-, hlt | ⟨-, hlt⟩⟩
      ·rw [h2.1] at hlt; exact absurd hlt (List.lt_irrefl _)
      ·rw [h2.2.1] at hlt; exact absurd hlt (List.lt_irrefl _)
      ·omega
   exact srt_key hs h1 h.mem ⟨h2.1, h2.2.1, by omega⟩
def isNewB (L : List Cl) (t : Int) (c : Cl) : Bool := newest c.row c.col t L == some c
def visP (t : Int) (L : List Cl) : List Cl := L.filter fun c => isNewB L t c && !c.gone
theorem isNewB_iff {L : List Cl} (hs : Srt L) {c : Cl} {t : Int} : isNewB L t c = true ↔ isNew L c t := by
 unfold isNewB
 rw [beq_iff_eq, newest_iff hs]
def inS (fr to : ByteArray) (c : Cl) : Bool := decide (¬ c.row.data.toList < fr.data.toList) && (decide (to.size = 0) || decide (c.row.data.toList < to.data.toList))
def someP (fr to : ByteArray) (t : Int) (L : List Cl) : List Cl := (visP t L).filter (inS fr to)
theorem scmp_nlt {a b : List UInt8} : 0 ≤ scmp a b ↔ ¬ a < b := by
 rcases scmp_cases a b with ⟨h, k⟩ | ⟨h, k⟩ | ⟨h, k⟩
 ·rw [h]; exact ⟨fun h => by omega, fun h => absurd k h⟩
 ·rw [h]; exact ⟨fun _ => by rw [k]; exact List.lt_irrefl _, fun _ => by omega⟩
 ·rw [h]; exact ⟨fun _ q => List.lt_irrefl _ (List.lt_trans k q), fun _ => by omega⟩
theorem scmp_ltI {a b : List UInt8} : scmp a b < 0 ↔ a < b := by
 rcases scmp_cases a b with ⟨h, k⟩ | ⟨h, k⟩ | ⟨h, k⟩
 ·rw [h]; exact ⟨fun _ => k, fun _ => by omega⟩
 ·rw [h]; exact ⟨fun h => by omega, fun q => by rw [k] at q; exact absurd q (List.lt_irrefl _)⟩
 ·rw [h]; exact ⟨fun h => by omega, fun q => absurd (List.lt_trans k q) (List.lt_irrefl _)⟩
theorem empty_iff {to : ByteArray} : to = ⟨#[]⟩ ↔ to.size = 0 := by
 constructor
 ·rintro rfl; rfl
 ·intro h
  cases to with
  | mk d =>
   have : d.size = 0 := h
   have : d = #[] := Array.eq_empty_of_size_eq_zero this
   rw [this]
end Go.Proofs.YtcpkhhbbjimdaaaGreatDoor.Ce
