/- Trees: one put more, plainly; what the exported functions of package tree promise, as one structure of contracts. Trees, plainly: what a tree's levels keep, flushed step by step; how many cells one put more makes; cells that are few stay few. A tree flushed, plainly: what the steps ask. A tree in memory: its tables, its levels, its memory; which of its blocks may turn. A tree's lists, few and in order. A tree that is turned: what is stored into it. A tree's levels: grown; a level made of cells; what Levels answers. -/
import Derived.Test.YtcpkhhbbjimdaaaGreatDoorMgR
import Derived.Test.YtcpkhhbbjimdaaaGreatDoorMemA
import Derived.Test.YtcpkhhbbjimdaaaGreatDoorBkA
import Derived.Test.YtcpkhhbbjimdaaaGreatDoorTabE
import Derived.Test.YtcpkhhbbjimdaaaGreatDoorTmC
set_option maxHeartbeats 8000000
set_option maxRecDepth 100000
namespace Go.Proofs.YtcpkhhbbjimdaaaGreatDoor.Ce
open Go.RowKit
theorem P_over {P : Cl → Prop} {M acc : List Cl} (h : ∀ c ∈ acc, P c) (hM : ∀ c ∈ M, P c) : ∀ c ∈ over M acc, P c := by
 unfold over
 induction M generalizing acc with
 | nil => exact h
 | cons c M ih =>
  refine ih (fun d hd => ?_) (fun d hd => hM d (by simp [hd]))
  rcases mem_put1 hd with rfl | hd
  ·exact hM d (by simp)
  ·exact h d hd
theorem P_all {P : Cl → Prop} {LL : List (List Cl)} (h : ∀ M ∈ LL, ∀ c ∈ M, P c) : ∀ c ∈ allP LL, P c := by
 induction LL with
 | nil => intro c hc; cases hc
 | cons M LL ih => exact P_over (ih fun A hA => h A (by simp [hA])) (h M (by simp))
theorem P_casc {P : Cl → Prop} (fan : Nat) : ∀ (n : Nat) (X : List (List (List Cl))), (∀ T ∈ X, ∀ M ∈ T, ∀ c ∈ M, P c) → ∀ T ∈ casc fan n X, ∀ M ∈ T, ∀ c ∈ M, P c
 | 0, X, h => h
 | _ + 1, [], h => h
 | _ + 1, [T], h => by
  rw [casc]
  split
  ·intro A hA M hM
   simp only [List.mem_cons, List.not_mem_nil, or_false] at hA
   rcases hA with rfl | rfl
   ·cases hM
   ·rw [List.mem_singleton.1 hM]
    exact P_all (h T (by simp))
  ·exact h
 | n + 1, T :: U :: X, h => by
  rw [casc]
  split
  ·have h1 := P_casc (P := P) fan n ([allP (T ++ U)] :: X) fun A hA M hM => by
    rcases List.mem_cons.1 hA with rfl | hA
    ·rw [List.mem_singleton.1 hM]
     refine P_all (P := P) (fun B hB => ?_)
     rcases List.mem_append.1 hB with q | q
     ·exact h T (by simp) B q
     ·exact h U (by simp) B q
    ·exact h A (by simp [hA]) M hM
   intro A hA M hM
   rcases List.mem_cons.1 hA with rfl | hA
   ·cases hM
   ·exact h1 A hA M hM
  ·have h1 := P_casc (P := P) fan n (U :: X) fun A hA => h A (List.mem_cons_of_mem _ hA)
   intro A hA M hM
   rcases List.mem_cons.1 hA with rfl | hA
   ·exact h A (by simp) M hM
   ·exact h1 A hA M hM
theorem P_first0 {P : Cl → Prop} {M : List Cl} {X : List (List (List Cl))} (hM : ∀ c ∈ M, P c) (h : ∀ T ∈ X, ∀ A ∈ T, ∀ c ∈ A, P c) : ∀ T ∈ first0 M X, ∀ A ∈ T, ∀ c ∈ A, P c := by
 unfold first0
 split
 ·exact h
 ·intro T hT A hA
  cases X with
  | nil =>
   rw [List.mem_singleton.1 hT] at hA
   rw [List.mem_singleton.1 hA]
   exact hM
  | cons U X =>
   rcases List.mem_cons.1 hT with rfl | hT
   ·rcases List.mem_cons.1 hA with rfl | hA
    ·exact hM
    ·exact h U (by simp) A hA
   ·exact h T (by simp [hT]) A hA
structure Tr.inK (t : Tr) (K : List Cl) : Prop where
 m : ∀ c ∈ t.mem, c ∈ K
 l : ∀ T ∈ t.lv, ∀ M ∈ T, ∀ c ∈ M, c ∈ K
structure FitsK (K : List Cl) : Prop where
 n : K.length ≤ 1000
 b : szs K ≤ 50000
 o : K.length ≤ 105 ∨ szs K ≤ 10000
theorem fits_nil : FitsK [] := ⟨by simp, by simp [szs], .inl (by simp)⟩
def Tr.empty : Tr := ⟨[], []⟩
theorem Tr.empty_ok : Tr.empty.ok := ⟨List.Pairwise.nil, fun T h => (by cases h), fun c h => (by cases h), fun T h => (by cases h)⟩
theorem Tr.empty_in : Tr.empty.inK [] := ⟨fun c h => (by cases h), fun T h => (by cases h)⟩
def Tr.step (s : Sf) (t : Tr) (c : Cl) : Tr := if s.mem ≤ szs (t.put c).mem then (t.put c).flush s.fan.toNat else t.put c
def Tr.after (s : Sf) (t : Tr) (c : Cl) : Tr := if c.ok then (if (put1 c t.cells).length ≤ 400 then t.step s c else t) else t
def Tr.code (t : Tr) (c : Cl) : Int := if c.ok then (if (put1 c t.cells).length ≤ 400 then 0 else 4) else 1
section
variable {s : Sf} {t : Tr} {c : Cl} {K : List Cl}
theorem inK_flush (h : t.inK K) (fan : Nat) : (t.flush fan).inK K := ⟨fun c hc => (by cases hc), P_casc fan _ _ (P_first0 h.m h.l)⟩
theorem inK_more (h : t.inK K) (c : Cl) : t.inK (c :: K) := ⟨fun d hd => by simp [h.m d hd], fun T hT M hM d hd => by simp [h.l T hT M hM d hd]⟩
theorem inK_put (h : t.inK K) (c : Cl) : (t.put c).inK (c :: K) := by
 refine ⟨fun d hd => ?_, fun T hT M hM d hd => by simp [h.l T hT M hM d hd]⟩
 rcases mem_put1 hd with rfl | hd
 ·simp
 ·simp [h.m d hd]
theorem step_ok (h : t.ok) (hc : c.ok) (s : Sf) : (t.step s c).ok := by
 unfold Tr.step
 split
 ·exact flush_ok (tput_ok h hc) _
 ·exact tput_ok h hc
theorem step_cells (h : t.ok) (hc : c.ok) (s : Sf) : (t.step s c).cells = put1 c t.cells := by
 unfold Tr.step
 split
 ·rw [flush_cells (tput_ok h hc), tput_cells h]
 ·rw [tput_cells h]
theorem step_in (h : t.inK K) (s : Sf) (c : Cl) : (t.step s c).inK (c :: K) := by
 unfold Tr.step
 split
 ·exact inK_flush (inK_put h c) _
 ·exact inK_put h c
theorem after_ok (h : t.ok) (s : Sf) (c : Cl) : (t.after s c).ok := by
 unfold Tr.after
 split
 ·split
  ·exact step_ok h (by assumption) s
  ·exact h
 ·exact h
theorem after_in (h : t.inK K) (s : Sf) (c : Cl) : (t.after s c).inK (c :: K) := by
 unfold Tr.after
 split
 ·split
  ·exact step_in h s c
  ·exact inK_more h c
 ·exact inK_more h c
theorem after_put (h : t.ok) (hc : c.ok) (hl : (put1 c t.cells).length ≤ 400) (s : Sf) : (t.after s c).cells = put1 c t.cells ∧ t.code c = 0 := by
 unfold Tr.after Tr.code
 rw [if_pos hc, if_pos hl, if_pos hc, if_pos hl]
 exact ⟨step_cells h hc s, rfl⟩
theorem after_full (hc : c.ok) (hl : ¬ (put1 c t.cells).length ≤ 400) (s : Sf) : t.after s c = t ∧ t.code c = 4 := by
 unfold Tr.after Tr.code
 rw [if_pos hc, if_neg hl, if_pos hc, if_neg hl]
 exact ⟨rfl, rfl⟩
theorem after_no (hc : ¬ c.ok) (s : Sf) : t.after s c = t ∧ t.code c = 1 := by
 unfold Tr.after Tr.code
 rw [if_neg hc, if_neg hc]
 exact ⟨rfl, rfl⟩
theorem szs_ok (hc : c.ok) : ((cellB c).length : Int) ≤ 401 := by
 rw [cellB_len]
 have h1 := hc.r2
 have h2 := hc.c2
 have h3 := hc.v
 omega
theorem fits_snoc (_ : FitsK K) (hc : c.ok) (hK : K.length ≤ 104) (hb : szs K ≤ 401 * (K.length : Int)) : FitsK (c :: K) ∧ szs (c :: K) ≤ 401 * ((c :: K).length : Int) := by
 have h1 := szs_ok hc
 have h2 : szs (c :: K) = ((cellB c).length : Int) + szs K := rfl
 have h3 : (c :: K).length = K.length + 1 := rfl
 refine ⟨⟨by omega, by rw [h2]; omega, .inl (by omega)⟩, by rw [h2, h3]; omega⟩
end
def getV (t : Tr) (row col : ByteArray) (at_ : Int) : ByteArray := match newest row col at_ t.cells with | some c => if c.gone then ⟨#[]⟩ else c.val | none => ⟨#[]⟩
def getB (t : Tr) (row col : ByteArray) (at_ : Int) : Bool := match newest row col at_ t.cells with | some c => !c.gone | none => false
structure GoodT (s : Sf) (t : Tr) (K : List Cl) : Prop where
 r : s.right
 ok : t.ok
 i : t.inK K
 f : FitsK K
end Go.Proofs.YtcpkhhbbjimdaaaGreatDoor.Ce
namespace Go.Proofs.YtcpkhhbbjimdaaaGreatDoor.Ce
open Go.RowKit
structure FewT (fan : Nat) (X : List (List (List Cl))) : Prop where
 n : X.length ≤ 2
 f : ∀ T ∈ X, T.length ≤ fan
 e : ∀ T ∈ X, ∀ M ∈ T, M ≠ []
theorem FewT.nil (fan : Nat) : FewT fan [] := ⟨by simp, fun T h => (by cases h), fun T h => (by cases h)⟩
theorem over_ne {M acc : List Cl} (h : M ≠ [] ∨ acc ≠ []) : over M acc ≠ [] := by
 unfold over
 induction M generalizing acc with
 | nil => rcases h with h | h <;> simp_all
 | cons c M ih =>
  refine ih (.inr fun e => ?_)
  have := mem_put1_self c acc
  have e : put1 c acc = [] := e
  rw [e] at this
  cases this
theorem allP_ne : ∀ {LL : List (List Cl)}, (∃ M ∈ LL, M ≠ []) → allP LL ≠ []
 | [], ⟨M, h, _⟩ => by cases h
 | A :: LL, ⟨M, h, hn⟩ => by
  rw [allP_cons]
  rcases List.mem_cons.1 h with rfl | h
  ·exact over_ne (.inl hn)
  ·exact over_ne (.inr (allP_ne ⟨M, h, hn⟩))
theorem first0_few {fan : Nat} {M : List Cl} {X : List (List (List Cl))} (h : FewT fan X) : (first0 M X).length ≤ 2 ∧ (∀ T R, first0 M X = T :: R → T.length ≤ fan + 1 ∧ R.length ≤ 1 ∧ ∀ A ∈ R, A.length ≤ fan) ∧ ∀ T ∈ first0 M X, ∀ A ∈ T, A ≠ [] := by
 unfold first0
 split
 ·refine ⟨h.n, fun T R e => ?_, h.e⟩
  subst e
  have := h.n
  have := h.f T (by simp)
  refine ⟨by omega, by simp at *; omega, fun A hA => h.f A (by simp [hA])⟩
 ·rename_i hM
  cases X with
  | nil =>
   refine ⟨by simp, fun T R e => ?_, fun T hT A hA => ?_⟩
   ·obtain ⟨rfl, rfl⟩ : T = [M] ∧ R = [] := by simpa [eq_comm] using e
    simp
   ·rw [List.mem_singleton.1 hT] at hA
    rw [List.mem_singleton.1 hA]
    exact hM
  | cons U X =>
   have hn := h.n
   refine ⟨by simpa using hn, fun T R e => ?_, fun T hT A hA => ?_⟩
   ·obtain ⟨rfl, rfl⟩ : T = M :: U ∧ R = X := by simpa [eq_comm] using e
    have := h.f U (by simp)
    refine ⟨by simp; omega, by simp at hn; omega, fun A hA => h.f A (by simp [hA])⟩
   ·rcases List.mem_cons.1 hT with rfl | hT
    ·rcases List.mem_cons.1 hA with rfl | hA
     ·exact hM
     ·exact h.e U (by simp) A hA
    ·exact h.e T (by simp [hT]) A hA
theorem casc_two {fan : Nat} (hf : 1 ≤ fan) {T : List (List Cl)} {R : List (List (List Cl))} (hR : R.length ≤ 1) (hA : ∀ A ∈ R, A.length ≤ fan) :
  casc fan (T :: R).length (T :: R) = if fan < T.length then [[], [allP (T ++ R.flatten)]] else T :: R := by
 match R, hR, hA with
 | [], _, _ =>
  show casc fan 1 [T] = _
  rw [casc]
  simp
 | [U], _, hA =>
  have hU := hA U (by simp)
  show casc fan 2 [T, U] = _
  rw [casc]
  split
  ·rw [casc]
   simp
   intro h
   omega
  ·rw [casc, if_neg (by omega)]
theorem casc_few {fan : Nat} (hf : 1 ≤ fan) {M : List Cl} {X : List (List (List Cl))} (h : FewT fan X) : FewT fan (casc fan (first0 M X).length (first0 M X)) := by
 obtain ⟨h1, h2, h3⟩ := first0_few (M := M) h
 generalize hY : first0 M X = Y at *
 cases Y with
 | nil => exact FewT.nil fan
 | cons T R =>
  obtain ⟨k1, k2, k3⟩ := h2 T R rfl
  rw [casc_two hf k2 k3]
  split
  ·rename_i hlt
   refine ⟨by simp, fun A hA => ?_, fun A hA B hB => ?_⟩
   ·simp only [List.mem_cons, List.not_mem_nil, or_false] at hA
    rcases hA with rfl | rfl <;> simp
    omega
   ·simp only [List.mem_cons, List.not_mem_nil, or_false] at hA
    rcases hA with rfl | rfl
    ·cases hB
    ·rw [List.mem_singleton.1 hB]
     cases T with
     | nil => simp at hlt
     | cons C T => exact allP_ne ⟨C, by simp, h3 (C :: T) (by simp) C (by simp)⟩
  ·rename_i hlt
   refine ⟨h1, fun A hA => ?_, h3⟩
   rcases List.mem_cons.1 hA with rfl | hA
   ·omega
   ·exact k3 A hA
def hasB (c : Cl) (L : List Cl) : Bool := nwB c.row c.col c.at_ L && decide ((nwC c.row c.col c.at_ L).at_ = c.at_)
theorem hasB_iff {L : List Cl} (hs : Srt L) (c : Cl) : hasB c L = true ↔ ∃ d ∈ L, keq d c := by
 unfold hasB nwB nwC
 cases hn : newest c.row c.col c.at_ L with
 | none =>
  simp only [Option.isSome_none, Bool.false_and, Bool.false_eq_true, false_iff]
  rintro ⟨d, hd, hk⟩
  exact tr_newest_none.1 hn d hd ⟨hk.1, hk.2.1, by rw [hk.2.2]; exact Int.le_refl _⟩
 | some d =>
  have hi := (newest_isN hs).1 hn
  simp only [Option.isSome_some, Bool.true_and, Option.getD_some, decide_eq_true_eq]
  constructor
  ·exact fun h => ⟨d, hi.mem, hi.fit.1, hi.fit.2.1, h⟩
  ·rintro ⟨x, hx, hk⟩
   have := hi.top x hx ⟨hk.1, hk.2.1, by rw [hk.2.2]; exact Int.le_refl _⟩
   have h2 := hi.fit.2.2
   rw [hk.2.2] at this
   omega
theorem put1_len {L : List Cl} (hs : Srt L) (c : Cl) : (put1 c L).length = if hasB c L then L.length else L.length + 1 := by
 obtain ⟨k, hk⟩ := place_exists hs c
 cases hf : fnd L c k
 ·rw [if_neg, put1_ins hk hf]
  ·unfold ins
   have := hk.le
   simp
   omega
  ·intro hb
   obtain ⟨d, hd, hq⟩ := (hasB_iff hs c).1 hb
   obtain ⟨j, hj⟩ := List.getElem?_of_mem hd
   rcases Nat.lt_trichotomy j k with q | q | q
   ·exact klt_neq (hk.lt j d q hj) hq
   ·subst q
    unfold fnd at hf
    rw [hj] at hf
    simp [ccmp_eq.2 hq] at hf
   ·have hjl := (List.getElem?_eq_some_iff.1 hj).1
    have hkl : k < L.length := by omega
    have h1 : klt L[k] d := by
     have := (List.pairwise_iff_getElem.1 hs) k j hkl hjl q
     rwa [(List.getElem?_eq_some_iff.1 hj).2] at this
    exact hk.ge k L[k] (Nat.le_refl _) (List.getElem?_eq_getElem hkl) (klt_eq h1 hq)
 ·obtain ⟨d, hd, h0⟩ := fnd_true hf
  rw [if_pos, put1_set hk hd h0, List.length_set]
  exact (hasB_iff hs c).2 ⟨d, List.mem_of_getElem? hd, ccmp_eq.1 h0⟩
theorem szs_nn : ∀ L : List Cl, 0 ≤ szs L
 | [] => by simp [szs]
 | c :: L => by have := szs_nn L; rw [szs]; omega
theorem sub_few : ∀ {L K : List Cl}, L.Pairwise (· ≠ ·) → (∀ c ∈ L, c ∈ K) → L.length ≤ K.length ∧ szs L ≤ szs K
 | [], K, _, _ => ⟨by simp, by rw [szs]; exact szs_nn K⟩
 | c :: L, K, hp, h => by
  obtain ⟨A, B, rfl⟩ := List.append_of_mem (h c (by simp))
  obtain ⟨h1, h2⟩ := List.pairwise_cons.1 hp
  obtain ⟨q1, q2⟩ := sub_few (K := A ++ B) h2 fun d hd => by
   have := h d (by simp [hd])
   have hne := h1 d hd
   simp only [List.mem_append, List.mem_cons] at this ⊢
   rcases this with t | t | t
   ·exact .inl t
   ·exact absurd t.symm hne
   ·exact .inr t
  rw [szs_app] at q2
  rw [szs_app, szs, szs]
  simp at q1 ⊢
  omega
theorem srt_ne {L : List Cl} (h : Srt L) : L.Pairwise (· ≠ ·) := List.Pairwise.imp (fun {a b} (h : klt a b) (e : a = b) => klt_neq h ⟨by rw [e], by rw [e], by rw [e]⟩) h
theorem FitsK.sub {L K : List Cl} (h : FitsK K) (hs : Srt L) (hm : ∀ c ∈ L, c ∈ K) : FitsK L := by
 obtain ⟨q1, q2⟩ := sub_few (srt_ne hs) hm
 have h1 := h.n
 have h2 := h.b
 exact ⟨by omega, by omega, h.o.imp (fun q => by omega) fun q => by omega⟩
theorem szs_flatC : ∀ L : List Cl, ((flatC L).length : Int) = szs L
 | [] => by simp [flatC, szs]
 | c :: L => by
  have := szs_flatC L
  rw [szs, ← this]
  simp [flatC]
end Go.Proofs.YtcpkhhbbjimdaaaGreatDoor.Ce
namespace Go.Proofs.YtcpkhhbbjimdaaaGreatDoor.Ce
open Go.RowKit
structure FL (s : Sf) (L : List Cl) (X : List (List (List Cl))) (K : List Cl) : Prop where
 ok : Tr.ok ⟨L, X⟩
 i : Tr.inK ⟨L, X⟩ K
 f : FitsK K
 r : s.right
 w : FewT s.fan.toNat X
theorem FL.fan {s : Sf} {L K : List Cl} {X : List (List (List Cl))} (h : FL s L X K) : 1 ≤ s.fan.toNat ∧ s.fan.toNat ≤ 8 ∧ (s.fan.toNat : Int) = s.fan := by
 have := h.r.f1
 have := h.r.f2
 omega
structure Over (s : Sf) (T : List (List Cl)) (R : List (List (List Cl))) : Prop where
 r1 : (T :: R).length ≤ 2
 rx : (T :: R) ++ List.replicate (2 - (T :: R).length) [] = [T, R.flatten]
 n : (T ++ R.flatten).length ≤ 1000000
 sx : ∀ C ∈ T ++ R.flatten, Srt C
 lx : ∀ C ∈ T ++ R.flatten, C.length ≤ 1000000
 fl : (T ++ R.flatten).flatten.length ≤ 1000000
 ok : ∀ c ∈ allP (T ++ R.flatten), c.ok
 f : FitsK (allP (T ++ R.flatten))
 ne : allP (T ++ R.flatten) ≠ []
theorem flat_le {LL : List (List Cl)} {m : Nat} (h : ∀ C ∈ LL, C.length ≤ m) : LL.flatten.length ≤ LL.length * m := by
 induction LL with
 | nil => simp
 | cons C LL ih =>
  rw [List.flatten_cons, List.length_append, List.length_cons, Nat.add_mul, Nat.one_mul]
  have := h C (by simp)
  have := ih fun A hA => h A (by simp [hA])
  omega
theorem FL.over {s : Sf} {L K : List Cl} {X : List (List (List Cl))} (h : FL s L X K) {T : List (List Cl)} {R : List (List (List Cl))} (hX : first0 L X = T :: R) (hlt : s.fan.toNat < T.length) : Over s T R := by
 obtain ⟨h1, h2, h3⟩ := first0_few (M := L) h.w
 obtain ⟨k1, k2, k3⟩ := h2 T R hX
 obtain ⟨f1, f2, -⟩ := h.fan
 have hs := first0_srt h.ok.mem h.ok.tab
 have ho := first0_ok h.ok.okm h.ok.okt
 have hi := P_first0 h.i.m h.i.l
 rw [hX] at h1 h3 hs ho hi
 have hm : ∀ C ∈ T ++ R.flatten, ∃ A ∈ T :: R, C ∈ A := fun C hC => by
  rcases List.mem_append.1 hC with q | q
  ·exact ⟨T, by simp, q⟩
  ·obtain ⟨A, hA, q⟩ := List.mem_flatten.1 q
   exact ⟨A, by simp [hA], q⟩
 have hlx : ∀ C ∈ T ++ R.flatten, C.length ≤ 1000 := fun C hC => by
  obtain ⟨A, hA, q⟩ := hm C hC
  exact (h.f.sub (hs A hA C q) (hi A hA C q)).n
 have hR : R.flatten.length ≤ 8 := by
  match R, k2, k3 with
  | [], _, _ => simp
  | [U], _, k3 =>
   have := k3 U (by simp)
   simp
   omega
 have hn : (T ++ R.flatten).length ≤ 17 := by rw [List.length_append]; omega
 have hfl := flat_le hlx
 refine ⟨h1, ?_, by omega, fun C hC => ?_, fun C hC => by have := hlx C hC; omega, ?_, ok_all fun C hC => ?_, h.f.sub (srt_all _) (P_all (P := fun c => c ∈ K) fun C hC => ?_), allP_ne ?_⟩
 ·match R, k2 with
  | [], _ => simp
  | [U], _ => simp
 ·obtain ⟨A, hA, q⟩ := hm C hC
  exact hs A hA C q
 ·have : (T ++ R.flatten).length * 1000 ≤ 17 * 1000 := Nat.mul_le_mul_right _ hn
  omega
 ·obtain ⟨A, hA, q⟩ := hm C hC
  exact ho A hA C q
 ·obtain ⟨A, hA, q⟩ := hm C hC
  exact hi A hA C q
 ·cases T with
  | nil => simp at hlt
  | cons C T => exact ⟨C, by simp, h3 (C :: T) (by simp) C (by simp)⟩
theorem FL.casced {s : Sf} {L K : List Cl} {X : List (List (List Cl))} (h : FL s L X K) {T : List (List Cl)} {R : List (List (List Cl))} (hX : first0 L X = T :: R) : casc s.fan.toNat (first0 L X).length (first0 L X) = if s.fan.toNat < T.length then [[], [allP (T ++ R.flatten)]] else T :: R := by
 obtain ⟨-, h2, -⟩ := first0_few (M := L) h.w
 obtain ⟨-, k2, k3⟩ := h2 T R hX
 rw [hX]
 exact casc_two h.fan.1 k2 k3
theorem FL.rest {s : Sf} {L K : List Cl} {X : List (List (List Cl))} (h : FL s L X K) : (∀ A ∈ casc s.fan.toNat (first0 L X).length (first0 L X), (A.length : Int) ≤ s.fan) ∧ (casc s.fan.toNat (first0 L X).length (first0 L X)).length ≤ 2 := by
 have := casc_few (M := L) h.fan.1 h.w
 have h3 := h.fan.2.2
 exact ⟨fun A hA => by have := this.f A hA; omega, this.n⟩
end Go.Proofs.YtcpkhhbbjimdaaaGreatDoor.Ce
namespace Go.Proofs.YtcpkhhbbjimdaaaGreatDoor.Ce
open Go.RowKit
variable {H : Hos}
def tpv (b : Nat) : Value := .pointer (some ⟨b, 0, none⟩)
theorem one_tpv (ps : List Nat) : One (ps.map tpv) := one_map tpv (fun _ => rfl) ps
def RdS (w : World) (S : List Nat) (v : Value) (xs : List Value) : Prop :=
 ∃ A c, v = .slice A xs.length c ∧ xs.length ≤ c ∧ c ≤ maxLen ∧
  (0 < xs.length → ∃ b off, A = some ⟨b, off, none⟩ ∧ b < w.heap.size ∧ b ∉ S ∧ ∀ j u, xs[j]? = some u → w.cell? ⟨b, off + j, none⟩ = some u)
section
variable {w w' : World} {S S' N : List Nat} {v u : Value} {xs : List Value} {B e : Nat}
theorem RdS.rd (h : RdS w S v xs) : Rd w w.heap.size v xs := by
 obtain ⟨A, c, h1, h2, h3, h4⟩ := h
 refine ⟨A, c, h1, h2, h3, fun hp => ?_⟩
 obtain ⟨b, off, q1, q2, -, q4⟩ := h4 hp
 exact ⟨b, off, q1, q2, q4⟩
theorem RdS.nil (w : World) (S : List Nat) : RdS w S (.slice none 0 0) [] := ⟨none, 0, rfl, Nat.le_refl _, by simp [maxLen], fun h => absurd h (by simp)⟩
theorem RdS.of_rd (h : Rd w w.heap.size v xs) (hn : ∀ b off n c, v = .slice (some ⟨b, off, none⟩) n c → b ∉ S) : RdS w S v xs := by
 obtain ⟨A, c, h1, h2, h3, h4⟩ := h
 refine ⟨A, c, h1, h2, h3, fun hp => ?_⟩
 obtain ⟨b, off, rfl, q2, q4⟩ := h4 hp
 exact ⟨b, off, rfl, q2, hn b off _ _ h1, q4⟩
theorem RdS.of_own (h : Ow w B e v xs) (hS : ∀ k ∈ S, k < B) : RdS w S v xs := by
 refine RdS.of_rd h.rd fun b off n c e hm => ?_
 subst e
 rcases h.2 with ⟨q, -⟩ | ⟨g, cap, cur, q, hb, -⟩
 ·cases q
 ·injection q with q _ _
  have : b = g := by injection q with q; injection q
  have := hS b hm
  omega
theorem kp_cell {p : Addr} (hk : Kp N w w') (hl : p.block < w.heap.size) (hn : p.block ∉ N) : w'.cell? p = w.cell? p := by
 simp only [World.cell?, hk.block p.block hl hn]
theorem RdS.keep (h : RdS w S v xs) (hk : Kp N w w') (hN : ∀ k ∈ N, k ∈ S ∨ w.heap.size ≤ k) (hS : ∀ k ∈ S', k ∈ S ∨ w.heap.size ≤ k) : RdS w' S' v xs := by
 obtain ⟨A, c, h1, h2, h3, h4⟩ := h
 refine ⟨A, c, h1, h2, h3, fun hp => ?_⟩
 obtain ⟨b, off, q1, q2, q3, q4⟩ := h4 hp
 have hS' : b ∉ S' := fun hm => by rcases hS b hm with t | t; exact q3 t; omega
 have hN' : b ∉ N := fun hm => by rcases hN b hm with t | t; exact q3 t; omega
 exact ⟨b, off, q1, Nat.lt_of_lt_of_le q2 hk.size, hS', fun j u hu => (kp_cell (p := ⟨b, off + j, none⟩) hk q2 hN').trans (q4 j u hu)⟩
theorem OwL.keepN {L : List Cl} (h : OwL w B v L) (hk : Kp N w w') (hn : ∀ k, v.ownBlock = some k → k ∉ N) : OwL w' B v L := by
 obtain ⟨h1, h2⟩ := h
 refine ⟨h1, ?_⟩
 rcases h2 with h2 | ⟨g, cap, cur, rfl, hgB, hh, r⟩
 ·exact .inl h2
 ·exact .inr ⟨g, cap, cur, rfl, hgB, (hk.block g (Array.getElem?_eq_some_iff.1 hh).1 (hn g rfl)).trans hh, r⟩
theorem ow_keepN (h : Ow w B e v xs) (hk : Kp N w w') (hn : ∀ k, v.ownBlock = some k → k ∉ N) : Ow w' B e v xs := by
 obtain ⟨h1, h2⟩ := h
 refine ⟨h1, ?_⟩
 rcases h2 with h2 | ⟨g, cap, cur, rfl, hgB, hh, r⟩
 ·exact .inl h2
 ·exact .inr ⟨g, cap, cur, rfl, hgB, (hk.block g (Array.getElem?_eq_some_iff.1 hh).1 (hn g rfl)).trans hh, r⟩
end
structure Tb (w : World) (S : List Nat) (b : Nat) (C : List Cl) : Prop where
 ex : ∃ (vc : Value) (fb fn fc n : Nat), w.heap[b]? = some (.cells #[vc, .slice (some ⟨fb, 0, none⟩) fn fc, .int .i64 (n : Int)] 128 (0, 0)) ∧ OwL w 0 vc C ∧ (∀ k, vc.ownBlock = some k → k ∉ S) ∧ RdS w S (.slice (some ⟨fb, 0, none⟩) fn fc) ((filt C).map bv) ∧ fb < w.heap.size
 nb : b ∉ S
section
variable {w w' : World} {S S' N : List Nat} {b n n0 : Nat} {C : List Cl}
theorem Tb.tv (h : Tb w S b C) : ∃ n, TblV w 0 b C n := by
 obtain ⟨⟨vc, fb, fn, fc, n, h1, h2, -, h4, h5⟩, -⟩ := h
 exact ⟨n, ⟨vc, fb, fn, fc, h1, h2, Nat.zero_le _, h4.rd, h5⟩, Nat.zero_le _⟩
theorem Tb.of (h : TblV w n0 b C n) (hS : ∀ k ∈ S, k < n0) : Tb w S b C := by
 obtain ⟨⟨vc, fb, fn, fc, h1, h2, h3, h4, h5⟩, hg⟩ := h
 refine ⟨⟨vc, fb, fn, fc, n, h1, h2.mono (Nat.zero_le _), fun k hk hm => ?_, RdS.of_rd h4 fun b off n c e hm => ?_, h5⟩, fun hm => ?_⟩
 ·have := (h2.lt k hk).1
  have := hS k hm
  omega
 ·injection e with e _ _
  have : fb = b := by injection e with e; injection e
  have := hS b hm
  omega
 ·have := hS b hm
  omega
theorem Tb.lt (h : Tb w S b C) : b < w.heap.size := by
 obtain ⟨⟨vc, fb, fn, fc, n, h1, -⟩, -⟩ := h
 exact (Array.getElem?_eq_some_iff.1 h1).1
theorem Tb.keep (h : Tb w S b C) (hk : Kp N w w') (hN : ∀ k ∈ N, k ∈ S ∨ w.heap.size ≤ k) (hS : ∀ k ∈ S', k ∈ S ∨ w.heap.size ≤ k) : Tb w' S' b C := by
 have hlt := h.lt
 obtain ⟨⟨vc, fb, fn, fc, n, h1, h2, h3, h4, h5⟩, hb⟩ := h
 have hno : ∀ (k : Nat) (X : List Nat), (∀ k ∈ X, k ∈ S ∨ w.heap.size ≤ k) → k < w.heap.size → k ∉ S → k ∉ X := fun k X hX h1 h2 hm => by
  rcases hX k hm with t | t
  ·exact h2 t
  ·omega
 refine ⟨⟨vc, fb, fn, fc, n, (hk.block b hlt (hno b N hN hlt hb)).trans h1, h2.keepN hk fun k hk' => hno k N hN (h2.lt k hk').2 (h3 k hk'), fun k hk' => hno k S' hS (h2.lt k hk').2 (h3 k hk'), h4.keep hk hN hS, Nat.lt_of_lt_of_le h5 hk.size⟩, hno b S' hS hlt hb⟩
end
def Lev (w : World) (S : List Nat) (u : Value) (T : List (List Cl)) : Prop :=
 ∃ ps : List Nat, RdS w S u (ps.map tpv) ∧ ps.length = T.length ∧ ∀ (j p : Nat) (C : List Cl), ps[j]? = some p → T[j]? = some C → Tb w S p C
def Levs (w : World) (S : List Nat) (us : List Value) (X : List (List (List Cl))) : Prop :=
 us.length = X.length ∧ ∀ (k : Nat) (u : Value) (T : List (List Cl)), us[k]? = some u → X[k]? = some T → Lev w S u T
section
variable {w w' : World} {S S' N : List Nat} {v u : Value} {us : List Value} {T : List (List Cl)} {X : List (List (List Cl))}
theorem Lev.nil (w : World) (S : List Nat) : Lev w S (.slice none 0 0) [] := ⟨[], RdS.nil w S, rfl, fun j p C h => by simp at h⟩
theorem Lev.keep (h : Lev w S u T) (hk : Kp N w w') (hN : ∀ k ∈ N, k ∈ S ∨ w.heap.size ≤ k) (hS : ∀ k ∈ S', k ∈ S ∨ w.heap.size ≤ k) : Lev w' S' u T := by
 obtain ⟨ps, h1, h2, h3⟩ := h
 exact ⟨ps, h1.keep hk hN hS, h2, fun j p C hp hC => (h3 j p C hp hC).keep hk hN hS⟩
theorem Lev.up (h : Lev w S u T) (hb : Below w.heap.size w w') : Lev w' S u T := h.keep (Kp.of_below hb []) (by simp) fun _ h => .inl h
theorem Lev.shape (h : Lev w S u T) : ∃ A c, u = .slice A T.length c ∧ T.length ≤ c ∧ c ≤ maxLen := by
 obtain ⟨ps, ⟨A, c, h1, h2, h3, -⟩, hl, -⟩ := h
 rw [List.length_map, hl] at h1 h2
 exact ⟨A, c, h1, h2, h3⟩
theorem Lev.at_ {A : Option Addr} {n c : Nat} (h : Lev w S (.slice A n c) T) (hp : 0 < T.length) : ∃ b off, A = some ⟨b, off, none⟩ ∧ b < w.heap.size ∧ ∀ (j : Nat) (C : List Cl), T[j]? = some C → ∃ p, w.cell? ⟨b, off + j, none⟩ = some (tpv p) ∧ Tb w S p C := by
 obtain ⟨ps, ⟨A, c, h1, h2, h3, h4⟩, hl, h5⟩ := h
 obtain ⟨b, off, rfl, q2, -, q4⟩ := h4 (by simp [hl, hp])
 injection h1 with e1 _ _
 refine ⟨b, off, e1, q2, fun j C hC => ?_⟩
 have hj := (List.getElem?_eq_some_iff.1 hC).1
 have hp' : ps[j]? = some (ps[j]'(by omega)) := List.getElem?_eq_getElem _
 exact ⟨_, q4 j _ (by rw [List.getElem?_map, hp']; rfl), h5 j _ C hp' hC⟩
theorem Levs.keep (h : Levs w S us X) (hk : Kp N w w') (hN : ∀ k ∈ N, k ∈ S ∨ w.heap.size ≤ k) (hS : ∀ k ∈ S', k ∈ S ∨ w.heap.size ≤ k) : Levs w' S' us X :=
 ⟨h.1, fun k u T hu hT => (h.2 k u T hu hT).keep hk hN hS⟩
theorem Levs.nil (w : World) (S : List Nat) : Levs w S [] [] := ⟨rfl, fun k u T h => by simp at h⟩
theorem Levs.snoc (h : Levs w S us X) (hu : Lev w S u T) : Levs w S (us ++ [u]) (X ++ [T]) := by
 refine ⟨by simp [h.1], fun k x A hx hA => ?_⟩
 by_cases hk : k < us.length
 ·rw [List.getElem?_append_left hk] at hx
  rw [List.getElem?_append_left (by rw [← h.1]; exact hk)] at hA
  exact h.2 k x A hx hA
 ·rw [List.getElem?_append_right (by omega)] at hx
  rw [List.getElem?_append_right (by rw [← h.1]; omega)] at hA
  have h0 : k - us.length = 0 := by
   have := (List.getElem?_eq_some_iff.1 hx).1
   simp at this
   omega
  rw [h0] at hx
  rw [show k - X.length = 0 by rw [← h.1]; exact h0] at hA
  obtain rfl : u = x := by simpa using hx
  obtain rfl : T = A := by simpa using hA
  exact hu
theorem Levs.set (h : Levs w S us X) (hu : Lev w S u T) (i : Nat) : Levs w S (us.set i u) (X.set i T) := by
 refine ⟨by simp [h.1], fun k x A hx hA => ?_⟩
 by_cases hk : i = k
 ·subst hk
  rw [List.getElem?_set] at hx hA
  simp only [if_true] at hx hA
  split at hx
  ·split at hA
   ·injection hx with hx
    injection hA with hA
    subst hx hA
    exact hu
   ·cases hA
  ·cases hx
 ·rw [List.getElem?_set_ne hk] at hx hA
  exact h.2 k x A hx hA
theorem Levs.cut (h : Levs w S us X) (i n : Nat) : Levs w S ((us.take n).drop i) ((X.take n).drop i) := by
 refine ⟨by simp [h.1], fun k x A hx hA => ?_⟩
 rw [List.getElem?_drop, List.getElem?_take] at hx hA
 split at hx
 ·rw [if_pos (by assumption)] at hA
  exact h.2 _ x A hx hA
 ·cases hx
def RdV (w : World) (S : List Nat) (v : Value) (X : List (List (List Cl))) : Prop := ∃ us, Rd w w.heap.size v us ∧ Levs w S us X
theorem RdV.up (h : RdV w S v X) (hb : Below w.heap.size w w') : RdV w' S v X := by
 obtain ⟨us, h1, h2⟩ := h
 exact ⟨us, h1.up hb, h2.keep (Kp.of_below hb []) (by simp) fun _ h => .inl h⟩
theorem RdV.shape (h : RdV w S v X) : ∃ A c, v = .slice A X.length c ∧ X.length ≤ c ∧ c ≤ maxLen := by
 obtain ⟨us, h1, h2⟩ := h
 rw [← h2.1]
 exact h1.shape
theorem RdV.at_ {A : Option Addr} {n c : Nat} (h : RdV w S (.slice A n c) X) (hp : 0 < X.length) : ∃ b off, A = some ⟨b, off, none⟩ ∧ b < w.heap.size ∧ ∀ (j : Nat) (T : List (List Cl)), X[j]? = some T → ∃ u, w.cell? ⟨b, off + j, none⟩ = some u ∧ Lev w S u T := by
 obtain ⟨us, ⟨A, c, h1, h2, h3, h4⟩, hl, h5⟩ := h
 obtain ⟨b, off, rfl, q2, q4⟩ := h4 (by omega)
 injection h1 with e1 _ _
 refine ⟨b, off, e1, q2, fun j T hT => ?_⟩
 have hj := (List.getElem?_eq_some_iff.1 hT).1
 have hu : us[j]? = some (us[j]'(by omega)) := List.getElem?_eq_getElem _
 exact ⟨_, q4 j _ hu, h5 j _ T hu hT⟩
end
def ownT (b : Nat) (v lv : Value) : List Nat := blks b v ++ lv.ownBlock.toList
theorem mem_ownT {b k : Nat} {v lv : Value} : k ∈ ownT b v lv ↔ k = b ∨ v.ownBlock = some k ∨ lv.ownBlock = some k := by simp [ownT, blks]
structure TrS (H : Hos) (w : World) (S : List Nat) (b : Nat) (s : Sf) (L : List Cl) (X : List (List (List Cl))) (n : Int) (v lv : Value) : Prop where
 m : MmT ⟨s.mem, s.block, s.fan, lv, n, H⟩ w b v L
 o : ∃ us, Ow w 0 126 lv us ∧ Levs w S us X
 nb : lv.ownBlock ≠ some b
 ap : Apart v lv
 sub : ∀ k ∈ ownT b v lv, k ∈ S
 slt : ∀ k ∈ S, k < w.heap.size
section
variable {w w' : World} {S S' N : List Nat} {b : Nat} {s : Sf} {L L' : List Cl} {X X' : List (List (List Cl))} {n n' : Int} {v v' lv lv' : Value}
theorem TrS.lt (h : TrS H w S b s L X n v lv) : ∀ k ∈ ownT b v lv, k < w.heap.size := fun k hk => by
 obtain ⟨us, ho, -⟩ := h.o
 rcases mem_ownT.1 hk with rfl | hk | hk
 ·exact h.m.lt
 ·exact (h.m.own.lt k hk).2
 ·exact (ho.lt k hk).2
theorem MmT.keepN {r : Rst} (h : MmT r w b v L) (hk : Kp N w w') (hn : ∀ k ∈ blks b v, k ∉ N) : MmT r w' b v L :=
 ⟨(hk.block b h.lt (hn b (by simp [blks]))).trans h.h, h.own.keepN hk fun k hv => hn k (by simp [blks, hv]), h.ne⟩
theorem TrS.keep (h : TrS H w S b s L X n v lv) (hk : Kp N w w') (hN : ∀ k ∈ N, k ∈ S ∨ w.heap.size ≤ k) (hO : ∀ k ∈ ownT b v lv, k ∉ N) (hS : ∀ k ∈ S', k ∈ S ∨ w.heap.size ≤ k) (hM : ∀ k ∈ ownT b v lv, k ∈ S') (hS2 : ∀ k ∈ S', k < w'.heap.size) : TrS H w' S' b s L X n v lv := by
 obtain ⟨us, ho, hl⟩ := h.o
 exact ⟨h.m.keepN hk fun k hk' => hO k (by simp only [ownT, List.mem_append]; exact .inl hk'), ⟨us, ow_keepN ho hk fun k hv => hO k (mem_ownT.2 (.inr (.inr hv))), hl.keep hk hN hS⟩, h.nb, h.ap, hM, hS2⟩
theorem TrS.up (h : TrS H w S b s L X n v lv) (hb : Below w.heap.size w w') : TrS H w' S b s L X n v lv :=
 h.keep (Kp.of_below hb []) (by simp) (by simp) (fun _ h => .inl h) h.sub fun k hk => Nat.lt_of_lt_of_le (h.slt k hk) hb.size
theorem TrS.less (h : TrS H w S b s L X n v lv) (hS : ∀ k ∈ S', k ∈ S) (hM : ∀ k ∈ ownT b v lv, k ∈ S') : TrS H w S' b s L X n v lv :=
 h.keep (Kp.refl [] w) (by simp) (by simp) (fun k hk => .inl (hS k hk)) hM fun k hk => h.slt k (hS k hk)
theorem TrS.rdv (h : TrS H w S b s L X n v lv) : RdV w S lv X := by
 obtain ⟨us, ho, hl⟩ := h.o
 exact ⟨us, ho.rd, hl⟩
theorem TrS.c0 (h : TrS H w S b s L X n v lv) : w.cell? ⟨b, 0, none⟩ = some (.int .i64 s.mem) := (cell_of_row _ _ 0 _ _ _ h.m.h).trans (Rst.g0 _ _ _)
theorem TrS.c1 (h : TrS H w S b s L X n v lv) : w.cell? ⟨b, 1, none⟩ = some (.int .i64 s.block) := (cell_of_row _ _ 1 _ _ _ h.m.h).trans (Rst.g1 _ _ _)
theorem TrS.c2 (h : TrS H w S b s L X n v lv) : w.cell? ⟨b, 2, none⟩ = some (.int .i64 s.fan) := (cell_of_row _ _ 2 _ _ _ h.m.h).trans (Rst.g2 _ _ _)
theorem TrS.c5 (h : TrS H w S b s L X n v lv) : w.cell? ⟨b, 5, none⟩ = some lv := (cell_of_row _ _ 5 _ _ _ h.m.h).trans (Rst.g5 _ _ _)
theorem TrS.c6 (h : TrS H w S b s L X n v lv) : w.cell? ⟨b, 6, none⟩ = some (.int .i64 n) := (cell_of_row _ _ 6 _ _ _ h.m.h).trans (Rst.g6 _ _ _)
theorem TrS.fz (h : TrS H w S b s L X n v lv) (i : Nat) : w.frozen? ⟨b, i, none⟩ = false := frozen_of_row _ _ _ _ _ h.m.h
theorem TrS.sf (h : TrS H w S b s L X n v lv) : ∀ (k : Nat) (u : Value), (sfD.f s)[k]? = some u → w.cell? ((⟨b, 0, none⟩ : Addr).add k) = some u := fun k u hu => by
 rw [Addr.add_lit, Nat.zero_add]
 match k, hu with
 | 0, hu => exact h.c0.trans hu
 | 1, hu => exact h.c1.trans hu
 | 2, hu => exact h.c2.trans hu
 | k + 3, hu => simp [Sf.cs] at hu
end
structure TreeAt (H : Hos) (w : World) (S M : List Nat) (b : Nat) (s : Sf) (t : Tr) : Prop where
 ex : ∃ v lv, TrS H w S b s t.mem t.lv (t.cells.length : Int) v lv ∧ M = ownT b v lv
 few : FewT s.fan.toNat t.lv
def Mut (H : Hos) (w : World) (S M : List Nat) (b : Nat) (s : Sf) (L : List Cl) (X : List (List (List Cl))) (n : Int) (w' : World) : Prop :=
 ∃ v lv, TrS H w' (ownT b v lv ++ S) b s L X n v lv ∧ Kp M w w' ∧ ∀ k ∈ ownT b v lv, k ∈ M ∨ w.heap.size ≤ k
section
variable {w w' w2 : World} {S S' M M' N : List Nat} {b : Nat} {s : Sf} {L : List Cl} {X : List (List (List Cl))} {n : Int} {v lv : Value}
theorem TrS.mut (h : TrS H w S b s L X n v lv) (hb : Below w.heap.size w w') : Mut H w S (ownT b v lv) b s L X n w' := by
 refine ⟨v, lv, (h.up hb).less (fun k hk => ?_) (fun k hk => by simp [hk]), Kp.of_below hb _, fun k hk => .inl hk⟩
 rcases List.mem_append.1 hk with q | q
 ·exact h.sub k q
 ·exact q
theorem Mut.of (h : TrS H w' S' b s L X n v lv) (hS : ∀ k ∈ S, k ∈ S') (hk : Kp M w w') (ho : ∀ k ∈ ownT b v lv, k ∈ M ∨ w.heap.size ≤ k) : Mut H w S M b s L X n w' :=
 ⟨v, lv, h.less (fun k hk => by rcases List.mem_append.1 hk with q | q; exact h.sub k q; exact hS k q) (fun k hk => by simp [hk]), hk, ho⟩
theorem Mut.up (h : Mut H w S M b s L X n w') (hb : Below w'.heap.size w' w2) : Mut H w S M b s L X n w2 := by
 obtain ⟨v, lv, h1, h2, h3⟩ := h
 exact ⟨v, lv, h1.up hb, h2.bel hb, h3⟩
theorem Mut.tree {t : Tr} (h : Mut H w S M b s t.mem t.lv (t.cells.length : Int) w') (hf : FewT s.fan.toNat t.lv) : ∃ M', TreeAt H w' (M' ++ S) M' b s t ∧ Kp M w w' ∧ ∀ k ∈ M', k ∈ M ∨ w.heap.size ≤ k := by
 obtain ⟨v, lv, h1, h2, h3⟩ := h
 exact ⟨_, ⟨⟨v, lv, h1, rfl⟩, hf⟩, h2, h3⟩
end
end Go.Proofs.YtcpkhhbbjimdaaaGreatDoor.Ce
namespace Go.Proofs.YtcpkhhbbjimdaaaGreatDoor.Ce
open Go.RowKit
structure Lim (L : List Cl) (X : List (List (List Cl))) : Prop where
 sl : Srt L
 ll : L.length ≤ 1000
 sx : ∀ C ∈ X.flatten, Srt C
 lx : ∀ C ∈ X.flatten, C.length ≤ 1000
 nx : X.length ≤ 2
 tx : ∀ T ∈ X, T.length ≤ 9
theorem Lim.flat {L : List Cl} {X : List (List (List Cl))} (h : Lim L X) : X.flatten.length ≤ 18 := by
 match X, h.nx, h.tx with
 | [], _, _ => simp
 | [T], _, ht =>
  have := ht T (by simp)
  simp
  omega
 | [T, U], _, ht =>
  have := ht T (by simp)
  have := ht U (by simp)
  simp
  omega
theorem Lim.all {L : List Cl} {X : List (List (List Cl))} (h : Lim L X) : ∀ M ∈ L :: X.flatten, Srt M := fun M hM => by
 rcases List.mem_cons.1 hM with rfl | hM
 ·exact h.sl
 ·exact h.sx M hM
end Go.Proofs.YtcpkhhbbjimdaaaGreatDoor.Ce
namespace Go.Proofs.YtcpkhhbbjimdaaaGreatDoor.Ce
open Go.RowKit
variable {H : Hos}
theorem levsT : ET Tryz.prog 56 126 (.slice none 0 0) 24 := ⟨Tryz.underlying56, by kernel_rfl⟩
theorem levT : ET Tryz.prog 126 111 (.pointer none) 8 := ⟨Tryz.underlying126, by kernel_rfl⟩
section
variable {w w1 w2 w3 : World} {S M : List Nat} {b : Nat} {s : Sf} {L L1 : List Cl} {X X1 X2 : List (List (List Cl))} {T : List (List Cl)} {n n1 : Int} {u v v1 lv lv1 lv2 : Value}
theorem Mut.then (h2 : Kp M w w1) (h3 : ∀ k ∈ ownT b v1 lv1, k ∈ M ∨ w.heap.size ≤ k) (h : Mut H w1 (ownT b v1 lv1 ++ S) (ownT b v1 lv1) b s L X n w2) : Mut H w S M b s L X n w2 := by
 obtain ⟨v, lv, k1, k2, k3⟩ := h
 refine ⟨v, lv, k1.less (fun k hk => ?_) (fun k hk => by simp [hk]), h2.trans k2 h3, fun k hk => ?_⟩
 ·rcases List.mem_append.1 hk with q | q
  ·simp [q]
  ·simp [q]
 ·rcases k3 k hk with q | q
  ·exact h3 k q
  ·exact .inr (Nat.le_trans h2.size q)
theorem TrS.bS (h : TrS H w S b s L X n v lv) : b ∈ S := h.sub b (mem_ownT.2 (.inl rfl))
theorem TrS.vS (h : TrS H w S b s L X n v lv) : ∀ k, v.ownBlock = some k → k ∈ S := fun k hk => h.sub k (mem_ownT.2 (.inr (.inl hk)))
theorem TrS.lS (h : TrS H w S b s L X n v lv) : ∀ k, lv.ownBlock = some k → k ∈ S := fun k hk => h.sub k (mem_ownT.2 (.inr (.inr hk)))
theorem TrS.setLv {us2 : List Value} (h : TrS H w S b s L X n v lv) (hk : Kp lv.ownBlock.toList w w2) (ho : Ow w2 0 126 lv2 us2) (hl : Levs w2 (lv2.ownBlock.toList ++ S) us2 X2) (h4 : ∀ k, lv2.ownBlock = some k → lv.ownBlock = some k ∨ w.heap.size ≤ k) : Mut H w S (ownT b v lv) b s L X2 n (w2.setCell ⟨b, 5, none⟩ lv2) := by
 have hbn : b ∉ lv.ownBlock.toList := by simpa using h.nb
 have hbl := h.m.lt
 have hb2 := (hk.block b hbl hbn).trans h.m.h
 have hn2 : lv2.ownBlock ≠ some b := fun e => by
  rcases h4 b e with q | q
  ·exact h.nb q
  ·omega
 have hvl : ∀ k, v.ownBlock = some k → lv2.ownBlock ≠ some k := fun k hv e => by
  rcases h4 k e with q | q
  ·exact h.ap k hv q
  ·have := (h.m.own.lt k hv).2
   omega
 have hS2 : ∀ k ∈ ownT b v lv2, k ∈ ownT b v lv ∨ w.heap.size ≤ k := fun k hk => by
  rcases mem_ownT.1 hk with rfl | e | e
  ·exact .inl (mem_ownT.2 (.inl rfl))
  ·exact .inl (mem_ownT.2 (.inr (.inl e)))
  ·rcases h4 k e with q | q
   ·exact .inl (mem_ownT.2 (.inr (.inr q)))
   ·exact .inr q
 have hk3 : Kp [b] w2 (w2.setCell ⟨b, 5, none⟩ lv2) := Kp.set w2 (S := [b]) (p := ⟨b, 5, none⟩) (by simp) _
 refine ⟨v, lv2, ⟨⟨(heap_setCell_same w2 b 5 _ _ lv2 hb2).trans (Rst.s5 _ _ _ _), (h.m.own.keepN hk fun k hv hm => h.ap k hv (by simpa using hm)).keepN hk3 fun k hv hm => ?_, h.m.ne⟩, ⟨us2, ow_keepN ho hk3 fun k hv hm => ?_, hl.keep hk3 (fun k hm => ?_) (fun k hm => ?_)⟩, hn2, fun k hv e => hvl k hv e, fun k hk => by simp [hk], fun k hm => ?_⟩, ?_, hS2⟩
 ·rw [List.mem_singleton.1 hm] at hv
  exact h.m.ne hv
 ·rw [List.mem_singleton.1 hm] at hv
  exact hn2 hv
 ·rw [List.mem_singleton.1 hm]
  exact .inl (by simp [h.bS])
 ·rcases List.mem_append.1 hm with q | q
  ·rcases mem_ownT.1 q with rfl | e | e
   ·exact .inl (by simp [h.bS])
   ·exact .inl (by simp [h.vS k e])
   ·exact .inl (by simp [e])
  ·exact .inl (by simp [q])
 ·have hz := hk3.size
  have hz2 := hk.size
  rcases List.mem_append.1 hm with q | q
  ·rcases mem_ownT.1 q with rfl | e | e
   ·omega
   ·have := (h.m.own.lt k e).2
    omega
   ·have := (ho.lt k e).2
    omega
  ·have := h.slt k q
   omega
 ·refine Kp.trans (S := ownT b v lv) (S' := [b]) ⟨hk.os, hk.tape, hk.output, hk.size, fun x hx hn => hk.block x hx fun hm => hn (mem_ownT.2 (.inr (.inr (by simpa using hm))))⟩ hk3 fun k hm => .inl ?_
  rw [List.mem_singleton.1 hm]
  exact mem_ownT.2 (.inl rfl)
theorem TrS.setAt {A : Option Addr} {m c j : Nat} (h : TrS H w S b s L X n v (.slice A m c)) (hb : Below w.heap.size w w2) (hj : j < X.length) (hu : Lev w2 S u T) :
  ∃ g x, A = some ⟨g, 0, none⟩ ∧ w2.cell? ⟨g, j, none⟩ = some x ∧ w2.frozen? ⟨g, j, none⟩ = false ∧ Mut H w S (ownT b v (.slice A m c)) b s L (X.set j T) n (w2.setCell ⟨g, j, none⟩ u) := by
 have h2 := h.up hb
 obtain ⟨us, ho, hl⟩ := h2.o
 obtain ⟨g, rfl, -, hg, hc, hf, hset⟩ := ho.at_ (k := j) (by rw [hl.1]; exact hj)
 have hgS := h2.lS g rfl
 have hk3 : Kp [g] w2 (w2.setCell ⟨g, j, none⟩ u) := Kp.set w2 (S := [g]) (p := ⟨g, j, none⟩) (by simp) _
 have hgb : g ≠ b := fun e => h2.nb (by rw [← e]; rfl)
 have hgv : ∀ k, v.ownBlock = some k → k ≠ g := fun k hv e => h2.ap k hv (by rw [e]; rfl)
 have hin : ∀ k ∈ [g], k ∈ S ∨ w2.heap.size ≤ k := fun k hm => .inl (by rw [List.mem_singleton.1 hm]; exact hgS)
 refine ⟨g, _, rfl, hc, hf, Mut.of (S' := S) (v := v) (lv := .slice (some ⟨g, 0, none⟩) m c) ⟨h2.m.keepN hk3 fun k hk hm => ?_, ⟨_, hset u, (hl.set hu j).keep hk3 hin fun _ h => .inl h⟩, h2.nb, h2.ap, h2.sub, fun k hk => Nat.lt_of_lt_of_le (h2.slt k hk) hk3.size⟩ (fun _ h => h) ((Kp.of_below hb _).trans hk3 fun k hm => ?_) fun k hk => .inl hk⟩
 ·rw [List.mem_singleton.1 hm] at hk
  rcases mem_blks.1 hk with e | e
  ·exact hgb e
  ·exact hgv g e rfl
 ·rw [List.mem_singleton.1 hm]
  exact .inl (mem_ownT.2 (.inr (.inr rfl)))
theorem TrS.mem0 (h : TrS H w S b s L X n v lv) : Mut H w S (ownT b v lv) b s [] X n ((w.setCell ⟨b, 3, none⟩ (.slice none 0 0)).setCell ⟨b, 4, none⟩ (.int .i64 0)) := by
 have e1 := (heap_setCell_same w b 3 _ _ (.slice none 0 0) h.m.h).trans (Rst.s3 _ _ _ _)
 have e2 := (heap_setCell_same _ b 4 _ _ (.int .i64 0) e1).trans (Rst.s4 _ _ _ _)
 have hk : Kp [b] w ((w.setCell ⟨b, 3, none⟩ (.slice none 0 0)).setCell ⟨b, 4, none⟩ (.int .i64 0)) := (Kp.set w (S := [b]) (p := ⟨b, 3, none⟩) (by simp) _).trans (Kp.set _ (S := [b]) (p := ⟨b, 4, none⟩) (by simp) _) fun _ h => .inl h
 obtain ⟨us, ho, hl⟩ := h.o
 have hin : ∀ k ∈ [b], k ∈ S ∨ w.heap.size ≤ k := fun k hm => .inl (by rw [List.mem_singleton.1 hm]; exact h.bS)
 have hsub : ∀ k ∈ ownT b (.slice none 0 0) lv, k ∈ ownT b v lv := fun k hk => by
  rcases mem_ownT.1 hk with rfl | e | e
  ·exact mem_ownT.2 (.inl rfl)
  ·cases e
  ·exact mem_ownT.2 (.inr (.inr e))
 refine Mut.of (S' := S) (v := .slice none 0 0) (lv := lv) ⟨⟨e2, OwL.nil _ _, by simp [Value.ownBlock]⟩, ⟨us, ow_keepN ho hk fun k hv hm => ?_, hl.keep hk hin fun _ h => .inl h⟩, h.nb, fun k hv => (by cases hv), fun k hk => h.sub k (hsub k hk), fun k hm => Nat.lt_of_lt_of_le (h.slt k hm) hk.size⟩ (fun _ h => h) ⟨hk.os, hk.tape, hk.output, hk.size, fun x hx hn => hk.block x hx fun hm => hn ?_⟩ fun k hk => .inl (hsub k hk)
 ·rw [List.mem_singleton.1 hm] at hv
  exact h.nb hv
 ·rw [List.mem_singleton.1 hm]
  exact mem_ownT.2 (.inl rfl)
theorem TrS.setN (h : TrS H w S b s L X n v lv) (m : Int) : TrS H (w.setCell ⟨b, 6, none⟩ (.int .i64 m)) S b s L X m v lv ∧ Kp (ownT b v lv) w (w.setCell ⟨b, 6, none⟩ (.int .i64 m)) := by
 have e1 := (heap_setCell_same w b 6 _ _ (.int .i64 m) h.m.h).trans (Rst.s6 _ _ _ _)
 have hk : Kp [b] w (w.setCell ⟨b, 6, none⟩ (.int .i64 m)) := Kp.set w (S := [b]) (p := ⟨b, 6, none⟩) (by simp) _
 obtain ⟨us, ho, hl⟩ := h.o
 have hin : ∀ k ∈ [b], k ∈ S ∨ w.heap.size ≤ k := fun k hm => .inl (by rw [List.mem_singleton.1 hm]; exact h.bS)
 refine ⟨⟨⟨e1, h.m.own.keepN hk fun k hv hm => ?_, h.m.ne⟩, ⟨us, ow_keepN ho hk fun k hv hm => ?_, hl.keep hk hin fun _ h => .inl h⟩, h.nb, h.ap, h.sub, fun k hm => Nat.lt_of_lt_of_le (h.slt k hm) hk.size⟩, ⟨hk.os, hk.tape, hk.output, hk.size, fun x hx hn => hk.block x hx fun hm => hn ?_⟩⟩
 ·rw [List.mem_singleton.1 hm] at hv
  exact h.m.ne hv
 ·rw [List.mem_singleton.1 hm] at hv
  exact h.nb hv
 ·rw [List.mem_singleton.1 hm]
  exact mem_ownT.2 (.inl rfl)
end
end Go.Proofs.YtcpkhhbbjimdaaaGreatDoor.Ce
namespace Go.Proofs.YtcpkhhbbjimdaaaGreatDoor.Ce
open Go.RowKit
variable {H : Hos}
def lack (b m : Nat) (w : World) : Nat := match w.cell? ⟨b, 5, none⟩ with | some (.slice _ n _) => m - n | _ => 0
theorem lack_eq {b m n c : Nat} {A : Option Addr} {w : World} (h : w.cell? ⟨b, 5, none⟩ = some (.slice A n c)) : lack b m w = m - n := by unfold lack; rw [h]
theorem lack_set {b m n c : Nat} {A : Option Addr} {w : World} {u : Value} (h : w.cell? ⟨b, 5, none⟩ = some u) (_x : Unit) : lack b m (w.setCell ⟨b, 5, none⟩ (.slice A n c)) = m - n := by
 refine lack_eq (A := A) (c := c) ?_
 unfold World.cell? at h
 unfold World.cell? World.setCell
 rw [Array.getElem?_modify, if_pos rfl]
 cases hq : w.heap[b]? with
 | none => rw [hq] at h; cases h
 | some o =>
  rw [hq] at h
  cases o <;> simp_all [Array.getElem?_setIfInBounds]
  exact (Array.getElem?_eq_some_iff.1 h).1
theorem grow_step {wr wA w2 : World} {S : List Nat} {b : Nat} {s : Sf} {L : List Cl} {X : List (List (List Cl))} {n : Int} {v lv v2 : Value} {us : List Value} (h : TrS H wr S b s L X n v lv) (hbA : Below wr.heap.size wr wA) (hl : Levs wA S us X) (ho2 : Ow w2 0 126 v2 (us ++ [.slice none 0 0])) (hg2 : wA.grownBy w2 lv.ownBlock) (h42 : v2.ownBlock = lv.ownBlock ∨ v2.ownBlock = some wA.heap.size) :
  w2.cell? ⟨b, 5, none⟩ = some lv ∧ w2.frozen? ⟨b, 5, none⟩ = false ∧ Mut H wr S (ownT b v lv) b s L (X ++ [[]]) n (w2.setCell ⟨b, 5, none⟩ v2) := by
 have hk2 : Kp lv.ownBlock.toList wA w2 := Kp.grown hg2 fun k hk => by simp [hk]
 have hk : Kp lv.ownBlock.toList wr w2 := (Kp.of_below hbA _).trans hk2 fun _ h => .inl h
 have hbl := h.m.lt
 have hb2 := (hk.block b hbl (by simpa using h.nb)).trans h.m.h
 have hsz := hbA.size
 refine ⟨cell_of_row _ _ 5 _ _ _ hb2, frozen_of_row _ _ _ _ _ hb2, h.setLv hk ho2 ((hl.keep hk2 (fun k hm => .inl (h.lS k (by simpa using hm))) fun k hm => ?_).snoc (Lev.nil _ _)) fun k hk' => ?_⟩
 ·rcases List.mem_append.1 hm with q | q
  ·rcases h42 with e | e
   ·rw [e] at q
    exact .inl (h.lS k (by simpa using q))
   ·rw [e] at q
    have : k = wA.heap.size := by simpa using q
    exact .inr (by omega)
  ·exact .inl q
 ·rcases h42 with e | e
  ·exact .inl (e ▸ hk')
  ·rw [e] at hk'
   injection hk' with hk'
   exact .inr (by omega)
theorem tgrow_any {w : World} {S : List Nat} {b : Nat} {s : Sf} {L : List Cl} {X : List (List (List Cl))} {n : Int} {v lv : Value} (h : TrS H w S b s L X n v lv) (m : Nat) (hm : m ≤ 10) (hX : X.length ≤ 10) :
  Calls Tryz.prog 87 #[.pointer (some ⟨b, 0, none⟩), .int .i64 (m : Int)] w fun e w' => (∃ u, e = .returned u) ∧ Mut H w S (ownT b v lv) b s L (X ++ List.replicate (m - X.length) []) n w' := by
 have H0 := Lib.hid (h.mut (Below.refl _ _))
 obtain ⟨M, hM⟩ : ∃ M, M = ownT b v lv := ⟨_, rfl⟩
 rw [← hM] at H0 ⊢
 clear h hM
 go_enter Tryz.func87, Tryz.ntmps87
 go_wp2_with fail
 go_loopw [] (fun wr => ∃ k : Nat, k ≤ m - X.length ∧ Hid (Mut H w S M b s L (X ++ List.replicate k []) n wr)) (fun wr => lack b m wr)
 case atStart => exact ⟨0, Nat.zero_le _, Lib.hid (by simpa using H0.out)⟩
 case round =>
  obtain ⟨k, hk, HM⟩ := hrel
  obtain ⟨Y, hY⟩ : ∃ Y, Y = X ++ List.replicate k ([] : List (List Cl)) := ⟨_, rfl⟩
  have hyl : Y.length = X.length + k := by rw [hY]; simp
  have HYS : Hid (Y ++ [[]] = X ++ List.replicate (k + 1) []) := Lib.hid (by rw [hY, List.append_assoc, ← List.replicate_succ'])
  have HY := Lib.hid hY
  rw [← hY] at HM
  have HYL := Lib.hid hyl
  have hyb : Y.length ≤ 20 := by omega
  clear hY hyl
  obtain ⟨v1, lv1, h1, h2, h3⟩ := HM.out
  have HT := Lib.hid h1
  have HK := Lib.hid h2
  have HO := Lib.hid h3
  have c5 := h1.c5
  obtain ⟨A, c, rfl, hc, hcm⟩ := h1.rdv.shape
  have hlk := lack_eq (m := m) c5
  unfold maxLen at hcm
  clear h1 h2 h3
  by_cases hlt : Y.length < m
  ·have hi : (Y.length : Int) < (m : Int) := by omega
   have hrd := Rd.newW (xs := [.slice none 0 0]) wr 126 #[.slice none 0 0] rfl (by simp [maxLen]) rfl
   have hbA := bwalloc (bwrefl wr) (.cells #[.slice none 0 0] 126)
   obtain ⟨us, ho, hl⟩ := (HT.out.up hbA).o
   have hul : us.length = Y.length := hl.1
   have hcA : (wr.alloc (.cells #[.slice none 0 0] 126)).cell? ⟨b, 5, none⟩ = some (.slice A Y.length c) := (HT.out.up hbA).c5
   have HL := Lib.hid hl
   have HOW := Lib.hid ho
   have HBA := Lib.hid hbA
   have hone : One [.slice none 0 0] := fun u hu => by rw [List.mem_singleton.1 hu]; rfl
   have hl1 : us.length + [Value.slice none 0 0].length ≤ maxLen := by simp [maxLen]; omega
   have hl2 : (us.length + [Value.slice none 0 0].length) * 24 ≤ 140737488355328 := by simp; omega
   have hul2 : (us ++ [Value.slice none 0 0]).length = Y.length + 1 := by simp [hul]
   have HUL2 := Lib.hid hul2
   clear hl hbA hul2 hul
   go_wp2_with (at_builtin; refine wpList_app levsT rfl rfl (.tmp 15) (.tmp 16) rfl rfl ho rfl hrd hone hl1 hl2 (Nat.zero_le _) ?_; intro v2 w2 ho2 hg2 h42; have HSTEP := Lib.hid (grow_step HT.out HBA.out HL.out ho2 hg2 h42); obtain ⟨A2, c2, hv2, -, -⟩ := ho2.rd.shape; rw [HUL2.out] at hv2; subst hv2; obtain ⟨c5', f5', -⟩ := HSTEP.out; clear ho2 hg2 h42)
   have HM2 := Lib.hid (Mut.then HK.out HO.out HSTEP.out.2.2)
   rw [HYS.out] at HM2
   have hlk2 : lack b m (w2.setCell ⟨b, 5, none⟩ (.slice A2 (Y.length + 1) c2)) = m - (Y.length + 1) := lack_set c5' ()
   go_roundw
   case rel => exact ⟨k + 1, by have := HYL.out; omega, HM2⟩
   case measure => rw [hlk2, hlk]; omega
  ·go_wp2_with fail
   go_end0
   obtain rfl : k = m - X.length := by have := HYL.out; omega
   rw [HY.out] at HM
   exact ⟨⟨_, rfl⟩, HM.out⟩
end Go.Proofs.YtcpkhhbbjimdaaaGreatDoor.Ce
