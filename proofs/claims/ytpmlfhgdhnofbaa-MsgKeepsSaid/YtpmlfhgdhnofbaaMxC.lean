/- The contracts of package msg's fits and Right. -/
import Derived.Test.YtpmlfhgdhnofbaaMxB
set_option maxHeartbeats 8000000
set_option maxRecDepth 100000
namespace Go.Proofs.Ytpmlfhgdhnofbaa.Ce
open Go.RowKit
structure FitsK (m : Ms) : Prop where
 kind : 1 ≤ m.h.kind ∧ m.h.kind ≤ 5
 k2 : m.h.kind ≠ 2 → m.votes = []
 k3 : m.h.kind ≠ 3 → m.h.vote = Vt.zero
 k4 : m.h.kind ≠ 4 → m.h.slot = 0
 votes : m.h.kind = 2 → VotesOk m.h.ballot m.votes
 vote : m.h.kind = 3 → m.h.vote.Right ∧ m.h.vote.ballot = m.h.ballot
 slot : m.h.kind = 4 → 0 ≤ m.h.slot ∧ m.h.slot < 64
noncomputable instance (m : Ms) : Decidable (FitsK m) := Classical.propDecidable _
theorem right_of (m : Ms) : m.Right ↔ (0 ≤ m.h.fr ∧ m.h.fr ≤ 6) ∧ (0 ≤ m.h.to_ ∧ m.h.to_ ≤ 6) ∧ (1 ≤ m.h.ballot ∧ m.h.ballot ≤ 2147483647) ∧ FitsK m := by
 constructor
 ·intro h
  exact ⟨h.fr, h.to_, h.ballot, ⟨h.kind, h.k2, h.k3, h.k4, fun _ => h.votes, h.vote, fun _ => ⟨h.slot.1, by have := h.slot.2; omega⟩⟩⟩
 ·rintro ⟨h1, h2, h3, h⟩
  refine ⟨h.kind, h1, h2, h3, h.k2, h.k3, h.k4, ?_, h.vote, ?_⟩
  ·by_cases e : m.h.kind = 2
   ·exact h.votes e
   ·rw [h.k2 e]
    exact ⟨fun c hc => by (cases hc), List.Pairwise.nil⟩
  ·by_cases e : m.h.kind = 4
   ·have := h.slot e
    omega
   ·rw [h.k4 e]
    omega
theorem fits_of1 {h : Mh} {V : List Vt} (e : h.kind = 1 ∨ h.kind = 5) : FitsK ⟨h, V⟩ ↔ h.slot = 0 ∧ h.vote = Vt.zero ∧ V = [] :=
 ⟨fun f => ⟨f.k4 (by simp only; omega), f.k3 (by simp only; omega), f.k2 (by simp only; omega)⟩, fun f => ⟨by simp only; omega, fun _ => f.2.2, fun _ => f.2.1, fun _ => f.1, fun k => by simp only at k; omega, fun k => by simp only at k; omega, fun k => by simp only at k; omega⟩⟩
theorem fits_of2 {h : Mh} {V : List Vt} (e : h.kind = 2) : FitsK ⟨h, V⟩ ↔ VotesOk h.ballot V ∧ h.slot = 0 ∧ h.vote = Vt.zero :=
 ⟨fun f => ⟨f.votes e, f.k4 (by simp only; omega), f.k3 (by simp only; omega)⟩, fun f => ⟨by simp only; omega, fun k => absurd e k, fun _ => f.2.2, fun _ => f.2.1, fun _ => f.1, fun k => by simp only at k; omega, fun k => by simp only at k; omega⟩⟩
theorem fits_of3 {h : Mh} {V : List Vt} (e : h.kind = 3) : FitsK ⟨h, V⟩ ↔ (h.vote.Right ∧ h.vote.ballot = h.ballot) ∧ h.slot = 0 ∧ V = [] :=
 ⟨fun f => ⟨f.vote e, f.k4 (by simp only; omega), f.k2 (by simp only; omega)⟩, fun f => ⟨by simp only; omega, fun _ => f.2.2, fun k => absurd e k, fun _ => f.2.1, fun k => by simp only at k; omega, fun _ => f.1, fun k => by simp only at k; omega⟩⟩
theorem fits_of4 {h : Mh} {V : List Vt} (e : h.kind = 4) : FitsK ⟨h, V⟩ ↔ (0 ≤ h.slot ∧ h.slot < 64) ∧ h.vote = Vt.zero ∧ V = [] :=
 ⟨fun f => ⟨f.slot e, f.k3 (by simp only; omega), f.k2 (by simp only; omega)⟩, fun f => ⟨by simp only; omega, fun _ => f.2.2, fun _ => f.2.1, fun k => absurd e k, fun k => by simp only at k; omega, fun k => by simp only at k; omega, fun _ => f.1⟩⟩
theorem fits_of0 {h : Mh} {V : List Vt} (e1 : h.kind ≠ 1) (e2 : h.kind ≠ 2) (e3 : h.kind ≠ 3) (e4 : h.kind ≠ 4) (e5 : h.kind ≠ 5) : ¬ FitsK ⟨h, V⟩ := fun f => by
 have := f.kind
 simp only at this
 omega
theorem votes_nil {V : List Vt} : V.length = 0 ↔ V = [] := List.length_eq_zero_iff
theorem mfits_any (x : Mx) (m : Ms) (w : World) (hx : MsIs w [] x m) (hl : m.votes.length ≤ 1000000) :
  Calls Try.prog 21 #[x.v] w fun e w' => e = .returned (.bool (decide (FitsK m))) ∧ Below w.heap.size w w' := by
 obtain ⟨hh, V⟩ := m
 obtain ⟨xh, xa, xn, xc⟩ := x
 obtain rfl : xh = hh := hx.h
 have hV := hx.votes
 have HN : Hid (xn = 0 ↔ V = []) := Lib.hid (by rw [show xn = V.length from hx.len]; exact votes_nil)
 obtain ⟨k, f, t, b, s, v⟩ := xh
 clear hx
 have go : ∀ q : Bool, q = decide (FitsK ⟨⟨k, f, t, b, s, v⟩, V⟩) → Calls Try.prog 21 #[(Mx.mk ⟨k, f, t, b, s, v⟩ xa xn xc).v] w fun e w' => e = .returned (.bool q) ∧ Below w.heap.size w w' := by
  intro q hq
  have HQ := Lib.hid hq
  have HV := Lib.hid hV
  clear hq hV
  by_cases hk : (k = 1 ∨ k = 5)
  ·have HF := Lib.hid (fits_of1 (h := ⟨k, f, t, b, s, v⟩) (V := V) hk)
   rcases hk with rfl | rfl
   all_goals
    go_enter Try.func21, Try.ntmps21
    go_wp2_with (refine St.box msD rfl (.tmp 0) ⟨⟨_, f, t, b, s, v⟩, xa, xn, xc⟩ rfl rfl ?_)
    constructor
    intro w1 hI1 hb1 hz1
    clear hz1
    obtain ⟨c0, -, -, c3, c4, -, c6, -, -, -, cA⟩ := MxAt.of hI1
    simp only at c0 c3 c4 c6 cA
    have hva := vote_at hI1
    simp only at hva
    clear hI1
    by_cases d1 : s = 0
    ·by_cases d2 : v = Vt.zero
     ·have hal : St.allAlike vtSp (Vt.cs v) Vt.zero.cs = true := by rw [vtAlike]; exact decide_eq_true d2
      by_cases d3 : xn = 0
      ·have d4 : ((xn : Int) == 0) = true := by simp only [beq_iff_eq]; omega
       have HB : Hid (q = true) := Lib.hid (HQ.out.trans (decide_eq_true (HF.out.2 ⟨d1, d2, HN.out.1 d3⟩)))
       clear HQ HF d2
       go_wp2_with (first | (with_reducible (show wpList _ _ _ ({ dst := some 51, op := .load 23 (.tmp 50), type := _, pos := _, after := _, guard := _ } :: _) _ _); refine St.loadAt vtOk rfl (.tmp 50) rfl _ rfl hva ?_) | (with_reducible (show wpList _ _ _ ({ dst := some 53, op := _, type := _, pos := _, after := _, guard := _ } :: _) _ _); refine St.eq vtEqs (vtTyped _ Vt.zero) rfl (.tmp 51) (.tmp 52) _ rfl rfl rfl hal ?_))
       go_ret
       exact ⟨ret1 (vb HB.out.symm), hb1⟩
      ·have d4 : ((xn : Int) == 0) = false := by rw [beq_eq_false_iff_ne]; omega
       have HB : Hid (q = false) := Lib.hid (HQ.out.trans (decide_eq_false fun h => d3 (HN.out.2 (HF.out.1 h).2.2)))
       clear HQ HF d2
       go_wp2_with (first | (with_reducible (show wpList _ _ _ ({ dst := some 51, op := .load 23 (.tmp 50), type := _, pos := _, after := _, guard := _ } :: _) _ _); refine St.loadAt vtOk rfl (.tmp 50) rfl _ rfl hva ?_) | (with_reducible (show wpList _ _ _ ({ dst := some 53, op := _, type := _, pos := _, after := _, guard := _ } :: _) _ _); refine St.eq vtEqs (vtTyped _ Vt.zero) rfl (.tmp 51) (.tmp 52) _ rfl rfl rfl hal ?_))
       go_ret
       exact ⟨ret1 (vb HB.out.symm), hb1⟩
     ·have hal : St.allAlike vtSp (Vt.cs v) Vt.zero.cs = false := by rw [vtAlike]; exact decide_eq_false d2
      have HB : Hid (q = false) := Lib.hid (HQ.out.trans (decide_eq_false fun h => d2 ((HF.out.1 h).2.1)))
      clear HQ HF d2
      go_wp2_with (first | (with_reducible (show wpList _ _ _ ({ dst := some 51, op := .load 23 (.tmp 50), type := _, pos := _, after := _, guard := _ } :: _) _ _); refine St.loadAt vtOk rfl (.tmp 50) rfl _ rfl hva ?_) | (with_reducible (show wpList _ _ _ ({ dst := some 53, op := _, type := _, pos := _, after := _, guard := _ } :: _) _ _); refine St.eq vtEqs (vtTyped _ Vt.zero) rfl (.tmp 51) (.tmp 52) _ rfl rfl rfl hal ?_))
      go_ret
      exact ⟨ret1 (vb HB.out.symm), hb1⟩
    ·have HB : Hid (q = false) := Lib.hid (HQ.out.trans (decide_eq_false fun h => d1 ((HF.out.1 h).1)))
     clear HQ HF
     go_wp2_with (first | (with_reducible (show wpList _ _ _ ({ dst := some 51, op := .load 23 (.tmp 50), type := _, pos := _, after := _, guard := _ } :: _) _ _); refine St.loadAt vtOk rfl (.tmp 50) rfl _ rfl hva ?_) | (with_reducible (show wpList _ _ _ ({ dst := some 53, op := _, type := _, pos := _, after := _, guard := _ } :: _) _ _); refine St.eq vtEqs (vtTyped _ Vt.zero) rfl (.tmp 51) (.tmp 52) _ rfl rfl rfl hal ?_))
     go_ret
     exact ⟨ret1 (vb HB.out.symm), hb1⟩
  have k1 : (k == 1) = false := by rw [beq_eq_false_iff_ne]; omega
  have k5 : (k == 5) = false := by rw [beq_eq_false_iff_ne]; omega
  by_cases k2 : k = 2
  ·subst k2
   have HF := Lib.hid (fits_of2 (h := ⟨2, f, t, b, s, v⟩) (V := V) rfl)
   have ht := fun z hz => mtold_any (.slice xa xn xc) V b z (HV.out.bel hz) hl
   by_cases hT : VotesOk b V
   ·go_enter Try.func21, Try.ntmps21
    go_wp2_with (refine St.box msD rfl (.tmp 0) ⟨⟨2, f, t, b, s, v⟩, xa, xn, xc⟩ rfl rfl ?_)
    constructor
    intro w1 hI1 hb1 hz1
    clear hz1
    obtain ⟨c0, -, -, c3, c4, -, c6, -, -, -, cA⟩ := MxAt.of hI1
    simp only at c0 c3 c4 c6 cA
    have hva := vote_at hI1
    simp only at hva
    rw [decide_eq_true hT] at ht
    go_wp2_with fail
    refine (ht _ hb1).mono ?_
    rintro e w2 ⟨rfl, hb2⟩
    have hI2 := hI1.up hb2
    have hw2 := bwstep hb1 hb2
    have hP := St.Sp.Set.part (i := 10) (u := .slice none 0 0) (y := ⟨⟨2, f, t, b, s, v⟩, none, 0, 0⟩) hI2 rfl
    have cA2 := (MxAt.of hI2).cA
    have fz2 := hI2.fz 10
    simp only at cA2
    have HW := Lib.hid (hP.bel hw2 (Nat.le_refl _))
    have hI3 := hP.i
    obtain ⟨-, -, -, -, e4, -, -, -, -, -, eA⟩ := MxAt.of hI3
    simp only at e4 eA
    have hva := vote_at hI3
    simp only at hva
    clear hI3 hP
    clear c0 c3 c4 c6 cA hI1 hb1 hb2 ht hI2 hw2
    by_cases d1 : s = 0
    ·by_cases d2 : v = Vt.zero
     ·have hal : St.allAlike vtSp (Vt.cs v) Vt.zero.cs = true := by rw [vtAlike]; exact decide_eq_true d2
      have HB : Hid (q = true) := Lib.hid (HQ.out.trans (decide_eq_true (HF.out.2 ⟨hT, d1, d2⟩)))
      clear HQ HF d2
      go_wp2_with (first | (with_reducible (show wpList _ _ _ ({ dst := some 51, op := .load 23 (.tmp 50), type := _, pos := _, after := _, guard := _ } :: _) _ _); refine St.loadAt vtOk rfl (.tmp 50) rfl _ rfl hva ?_) | (with_reducible (show wpList _ _ _ ({ dst := some 53, op := _, type := _, pos := _, after := _, guard := _ } :: _) _ _); refine St.eq vtEqs (vtTyped _ Vt.zero) rfl (.tmp 51) (.tmp 52) _ rfl rfl rfl hal ?_))
      go_ret
      exact ⟨ret1 (vb HB.out.symm), HW.out⟩
     ·have hal : St.allAlike vtSp (Vt.cs v) Vt.zero.cs = false := by rw [vtAlike]; exact decide_eq_false d2
      have HB : Hid (q = false) := Lib.hid (HQ.out.trans (decide_eq_false fun h => d2 ((HF.out.1 h).2.2)))
      clear HQ HF d2
      go_wp2_with (first | (with_reducible (show wpList _ _ _ ({ dst := some 51, op := .load 23 (.tmp 50), type := _, pos := _, after := _, guard := _ } :: _) _ _); refine St.loadAt vtOk rfl (.tmp 50) rfl _ rfl hva ?_) | (with_reducible (show wpList _ _ _ ({ dst := some 53, op := _, type := _, pos := _, after := _, guard := _ } :: _) _ _); refine St.eq vtEqs (vtTyped _ Vt.zero) rfl (.tmp 51) (.tmp 52) _ rfl rfl rfl hal ?_))
      go_ret
      exact ⟨ret1 (vb HB.out.symm), HW.out⟩
    ·have HB : Hid (q = false) := Lib.hid (HQ.out.trans (decide_eq_false fun h => d1 ((HF.out.1 h).2.1)))
     clear HQ HF
     go_wp2_with (first | (with_reducible (show wpList _ _ _ ({ dst := some 51, op := .load 23 (.tmp 50), type := _, pos := _, after := _, guard := _ } :: _) _ _); refine St.loadAt vtOk rfl (.tmp 50) rfl _ rfl hva ?_) | (with_reducible (show wpList _ _ _ ({ dst := some 53, op := _, type := _, pos := _, after := _, guard := _ } :: _) _ _); refine St.eq vtEqs (vtTyped _ Vt.zero) rfl (.tmp 51) (.tmp 52) _ rfl rfl rfl hal ?_))
     go_ret
     exact ⟨ret1 (vb HB.out.symm), HW.out⟩
   ·go_enter Try.func21, Try.ntmps21
    go_wp2_with (refine St.box msD rfl (.tmp 0) ⟨⟨2, f, t, b, s, v⟩, xa, xn, xc⟩ rfl rfl ?_)
    constructor
    intro w1 hI1 hb1 hz1
    clear hz1
    obtain ⟨c0, -, -, c3, c4, -, c6, -, -, -, cA⟩ := MxAt.of hI1
    simp only at c0 c3 c4 c6 cA
    have hva := vote_at hI1
    simp only at hva
    rw [decide_eq_false hT] at ht
    go_wp2_with fail
    refine (ht _ hb1).mono ?_
    rintro e w2 ⟨rfl, hb2⟩
    have hI2 := hI1.up hb2
    have hw2 := bwstep hb1 hb2
    have hP := St.Sp.Set.part (i := 10) (u := .slice none 0 0) (y := ⟨⟨2, f, t, b, s, v⟩, none, 0, 0⟩) hI2 rfl
    have cA2 := (MxAt.of hI2).cA
    have fz2 := hI2.fz 10
    simp only at cA2
    have HW := Lib.hid (hP.bel hw2 (Nat.le_refl _))
    have hI3 := hP.i
    obtain ⟨-, -, -, -, e4, -, -, -, -, -, eA⟩ := MxAt.of hI3
    simp only at e4 eA
    have hva := vote_at hI3
    simp only at hva
    clear hI3 hP
    clear c0 c3 c4 c6 cA hI1 hb1 hb2 ht hI2 hw2
    have HB : Hid (q = false) := Lib.hid (HQ.out.trans (decide_eq_false fun h => hT (HF.out.1 h).1))
    clear HQ HF
    go_wp2_with (first | (with_reducible (show wpList _ _ _ ({ dst := some 51, op := .load 23 (.tmp 50), type := _, pos := _, after := _, guard := _ } :: _) _ _); refine St.loadAt vtOk rfl (.tmp 50) rfl _ rfl hva ?_) | (with_reducible (show wpList _ _ _ ({ dst := some 53, op := _, type := _, pos := _, after := _, guard := _ } :: _) _ _); refine St.eq vtEqs (vtTyped _ Vt.zero) rfl (.tmp 51) (.tmp 52) _ rfl rfl rfl hal ?_))
    go_ret
    exact ⟨ret1 (vb HB.out.symm), HW.out⟩
  have k2' : (k == 2) = false := by rw [beq_eq_false_iff_ne]; exact k2
  by_cases k3 : k = 3
  ·subst k3
   have HF := Lib.hid (fits_of3 (h := ⟨3, f, t, b, s, v⟩) (V := V) rfl)
   have hr := fun z => sright_any v z
   by_cases h1 : v.Right
   ·by_cases h2 : v.ballot = b
    ·go_enter Try.func21, Try.ntmps21
     go_wp2_with (refine St.box msD rfl (.tmp 0) ⟨⟨3, f, t, b, s, v⟩, xa, xn, xc⟩ rfl rfl ?_)
     constructor
     intro w1 hI1 hb1 hz1
     clear hz1
     obtain ⟨c0, -, -, c3, c4, -, c6, -, -, -, cA⟩ := MxAt.of hI1
     simp only at c0 c3 c4 c6 cA
     have hva := vote_at hI1
     simp only at hva
     rw [decide_eq_true h1] at hr
     go_wp2_with (with_reducible (show wpList _ _ _ ({ dst := some 20, op := .load 23 (.tmp 19), type := _, pos := _, after := _, guard := _ } :: _) _ _); refine St.loadAt vtOk rfl (.tmp 19) rfl _ rfl hva ?_)
     refine (hr _).mono ?_
     rintro e w2 ⟨rfl, hb2⟩
     have hI2 := hI1.up hb2
     have hw2 := bwstep hb1 hb2
     obtain ⟨-, -, -, c3, -, -, c6, -, -, -, -⟩ := MxAt.of hI2
     simp only at c3 c6
     clear c0 c4 cA hva hI1 hb1 hb2 hr
     go_wp2_with (with_reducible (show wpList _ _ _ ({ dst := none, op := .store 23 (.tmp 31) (.tmp 30), type := _, pos := _, after := _, guard := _ } :: _) _ _); refine St.storeAt vtOk (c := Vt.zero) rfl (.tmp 31) (.tmp 30) rfl rfl rfl hI2.h (show 10 ≤ 11 by decide) ?_)
     constructor
     intro w3 hs3
     have hP := setVote hs3
     have hI3 := hP.i
     have HW := Lib.hid (hP.bel hw2 (Nat.le_refl _))
     obtain ⟨-, -, -, -, e4, -, -, -, -, -, eA⟩ := MxAt.of hI3
     simp only at e4 eA
     have hva := vote_at hI3
     simp only at hva
     clear hI3 hP
     clear c3 c6 hI2 hw2 hs3
     have hal : St.allAlike vtSp (Vt.cs Vt.zero) Vt.zero.cs = true := vtSelf _
     by_cases d1 : s = 0
     ·by_cases d3 : xn = 0
      ·have d4 : ((xn : Int) == 0) = true := by simp only [beq_iff_eq]; omega
       have HB : Hid (q = true) := Lib.hid (HQ.out.trans (decide_eq_true (HF.out.2 ⟨⟨h1, h2⟩, d1, HN.out.1 d3⟩)))
       clear HQ HF
       go_wp2_with (first | (with_reducible (show wpList _ _ _ ({ dst := some 51, op := .load 23 (.tmp 50), type := _, pos := _, after := _, guard := _ } :: _) _ _); refine St.loadAt vtOk rfl (.tmp 50) rfl _ rfl hva ?_) | (with_reducible (show wpList _ _ _ ({ dst := some 53, op := _, type := _, pos := _, after := _, guard := _ } :: _) _ _); refine St.eq vtEqs (vtTyped _ Vt.zero) rfl (.tmp 51) (.tmp 52) _ rfl rfl rfl hal ?_))
       go_ret
       exact ⟨ret1 (vb HB.out.symm), HW.out⟩
      ·have d4 : ((xn : Int) == 0) = false := by rw [beq_eq_false_iff_ne]; omega
       have HB : Hid (q = false) := Lib.hid (HQ.out.trans (decide_eq_false fun h => d3 (HN.out.2 (HF.out.1 h).2.2)))
       clear HQ HF
       go_wp2_with (first | (with_reducible (show wpList _ _ _ ({ dst := some 51, op := .load 23 (.tmp 50), type := _, pos := _, after := _, guard := _ } :: _) _ _); refine St.loadAt vtOk rfl (.tmp 50) rfl _ rfl hva ?_) | (with_reducible (show wpList _ _ _ ({ dst := some 53, op := _, type := _, pos := _, after := _, guard := _ } :: _) _ _); refine St.eq vtEqs (vtTyped _ Vt.zero) rfl (.tmp 51) (.tmp 52) _ rfl rfl rfl hal ?_))
       go_ret
       exact ⟨ret1 (vb HB.out.symm), HW.out⟩
     ·have HB : Hid (q = false) := Lib.hid (HQ.out.trans (decide_eq_false fun h => d1 ((HF.out.1 h).2.1)))
      clear HQ HF
      go_wp2_with (first | (with_reducible (show wpList _ _ _ ({ dst := some 51, op := .load 23 (.tmp 50), type := _, pos := _, after := _, guard := _ } :: _) _ _); refine St.loadAt vtOk rfl (.tmp 50) rfl _ rfl hva ?_) | (with_reducible (show wpList _ _ _ ({ dst := some 53, op := _, type := _, pos := _, after := _, guard := _ } :: _) _ _); refine St.eq vtEqs (vtTyped _ Vt.zero) rfl (.tmp 51) (.tmp 52) _ rfl rfl rfl hal ?_))
      go_ret
      exact ⟨ret1 (vb HB.out.symm), HW.out⟩
    ·go_enter Try.func21, Try.ntmps21
     go_wp2_with (refine St.box msD rfl (.tmp 0) ⟨⟨3, f, t, b, s, v⟩, xa, xn, xc⟩ rfl rfl ?_)
     constructor
     intro w1 hI1 hb1 hz1
     clear hz1
     obtain ⟨c0, -, -, c3, c4, -, c6, -, -, -, cA⟩ := MxAt.of hI1
     simp only at c0 c3 c4 c6 cA
     have hva := vote_at hI1
     simp only at hva
     rw [decide_eq_true h1] at hr
     go_wp2_with (with_reducible (show wpList _ _ _ ({ dst := some 20, op := .load 23 (.tmp 19), type := _, pos := _, after := _, guard := _ } :: _) _ _); refine St.loadAt vtOk rfl (.tmp 19) rfl _ rfl hva ?_)
     refine (hr _).mono ?_
     rintro e w2 ⟨rfl, hb2⟩
     have hI2 := hI1.up hb2
     have hw2 := bwstep hb1 hb2
     obtain ⟨-, -, -, c3, -, -, c6, -, -, -, -⟩ := MxAt.of hI2
     simp only at c3 c6
     clear c0 c4 cA hva hI1 hb1 hb2 hr
     go_wp2_with (with_reducible (show wpList _ _ _ ({ dst := none, op := .store 23 (.tmp 31) (.tmp 30), type := _, pos := _, after := _, guard := _ } :: _) _ _); refine St.storeAt vtOk (c := Vt.zero) rfl (.tmp 31) (.tmp 30) rfl rfl rfl hI2.h (show 10 ≤ 11 by decide) ?_)
     constructor
     intro w3 hs3
     have hP := setVote hs3
     have hI3 := hP.i
     have HW := Lib.hid (hP.bel hw2 (Nat.le_refl _))
     obtain ⟨-, -, -, -, e4, -, -, -, -, -, eA⟩ := MxAt.of hI3
     simp only at e4 eA
     have hva := vote_at hI3
     simp only at hva
     clear hI3 hP
     clear c3 c6 hI2 hw2 hs3
     have hal : St.allAlike vtSp (Vt.cs Vt.zero) Vt.zero.cs = true := vtSelf _
     have HB : Hid (q = false) := Lib.hid (HQ.out.trans (decide_eq_false fun h => h2 (HF.out.1 h).1.2))
     clear HQ HF
     go_wp2_with (first | (with_reducible (show wpList _ _ _ ({ dst := some 51, op := .load 23 (.tmp 50), type := _, pos := _, after := _, guard := _ } :: _) _ _); refine St.loadAt vtOk rfl (.tmp 50) rfl _ rfl hva ?_) | (with_reducible (show wpList _ _ _ ({ dst := some 53, op := _, type := _, pos := _, after := _, guard := _ } :: _) _ _); refine St.eq vtEqs (vtTyped _ Vt.zero) rfl (.tmp 51) (.tmp 52) _ rfl rfl rfl hal ?_))
     go_ret
     exact ⟨ret1 (vb HB.out.symm), HW.out⟩
   ·go_enter Try.func21, Try.ntmps21
    go_wp2_with (refine St.box msD rfl (.tmp 0) ⟨⟨3, f, t, b, s, v⟩, xa, xn, xc⟩ rfl rfl ?_)
    constructor
    intro w1 hI1 hb1 hz1
    clear hz1
    obtain ⟨c0, -, -, c3, c4, -, c6, -, -, -, cA⟩ := MxAt.of hI1
    simp only at c0 c3 c4 c6 cA
    have hva := vote_at hI1
    simp only at hva
    rw [decide_eq_false h1] at hr
    go_wp2_with (with_reducible (show wpList _ _ _ ({ dst := some 20, op := .load 23 (.tmp 19), type := _, pos := _, after := _, guard := _ } :: _) _ _); refine St.loadAt vtOk rfl (.tmp 19) rfl _ rfl hva ?_)
    refine (hr _).mono ?_
    rintro e w2 ⟨rfl, hb2⟩
    have hI2 := hI1.up hb2
    have hw2 := bwstep hb1 hb2
    obtain ⟨-, -, -, c3, -, -, c6, -, -, -, -⟩ := MxAt.of hI2
    simp only at c3 c6
    clear c0 c4 cA hva hI1 hb1 hb2 hr
    go_wp2_with (with_reducible (show wpList _ _ _ ({ dst := none, op := .store 23 (.tmp 31) (.tmp 30), type := _, pos := _, after := _, guard := _ } :: _) _ _); refine St.storeAt vtOk (c := Vt.zero) rfl (.tmp 31) (.tmp 30) rfl rfl rfl hI2.h (show 10 ≤ 11 by decide) ?_)
    constructor
    intro w3 hs3
    have hP := setVote hs3
    have hI3 := hP.i
    have HW := Lib.hid (hP.bel hw2 (Nat.le_refl _))
    obtain ⟨-, -, -, -, e4, -, -, -, -, -, eA⟩ := MxAt.of hI3
    simp only at e4 eA
    have hva := vote_at hI3
    simp only at hva
    clear hI3 hP
    clear c3 c6 hI2 hw2 hs3
    have hal : St.allAlike vtSp (Vt.cs Vt.zero) Vt.zero.cs = true := vtSelf _
    have HB : Hid (q = false) := Lib.hid (HQ.out.trans (decide_eq_false fun h => h1 (HF.out.1 h).1.1))
    clear HQ HF
    go_wp2_with (first | (with_reducible (show wpList _ _ _ ({ dst := some 51, op := .load 23 (.tmp 50), type := _, pos := _, after := _, guard := _ } :: _) _ _); refine St.loadAt vtOk rfl (.tmp 50) rfl _ rfl hva ?_) | (with_reducible (show wpList _ _ _ ({ dst := some 53, op := _, type := _, pos := _, after := _, guard := _ } :: _) _ _); refine St.eq vtEqs (vtTyped _ Vt.zero) rfl (.tmp 51) (.tmp 52) _ rfl rfl rfl hal ?_))
    go_ret
    exact ⟨ret1 (vb HB.out.symm), HW.out⟩
  have k3' : (k == 3) = false := by rw [beq_eq_false_iff_ne]; exact k3
  by_cases k4 : k = 4
  ·subst k4
   have HF := Lib.hid (fits_of4 (h := ⟨4, f, t, b, s, v⟩) (V := V) rfl)
   by_cases h1 : 0 ≤ s
   ·by_cases h2 : s < 64
    ·go_enter Try.func21, Try.ntmps21
     go_wp2_with (refine St.box msD rfl (.tmp 0) ⟨⟨4, f, t, b, s, v⟩, xa, xn, xc⟩ rfl rfl ?_)
     constructor
     intro w1 hI1 hb1 hz1
     clear hz1
     obtain ⟨c0, -, -, c3, c4, -, c6, -, -, -, cA⟩ := MxAt.of hI1
     simp only at c0 c3 c4 c6 cA
     have hP := St.Sp.Set.part (i := 4) (u := .int .i64 0) (y := ⟨⟨4, f, t, b, 0, v⟩, xa, xn, xc⟩) hI1 rfl
     have fz2 := hI1.fz 4
     have HW := Lib.hid (hP.bel hb1 (Nat.le_refl _))
     have hI3 := hP.i
     obtain ⟨-, -, -, -, e4, -, -, -, -, -, eA⟩ := MxAt.of hI3
     simp only at e4 eA
     have hva := vote_at hI3
     simp only at hva
     clear hI3 hP
     clear hI1 hb1
     by_cases d2 : v = Vt.zero
     ·have hal : St.allAlike vtSp (Vt.cs v) Vt.zero.cs = true := by rw [vtAlike]; exact decide_eq_true d2
      by_cases d3 : xn = 0
      ·have d4 : ((xn : Int) == 0) = true := by simp only [beq_iff_eq]; omega
       have HB : Hid (q = true) := Lib.hid (HQ.out.trans (decide_eq_true (HF.out.2 ⟨⟨h1, h2⟩, d2, HN.out.1 d3⟩)))
       clear HQ HF d2
       go_wp2_with (first | (with_reducible (show wpList _ _ _ ({ dst := some 51, op := .load 23 (.tmp 50), type := _, pos := _, after := _, guard := _ } :: _) _ _); refine St.loadAt vtOk rfl (.tmp 50) rfl _ rfl hva ?_) | (with_reducible (show wpList _ _ _ ({ dst := some 53, op := _, type := _, pos := _, after := _, guard := _ } :: _) _ _); refine St.eq vtEqs (vtTyped _ Vt.zero) rfl (.tmp 51) (.tmp 52) _ rfl rfl rfl hal ?_))
       go_ret
       exact ⟨ret1 (vb HB.out.symm), HW.out⟩
      ·have d4 : ((xn : Int) == 0) = false := by rw [beq_eq_false_iff_ne]; omega
       have HB : Hid (q = false) := Lib.hid (HQ.out.trans (decide_eq_false fun h => d3 (HN.out.2 (HF.out.1 h).2.2)))
       clear HQ HF d2
       go_wp2_with (first | (with_reducible (show wpList _ _ _ ({ dst := some 51, op := .load 23 (.tmp 50), type := _, pos := _, after := _, guard := _ } :: _) _ _); refine St.loadAt vtOk rfl (.tmp 50) rfl _ rfl hva ?_) | (with_reducible (show wpList _ _ _ ({ dst := some 53, op := _, type := _, pos := _, after := _, guard := _ } :: _) _ _); refine St.eq vtEqs (vtTyped _ Vt.zero) rfl (.tmp 51) (.tmp 52) _ rfl rfl rfl hal ?_))
       go_ret
       exact ⟨ret1 (vb HB.out.symm), HW.out⟩
     ·have hal : St.allAlike vtSp (Vt.cs v) Vt.zero.cs = false := by rw [vtAlike]; exact decide_eq_false d2
      have HB : Hid (q = false) := Lib.hid (HQ.out.trans (decide_eq_false fun h => d2 ((HF.out.1 h).2.1)))
      clear HQ HF d2
      go_wp2_with (first | (with_reducible (show wpList _ _ _ ({ dst := some 51, op := .load 23 (.tmp 50), type := _, pos := _, after := _, guard := _ } :: _) _ _); refine St.loadAt vtOk rfl (.tmp 50) rfl _ rfl hva ?_) | (with_reducible (show wpList _ _ _ ({ dst := some 53, op := _, type := _, pos := _, after := _, guard := _ } :: _) _ _); refine St.eq vtEqs (vtTyped _ Vt.zero) rfl (.tmp 51) (.tmp 52) _ rfl rfl rfl hal ?_))
      go_ret
      exact ⟨ret1 (vb HB.out.symm), HW.out⟩
    ·go_enter Try.func21, Try.ntmps21
     go_wp2_with (refine St.box msD rfl (.tmp 0) ⟨⟨4, f, t, b, s, v⟩, xa, xn, xc⟩ rfl rfl ?_)
     constructor
     intro w1 hI1 hb1 hz1
     clear hz1
     obtain ⟨c0, -, -, c3, c4, -, c6, -, -, -, cA⟩ := MxAt.of hI1
     simp only at c0 c3 c4 c6 cA
     have hP := St.Sp.Set.part (i := 4) (u := .int .i64 0) (y := ⟨⟨4, f, t, b, 0, v⟩, xa, xn, xc⟩) hI1 rfl
     have fz2 := hI1.fz 4
     have HW := Lib.hid (hP.bel hb1 (Nat.le_refl _))
     have hI3 := hP.i
     obtain ⟨-, -, -, -, e4, -, -, -, -, -, eA⟩ := MxAt.of hI3
     simp only at e4 eA
     have hva := vote_at hI3
     simp only at hva
     clear hI3 hP
     clear hI1 hb1
     have HB : Hid (q = false) := Lib.hid (HQ.out.trans (decide_eq_false fun h => by have := (HF.out.1 h).1; omega))
     clear HQ HF
     go_wp2_with (first | (with_reducible (show wpList _ _ _ ({ dst := some 51, op := .load 23 (.tmp 50), type := _, pos := _, after := _, guard := _ } :: _) _ _); refine St.loadAt vtOk rfl (.tmp 50) rfl _ rfl hva ?_) | (with_reducible (show wpList _ _ _ ({ dst := some 53, op := _, type := _, pos := _, after := _, guard := _ } :: _) _ _); refine St.eq vtEqs (vtTyped _ Vt.zero) rfl (.tmp 51) (.tmp 52) _ rfl rfl rfl hal ?_))
     go_ret
     exact ⟨ret1 (vb HB.out.symm), HW.out⟩
   ·go_enter Try.func21, Try.ntmps21
    go_wp2_with (refine St.box msD rfl (.tmp 0) ⟨⟨4, f, t, b, s, v⟩, xa, xn, xc⟩ rfl rfl ?_)
    constructor
    intro w1 hI1 hb1 hz1
    clear hz1
    obtain ⟨c0, -, -, c3, c4, -, c6, -, -, -, cA⟩ := MxAt.of hI1
    simp only at c0 c3 c4 c6 cA
    have hP := St.Sp.Set.part (i := 4) (u := .int .i64 0) (y := ⟨⟨4, f, t, b, 0, v⟩, xa, xn, xc⟩) hI1 rfl
    have fz2 := hI1.fz 4
    have HW := Lib.hid (hP.bel hb1 (Nat.le_refl _))
    have hI3 := hP.i
    obtain ⟨-, -, -, -, e4, -, -, -, -, -, eA⟩ := MxAt.of hI3
    simp only at e4 eA
    have hva := vote_at hI3
    simp only at hva
    clear hI3 hP
    clear hI1 hb1
    have HB : Hid (q = false) := Lib.hid (HQ.out.trans (decide_eq_false fun h => by have := (HF.out.1 h).1; omega))
    clear HQ HF
    go_wp2_with (first | (with_reducible (show wpList _ _ _ ({ dst := some 51, op := .load 23 (.tmp 50), type := _, pos := _, after := _, guard := _ } :: _) _ _); refine St.loadAt vtOk rfl (.tmp 50) rfl _ rfl hva ?_) | (with_reducible (show wpList _ _ _ ({ dst := some 53, op := _, type := _, pos := _, after := _, guard := _ } :: _) _ _); refine St.eq vtEqs (vtTyped _ Vt.zero) rfl (.tmp 51) (.tmp 52) _ rfl rfl rfl hal ?_))
    go_ret
    exact ⟨ret1 (vb HB.out.symm), HW.out⟩
  have k4' : (k == 4) = false := by rw [beq_eq_false_iff_ne]; exact k4
  have HB : Hid (q = false) := Lib.hid (HQ.out.trans (decide_eq_false (fits_of0 (by simp only; omega) k2 k3 k4 (by simp only; omega))))
  clear HQ hk k2 k3 k4
  go_enter Try.func21, Try.ntmps21
  go_wp2_with (refine St.box msD rfl (.tmp 0) ⟨⟨k, f, t, b, s, v⟩, xa, xn, xc⟩ rfl rfl ?_)
  constructor
  intro w1 hI1 hb1 hz1
  clear hz1
  obtain ⟨c0, -, -, c3, c4, -, c6, -, -, -, cA⟩ := MxAt.of hI1
  simp only at c0 c3 c4 c6 cA
  have hva := vote_at hI1
  simp only at hva
  clear hI1 c3 c4 c6 cA hva
  go_wp2_with fail
  go_ret
  exact ⟨ret1 (vb HB.out.symm), hb1⟩
 exact go _ rfl
theorem mright_any (x : Mx) (m : Ms) (w : World) (hx : MsIs w [] x m) (hl : m.votes.length ≤ 1000000) :
  Calls Try.prog 10 #[x.v] w fun e w' => e = .returned (.bool (decide m.Right)) ∧ Below w.heap.size w w' := by
 have HR := Lib.hid (right_of m)
 have HX := Lib.hid hx
 have hff := fun z hz => mfits_any x m z (HX.out.bel hz) hl
 obtain ⟨xh, xa, xn, xc⟩ := x
 obtain rfl : xh = m.h := hx.h
 obtain ⟨⟨k, f, t, b, s, v⟩, V⟩ := m
 simp only at HR
 have h1 := fun z => mreplica_any f z
 have h2 := fun z => mreplica_any t z
 have h3 := fun z => mballot_any b z
 clear hx
 have go : ∀ q : Bool, q = decide (Ms.Right ⟨⟨k, f, t, b, s, v⟩, V⟩) → Calls Try.prog 10 #[(Mx.mk ⟨k, f, t, b, s, v⟩ xa xn xc).v] w fun e w' => e = .returned (.bool q) ∧ Below w.heap.size w w' := by
  intro q hq
  have HQ := Lib.hid hq
  clear hq HX
  by_cases d1 : 0 ≤ f ∧ f ≤ 6
  ·by_cases d2 : 0 ≤ t ∧ t ≤ 6
   ·by_cases d3 : 1 ≤ b ∧ b ≤ 2147483647
    ·rw [decide_eq_true d1] at h1
     rw [decide_eq_true d2] at h2
     rw [decide_eq_true d3] at h3
     have HB : Hid (q = decide (FitsK ⟨⟨k, f, t, b, s, v⟩, V⟩)) := Lib.hid (HQ.out.trans (decide_eq_decide.2 ⟨fun h => (HR.out.1 h).2.2.2, fun h => HR.out.2 ⟨d1, d2, d3, h⟩⟩))
     clear HQ HR
     generalize decide (FitsK ⟨⟨k, f, t, b, s, v⟩, V⟩) = y at hff HB
     clear d1 d2 d3
     go_enter Try.func10, Try.ntmps10
     go_wp2_with (refine St.box msD rfl (.tmp 0) ⟨⟨k, f, t, b, s, v⟩, xa, xn, xc⟩ rfl rfl ?_)
     constructor
     intro w1 hI1 hb1 hz1
     clear hz1
     obtain ⟨-, c1, c2, c3, -, -, -, -, -, -, -⟩ := MxAt.of hI1
     simp only at c1 c2 c3
     go_wp2_with fail
     refine (h1 _).mono ?_
     rintro e w2 ⟨rfl, rfl⟩
     go_wp2_with fail
     refine (h2 _).mono ?_
     rintro e w3 ⟨rfl, rfl⟩
     go_wp2_with fail
     refine (h3 _).mono ?_
     rintro e w4 ⟨rfl, rfl⟩
     go_wp2_with (refine St.load msOk rfl (.tmp 1) rfl rfl hI1 ?_)
     refine (hff _ hb1).mono ?_
     rintro e w5 ⟨rfl, hb5⟩
     have HW := Lib.hid (bwstep hb1 hb5)
     clear hI1 hb1 hb5
     go_wp2_with fail
     go_ret
     exact ⟨ret1 (vb HB.out.symm), HW.out⟩
    ·rw [decide_eq_true d1] at h1
     rw [decide_eq_true d2] at h2
     rw [decide_eq_false d3] at h3
     have HB : Hid (q = false) := Lib.hid (HQ.out.trans (decide_eq_false fun h => d3 (HR.out.1 h).2.2.1))
     clear HQ HR
     clear hff d1 d2 d3
     go_enter Try.func10, Try.ntmps10
     go_wp2_with (refine St.box msD rfl (.tmp 0) ⟨⟨k, f, t, b, s, v⟩, xa, xn, xc⟩ rfl rfl ?_)
     constructor
     intro w1 hI1 hb1 hz1
     clear hz1
     obtain ⟨-, c1, c2, c3, -, -, -, -, -, -, -⟩ := MxAt.of hI1
     simp only at c1 c2 c3
     go_wp2_with fail
     refine (h1 _).mono ?_
     rintro e w2 ⟨rfl, rfl⟩
     go_wp2_with fail
     refine (h2 _).mono ?_
     rintro e w3 ⟨rfl, rfl⟩
     go_wp2_with fail
     refine (h3 _).mono ?_
     rintro e w4 ⟨rfl, rfl⟩
     go_wp2_with fail
     go_ret
     exact ⟨ret1 (vb HB.out.symm), hb1⟩
   ·rw [decide_eq_true d1] at h1
    rw [decide_eq_false d2] at h2
    have HB : Hid (q = false) := Lib.hid (HQ.out.trans (decide_eq_false fun h => d2 (HR.out.1 h).2.1))
    clear HQ HR
    clear hff d1 d2
    go_enter Try.func10, Try.ntmps10
    go_wp2_with (refine St.box msD rfl (.tmp 0) ⟨⟨k, f, t, b, s, v⟩, xa, xn, xc⟩ rfl rfl ?_)
    constructor
    intro w1 hI1 hb1 hz1
    clear hz1
    obtain ⟨-, c1, c2, c3, -, -, -, -, -, -, -⟩ := MxAt.of hI1
    simp only at c1 c2 c3
    go_wp2_with fail
    refine (h1 _).mono ?_
    rintro e w2 ⟨rfl, rfl⟩
    go_wp2_with fail
    refine (h2 _).mono ?_
    rintro e w3 ⟨rfl, rfl⟩
    go_wp2_with fail
    go_ret
    exact ⟨ret1 (vb HB.out.symm), hb1⟩
  ·rw [decide_eq_false d1] at h1
   have HB : Hid (q = false) := Lib.hid (HQ.out.trans (decide_eq_false fun h => d1 (HR.out.1 h).1))
   clear HQ HR
   clear hff d1
   go_enter Try.func10, Try.ntmps10
   go_wp2_with (refine St.box msD rfl (.tmp 0) ⟨⟨k, f, t, b, s, v⟩, xa, xn, xc⟩ rfl rfl ?_)
   constructor
   intro w1 hI1 hb1 hz1
   clear hz1
   obtain ⟨-, c1, c2, c3, -, -, -, -, -, -, -⟩ := MxAt.of hI1
   simp only at c1 c2 c3
   go_wp2_with fail
   refine (h1 _).mono ?_
   rintro e w2 ⟨rfl, rfl⟩
   go_wp2_with fail
   go_ret
   exact ⟨ret1 (vb HB.out.symm), hb1⟩
 exact go _ rfl
end Go.Proofs.Ytpmlfhgdhnofbaa.Ce
