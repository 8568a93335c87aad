/- Package slot's Get, and its contracts as one: the walks of layer 17's laws. -/
import Derived.Test.YtpmlfhgdhnofbaaSlB
import Derived.Test.YtpmlfhgdhnofbaaVoG
import Derived.Deep.RegionHeld3
import Derived.BigQuiet
import Derived.Test.YtpmlfhgdhnofbaaLow
set_option maxHeartbeats 8000000
set_option maxRecDepth 100000
namespace Go.Proofs.Ytpmlfhgdhnofbaa.Ce
open Go.RowKit
def SGetEnd (s : List UInt8) (w : World) (e : Ending) (w' : World) : Prop := (∃ n c k, e = .returned (.tuple #[.int .i64 n, Vt.v c, .int .i64 (if k = true then 0 else 2)]) ∧ Says s n c k) ∧ Below w.heap.size w w'
theorem says_long {s : List UInt8} (h : 544 < s.length) : Says s 0 Vt.zero false := by
 refine .none (fun b hb => ?_) (fun c hc => ?_)
 ·have := ((isPr_iff s b).1 hb).2.1; omega
 ·have h1 := vtB_len c
  rw [← hc.2] at h1
  have := hc.1.2.2.2.2.2
  omega
def hd (l : List UInt8) : Int := if 4 ≤ l.length then (numOf l : Int) else 0
theorem scut_any (x : Value) (l : List UInt8) (w : World) (hr : Rd w w.heap.size x (l.map bv)) (hl : l.length ≤ 1000000) : Calls Try.prog 50 #[x] w fun e w' => ∃ r b, e = .returned (.tuple #[.int .i64 (hd l), r, .bool b]) ∧ Ow w' w.heap.size 5 r ((l.drop 4).map bv) ∧ Below w.heap.size w w' := by
 unfold hd
 by_cases h : 4 ≤ l.length
 ·rw [if_pos h]
  refine (cutNum_ok x l _ w hr h (by omega)).mono ?_
  rintro e w' ⟨r, rfl, ho, hb⟩
  exact ⟨r, _, rfl, ho, hb⟩
 ·rw [if_neg h, List.drop_of_length_le (by omega)]
  refine (cutNum_no x l _ w hr (by omega)).mono ?_
  rintro e w' ⟨r, rfl, ho, hb⟩
  exact ⟨r, _, rfl, ho, hb⟩
theorem hd_pr {s : List UInt8} {b : Int} (h : IsPr s b) : hd s = 1 ∧ hd (s.drop 4) = b := by
 obtain ⟨h1, h2, h3, h4⟩ := (isPr_iff s b).1 h
 unfold hd
 rw [if_pos (by omega), if_pos (by rw [List.length_drop]; omega)]
 exact ⟨by omega, h1.symm⟩
theorem hd_vt {s : List UInt8} {c : Vt} (h : IsVt s c) : hd s = 2 := by
 obtain ⟨h1, h2, h3, -⟩ := (gotV_iff s c).1 h
 unfold hd
 rw [if_pos (by omega)]
 omega
theorem says_kind {s : List UInt8} (h1 : hd s ≠ 1) (h2 : hd s ≠ 2) : Says s 0 Vt.zero false := .none (fun _ hb => h1 (hd_pr hb).1) fun _ hc => h2 (hd_vt hc)
theorem says_one {s : List UInt8} (h1 : hd s = 1) : (PrOk (hd (s.drop 4)) → sameB (prB (hd (s.drop 4))) s = true → Says s (hd (s.drop 4)) Vt.zero true) ∧ (PrOk (hd (s.drop 4)) → sameB (prB (hd (s.drop 4))) s = false → Says s 0 Vt.zero false) ∧ (¬ PrOk (hd (s.drop 4)) → Says s 0 Vt.zero false) := by
 have hv : ∀ c, ¬ IsVt s c := fun c hc => by have := hd_vt hc; omega
 refine ⟨fun h hs => .prom _ ⟨h, (of_decide_eq_true hs).symm⟩, fun h hs => .none (fun b hb => ?_) hv, fun h => .none (fun b hb => ?_) hv⟩
 ·have e := (hd_pr hb).2
  exact of_decide_eq_false hs (by rw [e]; exact hb.2.symm)
 ·have e := (hd_pr hb).2
  exact h (by rw [e]; exact hb.1)
theorem says_two {s : List UInt8} (h2 : hd s = 2) {c : Vt} (hc : ∀ c' : Vt, c'.Right → s.drop 4 = (vtB c').drop 4 → c = c') : (c.Right → sameB (vtB c) s = true → Says s 0 c true) ∧ (c.Right → sameB (vtB c) s = false → Says s 0 Vt.zero false) ∧ (¬ c.Right → Says s 0 Vt.zero false) := by
 have hp : ∀ b, ¬ IsPr s b := fun b hb => by have := (hd_pr hb).1; omega
 have hu : ∀ c', IsVt s c' → c = c' := fun c' h => hc c' h.1 (by rw [← h.2])
 refine ⟨fun h hs => .vote _ ⟨h, (of_decide_eq_true hs).symm⟩, fun h hs => .none hp fun c' h' => ?_, fun h => .none hp fun c' h' => ?_⟩
 ·obtain rfl := hu c' h'
  exact of_decide_eq_false hs h'.2.symm
 ·obtain rfl := hu c' h'
  exact h h'.1
theorem sget_any (x : Value) (s : List UInt8) (w : World) (hr : Rd w w.heap.size x (s.map bv)) (hl : s.length ≤ 1000000) : Calls Try.prog 56 #[x] w fun e w' => SGetEnd s w e w' := by
 obtain ⟨A, cp, rfl, hc, hm⟩ := hr.shapeM
 have HR := Lib.hid hr
 have HL := Lib.hid hl
 clear hr hc hm
 by_cases h544 : (544 : Int) < (s.length : Int)
 ·have HS := Lib.hid (says_long (s := s) (by omega))
  go_enter Try.func56, Try.ntmps56
  go_wp2_with (refine St.alloc vtOk rfl rfl ?_)
  constructor
  intro w1 hI1 hb1 hz1
  clear hz1
  go_wp2_with (refine St.store vtOk (c := Vt.zero) rfl (.tmp 3) (.tmp 19) rfl rfl rfl hI1 ?_)
  constructor
  intro w6 hs6
  have HS6 := Lib.hid hs6
  have HB := Lib.hid hb1
  clear hs6 hI1 hb1
  go_wp2_with fail
  exact bodyPost_ret (St.res3m vtOk Try.results56 rfl HS6.out.i) rfl ⟨⟨_, Vt.zero, false, rfl, HS.out⟩, HS6.out.bel HB.out (Nat.le_refl _)⟩
 have hcn := fun W hr => scut_any (.slice A s.length cp) s W hr hl
 have hcm := fun r W hr => scut_any r (s.drop 4) W hr (by simp; omega)
 have hrv := fun r W hr => sread_any r (s.drop 4) W hr (by simp; omega)
 clear hl
 by_cases h1 : hd s = 1
 ·have HO := Lib.hid (says_one h1)
  rw [h1] at hcn
  clear h1 hrv
  generalize hd (s.drop 4) = b at *
  go_enter Try.func56, Try.ntmps56
  go_wp2_with (refine St.alloc vtOk rfl rfl ?_)
  constructor
  intro w1 hI1 hb1 hz1
  clear hz1
  have HI1 := Lib.hid hI1
  clear hI1
  go_wp2_with fail
  refine (hcn _ (HR.out.up hb1)).mono ?_
  rintro e w2 ⟨r2, b2, rfl, ho2, hb2⟩
  have hr2 := ho2.rd
  have HI2 := Lib.hid (HI1.out.up hb2)
  have hw2 := bwstep hb1 hb2
  clear hb1 hb2 ho2 hcn HI1
  go_wp2_with fail
  refine (hcm _ _ hr2).mono ?_
  rintro e w3 ⟨r3, b3, rfl, ho3, hb3⟩
  have HI3 := Lib.hid (HI2.out.up hb3)
  have hw3 := bwstep hw2 hb3
  clear hw2 hb3 ho3 hr2 hcm HI2
  go_wp2_with fail
  by_cases hP : PrOk b
  ·refine (sprom_yes b _ hP).mono ?_
   rintro e w4 ⟨v4, rfl, ho4, hb4⟩
   have hI4 := HI3.out.up hb4
   have hw4 := bwstep hw3 hb4
   have hr4 := ho4.rd
   have he := fun W hx hy => equal_any v4 (.slice A s.length cp) (prB b) s W.heap.size W.heap.size W hx hy
   clear hw3 hb4 ho4 HI3
   by_cases hs : sameB (prB b) s = true
   ·have HS := Lib.hid (HO.out.1 hP hs)
    rw [hs] at he
    clear hs hP HO
    go_wp2_with fail
    refine (he _ hr4 (HR.out.up hw4)).mono ?_
    rintro e w5 ⟨rfl, rfl⟩
    go_wp2_with (refine St.store vtOk (c := Vt.zero) rfl (.tmp 3) (.tmp 48) rfl rfl rfl hI4 ?_)
    constructor
    intro w6 hs6
    have HS6 := Lib.hid hs6
    have HB := Lib.hid hw4
    clear hs6 hI4 hw4 hr4 he
    go_wp2_with fail
    exact bodyPost_ret (St.res3m vtOk Try.results56 rfl HS6.out.i) rfl ⟨⟨_, Vt.zero, true, rfl, HS.out⟩, HS6.out.bel HB.out (Nat.le_refl _)⟩
   ·have hs : sameB (prB b) s = false := by simpa using hs
    have HS := Lib.hid (HO.out.2.1 hP hs)
    rw [hs] at he
    clear hs hP HO
    go_wp2_with fail
    refine (he _ hr4 (HR.out.up hw4)).mono ?_
    rintro e w5 ⟨rfl, rfl⟩
    go_wp2_with (refine St.store vtOk (c := Vt.zero) rfl (.tmp 3) (.tmp 66) rfl rfl rfl hI4 ?_)
    constructor
    intro w6 hs6
    have HS6 := Lib.hid hs6
    have HB := Lib.hid hw4
    clear hs6 hI4 hw4 hr4 he
    go_wp2_with fail
    exact bodyPost_ret (St.res3m vtOk Try.results56 rfl HS6.out.i) rfl ⟨⟨_, Vt.zero, false, rfl, HS.out⟩, HS6.out.bel HB.out (Nat.le_refl _)⟩
  ·refine (sprom_not b _ hP).mono ?_
   rintro e w4 ⟨A4, c4, rfl, hb4⟩
   have hI4 := HI3.out.up hb4
   have hw4 := bwstep hw3 hb4
   have HS := Lib.hid (HO.out.2.2 hP)
   clear hw3 hb4 hP HO HI3
   go_wp2_with (refine St.store vtOk (c := Vt.zero) rfl (.tmp 3) (.tmp 66) rfl rfl rfl hI4 ?_)
   constructor
   intro w6 hs6
   have HS6 := Lib.hid hs6
   have HB := Lib.hid hw4
   clear hs6 hI4 hw4
   go_wp2_with fail
   exact bodyPost_ret (St.res3m vtOk Try.results56 rfl HS6.out.i) rfl ⟨⟨_, Vt.zero, false, rfl, HS.out⟩, HS6.out.bel HB.out (Nat.le_refl _)⟩
 by_cases h2 : hd s = 2
 ·have HO := Lib.hid fun (c : Vt) hc => says_two (s := s) h2 (c := c) hc
  rw [h2] at hcn
  clear h1 h2 hcm
  go_enter Try.func56, Try.ntmps56
  go_wp2_with (refine St.alloc vtOk rfl rfl ?_)
  constructor
  intro w1 hI1 hb1 hz1
  clear hz1
  have HI1 := Lib.hid hI1
  clear hI1
  go_wp2_with fail
  refine (hcn _ (HR.out.up hb1)).mono ?_
  rintro e w2 ⟨r2, b2, rfl, ho2, hb2⟩
  have hr2 := ho2.rd
  have HI2 := Lib.hid (HI1.out.up hb2)
  have hw2 := bwstep hb1 hb2
  clear hb1 hb2 ho2 hcn HI1
  go_wp2_with fail
  refine (hrv _ _ hr2).mono ?_
  rintro e w3 ⟨⟨c, rfl, hcu⟩, hb3⟩
  have HO3 := Lib.hid (HO.out c hcu)
  have HI3 := Lib.hid (HI2.out.up hb3)
  have hw3 := bwstep hw2 hb3
  have hlt := Lib.hid HI3.out.lt
  clear hw2 hb3 hcu hr2 hrv HI2 HO
  go_wp2_with (refine St.alloc vtOk rfl rfl ?_)
  constructor
  intro w4 hJ4 hb4 hz4
  have HI4 := Lib.hid (HI3.out.up hb4)
  have hw4 := bwstep hw3 hb4
  clear hw3 hb4 hz4
  go_wp2_with (refine St.store vtOk (c := c) rfl (.tmp 13) (.tmp 52) rfl rfl rfl hJ4 ?_)
  constructor
  intro w5 hs5
  have hw5 := hs5.bel hw4 (Nat.le_of_lt HI3.out.lt)
  have HI5 := Lib.hid (hs5.up HI4.out (Nat.ne_of_lt HI3.out.lt))
  have hJ5 := hs5.i
  clear hs5 hJ4 hw4 HI4 HI3
  go_wp2_with (refine St.load vtOk rfl (.tmp 13) rfl rfl hJ5 ?_)
  by_cases hP : c.Right
  ·refine (sput_yes c _ hP).mono ?_
   rintro e w6 ⟨v6, rfl, ho6, hb6⟩
   have hI6 := HI5.out.up hb6
   have hJ6 := hJ5.up hb6
   have hw6 := bwstep hw5 hb6
   have hr6 := ho6.rd
   have he := fun W hx hy => equal_any v6 (.slice A s.length cp) (vtB c) s W.heap.size W.heap.size W hx hy
   clear hw5 hb6 ho6 HI5 hJ5
   by_cases hs : sameB (vtB c) s = true
   ·have HS := Lib.hid (HO3.out.1 hP hs)
    rw [hs] at he
    clear hs hP HO3
    go_wp2_with fail
    refine (he _ hr6 (HR.out.up hw6)).mono ?_
    rintro e w7 ⟨rfl, rfl⟩
    clear he hr6
    go_upto_region 14 with fail
    refine wp_region_held_drew (S := fun z => vtD.In w3.heap.size c z ∧ (∃ c0, vtD.In w.heap.size c0 z) ∧ Below w.heap.size w z) (by kernel_rfl) ⟨hJ6.up (Below.refl _ _).drew, ⟨_, hI6.up (Below.refl _ _).drew⟩, hw6.drew⟩ (fun hHeld => ?_)
    refine takeL 0 (hy := by intro z hSz; exact St.loadOp vtOk (.tmp 13) rfl rfl hSz.1) (h := ?_)
    refine takeL 1 (h := ?_)
    refine wpAnyH_ready (rs := [2]) (by kernel_rfl) (by simp) ?_
    refine AllReadyH.cons (o := _) rfl (fun K hK => ?_) AllReadyH.nil
    obtain ⟨hJ, ⟨c0, hI⟩, hB⟩ := hHeld
    refine St.wp_storeS vtOk (c := c) (c0 := c0) (.tmp 3) (.tmp 65) rfl rfl rfl hI ?_
    intro w12 hs12
    have hI12 := hs12.i
    have hB12 := hs12.bel hB (Nat.le_refl _)
    refine hK.out _ _ ⟨hs12.up hJ (Nat.ne_of_gt hlt.out), ⟨_, hI12⟩, hB12⟩ (fun hHeld => ?_)
    clear hK K
    ((try simp only [Act.put]); (try simp only [List.setIfInBounds_toArray]); (try simp only [List.set_cons_succ]); (try simp only [List.set_cons_zero]))
    refine takeL 3 (h := ?_)
    refine wpAnyH_done (by kernel_rfl) ?_ _
    go_wp2_with fail
    exact bodyPost_ret (St.res3m vtOk Try.results56 rfl hI12) rfl ⟨⟨0, c, true, rfl, HS.out⟩, hB12⟩
   ·have hs : sameB (vtB c) s = false := by simpa using hs
    have HS := Lib.hid (HO3.out.2.1 hP hs)
    rw [hs] at he
    clear hs hP HO3 hJ6
    go_wp2_with fail
    refine (he _ hr6 (HR.out.up hw6)).mono ?_
    rintro e w7 ⟨rfl, rfl⟩
    go_wp2_with (refine St.store vtOk (c := Vt.zero) rfl (.tmp 3) (.tmp 66) rfl rfl rfl hI6 ?_)
    constructor
    intro w8 hs8
    have HS8 := Lib.hid hs8
    have HB := Lib.hid hw6
    clear hs8 hI6 hw6 hr6 he
    go_wp2_with fail
    exact bodyPost_ret (St.res3m vtOk Try.results56 rfl HS8.out.i) rfl ⟨⟨_, Vt.zero, false, rfl, HS.out⟩, HS8.out.bel HB.out (Nat.le_refl _)⟩
  ·refine (sput_not c _ hP).mono ?_
   rintro e w6 ⟨A6, c6, rfl, hb6⟩
   have hI6 := HI5.out.up hb6
   have hw6 := bwstep hw5 hb6
   have HS := Lib.hid (HO3.out.2.2 hP)
   clear hw5 hb6 hP HO3 HI5 hJ5
   go_wp2_with (refine St.store vtOk (c := Vt.zero) rfl (.tmp 3) (.tmp 66) rfl rfl rfl hI6 ?_)
   constructor
   intro w8 hs8
   have HS8 := Lib.hid hs8
   have HB := Lib.hid hw6
   clear hs8 hI6 hw6
   go_wp2_with fail
   exact bodyPost_ret (St.res3m vtOk Try.results56 rfl HS8.out.i) rfl ⟨⟨_, Vt.zero, false, rfl, HS.out⟩, HS8.out.bel HB.out (Nat.le_refl _)⟩
 ·have HS := Lib.hid (says_kind h1 h2)
  have hn1 : (hd s == 1) = false := by simpa using h1
  have hn2 : (hd s == 2) = false := by simpa using h2
  clear hcm hrv
  generalize hd s = kk at *
  go_enter Try.func56, Try.ntmps56
  go_wp2_with (refine St.alloc vtOk rfl rfl ?_)
  constructor
  intro w1 hI1 hb1 hz1
  clear hz1
  have HI1 := Lib.hid hI1
  clear hI1
  go_wp2_with fail
  refine (hcn _ (HR.out.up hb1)).mono ?_
  rintro e w2 ⟨r2, b2, rfl, ho2, hb2⟩
  have hI2 := HI1.out.up hb2
  have hw2 := bwstep hb1 hb2
  clear hb1 hb2 ho2 hcn HI1
  go_wp2_with (refine St.store vtOk (c := Vt.zero) rfl (.tmp 3) (.tmp 66) rfl rfl rfl hI2 ?_)
  constructor
  intro w8 hs8
  have HS8 := Lib.hid hs8
  have HB := Lib.hid hw2
  clear hs8 hI2 hw2
  go_wp2_with fail
  exact bodyPost_ret (St.res3m vtOk Try.results56 rfl HS8.out.i) rfl ⟨⟨_, Vt.zero, false, rfl, HS.out⟩, HS8.out.bel HB.out (Nat.le_refl _)⟩
end Go.Proofs.Ytpmlfhgdhnofbaa.Ce
namespace Go.Proofs.Ytpmlfhgdhnofbaa
open Go.RowKit Ce
end Go.Proofs.Ytpmlfhgdhnofbaa
