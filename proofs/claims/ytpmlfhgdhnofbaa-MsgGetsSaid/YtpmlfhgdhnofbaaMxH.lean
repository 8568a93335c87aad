/- The contract of package msg's Get. -/
import Derived.Test.YtpmlfhgdhnofbaaMxG
import Derived.Test.YtpmlfhgdhnofbaaMxE
import Derived.Test.YtpmlfhgdhnofbaaMsI
set_option maxHeartbeats 8000000
set_option maxRecDepth 100000
namespace Go.Proofs.Ytpmlfhgdhnofbaa.Ce
open Go.RowKit
def HoldsR (s r : List UInt8) : Prop := r.length ≤ 65535 ∧ ((∃ m, s = Frm.frm r ++ m) ∨ (r = [] ∧ ¬ Frm.Whole s))
theorem HoldsR.is {s r : List UInt8} (h : HoldsR s r) {n : Ms} (hn : IsMs s n) : rdM r = n := by
 obtain ⟨hl, ⟨m, hm⟩ | ⟨rfl, h0⟩⟩ := h
 ·have nl := hn.1.rec_le
  have e : Frm.frm r ++ m = Frm.frm (msgR n) ++ [] := by rw [List.append_nil, ← hm]; exact hn.2
  rw [(Frm.frm_inj e hl (by omega)).1]
  exact rdM_put hn.1
 ·exact absurd hn.whole h0
theorem hcut_any (x : Value) (s : List UInt8) (w : World) (hr : Rd w w.heap.size x (s.map bv)) (hl : s.length ≤ 1000000) :
  ∃ r, HoldsR s r ∧ ∀ z, Below w.heap.size w z → Calls Try.prog 30 #[x] z fun e w' => (∃ u y q, e = .returned (.tuple #[u, y, .bool q]) ∧ Ow w' z.heap.size 5 u (r.map bv)) ∧ Below z.heap.size z w' := by
 by_cases h : Frm.Whole s
 ·obtain ⟨r, m, hm, h5⟩ := Frm.whole_iff.1 h
  refine ⟨r, ⟨h5, .inl ⟨m, hm⟩⟩, fun z hz => ?_⟩
  refine (cut_ok x s r m z w.heap.size (hr.below hz) hz.size hm h5 (by omega)).mono ?_
  rintro e w' ⟨⟨u, y, rfl, hu, -⟩, hb⟩
  exact ⟨⟨u, y, true, rfl, hu⟩, hb⟩
 ·refine ⟨[], ⟨by simp, .inr ⟨rfl, h⟩⟩, fun z hz => ?_⟩
  refine (cut_no x s z w.heap.size (hr.below hz) hz.size h (by omega)).mono ?_
  rintro e w' ⟨⟨u, y, rfl, hu, -⟩, hb⟩
  exact ⟨⟨u, y, false, rfl, hu⟩, hb⟩
theorem votes_le {l : List UInt8} (h : l.length ≤ 100000) : (rdM l).votes.length ≤ 1000000 := by
 show ((txs (txr (l.drop 20))).map _).length ≤ _
 have h1 := (txs_le (txr (l.drop 20))).1
 have h2 := txr_le (l.drop 20)
 rw [List.length_drop] at h2
 rw [List.length_map]
 omega
theorem mget_any (x : Value) (s : List UInt8) (w : World) (hr : Rd w w.heap.size x (s.map bv)) (hl : s.length ≤ 1000000) :
  Calls Try.prog 16 #[x] w fun e w' => GetMs s w e w' := by
 obtain ⟨r, hh, hcut⟩ := hcut_any x s w hr hl
 obtain ⟨A, cp, rfl, -, -⟩ := hr.shapeM
 have HR : Hid (∀ z, Below w.heap.size w z → Rd z z.heap.size (.slice A s.length cp) (s.map bv)) := Lib.hid fun z hz => (hr.below hz).mono hz.size
 have HC := Lib.hid hcut
 have hrl := hh.1
 have HVL := Lib.hid (votes_le (l := r) (by omega))
 have HRD : Hid (∀ x z, Rd z z.heap.size x (r.map bv) → Calls Try.prog 31 #[x] z fun e w' => ∃ y : Mx, e = .returned y.v ∧ MsOw w' z.heap.size y (rdM r) ∧ Below z.heap.size z w') := Lib.hid fun x z hx => mread_any x r z hx (by omega)
 have HIS : Hid (∀ n, IsMs s n → rdM r = n) := Lib.hid fun n hn => hh.is hn
 generalize rdM r = m at *
 have HOK : Hid (m.Right → sameB (msB m) s = true → IsMs s m) := Lib.hid fun h1 h2 => ⟨h1, (by simpa [sameB] using h2 : msB m = s).symm⟩
 have HN1 : Hid (¬ m.Right → ∀ n, ¬ IsMs s n) := Lib.hid fun h1 n hn => h1 (by rw [HIS.out n hn]; exact hn.1)
 have HN2 : Hid (sameB (msB m) s = false → ∀ n, ¬ IsMs s n) := Lib.hid fun h1 n hn => by
  have e := HIS.out n hn
  subst e
  rw [← hn.2, sameB_self] at h1
  cases h1
 clear hr hcut hh hrl hl HIS
 go_enter Try.func16, Try.ntmps16
 go_wp2_with (refine St.alloc msOk rfl rfl ?_)
 constructor
 intro w1 hI1 hb1 hz1
 have HI1 := Lib.hid hI1
 have HB1 := Lib.hid hb1
 clear hz1 hI1 hb1
 go_wp2_with fail
 refine (HC.out _ HB1.out).mono ?_
 rintro e w2 ⟨⟨u, y, q, rfl, hu⟩, hb2⟩
 have HI2 := Lib.hid (HI1.out.up hb2)
 have HB2 := Lib.hid (bwstep HB1.out hb2)
 have hur := hu.rd
 clear hu hb2 HI1 HB1 HC
 go_wp2_with fail
 refine (HRD.out _ _ hur).mono ?_
 rintro e w3 ⟨xm, rfl, ho3, hb3⟩
 have HI3 := Lib.hid (HI2.out.up hb3)
 have HB3 := Lib.hid (bwstep HB2.out hb3)
 have HO3 := Lib.hid ho3
 have HL2 : Hid (w.heap.size < w2.heap.size) := Lib.hid HI2.out.lt
 clear hur ho3 hb3 HI2 HB2 HRD
 go_wp2_with (refine St.alloc msOk rfl rfl ?_)
 constructor
 intro w4 hJ4 hb4 hz4
 clear hz4
 go_wp2_with (refine St.store msOk (c := xm) rfl (.tmp 7) (.tmp 17) rfl rfl rfl hJ4 ?_)
 constructor
 intro w5 hs5
 have hb35 : Below w3.heap.size w3 w5 := hs5.bel hb4 (Nat.le_refl _)
 have HJ5 := Lib.hid hs5.i
 have HI5 := Lib.hid (HI3.out.up hb35)
 have HB5 := Lib.hid (bwstep HB3.out hb35)
 have HO5 := Lib.hid (HO3.out.below hb35)
 have hJ5 := hs5.i
 clear hs5 hJ4 hb4 hb35 HI3 HB3 HO3
 go_wp2_with (refine St.load msOk rfl (.tmp 7) rfl rfl hJ5 ?_)
 clear hJ5
 by_cases hR : m.Right
 ·refine (mput_yes xm m _ HO5.out.is hR).mono ?_
  rintro e w6 ⟨v6, rfl, ho6, hb6⟩
  have HB6 := Lib.hid (bwstep HB5.out hb6)
  have hI6 := HI5.out.up hb6
  have hJ6 := HJ5.out.up hb6
  have HO6 := Lib.hid (HO5.out.below hb6)
  have hr6 := ho6.rd
  have he := fun W hx hy => equal_any v6 (.slice A s.length cp) (msB m) s W.heap.size W.heap.size W hx hy
  clear ho6 hb6 HI5 HJ5 HB5 HO5 HN1
  by_cases hs : sameB (msB m) s = true
  ·have HS := Lib.hid (HOK.out hR hs)
   rw [hs] at he
   clear hs hR HOK HN2
   go_wp2_with fail
   refine (he _ hr6 (HR.out _ HB6.out)).mono ?_
   rintro e w7 ⟨rfl, rfl⟩
   clear he hr6
   go_wp2_with (first | (refine St.load msOk rfl (.tmp 7) rfl rfl hJ6 ?_) | (refine St.store msOk (c := xm) rfl (.tmp 2) (.tmp 32) rfl rfl rfl hI6 ?_))
   constructor
   intro w8 hs8
   have HS8 := Lib.hid hs8
   have HO8 : Hid (MsOw w8 w.heap.size xm m) := Lib.hid ⟨HO6.out.h, (HO6.out.votes.kept (row := some w.heap.size) ⟨hs8.b.os, hs8.b.tape, hs8.b.output, by rw [hs8.z]; exact Nat.le_refl _, fun k _ hk => hs8.o k fun e => hk (by rw [e])⟩ fun k hk e => by
    have := HO6.out.votes.ge k hk
    have := HL2.out
    injection e with e
    omega).mono (Nat.le_of_lt HL2.out)⟩
   clear hs8 hI6 hJ6
   go_wp2_with fail
   exact bodyPost_ret (St.res2 msOk Try.results16 rfl HS8.out.i) rfl ⟨⟨xm, m, 0, rfl, HO8.out, .inl ⟨rfl, HS.out⟩⟩, HS8.out.bel HB6.out (Nat.le_refl _)⟩
  ·have hs : sameB (msB m) s = false := by simpa using hs
   have HS := Lib.hid (HN2.out hs)
   rw [hs] at he
   clear hs hR HOK HN2 hJ6
   go_wp2_with fail
   refine (he _ hr6 (HR.out _ HB6.out)).mono ?_
   rintro e w7 ⟨rfl, rfl⟩
   clear he hr6
   go_wp2_with (refine St.store msOk (c := Mx.zero) rfl (.tmp 2) (.tmp 31) rfl rfl rfl hI6 ?_)
   constructor
   intro w8 hs8
   have HS8 := Lib.hid hs8
   clear hs8 hI6
   go_wp2_with fail
   exact bodyPost_ret (St.res2 msOk Try.results16 rfl HS8.out.i) rfl ⟨⟨Mx.zero, Ms.zero, 2, rfl, MsOw.zero _ _, .inr ⟨rfl, rfl, HS.out⟩⟩, HS8.out.bel HB6.out (Nat.le_refl _)⟩
 ·refine (mput_not xm m _ HO5.out.is HVL.out hR).mono ?_
  rintro e w6 ⟨A6, c6, rfl, hb6⟩
  have HB6 := Lib.hid (bwstep HB5.out hb6)
  have hI6 := HI5.out.up hb6
  have HS := Lib.hid (HN1.out hR)
  clear hb6 HI5 HJ5 HB5 HO5 HN1 HN2 HOK hR
  go_wp2_with (refine St.store msOk (c := Mx.zero) rfl (.tmp 2) (.tmp 31) rfl rfl rfl hI6 ?_)
  constructor
  intro w8 hs8
  have HS8 := Lib.hid hs8
  clear hs8 hI6
  go_wp2_with fail
  exact bodyPost_ret (St.res2 msOk Try.results16 rfl HS8.out.i) rfl ⟨⟨Mx.zero, Ms.zero, 2, rfl, MsOw.zero _ _, .inr ⟨rfl, rfl, HS.out⟩⟩, HS8.out.bel HB6.out (Nat.le_refl _)⟩
end Go.Proofs.Ytpmlfhgdhnofbaa.Ce
