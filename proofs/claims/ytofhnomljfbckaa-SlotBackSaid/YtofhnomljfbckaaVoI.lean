/- Layer 17's contracts as one structure; '==' of votes; awake. -/
import Derived.Test.YtofhnomljfbckaaVoR
import Derived.Test.YtofhnomljfbckaaLow
set_option maxHeartbeats 8000000
set_option maxRecDepth 100000
namespace Go.Proofs.Ytofhnomljfbckaa.Ce
open Go.RowKit
def vtSp : List (Nat × Nat) := [(3, 0), (3, 1), (3, 2), (4, 3), (9, 4)]
theorem vtEqs : St.Eqs Try.prog 23 vtSp := ⟨by kernel_rfl, by kernel_rfl, by kernel_rfl, by kernel_rfl⟩
theorem vtTyped (c d : Vt) : St.Typed Try.prog vtSp c.cs d.cs := by
 intro p hp
 simp only [vtSp, List.mem_cons, List.not_mem_nil, or_false] at hp
 rcases hp with rfl | rfl | rfl | rfl | rfl
 ·exact .inr (.inl ⟨.i64, Try.underlying3, _, _, rfl, rfl⟩)
 ·exact .inr (.inl ⟨.i64, Try.underlying3, _, _, rfl, rfl⟩)
 ·exact .inr (.inl ⟨.i64, Try.underlying3, _, _, rfl, rfl⟩)
 ·exact .inr (.inr ⟨Try.underlying4, _, _, rfl, rfl⟩)
 ·exact .inl ⟨Try.underlying9, _, _, rfl, rfl⟩
noncomputable instance : DecidableEq Vt := fun _ _ => Classical.propDecidable _
theorem vtAlike (c d : Vt) : St.allAlike vtSp c.cs d.cs = decide (c = d) := by
 rw [Bool.eq_iff_iff, decide_eq_true_iff]
 simp only [St.allAlike, vtSp, List.all_cons, List.all_nil, Bool.and_true, Bool.and_eq_true, Vt.cs, St.alike, Array.getD_eq_getD_getElem?]
 simp only [List.getElem?_toArray, List.getElem?_cons_zero, List.getElem?_cons_succ, Option.getD_some, decide_eq_true_iff, beq_iff_eq]
 constructor
 ·rintro ⟨h0, h1, h2, h3, h4⟩
  exact Vt.ext' h0 h1 h2 h3 h4
 ·rintro rfl
  simp
theorem vtSelf (c : Vt) : St.allAlike vtSp c.cs c.cs = true := by rw [vtAlike]; exact decide_eq_true rfl
structure SlotI : Prop where
 right : ∀ (c : Vt) (w : World), Calls Try.prog 12 #[c.v] w fun e w' => e = .returned (.bool (decide c.Right)) ∧ Below w.heap.size w w'
 put_yes : ∀ (c : Vt) (w : World), c.Right → Calls Try.prog 8 #[c.v] w fun e w' => ∃ v, e = .returned (.tuple #[v, .int .i64 0]) ∧ Ow w' w.heap.size 5 v ((vtB c).map bv) ∧ Below w.heap.size w w'
 put_not : ∀ (c : Vt) (w : World), ¬ c.Right → Calls Try.prog 8 #[c.v] w fun e w' => ∃ A cp, e = .returned (.tuple #[.slice A 0 cp, .int .i64 1]) ∧ Below w.heap.size w w'
 prom_yes : ∀ (b : Int) (w : World), PrOk b → Calls Try.prog 9 #[.int .i64 b] w fun e w' => ∃ v, e = .returned (.tuple #[v, .int .i64 0]) ∧ Ow w' w.heap.size 5 v ((prB b).map bv) ∧ Below w.heap.size w w'
 prom_not : ∀ (b : Int) (w : World), ¬ PrOk b → Calls Try.prog 9 #[.int .i64 b] w fun e w' => ∃ A cp, e = .returned (.tuple #[.slice A 0 cp, .int .i64 1]) ∧ Below w.heap.size w w'
 get : ∀ (x : Value) (s : List UInt8) (w : World), Rd w w.heap.size x (s.map bv) → s.length ≤ 1000000 → Calls Try.prog 15 #[x] w fun e w' => (∃ n c k, e = .returned (.tuple #[.int .i64 n, Vt.v c, .int .i64 (if k = true then 0 else 2)]) ∧ Says s n c k) ∧ Below w.heap.size w w'
 owner17 : ∀ (w : World), Calls Try.prog 18 #[.int .i64 17] w fun e w' => e = .returned (.int .i64 1) ∧ Below w.heap.size w w'
 next3 : ∀ (w : World), Calls Try.prog 17 #[.int .i64 0, .int .i64 3] w fun e w' => e = .returned (.int .i64 3) ∧ Below w.heap.size w w'
 next0 : ∀ (w : World), Calls Try.prog 17 #[.int .i64 0, .int .i64 0] w fun e w' => e = .returned (.int .i64 8) ∧ Below w.heap.size w w'
theorem SlotI.get_vote (I : SlotI) (c : Vt) (x : Value) (w : World) (h : c.Right) (hr : Rd w w.heap.size x ((vtB c).map bv)) : Calls Try.prog 15 #[x] w fun e w' => e = .returned (.tuple #[.int .i64 0, c.v, .int .i64 0]) ∧ Below w.heap.size w w' := by
 have hl := vtB_len c
 have h2 := h.2.2.2.2.2
 refine (I.get x _ w hr (by omega)).mono ?_
 rintro e w' ⟨⟨n, d, k, rfl, hs⟩, hb⟩
 obtain ⟨rfl, rfl, rfl⟩ := hs.uniq (Says.put h)
 exact ⟨rfl, hb⟩
theorem SlotI.get_prom (I : SlotI) (b : Int) (x : Value) (w : World) (h : PrOk b) (hr : Rd w w.heap.size x ((prB b).map bv)) : Calls Try.prog 15 #[x] w fun e w' => e = .returned (.tuple #[.int .i64 b, Vt.zero.v, .int .i64 0]) ∧ Below w.heap.size w w' := by
 have hl := prB_len b
 refine (I.get x _ w hr (by omega)).mono ?_
 rintro e w' ⟨⟨n, d, k, rfl, hs⟩, hb⟩
 obtain ⟨rfl, rfl, rfl⟩ := hs.uniq (Says.promise h)
 exact ⟨rfl, hb⟩
theorem SlotI.get2 (I : SlotI) (x : Value) (s : List UInt8) (w : World) (hr : Rd w w.heap.size x (s.map bv)) (hl : s.length ≤ 1000000) : Calls Try.prog 15 #[x] w fun e w' => (∃ n c k E, e = .returned (.tuple #[.int .i64 n, Vt.v c, .int .i64 E]) ∧ Says s n c k ∧ ((k = true ∧ E = 0) ∨ (k = false ∧ E = 2 ∧ n = 0 ∧ c = Vt.zero))) ∧ Below w.heap.size w w' := by
 refine (I.get x s w hr hl).mono ?_
 rintro e w' ⟨⟨n, d, k, rfl, hs⟩, hb⟩
 refine ⟨⟨n, d, k, _, rfl, hs, ?_⟩, hb⟩
 cases hs with
 | prom _ h => exact .inl ⟨rfl, rfl⟩
 | vote _ h => exact .inl ⟨rfl, rfl⟩
 | none h1 h2 => exact .inr ⟨rfl, rfl, rfl, rfl⟩
def exV : Vt := ⟨3, 17, 9, true, ⟨#[120]⟩⟩
theorem exV_right : exV.Right := by decide
theorem exV_len : (vtB exV).length = 25 := by rw [vtB_len]; rfl
theorem awake17_ok (I : SlotI) (w : World) : Calls Try.prog 7 #[] w fun e w' => e = .returned (.bool true) ∧ Below w.heap.size w w' := by
 have hp := fun w => I.put_yes exV w exV_right
 have hg := fun x w hr => I.get_vote exV x w exV_right hr
 have hq := fun w => I.prom_yes 5 w (by decide)
 have hh := fun x w hr => I.get_prom 5 x w (by decide) hr
 have hee := vtSelf exV
 have hlen := exV_len
 go_enter Try.func7, Try.ntmps7
 go_wp2_with (refine St.alloc vtOk rfl rfl ?_)
 constructor
 intro w1 hI1 hb1 hz1
 clear hz1
 go_wp2_with (refine St.store vtOk (c := exV) rfl (.tmp 1) (.tmp 12) rfl rfl rfl hI1 ?_)
 constructor
 intro w2 hs2
 have hw2 := hs2.bel hb1 (Nat.le_refl _)
 have hI2 := hs2.i
 clear hs2 hI1 hb1
 go_wp2_with (refine St.load vtOk rfl (.tmp 1) rfl rfl hI2 ?_)
 refine (hp _).mono ?_
 rintro e w3 ⟨x3, rfl, ho3, hb3⟩
 have hr3 := ho3.rd
 obtain ⟨A3, c3, rfl, -, -⟩ := hr3.shapeM
 rw [hlen] at hr3 ⊢
 have hI3 := hI2.up hb3
 have hw3 := bwstep hw2 hb3
 have HI3 := Lib.hid hI3
 clear hI2 hw2 hb3 ho3 hp hI3
 go_wp2_with fail
 refine (hg _ _ hr3).mono ?_
 rintro e w4 ⟨rfl, hb4⟩
 have HI4 := Lib.hid (HI3.out.up hb4)
 have hw4 := bwstep hw3 hb4
 clear hr3 hw3 hb4 hg HI3
 go_wp2_with (refine St.alloc vtOk rfl rfl ?_)
 constructor
 intro w5 hJ5 hb5 hz5
 have HI5 := Lib.hid (HI4.out.up hb5)
 have hw5 := bwstep hw4 hb5
 clear hw4 hb5 hz5
 go_wp2_with (refine St.store vtOk (c := exV) rfl (.tmp 5) (.tmp 22) rfl rfl rfl hJ5 ?_)
 constructor
 intro w6 hs6
 have hw6 := hs6.bel hw5 (Nat.le_of_lt HI4.out.lt)
 have HI6 := Lib.hid (hs6.up HI5.out (Nat.ne_of_lt HI4.out.lt))
 have HJ6 := Lib.hid hs6.i
 clear hs6 hJ5 hw5 HI5
 go_wp2_with fail
 refine (hq _).mono ?_
 rintro e w7 ⟨x7, rfl, ho7, hb7⟩
 have hr7 := ho7.rd
 have HI7 := Lib.hid (HI6.out.up hb7)
 have HJ7 := Lib.hid (HJ6.out.up hb7)
 have hw7 := bwstep hw6 hb7
 clear hw6 hb7 ho7 HI6 HJ6 hq
 go_wp2_with fail
 refine (hh _ _ hr7).mono ?_
 rintro e w8 ⟨rfl, hb8⟩
 have HI8 := Lib.hid (HI7.out.up hb8)
 have HJ8 := Lib.hid (HJ7.out.up hb8)
 have hw8 := bwstep hw7 hb8
 clear hr7 hw7 hb8 HI7 HJ7 hh
 go_wp2_with (refine St.alloc vtOk rfl rfl ?_)
 constructor
 intro w9 hL9 hb9 hz9
 have HI9 := Lib.hid (HI8.out.up hb9)
 have HJ9 := Lib.hid (HJ8.out.up hb9)
 have hw9 := bwstep hw8 hb9
 clear hw8 hb9 hz9
 go_wp2_with (refine St.store vtOk (c := Vt.zero) rfl (.tmp 10) (.tmp 32) rfl rfl rfl hL9 ?_)
 constructor
 intro w10 hs10
 have hw10 := hs10.bel hw9 (Nat.le_of_lt HI8.out.lt)
 have hI10 := hs10.up HI9.out (Nat.ne_of_lt HI8.out.lt)
 have hJ10 := hs10.up HJ9.out (Nat.ne_of_lt HJ8.out.lt)
 clear hs10 hL9 hw9
 go_wp2_with (first | refine St.load vtOk rfl (.tmp 5) rfl rfl hJ10 ?_ | refine St.load vtOk rfl (.tmp 1) rfl rfl hI10 ?_ | refine St.eq vtEqs (vtTyped exV exV) rfl (.tmp 45) (.tmp 46) _ rfl rfl rfl hee ?_)
 refine (I.next3 _).mono ?_
 rintro e w11 ⟨rfl, hb11⟩
 have hw11 := bwstep hw10 hb11
 clear hw10 hb11 hI10 hJ10
 go_wp2_with fail
 refine (I.next0 _).mono ?_
 rintro e w12 ⟨rfl, hb12⟩
 have hw12 := bwstep hw11 hb12
 clear hw11 hb12
 go_wp2_with fail
 refine (I.owner17 _).mono ?_
 rintro e w13 ⟨rfl, hb13⟩
 have hw13 := bwstep hw12 hb13
 clear hw12 hb13
 go_wp2_with fail
 go_ret
 exact ⟨rfl, hw13⟩
end Go.Proofs.Ytofhnomljfbckaa.Ce
