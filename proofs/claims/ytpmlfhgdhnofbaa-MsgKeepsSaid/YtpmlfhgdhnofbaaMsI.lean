/- Package msg's contracts as one structure; awake of layer 19. -/
import Derived.Test.YtpmlfhgdhnofbaaMsR
import Derived.Test.YtpmlfhgdhnofbaaMsQ
set_option maxHeartbeats 8000000
set_option maxRecDepth 100000
namespace Go.Proofs.Ytpmlfhgdhnofbaa.Ce
open Go.RowKit
def GetMs (s : List UInt8) (w : World) (e : Ending) (w' : World) : Prop :=
 (∃ (y : Mx) (m : Ms) (E : Int), e = .returned (.tuple #[y.v, .int .i64 E]) ∧ MsOw w' w.heap.size y m ∧ ((E = 0 ∧ IsMs s m) ∨ (E = 2 ∧ m = Ms.zero ∧ ∀ n, ¬ IsMs s n))) ∧ Below w.heap.size w w'
structure MsgI : Prop where
 right : ∀ (x : Mx) (m : Ms) (w : World), MsIs w [] x m → m.votes.length ≤ 1000 → Calls Try.prog 10 #[x.v] w fun e w' => e = .returned (.bool (decide m.Right)) ∧ Below w.heap.size w w'
 put_yes : ∀ (x : Mx) (m : Ms) (w : World), MsIs w [] x m → m.Right → Calls Try.prog 9 #[x.v] w fun e w' => ∃ v, e = .returned (.tuple #[v, .int .i64 0]) ∧ Ow w' w.heap.size 5 v ((msB m).map bv) ∧ Below w.heap.size w w'
 put_not : ∀ (x : Mx) (m : Ms) (w : World), MsIs w [] x m → m.votes.length ≤ 1000 → ¬ m.Right → Calls Try.prog 9 #[x.v] w fun e w' => ∃ A cp, e = .returned (.tuple #[.slice A 0 cp, .int .i64 1]) ∧ Below w.heap.size w w'
 get : ∀ (x : Value) (s : List UInt8) (w : World), Rd w w.heap.size x (s.map bv) → s.length ≤ 1000000 → Calls Try.prog 16 #[x] w fun e w' => GetMs s w e w'
 same : ∀ (x y : Mx) (m n : Ms) (w : World), MsIs w [] x m → MsIs w [] y n → m.votes.length ≤ 1000 → n.votes.length ≤ 1000 → Calls Try.prog 12 #[x.v, y.v] w fun e w' => e = .returned (.bool (decide (m = n))) ∧ Below w.heap.size w w'
theorem MsgI.get_yes (I : MsgI) (x : Value) (s : List UInt8) (m : Ms) (w : World) (hr : Rd w w.heap.size x (s.map bv)) (hl : s.length ≤ 1000000) (h : IsMs s m) : Calls Try.prog 16 #[x] w fun e w' => (∃ y : Mx, e = .returned (.tuple #[y.v, .int .i64 0]) ∧ MsOw w' w.heap.size y m) ∧ Below w.heap.size w w' := by
 refine (I.get x s w hr hl).mono ?_
 rintro e w' ⟨⟨y, n, E, rfl, ho, h1⟩, hb⟩
 rcases h1 with ⟨rfl, h1⟩ | ⟨rfl, -, h1⟩
 ·obtain rfl := h.uniq h1
  exact ⟨⟨y, rfl, ho⟩, hb⟩
 ·exact absurd h (h1 m)
theorem MsgI.get_no (I : MsgI) (x : Value) (s : List UInt8) (w : World) (hr : Rd w w.heap.size x (s.map bv)) (hl : s.length ≤ 1000000) (h : ∀ n, ¬ IsMs s n) : Calls Try.prog 16 #[x] w fun e w' => (∃ y : Mx, e = .returned (.tuple #[y.v, .int .i64 2]) ∧ MsOw w' w.heap.size y Ms.zero) ∧ Below w.heap.size w w' := by
 refine (I.get x s w hr hl).mono ?_
 rintro e w' ⟨⟨y, n, E, rfl, ho, h1⟩, hb⟩
 rcases h1 with ⟨rfl, h1⟩ | ⟨rfl, rfl, -⟩
 ·exact absurd h1 (h n)
 ·exact ⟨⟨y, rfl, ho⟩, hb⟩
def exM : Ms := ⟨⟨1, 1, 2, 9, 0, Vt.zero⟩, []⟩
theorem exM_right : exM.Right := ⟨by decide, by decide, by decide, by decide, fun _ => rfl, fun _ => rfl, fun _ => rfl, ⟨by simp [exM], List.Pairwise.nil⟩, fun e => absurd e (by decide), by decide⟩
theorem exM_len : (msB exM).length = 40 := by
 rw [msB_len]
 unfold msgR
 rw [List.length_append, List.length_append, numsB_len, textB_size, textsB_len, allB_len]
 rfl
theorem none_empty : ∀ n, ¬ IsMs [] n := fun n h => by
 have := congrArg List.length h.2
 rw [msB_len] at this
 simp at this
 omega
theorem awake19_ok (I : MsgI) (w : World) : Calls Try.prog 7 #[] w fun e w' => e = .returned (.bool true) ∧ Below w.heap.size w w' := by
 have hlen := exM_len
 have hsm : ∀ z : World, ∀ y : Mx, MsIs z [] ⟨⟨1, 1, 2, 9, 0, Vt.zero⟩, none, 0, 0⟩ exM → MsIs z [] y exM → Calls Try.prog 12 #[Mx.v ⟨⟨1, 1, 2, 9, 0, Vt.zero⟩, none, 0, 0⟩, y.v] z fun e w' => e = .returned (.bool true) ∧ Below z.heap.size z w' := fun z y h1 h2 => by
  have := I.same _ _ exM exM z h1 h2 (by simp [exM]) (by simp [exM])
  rw [decide_eq_true rfl] at this
  exact this
 have hri : ∀ z : World, Calls Try.prog 10 #[Mx.v ⟨⟨1, 1, 2, 9, 0, Vt.zero⟩, none, 0, 0⟩] z fun e w' => e = .returned (.bool true) ∧ Below z.heap.size z w' := fun z => by
  have := I.right ⟨⟨1, 1, 2, 9, 0, Vt.zero⟩, none, 0, 0⟩ exM z ⟨rfl, St.RdS.nil _ _ _⟩ (by simp [exM])
  rw [decide_eq_true exM_right] at this
  exact this
 have hrz : ∀ z : World, Calls Try.prog 10 #[Mx.v Mx.zero] z fun e w' => e = .returned (.bool false) ∧ Below z.heap.size z w' := fun z => by
  have := I.right Mx.zero Ms.zero z ⟨rfl, St.RdS.nil _ _ _⟩ (by simp [Ms.zero])
  rw [decide_eq_false zero_right] at this
  exact this
 go_enter Try.func7, Try.ntmps7
 go_wp2_with (refine St.alloc msOk rfl rfl ?_)
 constructor
 intro w1 hI1 hb1 hz1
 clear hz1
 go_wp2_with (refine St.store msOk (c := ⟨⟨1, 1, 2, 9, 0, Vt.zero⟩, none, 0, 0⟩) rfl (.tmp 1) (.tmp 8) rfl rfl rfl hI1 ?_)
 constructor
 intro w2 hs2
 have hw2 := hs2.bel hb1 (Nat.le_refl _)
 have hI2 := hs2.i
 clear hs2 hI1 hb1
 go_wp2_with (refine St.load msOk rfl (.tmp 1) rfl rfl hI2 ?_)
 refine (I.put_yes ⟨⟨1, 1, 2, 9, 0, Vt.zero⟩, none, 0, 0⟩ exM _ ⟨rfl, St.RdS.nil _ _ _⟩ exM_right).mono ?_
 rintro e w3 ⟨x3, rfl, ho3, hb3⟩
 have hr3 := ho3.rd
 obtain ⟨A3, c3, rfl, -, -⟩ := hr3.shapeM
 rw [hlen] at hr3 ⊢
 have hI3 := hI2.up hb3
 have hw3 := bwstep hw2 hb3
 clear hI2 hw2 hb3 ho3
 go_wp2_with fail
 refine (I.get_yes _ _ exM _ hr3 (by omega) ⟨exM_right, rfl⟩).mono ?_
 rintro e w4 ⟨⟨y, rfl, hy⟩, hb4⟩
 obtain ⟨yh, ya, yn, yc⟩ := y
 obtain rfl : yh = ⟨1, 1, 2, 9, 0, Vt.zero⟩ := hy.h
 have hI4 := hI3.up hb4
 have hw4 := bwstep hw3 hb4
 clear hI3 hw3 hb4 hr3 hlen
 go_wp2_with (refine St.alloc msOk rfl rfl ?_)
 constructor
 intro w5 hJ5 hb5 hz5
 clear hz5
 go_wp2_with (refine St.store msOk (c := ⟨⟨1, 1, 2, 9, 0, Vt.zero⟩, ya, yn, yc⟩) rfl (.tmp 4) (.tmp 17) rfl rfl rfl hJ5 ?_)
 constructor
 intro w6 hs6
 have hJ6 := hs6.i
 have hb46 : Below w4.heap.size w4 w6 := hs6.bel hb5 (Nat.le_refl _)
 have hI6 := hI4.up hb46
 have hy6 := hy.below hb46
 have hw6 := bwstep hw4 hb46
 clear hs6 hJ5 hb5 hI4 hy hw4 hb46
 go_wp2_with fail
 refine (I.get_no _ [] _ (Ow.nil w6 0 5).rd (by simp) none_empty).mono ?_
 rintro e w7 ⟨⟨z, rfl, hz⟩, hb7⟩
 have hI7 := hI6.up hb7
 have hJ7 := hJ6.up hb7
 have hy7 := hy6.below hb7
 have hw7 := bwstep hw6 hb7
 clear hI6 hJ6 hy6 hw6 hb7 hz
 go_wp2_with (refine St.alloc msOk rfl rfl ?_)
 constructor
 intro w8 hL8 hb8 hz8
 clear hz8
 go_wp2_with (refine St.store msOk (c := z) rfl (.tmp 6) (.tmp 21) rfl rfl rfl hL8 ?_)
 constructor
 intro w9 hs9
 have hb79 : Below w7.heap.size w7 w9 := hs9.bel hb8 (Nat.le_refl _)
 have hI9 := hI7.up hb79
 have hJ9 := hJ7.up hb79
 have hy9 := hy7.below hb79
 have hw9 := bwstep hw7 hb79
 clear hs9 hL8 hb8 hI7 hJ7 hy7 hw7 hb79
 go_wp2_with (first | refine St.load msOk rfl (.tmp 1) rfl rfl hI9 ?_ | refine St.load msOk rfl (.tmp 4) rfl rfl hJ9 ?_)
 refine (hsm _ _ ⟨rfl, St.RdS.nil _ _ _⟩ hy9.is).mono ?_
 rintro e wa ⟨rfl, hba⟩
 have hIa := hI9.up hba
 have c3 := (MxAt.of (hJ9.up hba)).c3
 simp only at c3
 have hwa := bwstep hw9 hba
 clear hI9 hJ9 hy9 hw9 hba hsm
 go_wp2_with (refine St.load msOk rfl (.tmp 1) rfl rfl hIa ?_)
 refine (hri _).mono ?_
 rintro e wb ⟨rfl, hbb⟩
 have hwb := bwstep hwa hbb
 clear hIa hwa hbb hri c3
 go_wp2_with fail
 refine (hrz _).mono ?_
 rintro e wc ⟨rfl, hbc⟩
 have hwc := bwstep hwb hbc
 clear hwb hbc hrz
 go_wp2_with fail
 go_ret
 exact ⟨rfl, hwc⟩
end Go.Proofs.Ytpmlfhgdhnofbaa.Ce
