/- container/heap's down, over whatever value with methods. -/
import Derived.Test.YtknkdehjgkjljaaHpP
namespace Go.Proofs.Ytknkdehjgkjljaa.Hp
open Go.RowKit

variable {α : Type}
/-- how a method of the interface value is reached in a world, and what its call does -/
def Meth (T : TypeId) (rv : Value) (name : String) (args : List Value) (w : World) (R : Ending → World → Prop) : Prop :=
  ∃ f r, (∀ args w, (callFunc f args).run Try.prog w = .ok (.enter f args) w) ∧ (method (Try.prog.types.size + 100) T rv name).run Try.prog w = .ok (f, r) w ∧ Calls Try.prog f (r :: args).toArray w R
/-- a heap's value with methods: what it holds is told by St: the elements by their places, how many there are -/
structure Iface (St : (Nat → α) → Nat → World → Prop) (T : TypeId) (rv : Value) (lt : α → α → Bool) : Prop where
  len : ∀ a n w, St a n w → Meth T rv "Len" [] w fun e w' => e = .returned (.int .i64 (n : Int)) ∧ St a n w'
  less : ∀ a n w (i j : Nat), St a n w → i < n → j < n → Meth T rv "Less" [.int .i64 (i : Int), .int .i64 (j : Int)] w fun e w' => e = .returned (.bool (lt (a i) (a j))) ∧ St a n w'
  swap : ∀ a n w (i j : Nat), St a n w → i < n → j < n → Meth T rv "Swap" [.int .i64 (i : Int), .int .i64 (j : Int)] w fun e w' => (∃ v, e = .returned v) ∧ St (swp a i j) n w'
/-- the same elements, in another order up to n -/
structure SameTo (n : Nat) (a b : Nat → α) : Prop where
  p : ((List.range n).map b).Perm ((List.range n).map a)
  o : ∀ k, n ≤ k → b k = a k
theorem SameTo.refl (n : Nat) (a : Nat → α) : SameTo n a a := ⟨List.Perm.refl _, fun _ _ => rfl⟩
theorem SameTo.swp {n i j : Nat} {a b : Nat → α} (h : SameTo n a b) (hi : i < n) (hj : j < n) : SameTo n a (Hp.swp b i j) :=
  ⟨(swp_perm b hi hj).trans h.p, fun k hk => by rw [swp_ne (by omega) (by omega)]; exact h.o k hk⟩
abbrev leB (lt : α → α → Bool) (x y : α) : Prop := lt y x = false
set_option maxHeartbeats 1000000 in
set_option maxRecDepth 100000 in
theorem down_any {St : (Nat → α) → Nat → World → Prop} {T : TypeId} {rv : Value} {lt : α → α → Bool} (I : Iface St T rv lt) (hO : Ord (leB lt)) (a : Nat → α) (m n lo i0 : Nat) (w : World) (h : St a m w) (hn : n ≤ m) (hd : Down (leB lt) a lo n i0) (hlo : lo ≤ i0) (hm : m ≤ 1000000000) (hi0 : i0 ≤ 1000000000) :
    Calls Try.prog 41 #[.iface T rv, .int .i64 (i0 : Int), .int .i64 (n : Int)] w fun e w' => ∃ b q, e = .returned (.bool q) ∧ St b m w' ∧ Heap (leB lt) b lo n ∧ SameTo n a b := by
  have HI := Lib.hid I
  have HH : Hid (St a m w ∧ Down (leB lt) a lo n i0 ∧ SameTo n a a) := Lib.hid ⟨h, hd, SameTo.refl _ _⟩
  clear h hd I
  go_enter Try.func41, Try.ntmps41
  go_wp2_with fail
  go_loopw [7] (fun i wr => ∃ (k : Nat) (b : Nat → α), i = .int .i64 (k : Int) ∧ lo ≤ k ∧ k ≤ 1000000000 ∧ Hid (St b m wr ∧ Down (leB lt) b lo n k ∧ SameTo n a b)) (fun i _ => n - (intOf i).toNat)
  case atStart => exact ⟨i0, a, rfl, hlo, hi0, HH⟩
  case round =>
    clear HH
    obtain ⟨k, b, rfl, hlk, hk, HS⟩ := hrel
    by_cases h1 : 2 * k + 1 < n
    · have g1 : ¬ (n : Int) ≤ 2 * (k : Int) + 1 := by omega
      have HD := Lib.hid HS.out.2
      have HS1 := Lib.hid HS.out.1
      clear HS
      by_cases h2 : 2 * k + 2 < n
      · have g2 : 2 * (k : Int) + 1 + 1 < (n : Int) := by omega
        obtain ⟨f1, r1, ef1, mf1, cf1⟩ := HI.out.less b m wr (2 * k + 1 + 1) (2 * k + 1) HS1.out (by omega) (by omega)
        rw [show ((2 * k + 1 + 1 : Nat) : Int) = 2 * (k : Int) + 1 + 1 by omega, show ((2 * k + 1 : Nat) : Int) = 2 * (k : Int) + 1 by omega] at cf1
        simp at mf1
        go_wp2_with fail
        refine cf1.mono ?_
        rintro e w2 ⟨rfl, hs2⟩
        have HS2 := Lib.hid hs2
        clear hs2 cf1 ef1 mf1 HS1
        cases hl : lt (b (2 * k + 1 + 1)) (b (2 * k + 1))
        · have HM := Lib.hid (min_left (n := n) hO (a := b) (i := k) hl)
          clear hl
          obtain ⟨f2, r2, ef2, mf2, cf2⟩ := HI.out.less b m w2 (2 * k + 1) k HS2.out (by omega) (by omega)
          rw [show ((2 * k + 1 : Nat) : Int) = 2 * (k : Int) + 1 by omega] at cf2
          simp at mf2
          go_wp2_with fail
          refine cf2.mono ?_
          rintro e w3 ⟨rfl, hs3⟩
          have HS3 := Lib.hid hs3
          clear hs3 cf2 ef2 mf2
          cases hq : lt (b (2 * k + 1)) (b k)
          · have hst := HD.out.1.stop (stop_min hO HM.out hq)
            have HST := Lib.hid hst
            clear hst hq
            go_wp2_with fail
            go_ret
            exact ⟨b, _, rfl, HS3.out, HST.out, HD.out.2⟩
          · have hle : leB lt (b (2 * k + 1)) (b k) := hO.of_not (fun h => by rw [show lt (b (2 * k + 1)) (b k) = false from h] at hq; cases hq)
            have hdn := HD.out.1.step hlk (by omega) (by omega) (by omega) HM.out hle
            have HDN := Lib.hid (And.intro hdn (HD.out.2.swp (i := k) (j := 2 * k + 1) (by omega) (by omega)))
            obtain ⟨f4, r4, ef4, mf4, cf4⟩ := HI.out.swap b m w3 k (2 * k + 1) HS3.out (by omega) (by omega)
            rw [show ((2 * k + 1 : Nat) : Int) = 2 * (k : Int) + 1 by omega] at cf4
            simp at mf4
            clear hle hdn hq
            go_wp2_with fail
            refine cf4.mono ?_
            rintro e w4 ⟨⟨v4, rfl⟩, hs4⟩
            have HS4 := Lib.hid hs4
            clear hs4 cf4 ef4 mf4
            go_wp2_with fail
            go_roundw
            case rel => exact ⟨2 * k + 1, _, by go_num, by omega, by omega, Lib.hid ⟨HS4.out, HDN.out⟩⟩
            case measure => simp [intOf]; omega
        · have HM := Lib.hid (min_right (n := n) hO (a := b) (i := k) (hO.of_not (fun h => by rw [show lt (b (2 * k + 1 + 1)) (b (2 * k + 1)) = false from h] at hl; cases hl)))
          clear hl
          obtain ⟨f2, r2, ef2, mf2, cf2⟩ := HI.out.less b m w2 (2 * k + 1 + 1) k HS2.out (by omega) (by omega)
          rw [show ((2 * k + 1 + 1 : Nat) : Int) = 2 * (k : Int) + 1 + 1 by omega] at cf2
          simp at mf2
          go_wp2_with fail
          refine cf2.mono ?_
          rintro e w3 ⟨rfl, hs3⟩
          have HS3 := Lib.hid hs3
          clear hs3 cf2 ef2 mf2
          cases hq : lt (b (2 * k + 1 + 1)) (b k)
          · have hst := HD.out.1.stop (stop_min hO HM.out hq)
            have HST := Lib.hid hst
            clear hst hq
            go_wp2_with fail
            go_ret
            exact ⟨b, _, rfl, HS3.out, HST.out, HD.out.2⟩
          · have hle : leB lt (b (2 * k + 1 + 1)) (b k) := hO.of_not (fun h => by rw [show lt (b (2 * k + 1 + 1)) (b k) = false from h] at hq; cases hq)
            have hdn := HD.out.1.step hlk (by omega) (by omega) (by omega) HM.out hle
            have HDN := Lib.hid (And.intro hdn (HD.out.2.swp (i := k) (j := 2 * k + 1 + 1) (by omega) (by omega)))
            obtain ⟨f4, r4, ef4, mf4, cf4⟩ := HI.out.swap b m w3 k (2 * k + 1 + 1) HS3.out (by omega) (by omega)
            rw [show ((2 * k + 1 + 1 : Nat) : Int) = 2 * (k : Int) + 1 + 1 by omega] at cf4
            simp at mf4
            clear hle hdn hq
            go_wp2_with fail
            refine cf4.mono ?_
            rintro e w4 ⟨⟨v4, rfl⟩, hs4⟩
            have HS4 := Lib.hid hs4
            clear hs4 cf4 ef4 mf4
            go_wp2_with fail
            go_roundw
            case rel => exact ⟨2 * k + 1 + 1, _, by go_num, by omega, by omega, Lib.hid ⟨HS4.out, HDN.out⟩⟩
            case measure => simp [intOf]; omega
      · have g2 : ¬ 2 * (k : Int) + 1 + 1 < (n : Int) := by omega
        have HM := Lib.hid (min_one (a := b) (i := k) (n := n) (k := 2 * k + 1) hO rfl (by omega))
        obtain ⟨f2, r2, ef2, mf2, cf2⟩ := HI.out.less b m wr (2 * k + 1) k HS1.out (by omega) (by omega)
        rw [show ((2 * k + 1 : Nat) : Int) = 2 * (k : Int) + 1 by omega] at cf2
        simp at mf2
        go_wp2_with fail
        refine cf2.mono ?_
        rintro e w3 ⟨rfl, hs3⟩
        have HS3 := Lib.hid hs3
        clear hs3 cf2 ef2 mf2
        cases hq : lt (b (2 * k + 1)) (b k)
        · have hst := HD.out.1.stop (stop_min hO HM.out hq)
          have HST := Lib.hid hst
          clear hst hq
          go_wp2_with fail
          go_ret
          exact ⟨b, _, rfl, HS3.out, HST.out, HD.out.2⟩
        · have hle : leB lt (b (2 * k + 1)) (b k) := hO.of_not (fun h => by rw [show lt (b (2 * k + 1)) (b k) = false from h] at hq; cases hq)
          have hdn := HD.out.1.step hlk (by omega) (by omega) (by omega) HM.out hle
          have HDN := Lib.hid (And.intro hdn (HD.out.2.swp (i := k) (j := 2 * k + 1) (by omega) (by omega)))
          obtain ⟨f4, r4, ef4, mf4, cf4⟩ := HI.out.swap b m w3 k (2 * k + 1) HS3.out (by omega) (by omega)
          rw [show ((2 * k + 1 : Nat) : Int) = 2 * (k : Int) + 1 by omega] at cf4
          simp at mf4
          clear hle hdn hq
          go_wp2_with fail
          refine cf4.mono ?_
          rintro e w4 ⟨⟨v4, rfl⟩, hs4⟩
          have HS4 := Lib.hid hs4
          clear hs4 cf4 ef4 mf4
          go_wp2_with fail
          go_roundw
          case rel => exact ⟨2 * k + 1, _, by go_num, by omega, by omega, Lib.hid ⟨HS4.out, HDN.out⟩⟩
          case measure => simp [intOf]; omega
    · have hst := HS.out.2.1.stop (fun c c1 c2 c3 => by omega)
      have HF := Lib.hid (And.intro HS.out.1 (And.intro hst HS.out.2.2))
      have g1 : (n : Int) ≤ 2 * (k : Int) + 1 := by omega
      clear hst HS
      go_wp2_with fail
      go_ret
      exact ⟨b, _, rfl, HF.out⟩
end Go.Proofs.Ytknkdehjgkjljaa.Hp
