/- container/heap's up and Push, over whatever value with methods. -/
import Derived.Test.YtknkdehjgkjljaaHpI
namespace Go.Proofs.Ytknkdehjgkjljaa.Hp
open Go.RowKit

variable {α : Type}
set_option maxHeartbeats 1000000 in
set_option maxRecDepth 100000 in
theorem up_any {St : (Nat → α) → Nat → World → Prop} {T : TypeId} {rv : Value} {lt : α → α → Bool} (I : Iface St T rv lt) (hO : Ord (leB lt)) (a : Nat → α) (n j0 : Nat) (w : World) (h : St a n w) (hu : Up (leB lt) a n j0) (hj : j0 < n) (hm : n ≤ 1000000000) :
    Calls Try.prog 40 #[.iface T rv, .int .i64 (j0 : Int)] w fun e w' => ∃ b v, e = .returned v ∧ St b n w' ∧ Heap (leB lt) b 0 n ∧ SameTo n a b := by
  have HI := Lib.hid I
  have HS0 : Hid (St a n w ∧ Up (leB lt) a n j0 ∧ SameTo n a a) := Lib.hid ⟨h, hu, SameTo.refl _ _⟩
  clear h I hu
  go_enter Try.func40, Try.ntmps40
  go_wp2_with fail
  go_loopw [1] (fun i wr => ∃ (k : Nat) (b : Nat → α), i = .int .i64 (k : Int) ∧ k < n ∧ Hid (St b n wr ∧ Up (leB lt) b n k ∧ SameTo n a b)) (fun i _ => (intOf i).toNat)
  case atStart => exact ⟨j0, a, rfl, hj, HS0⟩
  case round =>
    clear HS0
    obtain ⟨k, b, rfl, hk, HS⟩ := hrel
    by_cases h0 : k = 0
    · subst h0
      have hst := HS.out.2.1.stop (.inl rfl)
      have HF := Lib.hid (And.intro HS.out.1 (And.intro hst HS.out.2.2))
      have e0 : ((0 : Nat) : Int) = 0 := rfl
      rw [e0]
      clear hst HS
      go_wp2_with fail
      go_end0
      exact ⟨b, _, rfl, HF.out⟩
    · obtain ⟨i, hi⟩ : ∃ i, i = (k - 1) / 2 := ⟨_, rfl⟩
      have hik : i < k := by omega
      have hq : ((k : Int) - 1) / 2 = (i : Int) := by omega
      have hq2 : Int.tdiv ((k : Int) - 1) 2 = (i : Int) := by rw [Int.tdiv_eq_ediv_of_nonneg (by omega)]; exact hq
      have hw : IntKind.i64.wrap ((k : Int) - 1) = (k : Int) - 1 := by rw [IntKind.wrap_i64]; omega
      have hne : ((i : Int) == (k : Int)) = false := by rw [beq_eq_false_iff_ne]; omega
      have hne2 : ¬ (i : Int) = (k : Int) := by omega
      obtain ⟨f1, r1, ef1, mf1, cf1⟩ := HI.out.less b n wr k i HS.out.1 hk (by omega)
      simp at mf1
      have HU := Lib.hid HS.out.2
      have HI2 := Lib.hid hi
      clear HS hi h0
      go_wp2_with fail
      refine cf1.mono ?_
      rintro e w2 ⟨rfl, hs2⟩
      have HS2 := Lib.hid hs2
      clear hs2 cf1 ef1 mf1
      cases hl : lt (b k) (b i)
      · have hst := HU.out.1.stop (.inr (by rw [← HI2.out]; exact hl))
        have HST := Lib.hid hst
        clear hst hl
        go_wp2_with fail
        go_end0
        exact ⟨b, _, rfl, HS2.out, HST.out, HU.out.2⟩
      · have hle : leB lt (b k) (b i) := hO.of_not (fun h => by rw [show lt (b k) (b i) = false from h] at hl; cases hl)
        have hup := HU.out.1.step hO (by omega) hk (by rw [← HI2.out]; exact hle)
        rw [← HI2.out] at hup
        have HUP := Lib.hid (And.intro hup (HU.out.2.swp (i := i) (j := k) (by omega) hk))
        obtain ⟨f4, r4, ef4, mf4, cf4⟩ := HI.out.swap b n w2 i k HS2.out (by omega) hk
        simp at mf4
        clear hle hup hl
        go_wp2_with fail
        refine cf4.mono ?_
        rintro e w4 ⟨⟨v4, rfl⟩, hs4⟩
        have HS4 := Lib.hid hs4
        clear hs4 cf4 ef4 mf4
        go_wp2_with fail
        go_roundw
        case rel => exact ⟨i, _, by go_num, by omega, Lib.hid ⟨HS4.out, HUP.out⟩⟩
        case measure => simp [intOf]; omega
/-- what Push takes -/
structure IfacePush (St : (Nat → α) → Nat → World → Prop) (En : α → Value → World → Prop) (T : TypeId) (rv : Value) : Prop where
  push : ∀ a n w x v, n ≤ 100000000 → St a n w → En x v w → Meth T rv "Push" [v] w fun e w' => (∃ u, e = .returned u) ∧ St (fun k => if k = n then x else a k) (n + 1) w'
set_option maxHeartbeats 1000000 in
set_option maxRecDepth 100000 in
theorem push_any {St : (Nat → α) → Nat → World → Prop} {En : α → Value → World → Prop} {T : TypeId} {rv : Value} {lt : α → α → Bool} (I : Iface St T rv lt) (J : IfacePush St En T rv) (hO : Ord (leB lt)) (a : Nat → α) (n : Nat) (x : α) (v : Value) (w : World) (h : St a n w) (hx : En x v w) (hh : Heap (leB lt) a 0 n) (hm : n ≤ 100000000) :
    Calls Try.prog 33 #[.iface T rv, v] w fun e w' => ∃ b u, e = .returned u ∧ St b (n + 1) w' ∧ Heap (leB lt) b 0 (n + 1) ∧ SameTo (n + 1) (fun k => if k = n then x else a k) b := by
  have HI := Lib.hid I
  obtain ⟨f1, r1, ef1, mf1, cf1⟩ := J.push a n w x v hm h hx
  simp at mf1
  have hw : IntKind.i64.wrap (((n + 1 : Nat) : Int) - 1) = (n : Int) := by rw [IntKind.wrap_i64]; omega
  have HU : Hid (Up (leB lt) (fun k => if k = n then x else a k) (n + 1) n) := Lib.hid (hh.push fun k hk => if_neg (by omega))
  obtain ⟨c, hc⟩ : ∃ c : Nat → α, c = fun k => if k = n then x else a k := ⟨_, rfl⟩
  rw [← hc] at cf1 HU ⊢
  clear h I J hx hh hc
  go_enter Try.func33, Try.ntmps33
  go_wp2_with fail
  refine cf1.mono ?_
  rintro e w1 ⟨⟨u1, rfl⟩, hs1⟩
  obtain ⟨f2, r2, ef2, mf2, cf2⟩ := HI.out.len c (n + 1) w1 hs1
  simp at mf2
  clear hs1 cf1 ef1 mf1
  go_wp2_with fail
  refine cf2.mono ?_
  rintro e w2 ⟨rfl, hs2⟩
  have hup := up_any HI.out hO c (n + 1) n w2 hs2 HU.out (by omega) (by omega)
  clear hs2 cf2 ef2 mf2
  go_wp2_with fail
  refine hup.mono ?_
  rintro e w3 ⟨b, u3, rfl, hs3, hh3, hp3⟩
  have HP := Lib.hid (And.intro hs3 (And.intro hh3 hp3))
  clear hs3 hh3 hp3 hup
  go_wp2_with fail
  go_end0
  exact ⟨b, _, rfl, HP.out⟩
end Go.Proofs.Ytknkdehjgkjljaa.Hp
