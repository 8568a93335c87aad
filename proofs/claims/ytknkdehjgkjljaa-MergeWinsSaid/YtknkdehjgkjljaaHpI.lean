/- container/heap's Init and Pop, over whatever value with methods. -/
import Derived.Test.YtknkdehjgkjljaaHpD
namespace Go.Proofs.Ytknkdehjgkjljaa.Hp
open Go.RowKit

variable {α : Type}
theorem SameTo.trans {n : Nat} {a b c : Nat → α} (h : SameTo n a b) (k : SameTo n b c) : SameTo n a c := ⟨k.p.trans h.p, fun j hj => (k.o j hj).trans (h.o j hj)⟩
/-- what Pop hands out -/
structure IfacePop (St : (Nat → α) → Nat → World → Prop) (En : α → Value → World → Prop) (T : TypeId) (rv : Value) : Prop where
  pop : ∀ a n w, n ≤ 100000000 → St a (n + 1) w → Meth T rv "Pop" [] w fun e w' => ∃ v, e = .returned v ∧ En (a n) v w' ∧ St a n w'
set_option maxHeartbeats 1000000 in
set_option maxRecDepth 100000 in
theorem pop_any {St : (Nat → α) → Nat → World → Prop} {En : α → Value → World → Prop} {T : TypeId} {rv : Value} {lt : α → α → Bool} (I : Iface St T rv lt) (J : IfacePop St En T rv) (hO : Ord (leB lt)) (a : Nat → α) (n : Nat) (w : World) (h : St a (n + 1) w) (hh : Heap (leB lt) a 0 (n + 1)) (hm : n ≤ 100000000) :
    Calls Try.prog 34 #[.iface T rv] w fun e w' => ∃ b v, e = .returned v ∧ En (a 0) v w' ∧ St b n w' ∧ Heap (leB lt) b 0 n ∧ SameTo n (swp a 0 n) b := by
  have HI := Lib.hid I
  have HJ := Lib.hid J
  obtain ⟨f1, r1, ef1, mf1, cf1⟩ := HI.out.len a (n + 1) w h
  simp at mf1
  have hw : IntKind.i64.wrap (((n + 1 : Nat) : Int) - 1) = (n : Int) := by rw [IntKind.wrap_i64]; omega
  clear h I J
  go_enter Try.func34, Try.ntmps34
  go_wp2_with fail
  refine cf1.mono ?_
  rintro e w1 ⟨rfl, hs1⟩
  obtain ⟨f2, r2, ef2, mf2, cf2⟩ := HI.out.swap a (n + 1) w1 0 n hs1 (by omega) (by omega)
  simp at mf2
  clear hs1 cf1 ef1 mf1
  go_wp2_with fail
  refine cf2.mono ?_
  rintro e w2 ⟨⟨v2, rfl⟩, hs2⟩
  have hd := down_any HI.out hO (swp a 0 n) (n + 1) n 0 0 w2 hs2 (by omega) ((hh.less (by omega)).first (fun k h1 h2 => swp_ne (by omega) (by omega))) (Nat.le_refl _) (by omega) (by omega)
  clear hs2 cf2 ef2 mf2
  go_wp2_with fail
  refine hd.mono ?_
  rintro e w3 ⟨b, q, rfl, hs3, hh3, hp3⟩
  obtain ⟨f4, r4, ef4, mf4, cf4⟩ := HJ.out.pop b n w3 hm hs3
  simp at mf4
  have hbn : b n = a 0 := by rw [hp3.o n (Nat.le_refl _), swp_j]
  rw [hbn] at cf4
  have HP := Lib.hid (And.intro hh3 hp3)
  clear hs3 hh3 hp3 hd hbn
  go_wp2_with fail
  refine cf4.mono ?_
  rintro e w5 ⟨v5, rfl, hv5, hs5⟩
  have HV := Lib.hid (And.intro hv5 hs5)
  clear hv5 hs5 cf4 ef4 mf4
  go_wp2_with fail
  go_ret
  exact ⟨b, _, rfl, HV.out.1, HV.out.2, HP.out.1, HP.out.2⟩
end Go.Proofs.Ytknkdehjgkjljaa.Hp
