/- What a command's parts may be in cells: the contract of placed. -/
import Derived.Test.YtkpdadnmbjmfpaaDoorCmB
namespace Go.Proofs.YtkpdadnmbjmfpaaDoor.Ce
open Go.RowKit

/-- cells as a struct type -/
abbrev clD : St.Sp Cl := ⟨38, 0, 5, 64, Cl.cs, Cl.zero⟩
theorem clOk : clD.Ok Tryd.prog := ⟨⟨_, Tryd.underlying38, rfl⟩, by kernel_rfl, by decide, fun _ => rfl, cs_one⟩
/-- the cell that it is checked against -/
def Cm.cellE (c : Cm) : Cl := ⟨c.row, c.col, c.at_, c.expect, false⟩
structure Cm.placed (c : Cm) : Prop where
  five : c.kind = 5 → (c.row.size ≤ 64 ∧ c.to_.size ≤ 64) ∧ 0 ≤ c.at_ ∧ c.at_ ≤ 4294967295
  four : c.kind ≠ 5 → c.cell.ok ∧ c.cellE.ok
noncomputable instance (c : Cm) : Decidable c.placed := Classical.propDecidable _
theorem Cm.placed5 {c : Cm} (h : c.kind = 5) : c.placed ↔ ((c.row.size : Int) ≤ 64 ∧ (c.to_.size : Int) ≤ 64) ∧ 0 ≤ c.at_ ∧ c.at_ ≤ 4294967295 :=
  ⟨fun p => by have := p.five h; omega, fun p => ⟨fun _ => by omega, fun q => absurd h q⟩⟩
theorem Cm.placed4 {c : Cm} (h : ¬ c.kind = 5) : c.placed ↔ c.cell.ok ∧ c.cellE.ok := ⟨fun p => p.four h, fun p => ⟨fun q => absurd q h, fun _ => p⟩⟩
set_option maxHeartbeats 4000000 in
set_option maxRecDepth 100000 in
theorem placed5_any (c : Cm) (w : World) (h5 : c.kind = 5) : Calls Tryd.prog 19 #[c.v] w fun e w' => e = .returned (.bool (decide c.placed)) ∧ Below w.heap.size w w' := by
  have HB := Lib.hid (Cm.placed5 h5)
  have hw := fun w => within_any c.at_ 0 4294967295 w
  go_enter Tryd.func19, Tryd.ntmps19
  go_wp2_with (refine St.box cmD rfl (.tmp 0) c rfl rfl ?_)
  constructor
  intro w1 hI hb hz
  obtain ⟨c0, c1, c2, c3, c4, c5, c6, c7, c8, c9⟩ := CmAt.of hI
  rw [h5] at c2
  clear hI hz c0 c1 c4 c7 c8 c9
  go_wp2_with fail
  all_goals first
    | (refine (hw _).mono ?_
       rintro e w2 ⟨rfl, rfl⟩
       go_wp2_with fail
       go_ret
       refine ⟨ret1 (vb ?_), hb⟩
       rw [Bool.eq_iff_iff, decide_eq_true_iff (p := c.placed), HB.out]
       clear HB c2 c3 c5 c6
       simp_all <;> omega)
    | (go_ret
       refine ⟨ret1 (vb ?_), hb⟩
       rw [Bool.eq_iff_iff, decide_eq_true_iff (p := c.placed), HB.out]
       clear HB c2 c3 c5 c6
       simp_all <;> omega)
set_option maxHeartbeats 4000000 in
set_option maxRecDepth 100000 in
theorem placed4_any (c : Cm) (w : World) (h5 : ¬ c.kind = 5) : Calls Tryd.prog 19 #[c.v] w fun e w' => e = .returned (.bool (decide c.placed)) ∧ Below w.heap.size w w' := by
  have HB := Lib.hid (Cm.placed4 h5)
  have hr := fun w => right_any c.cell w
  have hr2 := fun w => right_any c.cellE w
  go_enter Tryd.func19, Tryd.ntmps19
  go_wp2_with (refine St.box cmD rfl (.tmp 0) c rfl rfl ?_)
  constructor
  intro w1 hI hb hz
  have HI := Lib.hid hI
  obtain ⟨c0, c1, c2, c3, c4, c5, c6, c7, c8, c9⟩ := CmAt.of hI
  clear hI hz c0 c1 c5 c8 c9
  go_wp2_with (refine St.alloc clOk rfl rfl ?_)
  constructor
  intro w2 hI2 hb2 hz2
  have HI2 := Lib.hid (HI.out.up hb2)
  have hb3 := bwstep hb hb2
  clear c2 c3 c4 c6 c7 hb2 hz2
  go_wp2_with (refine St.store clOk (c := c.cell) rfl (.tmp 3) (.tmp 31) rfl rfl rfl hI2 ?_)
  constructor
  intro w3 hs3
  have hb4 := hs3.bel hb3 hb.size
  have HI3 := Lib.hid (hs3.up HI2.out (Nat.ne_of_lt HI.out.lt))
  have hI3 := hs3.i
  clear hI2 hs3 hb3
  go_wp2_with (first | refine St.load clOk rfl (.tmp 3) rfl rfl hI3 ?_ | refine St.alloc clOk rfl rfl ?_)
  constructor
  intro w4 hI4 hb5 hz4
  have HI4 := Lib.hid (HI3.out.up hb5)
  have HJ4 := Lib.hid (hI3.up hb5)
  have hb6 := bwstep hb4 hb5
  have hl3 := hI3.lt
  clear hI3 hb5 hz4
  go_wp2_with (refine St.store clOk (c := c.cell) rfl (.tmp 4) (.tmp 32) rfl rfl rfl hI4 ?_)
  constructor
  intro w5 hs5
  have hb7 := hs5.bel hb6 (Nat.le_trans hb.size (Nat.le_of_lt hl3))
  have hj5 := hs5.up HJ4.out (Nat.ne_of_lt hl3)
  have c8 := (CmAt.of (hs5.up HI4.out (Nat.ne_of_lt (Nat.lt_of_lt_of_le HI.out.lt (Nat.le_of_lt hl3))))).c8
  have hi5 := hs5.i
  have hst := hi5.at_ (i := 3) rfl
  have hfz := hi5.fz 3
  have hp : clD.Set w3.heap.size c.cellE w5 (w5.setCell ⟨w3.heap.size, 3, none⟩ (.string c.expect)) := St.Sp.Set.part hi5 rfl
  have hb8 := hp.bel hb7 (Nat.le_trans hb.size (Nat.le_of_lt hl3))
  have hj6 := hp.up hj5 (Nat.ne_of_lt hl3)
  have HI6 := Lib.hid hp.i
  have HZ := Lib.hid hp.z
  have HB8 := Lib.hid hb8
  have HN3 : Hid (w1.heap.size ≠ w3.heap.size) := Lib.hid (Nat.ne_of_lt hl3)
  clear hi5 hj5 hs5 hI4 hb hb4 hb6 hb7 hl3 hp hb8
  by_cases hok : c.cell.ok
  · rw [decide_eq_true hok] at hr
    have HD : Hid (decide c.cellE.ok = decide c.placed) := Lib.hid (decide_eq_decide.2 ⟨fun h => HB.out.2 ⟨hok, h⟩, fun h => (HB.out.1 h).2⟩)
    clear hok
    go_wp2_with (refine St.load clOk rfl (.tmp 3) rfl rfl hj6 ?_)
    refine (hr _).mono ?_
    rintro e w7 ⟨rfl, hb7⟩
    have hi7 := HI6.out.up hb7
    have hb9 := bwstep HB8.out hb7
    clear hb7 hj6
    go_wp2_with (refine St.load clOk rfl (.tmp 4) rfl rfl hi7 ?_)
    refine (hr2 _).mono ?_
    rintro e w8 ⟨rfl, hb7⟩
    have hb10 := bwstep hb9 hb7
    clear hb7 hb9 hi7
    go_wp2_with fail
    go_ret
    exact ⟨ret1 (vb HD.out), hb10⟩
  · rw [decide_eq_false hok] at hr
    have HD : Hid (false = decide c.placed) := Lib.hid (decide_eq_false fun h => hok (HB.out.1 h).1).symm
    clear hok
    go_wp2_with (refine St.load clOk rfl (.tmp 3) rfl rfl hj6 ?_)
    refine (hr _).mono ?_
    rintro e w7 ⟨rfl, hb7⟩
    have hb9 := bwstep HB8.out hb7
    clear hb7 hj6
    go_wp2_with fail
    go_ret
    exact ⟨ret1 (vb HD.out), hb9⟩
theorem placed_any (c : Cm) (w : World) : Calls Tryd.prog 19 #[c.v] w fun e w' => e = .returned (.bool (decide c.placed)) ∧ Below w.heap.size w w' := by
  by_cases h5 : c.kind = 5
  · exact placed5_any c w h5
  · exact placed4_any c w h5
end Go.Proofs.YtkpdadnmbjmfpaaDoor.Ce
