/- Layer 15's law: '==' of commands, awake, small. -/
import Derived.Test.YtkpdadnmbjmfpaaDoorCmV
namespace Go.Proofs.YtkpdadnmbjmfpaaDoor.Ce
open Go.RowKit

/-- what '==' of commands asks -/
def cmSp : List (Nat × Nat) := [(3, 0), (3, 1), (3, 2), (9, 3), (9, 4), (9, 5), (3, 6), (9, 7), (9, 8), (4, 9)]
theorem cmEqs : St.Eqs Tryd.prog 23 cmSp := ⟨by kernel_rfl, by kernel_rfl, by kernel_rfl, by kernel_rfl⟩
theorem cmTyped (c d : Cm) : St.Typed Tryd.prog cmSp c.cs d.cs := by
  intro p hp
  simp only [cmSp, List.mem_cons, List.not_mem_nil, or_false] at hp
  rcases hp with rfl | rfl | rfl | rfl | rfl | rfl | rfl | rfl | rfl | rfl
  · exact .inr (.inl ⟨.i64, Tryd.underlying3, _, _, rfl, rfl⟩)
  · exact .inr (.inl ⟨.i64, Tryd.underlying3, _, _, rfl, rfl⟩)
  · exact .inr (.inl ⟨.i64, Tryd.underlying3, _, _, rfl, rfl⟩)
  · exact .inl ⟨Tryd.underlying9, _, _, rfl, rfl⟩
  · exact .inl ⟨Tryd.underlying9, _, _, rfl, rfl⟩
  · exact .inl ⟨Tryd.underlying9, _, _, rfl, rfl⟩
  · exact .inr (.inl ⟨.i64, Tryd.underlying3, _, _, rfl, rfl⟩)
  · exact .inl ⟨Tryd.underlying9, _, _, rfl, rfl⟩
  · exact .inl ⟨Tryd.underlying9, _, _, rfl, rfl⟩
  · exact .inr (.inr ⟨Tryd.underlying4, _, _, rfl, rfl⟩)
noncomputable instance : DecidableEq Cm := fun _ _ => Classical.propDecidable _
theorem cmAlike (c d : Cm) : St.allAlike cmSp c.cs d.cs = decide (c = d) := by
  rw [Bool.eq_iff_iff, decide_eq_true_iff]
  simp only [St.allAlike, cmSp, List.all_cons, List.all_nil, Bool.and_true, Bool.and_eq_true, Cm.cs, St.alike, Array.getD_eq_getD_getElem?]
  simp only [List.getElem?_toArray, List.getElem?_cons_zero, List.getElem?_cons_succ, Option.getD_some, St.alike, decide_eq_true_iff, beq_iff_eq]
  constructor
  · rintro ⟨h0, h1, h2, h3, h4, h5, h6, h7, h8, h9⟩
    exact Cm.ext' h0 h1 h2 h3 h4 h5 h6 h7 h8 h9
  · rintro rfl
    simp
/-- awake's command -/
def exC : Cm := ⟨1, 2, 4, ⟨#[97]⟩, ⟨#[120]⟩, ⟨#[]⟩, 5, ⟨#[]⟩, ⟨#[]⟩, false⟩
theorem exC_sound : exC.Sound := ⟨by decide, by decide, by decide, by decide, by decide, by decide, fun h => absurd h (by decide), fun _ => ⟨rfl, .inr ⟨rfl, rfl⟩, .inr rfl, fun _ => rfl, by decide, ⟨by decide, by decide, by decide, by decide, by decide, by decide, by decide, fun h => by cases h⟩⟩⟩
theorem exC_len : (cmdB exC).length = 42 := by rw [cmdB_len]; rfl
theorem exC_right : exC.Right := ⟨exC_sound, by rw [exC_len]; decide⟩
set_option maxHeartbeats 4000000 in
set_option maxRecDepth 100000 in
theorem awake15_ok (w : World) (hk : Kd w) : Calls Tryd.prog 7 #[] w fun e w' => e = .returned (.bool true) ∧ Below w.heap.size w w' := by
  have hp := fun w hk => cput_any exC w hk
  rw [show putS exC = cmdS exC from if_pos exC_right, show putE exC = 0 by unfold putE; rw [if_pos exC_sound, if_pos exC_right]] at hp
  have hg := fun w hk => cget_ok (cmdS exC) exC w hk (isCmd_iff.2 ⟨exC_right, rfl⟩)
  have hn := fun w hk => cget_no ⟨#[110, 111]⟩ w hk (no_short (by decide))
  have hr := fun w hk => cright_any exC w hk
  rw [decide_eq_true exC_right] at hr
  have hw := fun w hk => cwrites_ok exC w hk exC_right
  rw [show (ptOf exC.kind.toNat).writes = false from rfl] at hw
  have hsz : ((cmdS exC).size : Int) = 42 := by rw [cmdS_size, exC_len]; rfl
  have hee : St.allAlike cmSp exC.cs exC.cs = true := by rw [cmAlike, decide_eq_true rfl]
  generalize cmdS exC = s at *
  have HK := Lib.hid hk
  clear hk
  go_enter Tryd.func7, Tryd.ntmps7
  go_wp2_with (refine St.alloc cmOk rfl rfl ?_)
  constructor
  intro w1 hI1 hb1 hz1
  clear hz1
  go_wp2_with (refine St.store cmOk (c := exC) rfl (.tmp 1) (.tmp 8) rfl rfl rfl hI1 ?_)
  constructor
  intro w2 hs2
  have hw2 := hs2.bel hb1 (Nat.le_refl _)
  have hI2 := hs2.i
  clear hs2 hI1 hb1
  go_wp2_with (refine St.load cmOk rfl (.tmp 1) rfl rfl hI2 ?_)
  refine (hp _ (HK.out.up hw2)).mono ?_
  rintro e w3 ⟨rfl, hb3⟩
  have HI3 := Lib.hid (hI2.up hb3)
  have hw3 := bwstep hw2 hb3
  clear hI2 hw2 hb3
  go_wp2_with fail
  refine (hg _ (HK.out.up hw3)).mono ?_
  rintro e w4 ⟨rfl, hb4⟩
  have HI4 := Lib.hid (HI3.out.up hb4)
  have hw4 := bwstep hw3 hb4
  clear hw3 hb4
  go_wp2_with (refine St.alloc cmOk rfl rfl ?_)
  constructor
  intro w5 hJ5 hb5 hz5
  have HI5 := Lib.hid (HI4.out.up hb5)
  have hw5 := bwstep hw4 hb5
  clear hw4 hb5 hz5
  go_wp2_with (refine St.store cmOk (c := exC) rfl (.tmp 4) (.tmp 17) rfl rfl rfl hJ5 ?_)
  constructor
  intro w6 hs6
  have hw6 := hs6.bel hw5 (Nat.le_of_lt HI4.out.lt)
  have HI6 := Lib.hid (hs6.up HI5.out (Nat.ne_of_lt HI4.out.lt))
  have HJ6 := Lib.hid hs6.i
  clear hs6 hJ5 hw5
  go_wp2_with fail
  refine (hn _ (HK.out.up hw6)).mono ?_
  rintro e w7 ⟨rfl, hb7⟩
  have HI7 := Lib.hid (HI6.out.up hb7)
  have HJ7 := Lib.hid (HJ6.out.up hb7)
  have hw7 := bwstep hw6 hb7
  clear hw6 hb7
  go_wp2_with (refine St.alloc cmOk rfl rfl ?_)
  constructor
  intro w8 hL8 hb8 hz8
  have HI8 := Lib.hid (HI7.out.up hb8)
  have HJ8 := Lib.hid (HJ7.out.up hb8)
  have hw8 := bwstep hw7 hb8
  clear hw7 hb8 hz8
  go_wp2_with (refine St.store cmOk (c := Cm.zero) rfl (.tmp 6) (.tmp 21) rfl rfl rfl hL8 ?_)
  constructor
  intro w9 hs9
  have hw9 := hs9.bel hw8 (Nat.le_of_lt HI7.out.lt)
  have hI9 := hs9.up HI8.out (Nat.ne_of_lt HI7.out.lt)
  have hJ9 := hs9.up HJ8.out (Nat.ne_of_lt HJ7.out.lt)
  clear hs9 hL8 hw8
  go_wp2_with (first | refine St.load cmOk rfl (.tmp 4) rfl rfl hJ9 ?_ | refine St.load cmOk rfl (.tmp 1) rfl rfl hI9 ?_ | refine St.eq cmEqs (cmTyped exC exC) rfl (.tmp 35) (.tmp 36) _ rfl rfl rfl hee ?_)
  refine (hr _ (HK.out.up hw9)).mono ?_
  rintro e w10 ⟨rfl, hb10⟩
  have hI10 := hI9.up hb10
  have hw10 := bwstep hw9 hb10
  clear hI9 hJ9 hw9 hb10
  go_wp2_with (refine St.load cmOk rfl (.tmp 1) rfl rfl hI10 ?_)
  refine (hw _ (HK.out.up hw10)).mono ?_
  rintro e w11 ⟨rfl, hb11⟩
  have hw11 := bwstep hw10 hb11
  clear hI10 hw10 hb11
  go_wp2_with fail
  go_ret
  exact ⟨rfl, hw11⟩
def Cm.small (c : Cm) : Prop := c.row.size ≤ 600 ∧ c.col.size ≤ 600 ∧ c.to_.size ≤ 600 ∧ c.value.size ≤ 600 ∧ c.expect.size ≤ 600
instance (c : Cm) : Decidable c.small := by unfold Cm.small; infer_instance
theorem Cm.small_iff {c : Cm} : c.small ↔ (c.row.size : Int) ≤ 600 ∧ (c.col.size : Int) ≤ 600 ∧ (c.to_.size : Int) ≤ 600 ∧ (c.value.size : Int) ≤ 600 ∧ (c.expect.size : Int) ≤ 600 := by
  unfold Cm.small
  omega
set_option maxHeartbeats 4000000 in
set_option maxRecDepth 100000 in
theorem small15_any (c : Cm) (w : World) : Calls Tryd.prog 8 #[c.v] w fun e w' => e = .returned (.bool (decide c.small)) ∧ Below w.heap.size w w' := by
  have HB := Lib.hid (Cm.small_iff (c := c))
  go_enter Tryd.func8, Tryd.ntmps8
  go_wp2_with (refine St.box cmD rfl (.tmp 0) c rfl rfl ?_)
  constructor
  intro w1 hI hb hz
  obtain ⟨c0, c1, c2, c3, c4, c5, c6, c7, c8, c9⟩ := CmAt.of hI
  clear hI hz c0 c1 c2 c6 c9
  go_wp2_with fail
  all_goals
    go_ret
    refine ⟨ret1 (vb ?_), hb⟩
    rw [Bool.eq_iff_iff, decide_eq_true_iff (p := c.small), HB.out]
    clear HB c3 c4 c5 c7 c8
    simp_all <;> omega
end Go.Proofs.YtkpdadnmbjmfpaaDoor.Ce
