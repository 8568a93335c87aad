/- The contracts of package cmd's Put, Right and Writes. -/
import Derived.Test.YtkpdadnmbjmfpaaDoorCmS
namespace Go.Proofs.YtkpdadnmbjmfpaaDoor.Ce
open Go.RowKit

theorem Cm.sound_iff {c : Cm} : c.Sound ↔ c.numbered ∧ c.bare ∧ c.placed := by
  constructor
  · intro h
    have hk1 := h.k1
    have hk2 := h.k2
    refine ⟨⟨⟨h.c1, h.c2⟩, ⟨h.s1, h.s2⟩, hk1, hk2⟩, ?_, ?_⟩
    · by_cases h5 : c.kind = 5
      · have f := h.five h5
        rw [Cm.bare_iff, h5]
        exact ⟨.inr (nul_list f.col), .inl rfl, .inr (nul_list f.value), .inr f.has, .inr (nul_list f.expect)⟩
      · have f := h.four h5
        have hc : c.kind = 1 ∨ c.kind = 2 ∨ c.kind = 3 ∨ c.kind = 4 := by omega
        rw [Cm.bare_iff]
        have hx : c.has = true ∨ c.expect.toList = [] := f.has.imp id nul_list
        rcases hc with hk | hk | hk | hk
        · have g := f.check.resolve_left (by omega)
          rw [hk]
          exact ⟨.inl rfl, .inr (nul_list f.to_), .inl rfl, .inr g.1, hx⟩
        · have g := f.check.resolve_left (by omega)
          have v := f.value (.inl hk)
          rw [hk]
          exact ⟨.inl rfl, .inr (nul_list f.to_), .inr (nul_list v), .inr g.1, hx⟩
        · rw [hk]
          exact ⟨.inl rfl, .inr (nul_list f.to_), .inl rfl, .inl rfl, hx⟩
        · have g := f.check.resolve_left (by omega)
          have v := f.value (.inr hk)
          rw [hk]
          exact ⟨.inl rfl, .inr (nul_list f.to_), .inr (nul_list v), .inr g.1, hx⟩
    · refine ⟨fun h5 => ?_, fun h5 => ?_⟩
      · have f := h.five h5
        exact ⟨⟨f.row, f.to_⟩, f.a1, f.a2⟩
      · have f := h.four h5
        have q := f.cell
        exact ⟨q, ⟨q.r1, q.r2, q.c1, q.c2, q.a1, q.a2, f.expect, fun e => by cases e⟩⟩
  · rintro ⟨⟨⟨c1, c2⟩, ⟨s1, s2⟩, k1, k2⟩, b, p⟩
    refine ⟨c1, c2, s1, s2, k1, k2, fun h5 => ?_, fun h5 => ?_⟩
    · obtain ⟨⟨p1, p2⟩, p3, p4⟩ := p.five h5
      rw [Cm.bare_iff, h5] at b
      obtain ⟨b1, -, b3, b4, b5⟩ := b
      have e4 := b4.resolve_left (by decide)
      exact ⟨nul_of (b1.resolve_left (by decide)), nul_of (b3.resolve_left (by decide)), nul_of (b5.resolve_left (by simp [e4])), e4, p1, p2, p3, p4⟩
    · obtain ⟨p1, p2⟩ := p.four h5
      have hc : c.kind = 1 ∨ c.kind = 2 ∨ c.kind = 3 ∨ c.kind = 4 := by omega
      rw [Cm.bare_iff] at b
      obtain ⟨b1, b2, b3, b4, b5⟩ := b
      have hz : c.has = true ∨ c.expect = nul := b5.imp id nul_of
      rcases hc with hk | hk | hk | hk
      · rw [hk] at b2 b4
        have e4 := b4.resolve_left (by decide)
        exact ⟨nul_of (b2.resolve_left (by decide)), .inr ⟨e4, hz.resolve_left (by simp [e4])⟩, hz, fun h => by omega, p2.v, p1⟩
      · rw [hk] at b2 b3 b4
        have e4 := b4.resolve_left (by decide)
        exact ⟨nul_of (b2.resolve_left (by decide)), .inr ⟨e4, hz.resolve_left (by simp [e4])⟩, hz, fun h => nul_of (b3.resolve_left (by decide)), p2.v, p1⟩
      · rw [hk] at b2
        exact ⟨nul_of (b2.resolve_left (by decide)), .inl hk, hz, fun h => by omega, p2.v, p1⟩
      · rw [hk] at b2 b3 b4
        have e4 := b4.resolve_left (by decide)
        exact ⟨nul_of (b2.resolve_left (by decide)), .inr ⟨e4, hz.resolve_left (by simp [e4])⟩, hz, fun h => nul_of (b3.resolve_left (by decide)), p2.v, p1⟩
/-- what Put answers -/
noncomputable def putS (c : Cm) : ByteArray := if c.Right then cmdS c else ⟨#[]⟩
noncomputable def putE (c : Cm) : Int := if c.Sound then (if c.Right then 0 else 7) else 1
set_option maxHeartbeats 4000000 in
set_option maxRecDepth 100000 in
theorem cput_any (c : Cm) (w : World) (hk : Kd w) : Calls Tryd.prog 9 #[c.v] w fun e w' => e = .returned (.tuple #[.string (putS c), .int .i64 (putE c)]) ∧ Below w.heap.size w w' := by
  have HK := Lib.hid hk
  have HI9 := Lib.hid (Cm.sound_iff (c := c))
  have hn := fun w => numbered_any c w
  clear hk
  by_cases h1 : c.numbered
  · have hb := fun w hk => bare_any c w hk h1.2.2.1 h1.2.2.2
    rw [decide_eq_true h1] at hn
    by_cases h2 : c.bare
    · rw [decide_eq_true h2] at hb
      have hp := fun w => placed_any c w
      by_cases h3 : c.placed
      · rw [decide_eq_true h3] at hp
        have hs : c.Sound := HI9.out.2 ⟨h1, h2, h3⟩
        have hsp := fun w => spell_ok c w hs
        by_cases h4 : (cmdB c).length ≤ 512
        · have hr : c.Right := ⟨hs, h4⟩
          have eS : putS c = cmdS c := if_pos hr
          have eE : putE c = 0 := by unfold putE; rw [if_pos hs, if_pos hr]
          have h4i : ¬ (512 : Int) < (cmdS c).size := by rw [cmdS_size]; omega
          rw [eS, eE]
          generalize cmdS c = s at *
          clear eS eE hr h4 hs h1 h2 h3 HI9
          go_enter Tryd.func9, Tryd.ntmps9
          go_wp2_with (refine St.box cmD rfl (.tmp 0) c rfl rfl ?_)
          constructor
          intro w1 hI hw hz
          go_wp2_with (refine St.load cmOk rfl (.tmp 1) rfl rfl hI ?_)
          refine (hn _).mono ?_
          rintro e w2 ⟨rfl, hb2⟩
          have hI2 := hI.up hb2
          have hw2 := bwstep hw hb2
          clear hI hw hb2 hn hz
          go_wp2_with (refine St.load cmOk rfl (.tmp 1) rfl rfl hI2 ?_)
          refine (hb _ (HK.out.up hw2)).mono ?_
          rintro e w3 ⟨rfl, hb3⟩
          have hI3 := hI2.up hb3
          have hw3 := bwstep hw2 hb3
          clear hI2 hw2 hb3 hb
          go_wp2_with (refine St.load cmOk rfl (.tmp 1) rfl rfl hI3 ?_)
          refine (hp _).mono ?_
          rintro e w4 ⟨rfl, hb4⟩
          have hI4 := hI3.up hb4
          have hw4 := bwstep hw3 hb4
          clear hI3 hw3 hb4 hp
          go_wp2_with (refine St.load cmOk rfl (.tmp 1) rfl rfl hI4 ?_)
          refine (hsp _).mono ?_
          rintro e w5 ⟨rfl, hb5⟩
          have hw5 := bwstep hw4 hb5
          clear hI4 hw4 hb5 hsp
          go_wp2_with fail
          go_ret2
          exact ⟨rfl, hw5⟩
        · have hr : ¬ c.Right := fun h => h4 h.2
          have eS : putS c = ⟨#[]⟩ := if_neg hr
          have eE : putE c = 7 := by unfold putE; rw [if_pos hs, if_neg hr]
          have h4i : (512 : Int) < (cmdS c).size := by rw [cmdS_size]; omega
          rw [eS, eE]
          generalize cmdS c = s at *
          clear eS eE hr h4 hs h1 h2 h3 HI9
          go_enter Tryd.func9, Tryd.ntmps9
          go_wp2_with (refine St.box cmD rfl (.tmp 0) c rfl rfl ?_)
          constructor
          intro w1 hI hw hz
          go_wp2_with (refine St.load cmOk rfl (.tmp 1) rfl rfl hI ?_)
          refine (hn _).mono ?_
          rintro e w2 ⟨rfl, hb2⟩
          have hI2 := hI.up hb2
          have hw2 := bwstep hw hb2
          clear hI hw hb2 hn hz
          go_wp2_with (refine St.load cmOk rfl (.tmp 1) rfl rfl hI2 ?_)
          refine (hb _ (HK.out.up hw2)).mono ?_
          rintro e w3 ⟨rfl, hb3⟩
          have hI3 := hI2.up hb3
          have hw3 := bwstep hw2 hb3
          clear hI2 hw2 hb3 hb
          go_wp2_with (refine St.load cmOk rfl (.tmp 1) rfl rfl hI3 ?_)
          refine (hp _).mono ?_
          rintro e w4 ⟨rfl, hb4⟩
          have hI4 := hI3.up hb4
          have hw4 := bwstep hw3 hb4
          clear hI3 hw3 hb4 hp
          go_wp2_with (refine St.load cmOk rfl (.tmp 1) rfl rfl hI4 ?_)
          refine (hsp _).mono ?_
          rintro e w5 ⟨rfl, hb5⟩
          have hw5 := bwstep hw4 hb5
          clear hI4 hw4 hb5 hsp
          go_wp2_with fail
          go_ret2
          exact ⟨rfl, hw5⟩
      · rw [decide_eq_false h3] at hp
        have hs : ¬ c.Sound := fun h => h3 (HI9.out.1 h).2.2
        have eS : putS c = ⟨#[]⟩ := if_neg fun h => hs h.1
        have eE : putE c = 1 := if_neg hs
        rw [eS, eE]
        clear eS eE hs h1 h2 h3 HI9
        go_enter Tryd.func9, Tryd.ntmps9
        go_wp2_with (refine St.box cmD rfl (.tmp 0) c rfl rfl ?_)
        constructor
        intro w1 hI hw hz
        go_wp2_with (refine St.load cmOk rfl (.tmp 1) rfl rfl hI ?_)
        refine (hn _).mono ?_
        rintro e w2 ⟨rfl, hb2⟩
        have hI2 := hI.up hb2
        have hw2 := bwstep hw hb2
        clear hI hw hb2 hn hz
        go_wp2_with (refine St.load cmOk rfl (.tmp 1) rfl rfl hI2 ?_)
        refine (hb _ (HK.out.up hw2)).mono ?_
        rintro e w3 ⟨rfl, hb3⟩
        have hI3 := hI2.up hb3
        have hw3 := bwstep hw2 hb3
        clear hI2 hw2 hb3 hb
        go_wp2_with (refine St.load cmOk rfl (.tmp 1) rfl rfl hI3 ?_)
        refine (hp _).mono ?_
        rintro e w4 ⟨rfl, hb4⟩
        have hw4 := bwstep hw3 hb4
        clear hI3 hw3 hb4 hp
        go_wp2_with fail
        go_ret2
        exact ⟨rfl, hw4⟩
    · rw [decide_eq_false h2] at hb
      have hs : ¬ c.Sound := fun h => h2 (HI9.out.1 h).2.1
      have eS : putS c = ⟨#[]⟩ := if_neg fun h => hs h.1
      have eE : putE c = 1 := if_neg hs
      rw [eS, eE]
      clear eS eE hs h1 h2 HI9
      go_enter Tryd.func9, Tryd.ntmps9
      go_wp2_with (refine St.box cmD rfl (.tmp 0) c rfl rfl ?_)
      constructor
      intro w1 hI hw hz
      go_wp2_with (refine St.load cmOk rfl (.tmp 1) rfl rfl hI ?_)
      refine (hn _).mono ?_
      rintro e w2 ⟨rfl, hb2⟩
      have hI2 := hI.up hb2
      have hw2 := bwstep hw hb2
      clear hI hw hb2 hn hz
      go_wp2_with (refine St.load cmOk rfl (.tmp 1) rfl rfl hI2 ?_)
      refine (hb _ (HK.out.up hw2)).mono ?_
      rintro e w3 ⟨rfl, hb3⟩
      have hw3 := bwstep hw2 hb3
      clear hI2 hw2 hb3 hb
      go_wp2_with fail
      go_ret2
      exact ⟨rfl, hw3⟩
  · rw [decide_eq_false h1] at hn
    have hs : ¬ c.Sound := fun h => h1 (HI9.out.1 h).1
    have eS : putS c = ⟨#[]⟩ := if_neg fun h => hs h.1
    have eE : putE c = 1 := if_neg hs
    rw [eS, eE]
    clear eS eE hs h1 HI9
    go_enter Tryd.func9, Tryd.ntmps9
    go_wp2_with (refine St.box cmD rfl (.tmp 0) c rfl rfl ?_)
    constructor
    intro w1 hI hw hz
    go_wp2_with (refine St.load cmOk rfl (.tmp 1) rfl rfl hI ?_)
    refine (hn _).mono ?_
    rintro e w2 ⟨rfl, hb2⟩
    have hw2 := bwstep hw hb2
    clear hI hw hb2 hn hz
    go_wp2_with fail
    go_ret2
    exact ⟨rfl, hw2⟩
theorem putE_zero {c : Cm} : (putE c == 0) = decide c.Right := by
  unfold putE
  by_cases hs : c.Sound
  · rw [if_pos hs]
    by_cases hr : c.Right
    · rw [if_pos hr, decide_eq_true hr]; rfl
    · rw [if_neg hr, decide_eq_false hr]; rfl
  · rw [if_neg hs, decide_eq_false fun h => hs h.1]; rfl
set_option maxHeartbeats 2000000 in
set_option maxRecDepth 100000 in
theorem cright_any (c : Cm) (w : World) (hk : Kd w) : Calls Tryd.prog 10 #[c.v] w fun e w' => e = .returned (.bool (decide c.Right)) ∧ Below w.heap.size w w' := by
  have HE := Lib.hid (putE_zero (c := c))
  have hp := fun w hk => cput_any c w hk
  have HK := Lib.hid hk
  clear hk
  generalize putE c = n at *
  generalize putS c = s at *
  go_enter Tryd.func10, Tryd.ntmps10
  go_wp2_with (refine St.box cmD rfl (.tmp 0) c rfl rfl ?_)
  constructor
  intro w1 hI hw hz
  clear hz
  go_wp2_with (refine St.load cmOk rfl (.tmp 1) rfl rfl hI ?_)
  refine (hp _ (HK.out.up hw)).mono ?_
  rintro e w2 ⟨rfl, hb2⟩
  have hw2 := bwstep hw hb2
  clear hI hw hb2 hp
  go_wp2_with fail
  go_ret
  exact ⟨ret1 (vb HE.out), hw2⟩
set_option maxHeartbeats 2000000 in
set_option maxRecDepth 100000 in
theorem cwrites_ok (c : Cm) (w : World) (hk : Kd w) (hr : c.Right) : Calls Tryd.prog 14 #[c.v] w fun e w' => e = .returned (.bool (ptOf c.kind.toNat).writes) ∧ Below w.heap.size w w' := by
  have hp := fun w hk => cright_any c w hk
  rw [decide_eq_true hr] at hp
  have HK := Lib.hid hk
  have h1 := hr.1.k1
  have h5 := hr.1.k2
  have hcase : c.kind = 1 ∨ c.kind = 2 ∨ c.kind = 3 ∨ c.kind = 4 ∨ c.kind = 5 := by omega
  clear hk h1 h5 hr
  rcases hcase with hk | hk | hk | hk | hk
  all_goals
    have HA := Lib.hid fun (w' : World) (h : Below w.heap.size w w') => (HK.out.up h).at_ c.kind.toNat (by omega) 4 _ rfl
    rw [hk] at HA
    rw [hk]
    simp only [Int.reduceToNat, ptOf, Nat.reduceMul, Nat.reduceAdd] at HA ⊢
    go_enter Tryd.func14, Tryd.ntmps14
    go_wp2_with (refine St.box cmD rfl (.tmp 0) c rfl rfl ?_)
    constructor
    intro w1 hI hw hz
    clear hz
    go_wp2_with (refine St.load cmOk rfl (.tmp 1) rfl rfl hI ?_)
    refine (hp _ (HK.out.up hw)).mono ?_
    rintro e w2 ⟨rfl, hb2⟩
    have c2 := (CmAt.of (hI.up hb2)).c2
    rw [hk] at c2
    have hw2 := bwstep hw hb2
    have ht := HA.out _ hw2
    clear hI hw hb2 hp HA HK
    go_wp2_with fail
    go_ret
    exact ⟨rfl, hw2⟩
end Go.Proofs.YtkpdadnmbjmfpaaDoor.Ce
