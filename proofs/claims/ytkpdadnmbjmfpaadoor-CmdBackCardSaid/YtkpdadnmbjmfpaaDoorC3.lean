/- The walk of CmdBack. -/
import Derived.Test.YtkpdadnmbjmfpaaDoorCmW
namespace Go.Proofs.YtkpdadnmbjmfpaaDoor.Ce
open Go.RowKit

theorem isCmd_uniq {s : List UInt8} {c d : Cm} (h : IsCmd s c) (k : IsCmd s d) : c = d := by
  have hl := cmdB_len c
  have hs := h.2.2
  have hr : Rdg s [c.row, c.col, c.to_, c.value, c.expect] s.length := ⟨by rw [List.drop_length, List.append_nil, hs, cmd_drop]; rfl, Nat.le_refl _, h.1.texts⟩
  have h20 : 20 ≤ s.length := by rw [hs]; omega
  rw [((got_iff hr h20 c).1 h).1, ((got_iff hr h20 d).1 k).1]
theorem cmdS_eq {c d : Cm} (hc : c.Right) (hd : d.Right) : ((cmdS c).toList == (cmdS d).toList) = decide (c = d) := by
  by_cases h : c = d
  · rw [h, decide_eq_true rfl]
    simp
  · rw [decide_eq_false h]
    exact str_ne fun e => h (isCmd_uniq (isCmd_iff.2 ⟨hc, rfl⟩) (isCmd_iff.2 ⟨hd, e.symm⟩))
set_option maxHeartbeats 4000000 in
set_option maxRecDepth 100000 in
theorem cmdBack_long (c d : Cm) (s : ByteArray) (w : World) (hk : Kd w) (hn : ¬ (c.small ∧ d.small ∧ s.size ≤ 2000)) : Calls Tryd.prog 5 #[c.v, d.v, .string s] w fun e w' => e = .returned (.bool true) ∧ Below w.heap.size w w' := by
  have ha := fun w hk => awake15_ok w hk
  have h1 := fun w => small15_any c w
  have h2 := fun w => small15_any d w
  have HK := Lib.hid hk
  clear hk
  have hcase : ¬ c.small ∨ (c.small ∧ ¬ d.small) ∨ (c.small ∧ d.small ∧ (2000 : Int) < s.size) := by
    by_cases a : c.small
    · by_cases b : d.small
      · exact .inr (.inr ⟨a, b, by
          have : ¬ s.size ≤ 2000 := fun q => hn ⟨a, b, q⟩
          omega⟩)
      · exact .inr (.inl ⟨a, b⟩)
    · exact .inl a
  clear hn
  rcases hcase with q | ⟨q, q'⟩ | ⟨q, q', q2⟩
  · rw [decide_eq_false q] at h1
    clear q h2
    go_enter Tryd.func5, Tryd.ntmps5
    go_wp2_with (refine St.box cmD rfl (.tmp 0) c rfl rfl ?_)
    constructor
    intro w1 hI1 hw1 hz1
    clear hz1
    go_wp2_with (refine St.box cmD rfl (.tmp 1) d rfl rfl ?_)
    constructor
    intro w2 hJ2 hb2 hz2
    have hI2 := hI1.up hb2
    have hw2 := bwstep hw1 hb2
    clear hz2 hI1 hw1 hb2
    go_wp2_with fail
    refine (ha _ (HK.out.up hw2)).mono ?_
    rintro e w3 ⟨rfl, hb3⟩
    have hI3 := hI2.up hb3
    have hw3 := bwstep hw2 hb3
    clear hI2 hw2 hb3
    go_wp2_with (refine St.load cmOk rfl (.tmp 3) rfl rfl hI3 ?_)
    refine (h1 _).mono ?_
    rintro e w4 ⟨rfl, hb4⟩
    have hw4 := bwstep hw3 hb4
    clear hI3 hw3 hb4
    go_wp2_with fail
    refine (ha _ (HK.out.up hw4)).mono ?_
    rintro e w5 ⟨rfl, hb5⟩
    have hw5 := bwstep hw4 hb5
    clear hw4 hb5
    go_wp2_with fail
    go_ret
    exact ⟨rfl, hw5⟩
  · rw [decide_eq_true q] at h1
    rw [decide_eq_false q'] at h2
    clear q q'
    go_enter Tryd.func5, Tryd.ntmps5
    go_wp2_with (refine St.box cmD rfl (.tmp 0) c rfl rfl ?_)
    constructor
    intro w1 hI1 hw1 hz1
    clear hz1
    go_wp2_with (refine St.box cmD rfl (.tmp 1) d rfl rfl ?_)
    constructor
    intro w2 hJ2 hb2 hz2
    have hI2 := hI1.up hb2
    have hw2 := bwstep hw1 hb2
    clear hz2 hI1 hw1 hb2
    go_wp2_with fail
    refine (ha _ (HK.out.up hw2)).mono ?_
    rintro e w3 ⟨rfl, hb3⟩
    have hI3 := hI2.up hb3
    have hJ3 := hJ2.up hb3
    have hw3 := bwstep hw2 hb3
    clear hI2 hJ2 hw2 hb3
    go_wp2_with (refine St.load cmOk rfl (.tmp 3) rfl rfl hI3 ?_)
    refine (h1 _).mono ?_
    rintro e w4 ⟨rfl, hb4⟩
    have hJ4 := hJ3.up hb4
    have hw4 := bwstep hw3 hb4
    clear hI3 hJ3 hw3 hb4
    go_wp2_with (refine St.load cmOk rfl (.tmp 4) rfl rfl hJ4 ?_)
    refine (h2 _).mono ?_
    rintro e w5 ⟨rfl, hb5⟩
    have hw5 := bwstep hw4 hb5
    clear hJ4 hw4 hb5
    go_wp2_with fail
    refine (ha _ (HK.out.up hw5)).mono ?_
    rintro e w6 ⟨rfl, hb6⟩
    have hw6 := bwstep hw5 hb6
    clear hw5 hb6
    go_wp2_with fail
    go_ret
    exact ⟨rfl, hw6⟩
  · rw [decide_eq_true q] at h1
    rw [decide_eq_true q'] at h2
    clear q q'
    go_enter Tryd.func5, Tryd.ntmps5
    go_wp2_with (refine St.box cmD rfl (.tmp 0) c rfl rfl ?_)
    constructor
    intro w1 hI1 hw1 hz1
    clear hz1
    go_wp2_with (refine St.box cmD rfl (.tmp 1) d rfl rfl ?_)
    constructor
    intro w2 hJ2 hb2 hz2
    have hI2 := hI1.up hb2
    have hw2 := bwstep hw1 hb2
    clear hz2 hI1 hw1 hb2
    go_wp2_with fail
    refine (ha _ (HK.out.up hw2)).mono ?_
    rintro e w3 ⟨rfl, hb3⟩
    have hI3 := hI2.up hb3
    have hJ3 := hJ2.up hb3
    have hw3 := bwstep hw2 hb3
    clear hI2 hJ2 hw2 hb3
    go_wp2_with (refine St.load cmOk rfl (.tmp 3) rfl rfl hI3 ?_)
    refine (h1 _).mono ?_
    rintro e w4 ⟨rfl, hb4⟩
    have hJ4 := hJ3.up hb4
    have hw4 := bwstep hw3 hb4
    clear hI3 hJ3 hw3 hb4
    go_wp2_with (refine St.load cmOk rfl (.tmp 4) rfl rfl hJ4 ?_)
    refine (h2 _).mono ?_
    rintro e w5 ⟨rfl, hb5⟩
    have hw5 := bwstep hw4 hb5
    clear hJ4 hw4 hb5
    go_wp2_with fail
    refine (ha _ (HK.out.up hw5)).mono ?_
    rintro e w6 ⟨rfl, hb6⟩
    have hw6 := bwstep hw5 hb6
    clear hw5 hb6
    go_wp2_with fail
    go_ret
    exact ⟨rfl, hw6⟩
set_option maxHeartbeats 8000000 in
set_option maxRecDepth 100000 in
theorem cmdBack_short (c d : Cm) (s : ByteArray) (w : World) (hk : Kd w) (hc : c.small) (hd : d.small) (hs : s.size ≤ 2000) : Calls Tryd.prog 5 #[c.v, d.v, .string s] w fun e w' => e = .returned (.bool true) ∧ Below w.heap.size w w' := by
  have ha := fun w hk => awake15_ok w hk
  have h1 := fun w => small15_any c w
  have h2 := fun w => small15_any d w
  rw [decide_eq_true hc] at h1
  rw [decide_eq_true hd] at h2
  have hp := fun w hk => cput_any c w hk
  have hq := fun w hk => cput_any d w hk
  have hcc : (!St.allAlike cmSp c.cs c.cs) = false := by rw [cmAlike, decide_eq_true rfl]; rfl
  have hcd := cmAlike c d
  have HK := Lib.hid hk
  have hs2 : ¬ (2000 : Int) < s.size := by omega
  clear hk hc hd hs
  go_enter Tryd.func5, Tryd.ntmps5
  go_wp2_with (refine St.box cmD rfl (.tmp 0) c rfl rfl ?_)
  constructor
  intro w1 hI1 hw1 hz1
  clear hz1
  go_wp2_with (refine St.box cmD rfl (.tmp 1) d rfl rfl ?_)
  constructor
  intro w2 hJ2 hb2 hz2
  have hI2 := hI1.up hb2
  have hw2 := bwstep hw1 hb2
  clear hz2 hI1 hw1 hb2
  go_wp2_with fail
  refine (ha _ (HK.out.up hw2)).mono ?_
  rintro e w3 ⟨rfl, hb3⟩
  have hI3 := hI2.up hb3
  have hJ3 := hJ2.up hb3
  have hw3 := bwstep hw2 hb3
  clear hI2 hJ2 hw2 hb3 ha
  go_wp2_with (refine St.load cmOk rfl (.tmp 3) rfl rfl hI3 ?_)
  refine (h1 _).mono ?_
  rintro e w4 ⟨rfl, hb4⟩
  have hI4 := hI3.up hb4
  have hJ4 := hJ3.up hb4
  have hw4 := bwstep hw3 hb4
  clear hI3 hJ3 hw3 hb4 h1
  go_wp2_with (refine St.load cmOk rfl (.tmp 4) rfl rfl hJ4 ?_)
  refine (h2 _).mono ?_
  rintro e w5 ⟨rfl, hb5⟩
  have hI5 := hI4.up hb5
  have hJ5 := hJ4.up hb5
  have hw5 := bwstep hw4 hb5
  clear hI4 hJ4 hw4 hb5 h2
  go_wp2_with (refine St.load cmOk rfl (.tmp 3) rfl rfl hI5 ?_)
  refine (hp _ (HK.out.up hw5)).mono ?_
  rintro e w6 ⟨rfl, hb6⟩
  have hI6 := hI5.up hb6
  have hJ6 := hJ5.up hb6
  have hw6 := bwstep hw5 hb6
  clear hI5 hJ5 hw5 hb6 hp
  go_wp2_with (refine St.load cmOk rfl (.tmp 4) rfl rfl hJ6 ?_)
  refine (hq _ (HK.out.up hw6)).mono ?_
  rintro e w7 ⟨rfl, hb7⟩
  have hI7 := hI6.up hb7
  have hJ7 := hJ6.up hb7
  have hw7 := bwstep hw6 hb7
  clear hI6 hJ6 hw6 hb7 hq
  by_cases hR : c.Right
  · have hg := fun w hk => cget_ok (cmdS c) c w hk (isCmd_iff.2 ⟨hR, rfl⟩)
    have h512 : ¬ (512 : Int) < (cmdS c).size := by rw [cmdS_size]; have := hR.2; omega
    rw [show putS c = cmdS c from if_pos hR, show putE c = 0 by unfold putE; rw [if_pos hR.1, if_pos hR]]
    have HF : Hid (putE d = 0 → putS d = cmdS d ∧ d.Right) := Lib.hid fun h => by
      have e := putE_zero (c := d)
      rw [h] at e
      have hr : d.Right := of_decide_eq_true (show decide d.Right = true from e.symm)
      exact ⟨if_pos hr, hr⟩
    have HX := Lib.hid fun h => cmdS_eq hR (d := d) h
    generalize putE d = f at *
    generalize putS d = y at *
    clear hR
    by_cases hf : f = 0
    · obtain ⟨e1, e2⟩ := HF.out hf
      have hx := HX.out e2
      rw [← e1] at hx
      subst hf
      generalize cmdS c = x at *
      clear e1 e2 HF HX
      go_wp2_with fail
      refine (hg _ (HK.out.up hw7)).mono ?_
      rintro e w8 ⟨rfl, hb8⟩
      have hI8 := hI7.up hb8
      have hJ8 := hJ7.up hb8
      have hw8 := bwstep hw7 hb8
      clear hI7 hJ7 hw7 hb8 hg
      go_wp2_with (refine St.alloc cmOk rfl rfl ?_)
      constructor
      intro w9 hL9 hb9 hz9
      have HI9 := Lib.hid (hI8.up hb9)
      have HJ9 := Lib.hid (hJ8.up hb9)
      have hw9 := bwstep hw8 hb9
      have hl1 := hI8.lt
      have hl2 := hJ8.lt
      clear hI8 hJ8 hw8 hb9 hz9
      go_wp2_with (refine St.store cmOk (c := c) rfl (.tmp 11) (.tmp 50) rfl rfl rfl hL9 ?_)
      constructor
      intro wa hsa
      have hIa := hsa.up HI9.out (Nat.ne_of_lt hl1)
      have hJa := hsa.up HJ9.out (Nat.ne_of_lt hl2)
      have hLa := hsa.i
      have hwa := hsa.bel hw9 (Nat.le_of_lt hl1)
      clear hsa hL9 hw9 hl1 hl2
      go_wp2_with (first | refine St.load cmOk rfl (.tmp 3) rfl rfl hIa ?_ | refine St.load cmOk rfl (.tmp 4) rfl rfl hJa ?_ | refine St.load cmOk rfl (.tmp 11) rfl rfl hLa ?_ | refine St.ne cmEqs (cmTyped c c) rfl (.tmp 55) (.tmp 56) _ rfl rfl rfl hcc ?_ | refine St.eq cmEqs (cmTyped c d) rfl (.tmp 71) (.tmp 72) _ rfl rfl rfl hcd ?_)
      clear hIa hJa hLa
      by_cases hxx : ∃ e, IsCmd s.data.toList e
      · obtain ⟨b, hb⟩ := hxx
        have hg2 := fun w hk => cget_ok s b w hk hb
        obtain ⟨hbr, hbs⟩ := isCmd_iff.1 hb
        have hp2 := fun w hk => cput_any b w hk
        rw [show putS b = s by rw [← hbs]; exact if_pos hbr, show putE b = 0 by unfold putE; rw [if_pos hbr.1, if_pos hbr]] at hp2
        have hss : (s.toList == s.toList) = true := by simp
        clear hb hbr hbs
        refine (hg2 _ (HK.out.up hwa)).mono ?_
        rintro e wb ⟨rfl, hbt⟩
        have hwb := bwstep hwa hbt
        clear hwa hbt hg2
        go_wp2_with (refine St.alloc cmOk rfl rfl ?_)
        constructor
        intro wc hLc hbc hzc
        have hwc := bwstep hwb hbc
        have hzb := hwb.size
        clear hwb hbc hzc
        go_wp2_with (refine St.store cmOk (c := b) rfl (.tmp 13) (.tmp 80) rfl rfl rfl hLc ?_)
        constructor
        intro wd hsd
        have hLd := hsd.i
        have hwd := hsd.bel hwc hzb
        clear hsd hLc hwc hzb
        go_wp2_with (refine St.load cmOk rfl (.tmp 13) rfl rfl hLd ?_)
        refine (hp2 _ (HK.out.up hwd)).mono ?_
        rintro e we ⟨rfl, hbe⟩
        have hwe := bwstep hwd hbe
        clear hLd hwd hbe hp2
        go_wp2_with fail
        go_ret
        exact ⟨rfl, hwe⟩
      · have hg2 := fun w hk => cget_no s w hk (fun c h => hxx ⟨c, h⟩)
        clear hxx
        refine (hg2 _ (HK.out.up hwa)).mono ?_
        rintro e wb ⟨rfl, hbt⟩
        have hwb := bwstep hwa hbt
        clear hwa hbt hg2
        go_wp2_with (refine St.alloc cmOk rfl rfl ?_)
        constructor
        intro wc hLc hbc hzc
        have hwc := bwstep hwb hbc
        have hzb := hwb.size
        clear hwb hbc hzc
        go_wp2_with (refine St.store cmOk (c := Cm.zero) rfl (.tmp 13) (.tmp 80) rfl rfl rfl hLc ?_)
        constructor
        intro wd hsd
        have hwd := hsd.bel hwc hzb
        clear hsd hLc hwc hzb
        go_wp2_with fail
        go_ret
        exact ⟨rfl, hwd⟩
    · generalize cmdS c = x at *
      clear HF HX
      go_wp2_with fail
      refine (hg _ (HK.out.up hw7)).mono ?_
      rintro e w8 ⟨rfl, hb8⟩
      have hI8 := hI7.up hb8
      have hJ8 := hJ7.up hb8
      have hw8 := bwstep hw7 hb8
      clear hI7 hJ7 hw7 hb8 hg
      go_wp2_with (refine St.alloc cmOk rfl rfl ?_)
      constructor
      intro w9 hL9 hb9 hz9
      have HI9 := Lib.hid (hI8.up hb9)
      have HJ9 := Lib.hid (hJ8.up hb9)
      have hw9 := bwstep hw8 hb9
      have hl1 := hI8.lt
      have hl2 := hJ8.lt
      clear hI8 hJ8 hw8 hb9 hz9
      go_wp2_with (refine St.store cmOk (c := c) rfl (.tmp 11) (.tmp 50) rfl rfl rfl hL9 ?_)
      constructor
      intro wa hsa
      have hIa := hsa.up HI9.out (Nat.ne_of_lt hl1)
      have hJa := hsa.up HJ9.out (Nat.ne_of_lt hl2)
      have hLa := hsa.i
      have hwa := hsa.bel hw9 (Nat.le_of_lt hl1)
      clear hsa hL9 hw9 hl1 hl2
      go_wp2_with (first | refine St.load cmOk rfl (.tmp 3) rfl rfl hIa ?_ | refine St.load cmOk rfl (.tmp 4) rfl rfl hJa ?_ | refine St.load cmOk rfl (.tmp 11) rfl rfl hLa ?_ | refine St.ne cmEqs (cmTyped c c) rfl (.tmp 55) (.tmp 56) _ rfl rfl rfl hcc ?_ | refine St.eq cmEqs (cmTyped c d) rfl (.tmp 71) (.tmp 72) _ rfl rfl rfl hcd ?_)
      clear hIa hJa hLa
      by_cases hxx : ∃ e, IsCmd s.data.toList e
      · obtain ⟨b, hb⟩ := hxx
        have hg2 := fun w hk => cget_ok s b w hk hb
        obtain ⟨hbr, hbs⟩ := isCmd_iff.1 hb
        have hp2 := fun w hk => cput_any b w hk
        rw [show putS b = s by rw [← hbs]; exact if_pos hbr, show putE b = 0 by unfold putE; rw [if_pos hbr.1, if_pos hbr]] at hp2
        have hss : (s.toList == s.toList) = true := by simp
        clear hb hbr hbs
        refine (hg2 _ (HK.out.up hwa)).mono ?_
        rintro e wb ⟨rfl, hbt⟩
        have hwb := bwstep hwa hbt
        clear hwa hbt hg2
        go_wp2_with (refine St.alloc cmOk rfl rfl ?_)
        constructor
        intro wc hLc hbc hzc
        have hwc := bwstep hwb hbc
        have hzb := hwb.size
        clear hwb hbc hzc
        go_wp2_with (refine St.store cmOk (c := b) rfl (.tmp 13) (.tmp 80) rfl rfl rfl hLc ?_)
        constructor
        intro wd hsd
        have hLd := hsd.i
        have hwd := hsd.bel hwc hzb
        clear hsd hLc hwc hzb
        go_wp2_with (refine St.load cmOk rfl (.tmp 13) rfl rfl hLd ?_)
        refine (hp2 _ (HK.out.up hwd)).mono ?_
        rintro e we ⟨rfl, hbe⟩
        have hwe := bwstep hwd hbe
        clear hLd hwd hbe hp2
        go_wp2_with fail
        go_ret
        exact ⟨rfl, hwe⟩
      · have hg2 := fun w hk => cget_no s w hk (fun c h => hxx ⟨c, h⟩)
        clear hxx
        refine (hg2 _ (HK.out.up hwa)).mono ?_
        rintro e wb ⟨rfl, hbt⟩
        have hwb := bwstep hwa hbt
        clear hwa hbt hg2
        go_wp2_with (refine St.alloc cmOk rfl rfl ?_)
        constructor
        intro wc hLc hbc hzc
        have hwc := bwstep hwb hbc
        have hzb := hwb.size
        clear hwb hbc hzc
        go_wp2_with (refine St.store cmOk (c := Cm.zero) rfl (.tmp 13) (.tmp 80) rfl rfl rfl hLc ?_)
        constructor
        intro wd hsd
        have hwd := hsd.bel hwc hzb
        clear hsd hLc hwc hzb
        go_wp2_with fail
        go_ret
        exact ⟨rfl, hwd⟩
  · have hne : ¬ putE c = 0 := fun h => hR (by
      have e := putE_zero (c := c)
      rw [h] at e
      exact of_decide_eq_true (show decide c.Right = true from e.symm))
    generalize putE c = pe at *
    generalize putS c = ps at *
    clear hR hI7 hJ7 hcc hcd
    go_wp2_with fail
    by_cases hxx : ∃ e, IsCmd s.data.toList e
    · obtain ⟨b, hb⟩ := hxx
      have hg2 := fun w hk => cget_ok s b w hk hb
      obtain ⟨hbr, hbs⟩ := isCmd_iff.1 hb
      have hp2 := fun w hk => cput_any b w hk
      rw [show putS b = s by rw [← hbs]; exact if_pos hbr, show putE b = 0 by unfold putE; rw [if_pos hbr.1, if_pos hbr]] at hp2
      have hss : (s.toList == s.toList) = true := by simp
      clear hb hbr hbs
      refine (hg2 _ (HK.out.up hw7)).mono ?_
      rintro e wb ⟨rfl, hbt⟩
      have hwb := bwstep hw7 hbt
      clear hw7 hbt hg2
      go_wp2_with (refine St.alloc cmOk rfl rfl ?_)
      constructor
      intro wc hLc hbc hzc
      have hwc := bwstep hwb hbc
      have hzb := hwb.size
      clear hwb hbc hzc
      go_wp2_with (refine St.store cmOk (c := b) rfl (.tmp 13) (.tmp 80) rfl rfl rfl hLc ?_)
      constructor
      intro wd hsd
      have hLd := hsd.i
      have hwd := hsd.bel hwc hzb
      clear hsd hLc hwc hzb
      go_wp2_with (refine St.load cmOk rfl (.tmp 13) rfl rfl hLd ?_)
      refine (hp2 _ (HK.out.up hwd)).mono ?_
      rintro e we ⟨rfl, hbe⟩
      have hwe := bwstep hwd hbe
      clear hLd hwd hbe hp2
      go_wp2_with fail
      go_ret
      exact ⟨rfl, hwe⟩
    · have hg2 := fun w hk => cget_no s w hk (fun c h => hxx ⟨c, h⟩)
      clear hxx
      refine (hg2 _ (HK.out.up hw7)).mono ?_
      rintro e wb ⟨rfl, hbt⟩
      have hwb := bwstep hw7 hbt
      clear hw7 hbt hg2
      go_wp2_with (refine St.alloc cmOk rfl rfl ?_)
      constructor
      intro wc hLc hbc hzc
      have hwc := bwstep hwb hbc
      have hzb := hwb.size
      clear hwb hbc hzc
      go_wp2_with (refine St.store cmOk (c := Cm.zero) rfl (.tmp 13) (.tmp 80) rfl rfl rfl hLc ?_)
      constructor
      intro wd hsd
      have hwd := hsd.bel hwc hzb
      clear hsd hLc hwc hzb
      go_wp2_with fail
      go_ret
      exact ⟨rfl, hwd⟩
theorem cmdBack_walk (c d : Cm) (s : ByteArray) (w : World) (_ : s.size ≤ 140737488351232) (hk : Kd w) : Calls Tryd.prog 5 #[c.v, d.v, .string s] w fun e w' => e = .returned (.bool true) ∧ Below w.heap.size w w' := by
  by_cases h : c.small ∧ d.small ∧ s.size ≤ 2000
  · exact cmdBack_short c d s w hk h.1 h.2.1 h.2.2
  · exact cmdBack_long c d s w hk h
end Go.Proofs.YtkpdadnmbjmfpaaDoor.Ce
