/- The contract of package cmd's Get. -/
import Derived.Test.YtkpdadnmbjmfpaaDoorCmL
namespace Go.Proofs.YtkpdadnmbjmfpaaDoor.Ce
open Go.RowKit

theorem cmdS_list (c : Cm) : (cmdS c).data.toList = cmdB c := by simp [cmdS]
theorem isCmd_iff {s : ByteArray} {c : Cm} : IsCmd s.data.toList c ↔ c.Right ∧ cmdS c = s :=
  ⟨fun ⟨a, b, e⟩ => ⟨⟨a, b⟩, ba_ext (by rw [cmdS_list, e])⟩, fun ⟨a, e⟩ => ⟨a.1, a.2, by rw [← e, cmdS_list]⟩⟩
set_option maxHeartbeats 4000000 in
set_option maxRecDepth 100000 in
theorem cget_ok (s : ByteArray) (c : Cm) (w : World) (hk : Kd w) (hc : IsCmd s.data.toList c) : Calls Tryd.prog 15 #[.string s] w fun e w' => e = .returned (.tuple #[c.v, .int .i64 0]) ∧ Below w.heap.size w w' := by
  have hsz : s.data.toList.length = s.size := rfl
  have h512 : ¬ (512 : Int) < (s.size : Int) := by
    have := hc.2.1
    rw [← hc.2.2, hsz] at this
    omega
  have hrd := fun w => read_any s w (by omega)
  have HC := Lib.hid hc
  obtain ⟨hr, hcs⟩ := isCmd_iff.1 hc
  have hp := fun w hk => cput_any c w hk
  rw [show putS c = s by rw [← hcs]; exact if_pos hr, show putE c = 0 by unfold putE; rw [if_pos hr.1, if_pos hr]] at hp
  have hss : (s.toList == s.toList) = true := by simp
  have HK := Lib.hid hk
  clear hsz hc hr hcs hk
  go_enter Tryd.func15, Tryd.ntmps15
  go_wp2_with (refine St.alloc cmOk rfl rfl ?_)
  constructor
  intro w1 hI1 hb1 hz1
  have HI1 := Lib.hid hI1
  clear hI1 hz1
  go_wp2_with fail
  refine (hrd _).mono ?_
  rintro e w2 ⟨⟨c0, rfl, hc0⟩, hb2⟩
  obtain rfl := hc0 c HC.out
  have HI2 := Lib.hid (HI1.out.up hb2)
  have hw2 := bwstep hb1 hb2
  clear hc0 hb1 hb2 hrd
  go_wp2_with (refine St.alloc cmOk rfl rfl ?_)
  constructor
  intro w3 hI3 hb3 hz3
  have HI3 := Lib.hid (HI2.out.up hb3)
  have hw3 := bwstep hw2 hb3
  clear hw2 hb3 hz3
  go_wp2_with (refine St.store cmOk (c := c0) rfl (.tmp 4) (.tmp 12) rfl rfl rfl hI3 ?_)
  constructor
  intro w4 hs4
  have hw4 := hs4.bel hw3 (Nat.le_of_lt HI2.out.lt)
  have HI4 := Lib.hid (hs4.up HI3.out (Nat.ne_of_lt HI2.out.lt))
  have hJ4 := hs4.i
  clear hs4 hI3 hw3
  go_wp2_with (refine St.load cmOk rfl (.tmp 4) rfl rfl hJ4 ?_)
  refine (hp _ (HK.out.up hw4)).mono ?_
  rintro e w5 ⟨rfl, hb5⟩
  have hI5 := HI4.out.up hb5
  have hJ5 := hJ4.up hb5
  have hw5 := bwstep hw4 hb5
  clear hJ4 hw4 hb5 hp
  go_wp2_with (first | refine St.load cmOk rfl (.tmp 4) rfl rfl hJ5 ?_ | refine St.store cmOk (c := c0) rfl (.tmp 2) (.tmp 26) rfl rfl rfl hI5 ?_)
  constructor
  intro w6 hs6
  have HS6 := Lib.hid hs6
  have HB := Lib.hid hw5
  clear hs6 hI5 hJ5 hw5
  go_wp2_with fail
  refine bodyPost_ret (St.res2 cmOk Tryd.results15 rfl HS6.out.i) rfl ⟨rfl, HS6.out.bel HB.out (Nat.le_refl _)⟩
theorem putS_ne {s : ByteArray} {c : Cm} (h : ¬ IsCmd s.data.toList c) : putE c = 0 → putS c ≠ s := by
  intro h0 h1
  have hd := putE_zero (c := c)
  rw [h0] at hd
  have hr : c.Right := of_decide_eq_true (show decide c.Right = true from hd.symm)
  exact h (isCmd_iff.2 ⟨hr, by rw [← h1]; exact (if_pos hr).symm⟩)
set_option maxHeartbeats 4000000 in
set_option maxRecDepth 100000 in
theorem cget_no (s : ByteArray) (w : World) (hk : Kd w) (hc : ∀ c, ¬ IsCmd s.data.toList c) : Calls Tryd.prog 15 #[.string s] w fun e w' => e = .returned (.tuple #[Cm.zero.v, .int .i64 2]) ∧ Below w.heap.size w w' := by
  have HK := Lib.hid hk
  have HC := Lib.hid hc
  clear hk hc
  by_cases h512 : (512 : Int) < (s.size : Int)
  · go_enter Tryd.func15, Tryd.ntmps15
    go_wp2_with (refine St.alloc cmOk rfl rfl ?_)
    constructor
    intro w1 hI1 hb1 hz1
    clear hz1
    go_wp2_with (refine St.store cmOk (c := Cm.zero) rfl (.tmp 2) (.tmp 10) rfl rfl rfl hI1 ?_)
    constructor
    intro w6 hs6
    have HS6 := Lib.hid hs6
    have HB := Lib.hid hb1
    clear hs6 hI1 hb1
    go_wp2_with fail
    refine bodyPost_ret (St.res2 cmOk Tryd.results15 rfl HS6.out.i) rfl ⟨rfl, HS6.out.bel HB.out (Nat.le_refl _)⟩
  · have hrd := fun w => read_any s w (by omega)
    go_enter Tryd.func15, Tryd.ntmps15
    go_wp2_with (refine St.alloc cmOk rfl rfl ?_)
    constructor
    intro w1 hI1 hb1 hz1
    have HI1 := Lib.hid hI1
    clear hI1 hz1
    go_wp2_with fail
    refine (hrd _).mono ?_
    rintro e w2 ⟨⟨c0, rfl, -⟩, hb2⟩
    have hp := fun w hk => cput_any c0 w hk
    have HNE := Lib.hid (putS_ne (HC.out c0))
    have HI2 := Lib.hid (HI1.out.up hb2)
    have hw2 := bwstep hb1 hb2
    clear hb1 hb2 hrd
    go_wp2_with (refine St.alloc cmOk rfl rfl ?_)
    constructor
    intro w3 hI3 hb3 hz3
    have HI3 := Lib.hid (HI2.out.up hb3)
    have hw3 := bwstep hw2 hb3
    clear hw2 hb3 hz3
    go_wp2_with (refine St.store cmOk (c := c0) rfl (.tmp 4) (.tmp 12) rfl rfl rfl hI3 ?_)
    constructor
    intro w4 hs4
    have hw4 := hs4.bel hw3 (Nat.le_of_lt HI2.out.lt)
    have HI4 := Lib.hid (hs4.up HI3.out (Nat.ne_of_lt HI2.out.lt))
    have hJ4 := hs4.i
    clear hs4 hI3 hw3
    go_wp2_with (refine St.load cmOk rfl (.tmp 4) rfl rfl hJ4 ?_)
    refine (hp _ (HK.out.up hw4)).mono ?_
    rintro e w5 ⟨rfl, hb5⟩
    have hI5 := HI4.out.up hb5
    have hw5 := bwstep hw4 hb5
    clear hJ4 hw4 hb5 hp
    generalize putE c0 = pe at *
    generalize putS c0 = ps at *
    by_cases h0 : pe = 0
    · have hne := str_ne (HNE.out h0)
      subst h0
      go_wp2_with (refine St.store cmOk (c := Cm.zero) rfl (.tmp 2) (.tmp 25) rfl rfl rfl hI5 ?_)
      constructor
      intro w6 hs6
      have HS6 := Lib.hid hs6
      have HB := Lib.hid hw5
      clear hs6 hI5 hw5
      go_wp2_with fail
      refine bodyPost_ret (St.res2 cmOk Tryd.results15 rfl HS6.out.i) rfl ⟨rfl, HS6.out.bel HB.out (Nat.le_refl _)⟩
    · go_wp2_with (refine St.store cmOk (c := Cm.zero) rfl (.tmp 2) (.tmp 25) rfl rfl rfl hI5 ?_)
      constructor
      intro w6 hs6
      have HS6 := Lib.hid hs6
      have HB := Lib.hid hw5
      clear hs6 hI5 hw5
      go_wp2_with fail
      refine bodyPost_ret (St.res2 cmOk Tryd.results15 rfl HS6.out.i) rfl ⟨rfl, HS6.out.bel HB.out (Nat.le_refl _)⟩
end Go.Proofs.YtkpdadnmbjmfpaaDoor.Ce
