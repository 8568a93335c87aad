/- The walk of CmdGets. -/
import Derived.Test.YtkpdadnmbjmfpaaDoorCmW
import Derived.Test.YtkpdadnmbjmfpaaDoorCmH
namespace Go.Proofs.YtkpdadnmbjmfpaaDoor.Ce
open Go.RowKit

theorem isCmd_one {s : List UInt8} {c d : Cm} (h : IsCmd s c) (k : IsCmd s d) : c = d := by
  have hl := cmdB_len c
  have hs := h.2.2
  have hr : Rdg s [c.row, c.col, c.to_, c.value, c.expect] s.length := ⟨by rw [List.drop_length, List.append_nil, hs, cmd_drop]; rfl, Nat.le_refl _, h.1.texts⟩
  have h20 : 20 ≤ s.length := by rw [hs]; omega
  rw [((got_iff hr h20 c).1 h).1, ((got_iff hr h20 d).1 k).1]
set_option maxHeartbeats 4000000 in
set_option maxRecDepth 100000 in
theorem cmdGets_long (s : ByteArray) (w : World) (hk : Kd w) (hs : (2000 : Int) < s.size) : Calls Tryd.prog 4 #[.string s] w fun e w' => e = .returned (.bool true) ∧ Below w.heap.size w w' := by
  have ha := fun w hk => awake15_ok w hk
  have HK := Lib.hid hk
  go_enter Tryd.func4, Tryd.ntmps4
  go_wp2_with fail
  refine (ha _ hk).mono ?_
  rintro e w1 ⟨rfl, hw1⟩
  go_wp2_with fail
  refine (ha _ (HK.out.up hw1)).mono ?_
  rintro e w2 ⟨rfl, hb2⟩
  have hw2 := bwstep hw1 hb2
  go_wp2_with fail
  go_ret
  exact ⟨rfl, hw2⟩
set_option maxHeartbeats 8000000 in
set_option maxRecDepth 100000 in
theorem cmdGets_short (s : ByteArray) (w : World) (hk : Kd w) (hs : s.size ≤ 2000) : Calls Tryd.prog 4 #[.string s] w fun e w' => e = .returned (.bool true) ∧ Below w.heap.size w w' := by
  have ha := fun w hk => awake15_ok w hk
  have hr := fun w => rget_any s w (by omega)
  have HK := Lib.hid hk
  have hs2 : ¬ (2000 : Int) < s.size := by omega
  clear hs
  by_cases hx : ∃ b, IsCmd s.data.toList b
  · obtain ⟨b, hb⟩ := hx
    have hg := fun w hk => cget_ok s b w hk hb
    have HB := Lib.hid hb
    have hbb : St.allAlike cmSp b.cs b.cs = true := by rw [cmAlike, decide_eq_true rfl]
    clear hb
    go_enter Tryd.func4, Tryd.ntmps4
    go_wp2_with fail
    refine (ha _ hk).mono ?_
    rintro e w1 ⟨rfl, hw1⟩
    clear hk ha
    go_wp2_with fail
    refine (hg _ (HK.out.up hw1)).mono ?_
    rintro e w2 ⟨rfl, hb2⟩
    have hw2 := bwstep hw1 hb2
    clear hw1 hb2 hg
    go_wp2_with (refine St.alloc cmOk rfl rfl ?_)
    constructor
    intro w3 hI3 hb3 hz3
    have hw3 := bwstep hw2 hb3
    have hs3 := hw2.size
    clear hw2 hb3 hz3
    go_wp2_with (refine St.store cmOk (c := b) rfl (.tmp 3) (.tmp 18) rfl rfl rfl hI3 ?_)
    constructor
    intro w4 hs4
    have hI4 := hs4.i
    have hw4 := hs4.bel hw3 hs3
    clear hs4 hI3 hw3 hs3
    go_wp2_with fail
    refine (hr _).mono ?_
    rintro e w5 ⟨⟨c0, ok, rfl, h1, h2⟩, hb5⟩
    have hI5 := hI4.up hb5
    have hw5 := bwstep hw4 hb5
    clear hI4 hw4 hb5 hr
    cases ok
    · exact absurd HB.out (h2 rfl b)
    · obtain rfl := isCmd_one HB.out (h1 rfl)
      clear h1 h2
      go_wp2_with (refine St.alloc cmOk rfl rfl ?_)
      constructor
      intro w6 hJ6 hb6 hz6
      have hI6 := hI5.up hb6
      have hw6 := bwstep hw5 hb6
      have hl5 := hI5.lt
      have hs5 := hw5.size
      clear hI5 hw5 hb6 hz6
      go_wp2_with (refine St.store cmOk (c := b) rfl (.tmp 5) (.tmp 23) rfl rfl rfl hJ6 ?_)
      constructor
      intro w7 hs7
      have hJ7 := hs7.i
      have hI7 := hs7.up hI6 (Nat.ne_of_lt hl5)
      have hw7 := hs7.bel hw6 hs5
      clear hs7 hJ6 hI6 hw6 hl5 hs5
      go_wp2_with (first | refine St.load cmOk rfl (.tmp 3) rfl rfl hI7 ?_ | refine St.load cmOk rfl (.tmp 5) rfl rfl hJ7 ?_ | refine St.eq cmEqs (cmTyped b b) rfl (.tmp 37) (.tmp 38) _ rfl rfl rfl hbb ?_)
      go_ret
      exact ⟨rfl, hw7⟩
  · have hn : ∀ c, ¬ IsCmd s.data.toList c := fun c h => hx ⟨c, h⟩
    have hg := fun w hk => cget_no s w hk hn
    have HN := Lib.hid hn
    have hzz : St.allAlike cmSp Cm.zero.cs Cm.zero.cs = true := by rw [cmAlike, decide_eq_true rfl]
    clear hn hx
    go_enter Tryd.func4, Tryd.ntmps4
    go_wp2_with fail
    refine (ha _ hk).mono ?_
    rintro e w1 ⟨rfl, hw1⟩
    clear hk ha
    go_wp2_with fail
    refine (hg _ (HK.out.up hw1)).mono ?_
    rintro e w2 ⟨rfl, hb2⟩
    have hw2 := bwstep hw1 hb2
    clear hw1 hb2 hg
    go_wp2_with (refine St.alloc cmOk rfl rfl ?_)
    constructor
    intro w3 hI3 hb3 hz3
    have hw3 := bwstep hw2 hb3
    have hs3 := hw2.size
    clear hw2 hb3 hz3
    go_wp2_with (refine St.store cmOk (c := Cm.zero) rfl (.tmp 3) (.tmp 18) rfl rfl rfl hI3 ?_)
    constructor
    intro w4 hs4
    have hI4 := hs4.i
    have hw4 := hs4.bel hw3 hs3
    clear hs4 hI3 hw3 hs3
    go_wp2_with fail
    refine (hr _).mono ?_
    rintro e w5 ⟨⟨c0, ok, rfl, h1, h2⟩, hb5⟩
    have hI5 := hI4.up hb5
    have hw5 := bwstep hw4 hb5
    clear hI4 hw4 hb5 hr
    cases ok
    · clear h1 h2
      go_wp2_with (refine St.alloc cmOk rfl rfl ?_)
      constructor
      intro w6 hJ6 hb6 hz6
      have hI6 := hI5.up hb6
      have hw6 := bwstep hw5 hb6
      have hl5 := hI5.lt
      have hs5 := hw5.size
      clear hI5 hw5 hb6 hz6
      go_wp2_with (refine St.store cmOk (c := c0) rfl (.tmp 5) (.tmp 23) rfl rfl rfl hJ6 ?_)
      constructor
      intro w7 hs7
      have hI7 := hs7.up hI6 (Nat.ne_of_lt hl5)
      have hw7 := hs7.bel hw6 hs5
      clear hs7 hJ6 hI6 hw6 hl5 hs5
      go_wp2_with (first | refine St.load cmOk rfl (.tmp 3) rfl rfl hI7 ?_ | refine St.eq cmEqs (cmTyped Cm.zero Cm.zero) rfl (.tmp 30) (.tmp 31) _ rfl rfl rfl hzz ?_)
      go_ret
      exact ⟨rfl, hw7⟩
    · exact absurd (h1 rfl) (HN.out c0)
theorem cmdGets_walk (s : ByteArray) (w : World) (_ : s.size ≤ 140737488351232) (hk : Kd w) : Calls Tryd.prog 4 #[.string s] w fun e w' => e = .returned (.bool true) ∧ Below w.heap.size w w' := by
  by_cases h : s.size ≤ 2000
  · exact cmdGets_short s w hk h
  · exact cmdGets_long s w hk (by omega)
end Go.Proofs.YtkpdadnmbjmfpaaDoor.Ce
