/- Layer 17's law SlotBack. -/
import Derived.Test.YtofhnomljfbckaaVoI
import Derived.Deep.RegionHeld3
import Derived.BigQuiet
set_option maxHeartbeats 8000000
set_option maxRecDepth 100000
namespace Go.Proofs.Ytofhnomljfbckaa.Ce
open Go.RowKit
theorem slotBack_gen (I : SlotI) (c : Vt) (b : Int) (x : Value) (s : List UInt8) (w : World) (hx : Rd w w.heap.size x (s.map bv)) : Calls Try.prog 5 #[c.v, .int .i64 b, x] w fun e w' => e = .returned (.bool true) ∧ Below w.heap.size w w' := by
 obtain ⟨A, cp, rfl, hc, hm⟩ := hx.shapeM
 have hzz : (!St.allAlike vtSp Vt.zero.cs Vt.zero.cs) = false := by rw [vtSelf]; rfl
 have hcc : (!St.allAlike vtSp c.cs c.cs) = false := by rw [vtSelf]; rfl
 have HX : Hid (∀ z, Below w.heap.size w z → Rd z z.heap.size (.slice A s.length cp) (s.map bv)) := Lib.hid fun z hz => hx.up hz
 clear hx
 go_enter Try.func5, Try.ntmps5
 go_wp2_with (refine St.box vtD rfl (.tmp 0) c rfl rfl ?_)
 constructor
 intro w1 hI1 hb1 hz1
 clear hz1
 go_wp2_with fail
 refine (awake17_ok I _).mono ?_
 rintro e w2 ⟨rfl, hb2⟩
 have hI2 := hI1.up hb2
 have hw2 := bwstep hb1 hb2
 have c4 := (VtAt.of hI2).c4
 clear hI1 hb1 hb2
 by_cases hlen : (1000 : Int) < (c.bytes.size : Int)
 ·go_wp2_with fail
  refine (awake17_ok I _).mono ?_
  rintro e w3 ⟨rfl, hb3⟩
  have hw3 := bwstep hw2 hb3
  clear hw2 hb3 hI2 c4
  go_wp2_with fail
  go_ret
  exact ⟨rfl, hw3⟩
 by_cases hlen2 : (2000 : Int) < (s.length : Int)
 ·go_wp2_with fail
  refine (awake17_ok I _).mono ?_
  rintro e w3 ⟨rfl, hb3⟩
  have hw3 := bwstep hw2 hb3
  clear hw2 hb3 hI2 c4
  go_wp2_with fail
  go_ret
  exact ⟨rfl, hw3⟩
 by_cases hR : c.Right
 ·go_wp2_with (refine St.load vtOk rfl (.tmp 3) rfl rfl hI2 ?_)
  refine (I.put_yes c _ hR).mono ?_
  rintro e w3 ⟨p3, rfl, ho3, hb3⟩
  have hr3 := ho3.rd
  have HI3 := Lib.hid (hI2.up hb3)
  have hw3 := bwstep hw2 hb3
  clear hI2 hw2 hb3 ho3 c4 hlen
  go_wp2_with fail
  refine (I.get_vote c _ _ hR hr3).mono ?_
  rintro e w4 ⟨rfl, hb4⟩
  have HI4 := Lib.hid (HI3.out.up hb4)
  have hw4 := bwstep hw3 hb4
  clear hw3 hb4 hr3 HI3 hR
  go_wp2_with (refine St.alloc vtOk rfl rfl ?_)
  constructor
  intro w5 hJ5 hb5 hz5
  have HI5 := Lib.hid (HI4.out.up hb5)
  have hw5 := bwstep hw4 hb5
  have hle := hw4.size
  have hlt := HI4.out.lt
  clear hz5 hw4 hb5 HI4
  go_wp2_with (refine St.store vtOk (c := c) rfl (.tmp 10) (.tmp 47) rfl rfl rfl hJ5 ?_)
  constructor
  intro w6 hs6
  have hJ6 := hs6.i
  have hI6 := hs6.up HI5.out (Nat.ne_of_lt hlt)
  have hw6 := hs6.bel hw5 hle
  clear hs6 hJ5 hw5 hle HI5 hlt
  go_wp2_with (first | refine St.load vtOk rfl (.tmp 10) rfl rfl hJ6 ?_ | refine St.load vtOk rfl (.tmp 3) rfl rfl hI6 ?_ | refine St.ne vtEqs (vtTyped c c) rfl (.tmp 56) (.tmp 57) _ rfl rfl rfl hcc ?_)
  clear hI6 hJ6 hcc
  by_cases hP : PrOk b
  ·refine (I.prom_yes b _ hP).mono ?_
   rintro e w7 ⟨p, rfl, hp, hb7⟩
   have hrp := hp.rd
   have hw7 := bwstep hw6 hb7
   clear hw6 hb7 hp
   go_wp2_with fail
   refine (I.get_prom b _ _ hP hrp).mono ?_
   rintro e w8 ⟨rfl, hb8⟩
   have hw8 := bwstep hw7 hb8
   clear hw7 hb8 hrp hP
   go_wp2_with (refine St.alloc vtOk rfl rfl ?_)
   constructor
   intro w9 hI9 hb9 hz9
   have hw9 := bwstep hw8 hb9
   have hle := hw8.size
   clear hz9 hw8 hb9
   go_wp2_with (refine St.store vtOk (c := Vt.zero) rfl (.tmp 15) (.tmp 71) rfl rfl rfl hI9 ?_)
   constructor
   intro w10 hs10
   have hI10 := hs10.i
   have hw10 := hs10.bel hw9 hle
   clear hs10 hI9 hw9 hle
   go_wp2_with (first | refine St.load vtOk rfl (.tmp 15) rfl rfl hI10 ?_ | refine St.ne vtEqs (vtTyped Vt.zero Vt.zero) rfl (.tmp 81) (.tmp 82) _ rfl rfl rfl hzz ?_)
   clear hI10
   refine (I.get2 _ _ _ (HX.out _ hw10) (by omega)).mono ?_
   rintro e w11 ⟨⟨n, d, k, E, rfl, hs, hk⟩, hb11⟩
   have HS := Lib.hid hs
   have HK := Lib.hid hk
   have hw11 := bwstep hw10 hb11
   clear hw10 hb11 hs hk
   go_wp2_with (refine St.alloc vtOk rfl rfl ?_)
   constructor
   intro w12 hI12 hb12 hz12
   have hw12 := bwstep hw11 hb12
   have hle := hw11.size
   clear hz12 hw11 hb12
   go_wp2_with (refine St.store vtOk (c := d) rfl (.tmp 18) (.tmp 89) rfl rfl rfl hI12 ?_)
   constructor
   intro w13 hs13
   have hI13 := hs13.i
   have hw13 := hs13.bel hw12 hle
   clear hs13 hI12 hw12 hle
   rcases HK.out with ⟨rfl, rfl⟩ | ⟨rfl, rfl, rfl, rfl⟩
   ·have HS' := HS.out
    clear HK HS
    cases HS' with
    | prom _ h =>
     go_wp2_with (refine St.load vtOk rfl (.tmp 18) rfl rfl hI13 ?_)
     refine (I.put_not Vt.zero _ zero_not).mono ?_
     rintro e w14 ⟨A4, c4, rfl, hb14⟩
     have hw14 := bwstep hw13 hb14
     have hpos : (0 : Int) < n := by have := h.1.1; omega
     clear hw13 hb14 hI13
     go_wp2_with fail
     refine (I.prom_yes n _ h.1).mono ?_
     rintro e w15 ⟨y, rfl, hy, hb15⟩
     have hw15 := bwstep hw14 hb15
     have hry := hy.rd
     have hss : sameB (prB n) s = true := by rw [← h.2]; exact sameB_self _
     clear hw14 hb15 hy h
     go_wp2_with fail
     refine (rsame_bel _ _ _ _ _ _ _ hry (HX.out _ hw15)).mono ?_
     rintro e w16 ⟨rfl, hb16⟩
     have hw16 := bwstep hw15 hb16
     clear hw15 hb16 hry HX
     rw [hss]
     go_wp2_with fail
     go_ret
     exact ⟨rfl, hw16⟩
    | vote _ h =>
     go_wp2_with (refine St.load vtOk rfl (.tmp 18) rfl rfl hI13 ?_)
     refine (I.put_yes d _ h.1).mono ?_
     rintro e w14 ⟨y, rfl, hy, hb14⟩
     have hw14 := bwstep hw13 hb14
     have hry := hy.rd
     have hss : sameB (vtB d) s = true := by rw [← h.2]; exact sameB_self _
     clear hw13 hb14 hI13 hy h
     go_wp2_with fail
     refine (rsame_bel _ _ _ _ _ _ _ hry (HX.out _ hw14)).mono ?_
     rintro e w15 ⟨rfl, hb15⟩
     have hw15 := bwstep hw14 hb15
     clear hw14 hb15 hry HX
     rw [hss]
     go_wp2_with fail
     go_ret
     exact ⟨rfl, hw15⟩
   ·clear HK HS HX
    go_wp2_with fail
    go_ret
    exact ⟨rfl, hw13⟩
  ·refine (I.prom_not b _ hP).mono ?_
   rintro e w7 ⟨Ap, cq, rfl, hb7⟩
   have hw7 := bwstep hw6 hb7
   clear hw6 hb7 hP
   go_wp2_with fail
   refine (I.get2 _ _ _ (HX.out _ hw7) (by omega)).mono ?_
   rintro e w8 ⟨⟨n, d, k, E, rfl, hs, hk⟩, hb8⟩
   have HS := Lib.hid hs
   have HK := Lib.hid hk
   have hw8 := bwstep hw7 hb8
   clear hw7 hb8 hs hk
   go_wp2_with (refine St.alloc vtOk rfl rfl ?_)
   constructor
   intro w9 hI9 hb9 hz9
   have hw9 := bwstep hw8 hb9
   have hle := hw8.size
   clear hz9 hw8 hb9
   go_wp2_with (refine St.store vtOk (c := d) rfl (.tmp 18) (.tmp 89) rfl rfl rfl hI9 ?_)
   constructor
   intro w10 hs10
   have hI10 := hs10.i
   have hw10 := hs10.bel hw9 hle
   clear hs10 hI9 hw9 hle
   rcases HK.out with ⟨rfl, rfl⟩ | ⟨rfl, rfl, rfl, rfl⟩
   ·have HS' := HS.out
    clear HK HS
    cases HS' with
    | prom _ h =>
     go_wp2_with (refine St.load vtOk rfl (.tmp 18) rfl rfl hI10 ?_)
     refine (I.put_not Vt.zero _ zero_not).mono ?_
     rintro e w11 ⟨A4, c4, rfl, hb11⟩
     have hw11 := bwstep hw10 hb11
     have hpos : (0 : Int) < n := by have := h.1.1; omega
     clear hw10 hb11 hI10
     go_wp2_with fail
     refine (I.prom_yes n _ h.1).mono ?_
     rintro e w12 ⟨y, rfl, hy, hb12⟩
     have hw12 := bwstep hw11 hb12
     have hry := hy.rd
     have hss : sameB (prB n) s = true := by rw [← h.2]; exact sameB_self _
     clear hw11 hb12 hy h
     go_wp2_with fail
     refine (rsame_bel _ _ _ _ _ _ _ hry (HX.out _ hw12)).mono ?_
     rintro e w13 ⟨rfl, hb13⟩
     have hw13 := bwstep hw12 hb13
     clear hw12 hb13 hry HX
     rw [hss]
     go_wp2_with fail
     go_ret
     exact ⟨rfl, hw13⟩
    | vote _ h =>
     go_wp2_with (refine St.load vtOk rfl (.tmp 18) rfl rfl hI10 ?_)
     refine (I.put_yes d _ h.1).mono ?_
     rintro e w11 ⟨y, rfl, hy, hb11⟩
     have hw11 := bwstep hw10 hb11
     have hry := hy.rd
     have hss : sameB (vtB d) s = true := by rw [← h.2]; exact sameB_self _
     clear hw10 hb11 hI10 hy h
     go_wp2_with fail
     refine (rsame_bel _ _ _ _ _ _ _ hry (HX.out _ hw11)).mono ?_
     rintro e w12 ⟨rfl, hb12⟩
     have hw12 := bwstep hw11 hb12
     clear hw11 hb12 hry HX
     rw [hss]
     go_wp2_with fail
     go_ret
     exact ⟨rfl, hw12⟩
   ·clear HK HS HX
    go_wp2_with fail
    go_ret
    exact ⟨rfl, hw10⟩
 ·go_wp2_with (refine St.load vtOk rfl (.tmp 3) rfl rfl hI2 ?_)
  refine (I.put_not c _ hR).mono ?_
  rintro e w3 ⟨A3, c3, rfl, hb3⟩
  have hw3 := bwstep hw2 hb3
  clear hI2 hw2 hb3 c4 hlen hR hcc
  go_wp2_with fail
  by_cases hP : PrOk b
  ·refine (I.prom_yes b _ hP).mono ?_
   rintro e w4 ⟨p, rfl, hp, hb4⟩
   have hrp := hp.rd
   have hw4 := bwstep hw3 hb4
   clear hw3 hb4 hp
   go_wp2_with fail
   refine (I.get_prom b _ _ hP hrp).mono ?_
   rintro e w5 ⟨rfl, hb5⟩
   have hw5 := bwstep hw4 hb5
   clear hw4 hb5 hrp hP
   go_wp2_with (refine St.alloc vtOk rfl rfl ?_)
   constructor
   intro w6 hI6 hb6 hz6
   have hw6 := bwstep hw5 hb6
   have hle := hw5.size
   clear hz6 hw5 hb6
   go_wp2_with (refine St.store vtOk (c := Vt.zero) rfl (.tmp 15) (.tmp 71) rfl rfl rfl hI6 ?_)
   constructor
   intro w7 hs7
   have hI7 := hs7.i
   have hw7 := hs7.bel hw6 hle
   clear hs7 hI6 hw6 hle
   go_wp2_with (first | refine St.load vtOk rfl (.tmp 15) rfl rfl hI7 ?_ | refine St.ne vtEqs (vtTyped Vt.zero Vt.zero) rfl (.tmp 81) (.tmp 82) _ rfl rfl rfl hzz ?_)
   clear hI7
   refine (I.get2 _ _ _ (HX.out _ hw7) (by omega)).mono ?_
   rintro e w8 ⟨⟨n, d, k, E, rfl, hs, hk⟩, hb8⟩
   have HS := Lib.hid hs
   have HK := Lib.hid hk
   have hw8 := bwstep hw7 hb8
   clear hw7 hb8 hs hk
   go_wp2_with (refine St.alloc vtOk rfl rfl ?_)
   constructor
   intro w9 hI9 hb9 hz9
   have hw9 := bwstep hw8 hb9
   have hle := hw8.size
   clear hz9 hw8 hb9
   go_wp2_with (refine St.store vtOk (c := d) rfl (.tmp 18) (.tmp 89) rfl rfl rfl hI9 ?_)
   constructor
   intro w10 hs10
   have hI10 := hs10.i
   have hw10 := hs10.bel hw9 hle
   clear hs10 hI9 hw9 hle
   rcases HK.out with ⟨rfl, rfl⟩ | ⟨rfl, rfl, rfl, rfl⟩
   ·have HS' := HS.out
    clear HK HS
    cases HS' with
    | prom _ h =>
     go_wp2_with (refine St.load vtOk rfl (.tmp 18) rfl rfl hI10 ?_)
     refine (I.put_not Vt.zero _ zero_not).mono ?_
     rintro e w11 ⟨A4, c4, rfl, hb11⟩
     have hw11 := bwstep hw10 hb11
     have hpos : (0 : Int) < n := by have := h.1.1; omega
     clear hw10 hb11 hI10
     go_wp2_with fail
     refine (I.prom_yes n _ h.1).mono ?_
     rintro e w12 ⟨y, rfl, hy, hb12⟩
     have hw12 := bwstep hw11 hb12
     have hry := hy.rd
     have hss : sameB (prB n) s = true := by rw [← h.2]; exact sameB_self _
     clear hw11 hb12 hy h
     go_wp2_with fail
     refine (rsame_bel _ _ _ _ _ _ _ hry (HX.out _ hw12)).mono ?_
     rintro e w13 ⟨rfl, hb13⟩
     have hw13 := bwstep hw12 hb13
     clear hw12 hb13 hry HX
     rw [hss]
     go_wp2_with fail
     go_ret
     exact ⟨rfl, hw13⟩
    | vote _ h =>
     go_wp2_with (refine St.load vtOk rfl (.tmp 18) rfl rfl hI10 ?_)
     refine (I.put_yes d _ h.1).mono ?_
     rintro e w11 ⟨y, rfl, hy, hb11⟩
     have hw11 := bwstep hw10 hb11
     have hry := hy.rd
     have hss : sameB (vtB d) s = true := by rw [← h.2]; exact sameB_self _
     clear hw10 hb11 hI10 hy h
     go_wp2_with fail
     refine (rsame_bel _ _ _ _ _ _ _ hry (HX.out _ hw11)).mono ?_
     rintro e w12 ⟨rfl, hb12⟩
     have hw12 := bwstep hw11 hb12
     clear hw11 hb12 hry HX
     rw [hss]
     go_wp2_with fail
     go_ret
     exact ⟨rfl, hw12⟩
   ·clear HK HS HX
    go_wp2_with fail
    go_ret
    exact ⟨rfl, hw10⟩
  ·refine (I.prom_not b _ hP).mono ?_
   rintro e w4 ⟨Ap, cq, rfl, hb4⟩
   have hw4 := bwstep hw3 hb4
   clear hw3 hb4 hP
   go_wp2_with fail
   refine (I.get2 _ _ _ (HX.out _ hw4) (by omega)).mono ?_
   rintro e w5 ⟨⟨n, d, k, E, rfl, hs, hk⟩, hb5⟩
   have HS := Lib.hid hs
   have HK := Lib.hid hk
   have hw5 := bwstep hw4 hb5
   clear hw4 hb5 hs hk
   go_wp2_with (refine St.alloc vtOk rfl rfl ?_)
   constructor
   intro w6 hI6 hb6 hz6
   have hw6 := bwstep hw5 hb6
   have hle := hw5.size
   clear hz6 hw5 hb6
   go_wp2_with (refine St.store vtOk (c := d) rfl (.tmp 18) (.tmp 89) rfl rfl rfl hI6 ?_)
   constructor
   intro w7 hs7
   have hI7 := hs7.i
   have hw7 := hs7.bel hw6 hle
   clear hs7 hI6 hw6 hle
   rcases HK.out with ⟨rfl, rfl⟩ | ⟨rfl, rfl, rfl, rfl⟩
   ·have HS' := HS.out
    clear HK HS
    cases HS' with
    | prom _ h =>
     go_wp2_with (refine St.load vtOk rfl (.tmp 18) rfl rfl hI7 ?_)
     refine (I.put_not Vt.zero _ zero_not).mono ?_
     rintro e w8 ⟨A4, c4, rfl, hb8⟩
     have hw8 := bwstep hw7 hb8
     have hpos : (0 : Int) < n := by have := h.1.1; omega
     clear hw7 hb8 hI7
     go_wp2_with fail
     refine (I.prom_yes n _ h.1).mono ?_
     rintro e w9 ⟨y, rfl, hy, hb9⟩
     have hw9 := bwstep hw8 hb9
     have hry := hy.rd
     have hss : sameB (prB n) s = true := by rw [← h.2]; exact sameB_self _
     clear hw8 hb9 hy h
     go_wp2_with fail
     refine (rsame_bel _ _ _ _ _ _ _ hry (HX.out _ hw9)).mono ?_
     rintro e w10 ⟨rfl, hb10⟩
     have hw10 := bwstep hw9 hb10
     clear hw9 hb10 hry HX
     rw [hss]
     go_wp2_with fail
     go_ret
     exact ⟨rfl, hw10⟩
    | vote _ h =>
     go_wp2_with (refine St.load vtOk rfl (.tmp 18) rfl rfl hI7 ?_)
     refine (I.put_yes d _ h.1).mono ?_
     rintro e w8 ⟨y, rfl, hy, hb8⟩
     have hw8 := bwstep hw7 hb8
     have hry := hy.rd
     have hss : sameB (vtB d) s = true := by rw [← h.2]; exact sameB_self _
     clear hw7 hb8 hI7 hy h
     go_wp2_with fail
     refine (rsame_bel _ _ _ _ _ _ _ hry (HX.out _ hw8)).mono ?_
     rintro e w9 ⟨rfl, hb9⟩
     have hw9 := bwstep hw8 hb9
     clear hw8 hb9 hry HX
     rw [hss]
     go_wp2_with fail
     go_ret
     exact ⟨rfl, hw9⟩
   ·clear HK HS HX
    go_wp2_with fail
    go_ret
    exact ⟨rfl, hw7⟩
end Go.Proofs.Ytofhnomljfbckaa.Ce
