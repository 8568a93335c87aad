/- Layer 17's law SlotGets. -/
import Derived.Test.YtofhnomljfbckaaVoI
import Derived.Deep.RegionHeld3
import Derived.BigQuiet
set_option maxHeartbeats 8000000
set_option maxRecDepth 100000
namespace Go.Proofs.Ytofhnomljfbckaa.Ce
open Go.RowKit
theorem slotGets_gen (I : SlotI) (x : Value) (s : List UInt8) (w : World) (hx : Rd w w.heap.size x (s.map bv)) : Calls Try.prog 4 #[x] w fun e w' => e = .returned (.bool true) ∧ Below w.heap.size w w' := by
 obtain ⟨A, cp, rfl, hc, hm⟩ := hx.shapeM
 have hzz := vtSelf Vt.zero
 have HX : Hid (∀ z, Below w.heap.size w z → Rd z z.heap.size (.slice A s.length cp) (s.map bv)) := Lib.hid fun z hz => hx.up hz
 clear hx
 go_enter Try.func4, Try.ntmps4
 go_wp2_with fail
 refine (awake17_ok I _).mono ?_
 rintro e w2 ⟨rfl, hw2⟩
 by_cases hlen : (2000 : Int) < (s.length : Int)
 ·go_wp2_with fail
  refine (awake17_ok I _).mono ?_
  rintro e w3 ⟨rfl, hb3⟩
  have hw3 := bwstep hw2 hb3
  clear hw2 hb3
  go_wp2_with fail
  go_ret
  exact ⟨rfl, hw3⟩
 go_wp2_with fail
 refine (I.get2 _ _ _ (HX.out _ hw2) (by omega)).mono ?_
 rintro e w3 ⟨⟨n, c, k, E, rfl, hs, hk⟩, hb3⟩
 have hcc := vtSelf c
 have HS := Lib.hid hs
 have HK := Lib.hid hk
 have hw3 := bwstep hw2 hb3
 clear hw2 hb3 hs hk
 go_wp2_with (refine St.alloc vtOk rfl rfl ?_)
 constructor
 intro w4 hI4 hb4 hz4
 have hw4 := bwstep hw3 hb4
 have hle := hw3.size
 clear hz4 hw3 hb4
 go_wp2_with (refine St.store vtOk (c := c) rfl (.tmp 4) (.tmp 21) rfl rfl rfl hI4 ?_)
 constructor
 intro w5 hs5
 have HI5 := Lib.hid hs5.i
 have hw5 := hs5.bel hw4 hle
 clear hs5 hI4 hw4 hle
 go_wp2_with fail
 refine (rget17_any _ _ _ (HX.out _ hw5) (by omega)).mono ?_
 rintro e w6 ⟨⟨n', c', k', rfl, hs'⟩, hb6⟩
 obtain ⟨rfl, rfl, rfl⟩ := hs'.uniq HS.out
 have HI6 := Lib.hid (HI5.out.up hb6)
 have hw6 := bwstep hw5 hb6
 clear hw5 hb6 hs' HI5
 go_wp2_with (refine St.alloc vtOk rfl rfl ?_)
 constructor
 intro w7 hJ7 hb7 hz7
 have HI7 := Lib.hid (HI6.out.up hb7)
 have hw7 := bwstep hw6 hb7
 have hle := hw6.size
 have hlt := HI6.out.lt
 clear hz7 hw6 hb7
 go_wp2_with (refine St.store vtOk (c := c') rfl (.tmp 7) (.tmp 27) rfl rfl rfl hJ7 ?_)
 constructor
 intro w8 hs8
 have hJ8 := hs8.i
 have hI8 := hs8.up HI7.out (Nat.ne_of_lt hlt)
 have hw8 := hs8.bel hw7 hle
 clear hs8 hJ7 hw7 hle HI7 HI6 hlt HX
 rcases HK.out with ⟨rfl, rfl⟩ | ⟨rfl, rfl, rfl, rfl⟩
 ·clear HK HS hzz
  go_wp2_with (first | refine St.load vtOk rfl (.tmp 4) rfl rfl hI8 ?_ | refine St.load vtOk rfl (.tmp 7) rfl rfl hJ8 ?_ | refine St.eq vtEqs (vtTyped c' c') rfl (.tmp 50) (.tmp 51) _ rfl rfl rfl hcc ?_)
  go_ret
  exact ⟨rfl, hw8⟩
 ·clear HK HS hcc
  go_wp2_with (first | refine St.load vtOk rfl (.tmp 4) rfl rfl hI8 ?_ | refine St.eq vtEqs (vtTyped Vt.zero Vt.zero) rfl (.tmp 38) (.tmp 39) _ rfl rfl rfl hzz ?_)
  go_ret
  exact ⟨rfl, hw8⟩
end Go.Proofs.Ytofhnomljfbckaa.Ce
