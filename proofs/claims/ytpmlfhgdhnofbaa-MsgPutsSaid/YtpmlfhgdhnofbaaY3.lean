/- Layer 19's law MsgGets, over package msg's contracts. -/
import Derived.Test.YtpmlfhgdhnofbaaMsI
import Derived.Test.YtpmlfhgdhnofbaaMsT
set_option maxHeartbeats 8000000
set_option maxRecDepth 100000
namespace Go.Proofs.Ytpmlfhgdhnofbaa.Ce
open Go.RowKit
theorem msgGets_gen (I : MsgI) (x : Value) (s : List UInt8) (w : World) (hx : Rd w w.heap.size x (s.map bv)) : Calls Try.prog 5 #[x] w fun e w' => e = .returned (.bool true) ∧ Below w.heap.size w w' := by
 obtain ⟨A, cp, rfl, hc, hm⟩ := hx.shapeM
 have HX := Lib.hid hx
 clear hx
 go_enter Try.func5, Try.ntmps5
 go_wp2_with fail
 refine (awake19_ok I _).mono ?_
 rintro e w1 ⟨rfl, hb1⟩
 by_cases hlen : (3000 : Int) < (s.length : Int)
 ·go_wp2_with fail
  refine (awake19_ok I _).mono ?_
  rintro e w2 ⟨rfl, hb2⟩
  have hw2 := bwstep hb1 hb2
  clear hb1 hb2
  go_wp2_with fail
  go_ret
  exact ⟨rfl, hw2⟩
 ·have hget := I.get _ s w1 (HX.out.up hb1) (by omega)
  go_wp2_with fail
  refine hget.mono ?_
  rintro e w2 ⟨⟨y, m, E, rfl, hy, hE⟩, hb2⟩
  have hw2 := bwstep hb1 hb2
  clear hget hb1 hb2
  go_wp2_with (refine St.alloc msOk rfl rfl ?_)
  constructor
  intro w3 hJ3 hb3 hz3
  clear hz3
  go_wp2_with (refine St.store msOk (c := y) rfl (.tmp 3) (.tmp 16) rfl rfl rfl hJ3 ?_)
  constructor
  intro w4 hs4
  have hJ4 := hs4.i
  have hb24 : Below w2.heap.size w2 w4 := hs4.bel hb3 (Nat.le_refl _)
  have hy4 := (hy.below hb24).is
  have hw4 := bwstep hw2 hb24
  clear hs4 hJ3 hb3 hy hw2 hb24
  rcases hE with ⟨rfl, hE⟩ | ⟨rfl, rfl, -⟩
  ·have hR := hE.1
   have hvl := hR.votes.len
   have hrr := rright19_any y m w4 hy4 (by omega)
   rw [decide_eq_true hR] at hrr
   have HE := Lib.hid hE.2
   clear hE
   go_wp2_with (refine St.load msOk rfl (.tmp 3) rfl rfl hJ4 ?_)
   refine hrr.mono ?_
   rintro e w5 ⟨rfl, hb5⟩
   have hJ5 := hJ4.up hb5
   have hpt := rput19_any y m w5 (hy4.bel hb5) hR
   have hw5 := bwstep hw4 hb5
   clear hJ4 hrr hb5 hw4 hy4
   go_wp2_with (refine St.load msOk rfl (.tmp 3) rfl rfl hJ5 ?_)
   refine hpt.mono ?_
   rintro e w6 ⟨q, rfl, hq, hb6⟩
   have hw6 := bwstep hw5 hb6
   have hq6 := hq.rd
   have hx6 := HX.out.up hw6
   rw [← HE.out] at hq6
   clear hpt hJ5 hw5 hb6 hq
   have hss : sameB s s = true := sameB_self _
   go_wp2_with fail
   refine (rsame_bel _ _ _ _ _ _ _ hq6 hx6).mono ?_
   rintro e w7 ⟨rfl, hb7⟩
   have hw7 := bwstep hw6 hb7
   clear hq6 hx6 hw6 hb7
   rw [hss]
   go_wp2_with fail
   go_ret
   exact ⟨rfl, hw7⟩
  ·have hsm := rsame19_any y Mx.zero Ms.zero Ms.zero w4 hy4 (MsOw.zero w4 0).is (by simp [Ms.zero])
   rw [decide_eq_true rfl] at hsm
   go_wp2_with (refine St.load msOk rfl (.tmp 3) rfl rfl hJ4 ?_)
   refine hsm.mono ?_
   rintro e w5 ⟨rfl, hb5⟩
   have hw5 := bwstep hw4 hb5
   clear hsm hb5 hw4 hJ4 hy4
   go_wp2_with fail
   go_ret
   exact ⟨rfl, hw5⟩
end Go.Proofs.Ytpmlfhgdhnofbaa.Ce
