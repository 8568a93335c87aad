/- Layer 19's law MsgBack, over package msg's contracts. -/
import Derived.Test.YtpmlfhgdhnofbaaMsI
import Derived.Test.YtpmlfhgdhnofbaaFrmO
set_option maxHeartbeats 8000000
set_option maxRecDepth 100000
namespace Go.Proofs.Ytpmlfhgdhnofbaa.Ce
open Go.RowKit
theorem msgBack_gen (I : MsgI) (x : Mx) (m : Ms) (q : Nat) (t : UInt8) (w : World) (hx : MsIs w [] x m) (hq16 : q ≤ 65535) : Calls Try.prog 4 #[x.v, .int .u16 (q : Int), .int .u8 (t.toNat : Int)] w fun e w' => e = .returned (.bool true) ∧ Below w.heap.size w w' := by
 have ht8 := t.toNat_lt
 go_enter Try.func4, Try.ntmps4
 go_wp2_with (refine St.box msD rfl (.tmp 0) x rfl rfl ?_)
 constructor
 intro w1 hI1 hb1 hz1
 clear hz1
 have hx1 := hx.bel hb1
 clear hx
 go_wp2_with fail
 refine (awake19_ok I _).mono ?_
 rintro e w2 ⟨rfl, hb2⟩
 have hI2 := hI1.up hb2
 have hx2 := hx1.bel hb2
 have hw2 := bwstep hb1 hb2
 clear hI1 hb1 hb2 hx1
 go_wp2_with (refine St.load msOk rfl (.tmp 3) rfl rfl hI2 ?_)
 refine (rsmall19_any x m w2 hx2).mono ?_
 rintro e w3 ⟨⟨qq, rfl, hqq⟩, hb3⟩
 have hI3 := hI2.up hb3
 have hx3 := hx2.bel hb3
 have hw3 := bwstep hw2 hb3
 clear hI2 hw2 hb3 hx2
 cases qq
 ·go_wp2_with fail
  refine (awake19_ok I _).mono ?_
  rintro e w4 ⟨rfl, hb4⟩
  have hw4 := bwstep hw3 hb4
  clear hw3 hb4
  go_wp2_with fail
  go_ret
  exact ⟨rfl, hw4⟩
 have h70 := hqq rfl
 clear hqq
 by_cases hR : m.Right
 case neg =>
  go_wp2_with (refine St.load msOk rfl (.tmp 3) rfl rfl hI3 ?_)
  refine (I.put_not x m w3 hx3 (by omega) hR).mono ?_
  rintro e w4 ⟨A, cp, rfl, hb4⟩
  have hw4 := bwstep hw3 hb4
  clear hw3 hb4 hI3 hx3 hR
  go_wp2_with fail
  go_ret
  exact ⟨rfl, hw4⟩
 have hRL := hR.rec_le
 have HIS : Hid (IsMs (msB m) m) := Lib.hid ⟨hR, rfl⟩
 have hml : (msB m).length ≤ 50000 := by rw [msB_len]; omega
 have hm0 : 0 < (msB m).length := by rw [msB_len]; omega
 go_wp2_with (refine St.load msOk rfl (.tmp 3) rfl rfl hI3 ?_)
 refine (I.put_yes x m w3 hx3 hR).mono ?_
 rintro e w4 ⟨v, rfl, hv, hb4⟩
 generalize msB m = b at *
 have hw3s := hw3.size
 have hI4 := hI3.up hb4
 have hx4 := hx3.bel hb4
 have hw4 := bwstep hw3 hb4
 obtain ⟨Av, cv, rfl, hcv, hcm⟩ := hv.rd.shapeM
 unfold maxLen at hcm
 clear hw3 hb4 hI3 hx3 hRL hR
 go_wp2_with fail
 refine (I.get_yes _ b m w4 hv.rd (by omega) HIS.out).mono ?_
 rintro e w5 ⟨⟨y, rfl, hy⟩, hb5⟩
 have hI5 := hI4.up hb5
 have hx5 := hx4.bel hb5
 have hv5 := hv.below hb5
 have hw5 := bwstep hw4 hb5
 clear hw4 hb5 hI4 hx4 hv
 go_wp2_with (refine St.alloc msOk rfl rfl ?_)
 constructor
 intro w6 hJ6 hb6 hz6
 clear hz6
 go_wp2_with (refine St.store msOk (c := y) rfl (.tmp 9) (.tmp 34) rfl rfl rfl hJ6 ?_)
 constructor
 intro w7 hs7
 have hJ7 := hs7.i
 have hb57 : Below w5.heap.size w5 w7 := hs7.bel hb6 (Nat.le_refl _)
 have hI7 := hI5.up hb57
 have hx7 := hx5.bel hb57
 have hy7 := (hy.below hb57).is
 have hv7 := hv5.below hb57
 have hw7 := bwstep hw5 hb57
 have hsm := rsame19_any x y m m w7 hx7 hy7 (by omega)
 rw [decide_eq_true rfl] at hsm
 clear hs7 hJ6 hb6 hb57 hI5 hx5 hy hv5 hw5
 go_wp2_with (first | refine St.load msOk rfl (.tmp 3) rfl rfl hI7 ?_ | refine St.load msOk rfl (.tmp 9) rfl rfl hJ7 ?_)
 refine hsm.mono ?_
 rintro e w8 ⟨rfl, hb8⟩
 have hv8 := hv7.below hb8
 have hw8 := bwstep hw7 hb8
 obtain ⟨kk, hkk⟩ : ∃ kk : Nat, (q : Int) % (b.length : Int) = kk := Int.eq_ofNat_of_zero_le (Int.emod_nonneg _ (by omega))
 have hk : kk < b.length := by
  have := Int.emod_lt_of_pos (q : Int) (show (0 : Int) < (b.length : Int) by omega)
  omega
 clear hsm hI7 hJ7 hx7 hy7 hv7 hw7 hb8
 have hkc : kk ≤ cv := by omega
 have hk0 : (0 : Int) ≤ (kk : Int) := by omega
 have hkc2 : (kk : Int) ≤ (cv : Int) := by omega
 have hklt : (kk : Int) < (b.length : Int) := by omega
 have hcut := hv8.rd.cutTo (show kk ≤ b.length by omega)
 rw [← List.map_take] at hcut
 have hgno := I.get_no _ (b.take kk) w8 (by simpa using hcut) (by rw [List.length_take]; omega) (HIS.out.part hk)
 clear hcut
 go_wp2_with fail
 refine hgno.mono ?_
 rintro e w9 ⟨⟨y2, rfl, hy2⟩, hb9⟩
 have hv9 := hv8.below hb9
 have hw9 := bwstep hw8 hb9
 clear hgno hy2 hb9 hv8 hw8
 go_wp2_with (refine St.alloc msOk rfl rfl ?_)
 constructor
 intro w10 hJ10 hb10 hz10
 clear hz10
 go_wp2_with (refine St.store msOk (c := y2) rfl (.tmp 12) (.tmp 54) rfl rfl rfl hJ10 ?_)
 constructor
 intro w11 hs11
 have hb911 : Below w9.heap.size w9 w11 := hs11.bel hb10 (Nat.le_refl _)
 have hv11 := hv9.below hb911
 have hw11 := bwstep hw9 hb911
 clear hs11 hJ10 hb10 hb911 hv9 hw9
 obtain ⟨g3, u3, rfl, hg3, hg3s, hcell3, hfr3, hset3⟩ := ow_turn t hv11 hk
 unfold bv at hcell3 hset3
 rw [← xor_u8] at hset3
 have hw12 : Below w.heap.size w (w11.setCell ⟨g3, kk, none⟩ (.int .u8 (bits .xor .u8 (u3.toNat : Int) (t.toNat : Int)))) := hw11.setCell (p := ⟨g3, kk, none⟩) (Nat.le_trans hw3s hg3) _
 have hr12 := hset3.rd
 have hl12 : (b.set kk (b.getD kk 0 ^^^ t)).length = b.length := List.length_set
 by_cases ht : t = 0
 ·have e1 : ((t.toNat : Int) == 0) = true := by subst ht; rfl
  have hbb : b.set kk (b.getD kk 0 ^^^ t) = b := by
   rw [ht, show b.getD kk 0 ^^^ 0 = b.getD kk 0 from by simp, show b.getD kk 0 = b[kk] from by simp [List.getD, hk], List.set_getElem_self]
  have hgy := I.get_yes _ b m _ (by rw [hbb] at hr12; exact hr12) (by omega) HIS.out
  clear ht hbb hset3 hl12 hv11 hw11
  go_wp2_with fail
  refine hgy.mono ?_
  rintro e w13 ⟨⟨y3, rfl, hy3⟩, hb13⟩
  have hw13 := bwstep hw12 hb13
  clear hy3 hb13 hw12 hr12
  go_wp2_with (refine St.alloc msOk rfl rfl ?_)
  constructor
  intro w14 hJ14 hb14 hz14
  clear hz14
  go_wp2_with (refine St.store msOk (c := y3) rfl (.tmp 14) (.tmp 68) rfl rfl rfl hJ14 ?_)
  constructor
  intro w15 hs15
  have hw15 := hs15.bel (bwstep hw13 hb14) hw13.size
  clear hs15 hJ14 hb14 hw13
  go_wp2_with fail
  go_ret
  exact ⟨rfl, hw15⟩
 ·have e1 : ((t.toNat : Int) == 0) = false := by
   rw [beq_eq_false_iff_ne]
   exact fun e => ht (UInt8.toNat_inj.1 (show t.toNat = (0 : UInt8).toNat by simpa using e))
  have hgn := I.get_no _ (b.set kk (b.getD kk 0 ^^^ t)) _ hr12 (by rw [hl12]; omega) (HIS.out.turned hk ht)
  clear ht hset3 hl12 hv11 hw11
  go_wp2_with fail
  refine hgn.mono ?_
  rintro e w13 ⟨⟨y3, rfl, hy3⟩, hb13⟩
  have hw13 := bwstep hw12 hb13
  clear hy3 hb13 hw12 hr12
  go_wp2_with (refine St.alloc msOk rfl rfl ?_)
  constructor
  intro w14 hJ14 hb14 hz14
  clear hz14
  go_wp2_with (refine St.store msOk (c := y3) rfl (.tmp 14) (.tmp 68) rfl rfl rfl hJ14 ?_)
  constructor
  intro w15 hs15
  have hw15 := hs15.bel (bwstep hw13 hb14) hw13.size
  clear hs15 hJ14 hb14 hw13
  go_wp2_with fail
  go_ret
  exact ⟨rfl, hw15⟩
end Go.Proofs.Ytpmlfhgdhnofbaa.Ce
