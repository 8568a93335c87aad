/- Layer 19's law MsgKeeps, over package msg's contracts. -/
import Derived.Test.YtpmlfhgdhnofbaaMsI
set_option maxHeartbeats 8000000
set_option maxRecDepth 100000
namespace Go.Proofs.Ytpmlfhgdhnofbaa.Ce
open Go.RowKit
theorem msgKeeps_gen (I : MsgI) (x : Mx) (m : Ms) (w : World) (hx : MsIs w [] x m) : Calls Try.prog 6 #[x.v] w fun e w' => e = .returned (.bool true) ∧ Below w.heap.size w w' := by
 go_enter Try.func6, Try.ntmps6
 go_wp2_with (refine St.box msD rfl (.tmp 0) x rfl rfl ?_)
 constructor
 intro w1 hI1 hb1 hz1
 clear hz1
 have hx1 := hx.bel hb1
 clear hx
 go_wp2_with fail
 refine (awake19_ok I _).mono ?_
 rintro e w2 ⟨rfl, hb2⟩
 have hI2 := hI1.up hb2
 have hx2 := hx1.bel hb2
 have hw2 := bwstep hb1 hb2
 clear hI1 hb1 hb2 hx1
 go_wp2_with (refine St.load msOk rfl (.tmp 1) rfl rfl hI2 ?_)
 refine (rsmall19_any x m w2 hx2).mono ?_
 rintro e w3 ⟨⟨qq, rfl, hqq⟩, hb3⟩
 have hI3 := hI2.up hb3
 have hx3 := hx2.bel hb3
 have hw3 := bwstep hw2 hb3
 clear hI2 hw2 hb3 hx2
 cases qq
 ·go_wp2_with fail
  refine (awake19_ok I _).mono ?_
  rintro e w4 ⟨rfl, hb4⟩
  have hw4 := bwstep hw3 hb4
  clear hw3 hb4
  go_wp2_with fail
  go_ret
  exact ⟨rfl, hw4⟩
 have h70 := hqq rfl
 clear hqq
 have hrr := rright19_any x m w3 hx3 (by omega)
 by_cases hR : m.Right
 case neg =>
  rw [decide_eq_false hR] at hrr
  clear hR
  go_wp2_with (refine St.load msOk rfl (.tmp 1) rfl rfl hI3 ?_)
  refine hrr.mono ?_
  rintro e w4 ⟨rfl, hb4⟩
  have hw4 := bwstep hw3 hb4
  clear hw3 hb4 hI3 hx3 hrr
  go_wp2_with fail
  refine (awake19_ok I _).mono ?_
  rintro e w5 ⟨rfl, hb5⟩
  have hw5 := bwstep hw4 hb5
  clear hw4 hb5
  go_wp2_with fail
  go_ret
  exact ⟨rfl, hw5⟩
 rw [decide_eq_true hR] at hrr
 have hRL := hR.rec_le
 have HIS : Hid (IsMs (msB m) m) := Lib.hid ⟨hR, rfl⟩
 have hml : (msB m).length ≤ 50000 := by rw [msB_len]; omega
 go_wp2_with (refine St.load msOk rfl (.tmp 1) rfl rfl hI3 ?_)
 refine hrr.mono ?_
 rintro e w4 ⟨rfl, hb4⟩
 have hI4 := hI3.up hb4
 have hx4 := hx3.bel hb4
 have hw4 := bwstep hw3 hb4
 clear hI3 hw3 hb4 hx3 hrr
 go_wp2_with (refine St.load msOk rfl (.tmp 1) rfl rfl hI4 ?_)
 refine (I.put_yes x m w4 hx4 hR).mono ?_
 rintro e w5 ⟨v, rfl, hv, hb5⟩
 generalize msB m = b at *
 have hI5 := hI4.up hb5
 have hx5 := hx4.bel hb5
 have hw5 := bwstep hw4 hb5
 obtain ⟨Av, cv, rfl, hcv, hcm⟩ := hv.rd.shapeM
 unfold maxLen at hcm
 clear hw4 hb5 hI4 hx4 hRL hR
 have hbe : Below w5.heap.size w5 (w5.alloc (.cells #[] 5)) := (Below.refl _ w5).alloc (Nat.le_refl _) _
 have hemp : Ow (w5.alloc (.cells #[] 5)) w5.heap.size 5 (.slice (some ⟨w5.heap.size, 0, none⟩) 0 0) (([] : List UInt8).map bv) := Ow.empty w5 (Nat.le_refl _) _
 have hvr := (hv.below hbe).rd
 have hbes := hbe.size
 have z1 : ([] : List UInt8).length + b.length ≤ 140737488355328 := by simp; omega
 go_wp2_with (at_builtin; refine wpList_appB bytesT rfl (.tmp 29) (.tmp 30) rfl rfl hemp rfl hvr z1 hbes ?_; intro v6 w6 ho6 hg6 _; have HO6 := Lib.hid ho6; have HB6 := Lib.hid (hbe.grown hg6 hbes hemp.ge); clear ho6 hg6 hemp hvr z1 hbes)
 rw [List.nil_append] at HO6
 have ho6 := HO6.out
 have hb6 := HB6.out
 obtain ⟨A6, c6, rfl, -, -⟩ := ho6.rd.shapeM
 have hI6 := hI5.up hb6
 have hx6 := hx5.bel hb6
 have hv6 := (hv.below hb6).rd
 have hw6 := bwstep hw5 hb6
 clear HO6 HB6 hbe hv hI5 hx5 hw5 hb6
 refine (I.get_yes _ b m w6 hv6 (by omega) HIS.out).mono ?_
 rintro e w7 ⟨⟨y, rfl, hy⟩, hb7⟩
 obtain ⟨yh, ya, yn, yc⟩ := y
 obtain rfl : yn = m.votes.length := hy.is.len
 have hBA : Hid (Ow w6 w5.heap.size 5 (.slice A6 b.length c6) (b.map bv) ∧ Rd w6 w6.heap.size (.slice Av b.length cv) (b.map bv) ∧ MsIs w6 [] x m ∧ msD.In w.heap.size x w6 ∧ Below w.heap.size w w6) := Lib.hid ⟨ho6, hv6, hx6, hI6, hw6⟩
 have hlt6 := hI6.lt
 clear ho6 hv6 hx6 hI6 hw6
 go_wp2_with (refine St.alloc msOk rfl rfl ?_)
 constructor
 intro w8 hJ8 hb8 hz8
 clear hz8
 go_wp2_with (refine St.store msOk (c := ⟨yh, ya, m.votes.length, yc⟩) rfl (.tmp 6) (.tmp 35) rfl rfl rfl hJ8 ?_)
 constructor
 intro w9 hs9
 have hJ9 := hs9.i
 have hb79 : Below w7.heap.size w7 w9 := hs9.bel hb8 (Nat.le_refl _)
 have hy9 := hy.below hb79
 have hb69 := bwstep hb7 hb79
 have hz7 := hb7.size
 have hvs : St.OwS vtL w7 w6.heap.size (.slice ya m.votes.length yc) m.votes := hy.votes
 have hv9 : St.OwS vtL w9 w6.heap.size (.slice ya m.votes.length yc) m.votes := hy9.votes
 clear hs9 hJ8 hb8 hy hb7 hb79 hy9
 generalize hV : m.votes = V at *
 go_wp2_with fail
 by_cases hn : 0 < V.length
 ·obtain ⟨g, cap, cur, e, hgB, hgc, h1, h2, h3, -⟩ := hvs.open_ hn
  injection e with e1 _ e3
  subst e1
  subst e3
  have hglt : g < w7.heap.size := (Array.getElem?_eq_some_iff.1 hgc).1
  obtain ⟨g', cap', cur', e', -, hgc9, h1', h2', h3', -⟩ := hv9.open_ hn
  injection e' with e1' _ e3'
  injection e1' with e1'
  injection e1' with e1' _ _
  subst e1'
  have HK9 : Hid (msD.In w7.heap.size ⟨yh, some ⟨g, 0, none⟩, V.length, yc⟩ w9 ∧ Below w6.heap.size w6 w9 ∧ ∃ cur : Array Value, w9.heap[g]? = some (.cells cur 23 (0, 0)) ∧ V.length * 5 ≤ cur.size) := Lib.hid ⟨hJ9, hb69, cur', hgc9, by rw [h3']; exact Nat.mul_le_mul_right _ h1'⟩
  have hyc : yc ≤ 9223372036854775807 := by unfold maxLen at h2; exact h2
  clear hvs hv9 hgc hgc9 h3 h3' h2 h2' h1' hb69 hJ9 e3'
  go_loopw [8] (fun i wr => ∃ k : Nat, k ≤ V.length ∧ i = .int .i64 (k : Int) ∧ Hid (msD.In w7.heap.size ⟨yh, some ⟨g, 0, none⟩, V.length, yc⟩ wr ∧ Below w6.heap.size w6 wr ∧ ∃ cur : Array Value, wr.heap[g]? = some (.cells cur 23 (0, 0)) ∧ V.length * 5 ≤ cur.size)) (fun i _ => V.length - (intOf i).toNat)
  case atStart => exact ⟨0, Nat.zero_le _, rfl, HK9⟩
  case round =>
   obtain ⟨k, hk, rfl, HK⟩ := hrel
   clear HK9
   have cA := (MxAt.of HK.out.1).cA
   simp only at cA
   by_cases hlt : k < V.length
   ·obtain ⟨hJr, hbr, cur2, hgc2, hsz2⟩ := HK.out
    have hh3 : (0 : Int) ≤ (k : Int) := by omega
    have hh4 : (k : Int) < (V.length : Int) := by omega
    have HFIT : Hid (k * 5 + vtL.k ≤ cur2.size) := Lib.hid (by show k * 5 + 5 ≤ cur2.size; omega)
    have HCX := Lib.hid hgc2
    have HJR := Lib.hid hJr
    have HBR := Lib.hid hbr
    clear hgc2 hJr hbr HK
    go_wp2_with (with_reducible (show wpList _ _ _ ({ dst := _, op := .store 23 (.tmp 48) (.tmp 47), type := _, pos := _, after := _, guard := _ } :: _) _ _); refine St.storeAt (c := Vt.zero) (g := g) (n := k * 5) vlOk rfl (.tmp 48) (.tmp 47) rfl (by simp [Act.eval]) rfl HCX.out HFIT.out ?_)
    constructor
    intro wz hT
    have HKZ : Hid (msD.In w7.heap.size ⟨yh, some ⟨g, 0, none⟩, V.length, yc⟩ wz ∧ Below w6.heap.size w6 wz ∧ ∃ cur : Array Value, wz.heap[g]? = some (.cells cur 23 (0, 0)) ∧ V.length * 5 ≤ cur.size) := Lib.hid ⟨HJR.out.kept (hT.o _ (by omega)), HBR.out.trans (hT.b.mono hgB), _, hT.i, by rw [St.cpd_size (show k * 5 + Vt.zero.cs.toList.length ≤ cur2.size from HFIT.out)]; exact hsz2⟩
    clear hT HFIT HCX HJR HBR cA
    go_wp2_with fail
    go_roundw
    case rel => exact ⟨k + 1, by omega, by go_num, HKZ⟩
    case measure => simp [intOf]; omega
   ·have HBK := Lib.hid HK.out.2.1
    clear HK
    obtain ⟨ho6, hv6, hx6, hI6, hw6⟩ := hBA.out
    have hwr := hw6.trans (HBK.out.mono hw6.size)
    have hvr := hv6.below HBK.out
    have hget := I.get_yes _ b m _ (hvr.mono HBK.out.size) (by omega) HIS.out
    go_wp2_with fail
    refine hget.mono ?_
    rintro e wa ⟨⟨o, rfl, ho⟩, hba⟩
    have hb6a := HBK.out.trans (hba.mono HBK.out.size)
    have hwa := hwr.trans (hba.mono hwr.size)
    clear hget hvr hwr
    go_wp2_with (refine St.alloc msOk rfl rfl ?_)
    constructor
    intro wb hL hbb hzb
    clear hzb
    go_wp2_with (refine St.store msOk (c := o) rfl (.tmp 9) (.tmp 52) rfl rfl rfl hL ?_)
    constructor
    intro wc hsc
    have hLc := hsc.i
    have hbac : Below wa.heap.size wa wc := hsc.bel hbb (Nat.le_refl _)
    have hoc := (ho.below hbac).is
    have hb6c := bwstep hb6a hbac
    have hwc := bwstep hwa hbac
    have hIc := hI6.up hb6c
    have hxc := hx6.bel hb6c
    have hsm := rsame19_any o x m m wc hoc hxc (by rw [hV]; omega)
    rw [decide_eq_true rfl] at hsm
    have hvc := hv6.up hb6c
    have hwasc := (ho6.rd).up hb6c
    clear hsc hL hbb hbac ho hb6a hwa hba hI6 hx6 hv6 ho6 hw6 hoc hxc
    go_wp2_with (first | refine St.load msOk rfl (.tmp 9) rfl rfl hLc ?_ | refine St.load msOk rfl (.tmp 1) rfl rfl hIc ?_)
    refine hsm.mono ?_
    rintro e wd ⟨rfl, hbd⟩
    have hwd := bwstep hwc hbd
    have hvd := hvc.up hbd
    have hwasd := hwasc.up hbd
    have hss : sameB b b = true := sameB_self _
    clear hsm hLc hIc hwc hbd hvc hwasc
    go_wp2_with fail
    refine (rsame_bel _ _ _ _ _ _ _ hvd hwasd).mono ?_
    rintro e we ⟨rfl, hbe⟩
    have hwe := bwstep hwd hbe
    clear hvd hwasd hwd hbe
    rw [hss]
    go_wp2_with fail
    go_ret
    exact ⟨rfl, hwe⟩
 ·have HBK9 := Lib.hid hb69
  have hV0 : V.length = 0 := by omega
  have HJ9 := Lib.hid hJ9
  clear hvs hv9 hb69 hJ9
  go_loopw [8] (fun i wr => i = .int .i64 0 ∧ wr = w9) (fun _ _ => 0)
  case atStart => exact ⟨rfl, rfl⟩
  case round =>
   obtain ⟨rfl, rfl⟩ := hrel
   have HBK := HBK9
   have cA := (MxAt.of HJ9.out).cA
   simp only at cA
   have hlt : ¬ (0 : Int) < (V.length : Int) := by omega
   clear HBK9
   obtain ⟨ho6, hv6, hx6, hI6, hw6⟩ := hBA.out
   have hwr := hw6.trans (HBK.out.mono hw6.size)
   have hvr := hv6.below HBK.out
   have hget := I.get_yes _ b m _ (hvr.mono HBK.out.size) (by omega) HIS.out
   go_wp2_with fail
   refine hget.mono ?_
   rintro e wa ⟨⟨o, rfl, ho⟩, hba⟩
   have hb6a := HBK.out.trans (hba.mono HBK.out.size)
   have hwa := hwr.trans (hba.mono hwr.size)
   clear hget hvr hwr
   go_wp2_with (refine St.alloc msOk rfl rfl ?_)
   constructor
   intro wb hL hbb hzb
   clear hzb
   go_wp2_with (refine St.store msOk (c := o) rfl (.tmp 9) (.tmp 52) rfl rfl rfl hL ?_)
   constructor
   intro wc hsc
   have hLc := hsc.i
   have hbac : Below wa.heap.size wa wc := hsc.bel hbb (Nat.le_refl _)
   have hoc := (ho.below hbac).is
   have hb6c := bwstep hb6a hbac
   have hwc := bwstep hwa hbac
   have hIc := hI6.up hb6c
   have hxc := hx6.bel hb6c
   have hsm := rsame19_any o x m m wc hoc hxc (by rw [hV]; omega)
   rw [decide_eq_true rfl] at hsm
   have hvc := hv6.up hb6c
   have hwasc := (ho6.rd).up hb6c
   clear hsc hL hbb hbac ho hb6a hwa hba hI6 hx6 hv6 ho6 hw6 hoc hxc
   go_wp2_with (first | refine St.load msOk rfl (.tmp 9) rfl rfl hLc ?_ | refine St.load msOk rfl (.tmp 1) rfl rfl hIc ?_)
   refine hsm.mono ?_
   rintro e wd ⟨rfl, hbd⟩
   have hwd := bwstep hwc hbd
   have hvd := hvc.up hbd
   have hwasd := hwasc.up hbd
   have hss : sameB b b = true := sameB_self _
   clear hsm hLc hIc hwc hbd hvc hwasc
   go_wp2_with fail
   refine (rsame_bel _ _ _ _ _ _ _ hvd hwasd).mono ?_
   rintro e we ⟨rfl, hbe⟩
   have hwe := bwstep hwd hbe
   clear hvd hwasd hwd hbe
   rw [hss]
   go_wp2_with fail
   go_ret
   exact ⟨rfl, hwe⟩
end Go.Proofs.Ytpmlfhgdhnofbaa.Ce
