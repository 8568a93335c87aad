/- Layer 16, StateOnce. -/
import Derived.Test.YtcpkhhbbjimdaaaGreatDoorSaZ
import Derived.Deep.Cut
import Derived.Deep.RegionHeld3
import Derived.BigQuiet
set_option maxHeartbeats 8000000
set_option maxRecDepth 100000
namespace Go.Proofs.YtcpkhhbbjimdaaaGreatDoor.Ce
open Go.RowKit
theorem o11_of {g3 : Nat} {c : Cm} {z : World} (h : cmD.In g3 c z) : cmD.In g3 c z ∧ z.cell? ⟨g3, 0, none⟩ = some (.int .i64 c.client) ∧ z.cell? ⟨g3, 1, none⟩ = some (.int .i64 c.seq) := ⟨h, (CmAt.of h).c0, (CmAt.of h).c1⟩
theorem o23_of {gr ga gq g3 : Nat} {r ra : Rv} {Aq : Option Addr} {nq cq : Nat} {c : Cm} {z : World} (h1 : rpD.In gr r z) (h2 : rpD.In ga ra z) (h3 : rpD.In gq ⟨1, false, ⟨#[]⟩, Aq, nq, cq⟩ z) (h4 : cmD.In g3 c z) : rpD.In gr r z ∧ rpD.In ga ra z ∧ rpD.In gq ⟨1, false, ⟨#[]⟩, Aq, nq, cq⟩ z ∧ cmD.In g3 c z ∧ z.cell? ⟨g3, 0, none⟩ = some (.int .i64 c.client) ∧ z.cell? ⟨g3, 1, none⟩ = some (.int .i64 c.seq) ∧ z.cell? ⟨gq, 0, none⟩ = some (.int .i64 1) := ⟨h1, h2, h3, h4, (CmAt.of h4).c0, (CmAt.of h4).c1, h3.at_ rfl⟩
theorem Sm.apply_other {m : Sm} {c d : Cm} (hc : c.Right) (h : d.client ≠ c.client) : (m.apply d).1.seq c.client.toNat = m.seq c.client.toNat ∧ (m.apply d).1.rep c.client.toNat = m.rep c.client.toNat := by
 by_cases hd : d.Right
 ·rw [Sm.apply_yes hd]
  refine Sm.app_other ?_
  have h1 := hc.1.c1
  have h2 := hd.1.c1
  omega
 ·rw [Sm.apply_no hd]
  exact ⟨rfl, rfl⟩
theorem Sm.apply_again {m : Sm} {c : Cm} (hc : c.Right) (h : m.seq c.client.toNat = c.seq) : m.apply c = (m, m.rep c.client.toNat) := by
 rw [Sm.apply_yes hc]
 unfold Sm.app
 rw [if_neg (by omega), if_pos h.symm]
def Cm.old (c : Cm) : Cm := ⟨c.client, c.seq - 1, c.kind, c.row, c.col, c.to_, c.at_, c.value, c.expect, c.has⟩
theorem Sm.apply_old {m : Sm} {c : Cm} (h : m.seq c.client.toNat = c.seq) : m.apply c.old = (m, Rp.err) := by
 by_cases hd : c.old.Right
 ·rw [Sm.apply_yes hd]
  exact if_pos (by show c.seq - 1 < m.seq c.client.toNat; omega)
 ·exact Sm.apply_no hd
theorem old_set {g : Nat} {c : Cm} {w : World} (h : cmD.In g c w) : cmD.Set g c.old w (w.setCell ⟨g, 1, none⟩ (.int .i64 (c.seq - 1))) :=
 St.Sp.Set.part (D := cmD) (x := c) (y := c.old) (i := 1) h (by simp [Cm.cs, Cm.old])
theorem Sm.apply_lt {m : Sm} {c : Cm} (hc : c.Right) (h : c.seq < m.seq c.client.toNat) : (m.apply c).2 = Rp.err := by
 rw [Sm.apply_yes hc, show m.app c = (m, Rp.err) from if_pos h]
theorem Sm.apply_new {m : Sm} {c : Cm} (hc : c.Right) (h : m.seq c.client.toNat < c.seq) : (m.apply c).1.seq c.client.toNat = c.seq ∧ (m.apply c).1.rep c.client.toNat = (m.apply c).2 := by
 rw [Sm.apply_yes hc]
 exact Sm.app_new h
theorem run_opRpE {a : Act} {w : World} {o : Oper} {x : Operand} {r : Rv} (ho : o.op = .field 31 x 0) (hx : a.eval x = r.v) : (execOp a.eval o).run Tryz.prog w = .ok (.value (.int .i64 r.e)) w := by
 have hr : (Instr.field 31 r.v 0).run Tryz.prog w = .ok (.int .i64 r.e) w := by kernel_rfl
 unfold execOp
 simp only [ho, hx, Sem.run_bind, Sem.run_pure, hr, Result.andThen_ok]
theorem last_if {m : Sm} {c : Cm} (hc : c.Right) : (if 1 ≤ c.client ∧ c.client ≤ 16 then m.seq c.client.toNat else 0) = m.seq c.client.toNat := if_pos ⟨hc.1.c1, hc.1.c2⟩
theorem stateOnce_walk (v : Value) (L : List Cm) (c : Cm) (v2 : Value) (L2 : List Cm) (w : World) (hv : St.RdS cmD w [] v L) (hv2 : St.RdS cmD w [] v2 L2) (hk : Kd w) :
  Calls Tryz.prog 4 #[v, c.v, v2] w fun e w' => e = .returned (.bool true) ∧ Below w.heap.size w w' := by
 obtain ⟨A, cp, rfl, hcp, hcm⟩ := hv.shape
 obtain ⟨A2, cp2, rfl, hcp2, hcm2⟩ := hv2.shape
 unfold maxLen at hcm hcm2
 have HV := Lib.hid hv
 have HV2 := Lib.hid hv2
 have HK := Lib.hid hk
 clear hv hv2 hk
 go_enter Tryz.func4, Tryz.ntmps4
 go_wp2_with (refine St.box cmD rfl (.tmp 1) c rfl rfl ?_)
 constructor
 intro w1 hI1 hb1 hz1
 clear hz1
 have HC1 := Lib.hid hI1
 have HW1 := Lib.hid hb1
 clear hI1 hb1
 go_wp2_with fail
 refine (awake16_ok _ (HK.out.up HW1.out)).mono ?_
 rintro e w2 ⟨rfl, hb2⟩
 have HC2 := Lib.hid (HC1.out.up hb2)
 have HW2 := Lib.hid (bwstep HW1.out hb2)
 clear hb2
 go_wp2_with fail
 refine (few16_any _ L _ (HV.out.bel HW2.out)).mono ?_
 rintro e w3 ⟨⟨q, rfl, hq⟩, rfl⟩
 cases q
 ·clear hq
  go_wp2_with fail
  refine (awake16_ok _ (HK.out.up HW2.out)).mono ?_
  rintro e w4 ⟨rfl, hbw4⟩
  have HWx := Lib.hid (bwstep HW2.out hbw4)
  go_wp2_with fail
  go_ret
  exact ⟨rfl, HWx.out⟩
 ·have hl50 := (hq rfl).1
  clear hq
  go_wp2_with fail
  refine (few16_any _ L2 _ (HV2.out.bel HW2.out)).mono ?_
  rintro e w4 ⟨⟨q, rfl, hq⟩, rfl⟩
  cases q
  ·clear hq
   go_wp2_with fail
   refine (awake16_ok _ (HK.out.up HW2.out)).mono ?_
   rintro e w5 ⟨rfl, hbw5⟩
   have HWx := Lib.hid (bwstep HW2.out hbw5)
   go_wp2_with fail
   go_ret
   exact ⟨rfl, HWx.out⟩
  ·have hl52 := (hq rfl).1
   clear hq
   have hc2 := HC2.out
   go_wp2_with (refine St.load cmOk rfl (.tmp 4) rfl rfl hc2 ?_)
   refine (rright15_any c _).mono ?_
   rintro e w4 ⟨rfl, hb4⟩
   have HC4 := Lib.hid (hc2.up hb4)
   have HW4 := Lib.hid (bwstep HW2.out hb4)
   clear hb4 hc2 HC2 HW2 HC1 HW1
   by_cases hr : c.Right
   ·rw [decide_eq_true hr]
    have HRT := Lib.hid hr
    clear hr
    have HG3 : Hid (w.heap.size < w4.heap.size) := Lib.hid HC4.out.lt
    generalize hg3 : w.heap.size = g3 at HC4 HG3
    have HG3' := Lib.hid hg3
    clear hg3
    go_wp2_with fail
    refine (new_oneX w [g3] (by simpa using HG3.out) HW4.out).mono ?_
    rintro e w5 ⟨b, rfl, hs5, hb5, hlt5, hbb5⟩
    have HS3 := Lib.hid hs5
    have HC3 := Lib.hid (HC4.out.up hbb5)
    have HW3 := Lib.hid (bwstep HW4.out hbb5)
    clear hs5 hb5 hbb5 hlt5
    go_wp2_with fail
    go_loopw [8] (fun i wr => ∃ (k : Nat) (M : List Nat) (m : Sm), k ≤ L.length ∧ i = .int .i64 (k : Int) ∧ Hid (OneS w wr [g3] M b m k) ∧ Hid (cmD.In g3 c wr) ∧ Hid (Below w.heap.size w wr)) (fun i _ => L.length - (intOf i).toNat)
    case atStart => exact ⟨0, [b], Sm.zero, by omega, rfl, HS3, HC3, HW3⟩
    case round =>
     obtain ⟨k, M, m, hk, rfl, HS, HC, HW⟩ := hrel
     clear HS3 HC3 HW3
     by_cases hlt : k < L.length
     ·obtain ⟨bl, off, rfl, -, -, -⟩ := HV.out.open_ (by omega)
      have hh3 : (0 : Int) ≤ (k : Int) := by omega
      have hh4 : (k : Int) < (L.length : Int) := by omega
      have hfk : L[k]? = some (L[k]'hlt) := List.getElem?_eq_getElem _
      generalize L[k]'hlt = d at hfk
      have hall := (HV.out.bel HW.out).all cmOk hfk
      clear hfk
      go_wp2_with (refine St.loadAt cmOk rfl (.tmp 45) rfl ⟨bl, off + k * 10, none⟩ rfl hall ?_)
      refine (HS.out.apply HW.out HK.out (by omega) d).mono ?_
      rintro e w4 ⟨M4, r4, rfl, -, hs4, hk4⟩
      have HS4 := Lib.hid hs4
      have HC4 := Lib.hid (hk4.in_ HC.out (by simp))
      have HW4 := Lib.hid hk4.bel
      clear hs4 hk4 hall
      go_wp2_with fail
      go_roundw
      case rel => exact ⟨k + 1, M4, _, by omega, by go_num, HS4, HC4, HW4⟩
      case measure => simp [intOf]; omega
     ·obtain rfl : k = L.length := by omega
      have HIF := Lib.hid (last_if (m := m) HRT.out)
      have HWG : Hid (w.heap.size ≤ wr.heap.size) := Lib.hid HW.out.size
      have q0 : wr.cell? ⟨g3, 0, none⟩ = some (.int .i64 c.client) := (CmAt.of HC.out).c0
      have q1 : wr.cell? ⟨g3, 1, none⟩ = some (.int .i64 c.seq) := (CmAt.of HC.out).c1
      have hla := fun q : Nat => slast_any c.client (HS.out.up (bwN (w := wr) q)).st
      rw [HIF.out] at hla
      obtain ⟨x, hx⟩ : ∃ x, x = m.seq c.client.toNat := ⟨_, rfl⟩
      rw [← hx] at hla
      have HX := Lib.hid hx
      clear hx hlt hk HV HC4
      by_cases hge : c.seq ≤ x
      ·go_wp2_with fail
       go_quiet (first | (go_at_call 17; exact (hla _).mono fun _ _ ⟨h1, h2⟩ => ⟨h1, _, h2.symm⟩))
       have hbn := bwN (w := wr) nq
       have HSn := Lib.hid (HS.out.up hbn)
       have HCn := Lib.hid (HC.out.up hbn)
       have HWn := Lib.hid (bwstep HW.out hbn)
       clear q0 q1 hla hbn
       generalize wr.drewN nq = wn at *
       by_cases heq : x = c.seq
       ·have hee : (x == c.seq) = true := by simpa using heq
        have q0 : wn.cell? ⟨g3, 0, none⟩ = some (.int .i64 c.client) := (CmAt.of HCn.out).c0
        have q1 : wn.cell? ⟨g3, 1, none⟩ = some (.int .i64 c.seq) := (CmAt.of HCn.out).c1
        have hla := fun q : Nat => slast_any c.client (HSn.out.up (bwN (w := wn) q)).st
        rw [HIF.out, ← HX.out] at hla
        clear heq
        go_wp2_with fail
        go_quiet (first | (go_at_call 17; exact (hla _).mono fun _ _ ⟨h1, h2⟩ => ⟨h1, _, h2.symm⟩))
        have hbn := bwstep HWn.out (bwN (w := wn) nq)
        go_wp2_with fail
        go_ret
        exact ⟨rfl, hbn⟩
       ·have hee : (x == c.seq) = false := by simpa using heq
        have HER := Lib.hid (Sm.apply_lt (m := m) HRT.out (by have := HX.out; omega))
        have hd : Below wn.heap.size wn wn.drew := (Below.refl _ _).drew
        have HSd := Lib.hid (HSn.out.up hd)
        have HWd := Lib.hid (bwstep HWn.out hd)
        have HT := Lib.hid (o11_of (HCn.out.up hd))
        clear heq hd
        go_wp2_with fail
        refine wp_region_held_drew (S := fun z => cmD.In g3 c z ∧ z.cell? ⟨g3, 0, none⟩ = some (.int .i64 c.client) ∧ z.cell? ⟨g3, 1, none⟩ = some (.int .i64 c.seq)) (by kernel_rfl) HT.out (fun hHeld => ?_)
        refine takeL 0 (h := ?_)
        refine takeL 1 (h := ?_)
        refine takeL 2 (h := ?_)
        refine takeL 4 (h := ?_)
        refine takeL 5 (h := ?_)
        refine wpAnyH_ready (rs := [3]) (by kernel_rfl) (by simp) ?_
        refine AllReadyH.cons (o := _) (by simp only [List.getElem?_toArray, List.getElem?_cons_succ, List.getElem?_cons_zero]; rfl) (fun K hK => ?_) AllReadyH.nil
        go_simp
        go_at_call 17
        refine (slast_any c.client HSd.out.st).mono ?_
        rintro e wl ⟨rfl, rfl⟩
        rw [HIF.out, ← HX.out]
        refine hK.out _ _ hHeld (fun hHeld => ?_)
        clear hK K
        ((try simp only [Act.put]); (try simp only [List.setIfInBounds_toArray]); (try simp only [List.set_cons_succ]); (try simp only [List.set_cons_zero]))
        refine takeL 6 (h := ?_)
        refine takeL 7 (h := ?_)
        refine takeL 8 (h := ?_)
        refine takeL 9 (hy := by intro z hSz; exact St.run_opLoad cmOk (.tmp 4) rfl rfl hSz.1) (h := ?_)
        refine wpAnyH_ready (rs := [10]) (by kernel_rfl) (by simp) ?_
        refine AllReadyH.cons (o := _) (by simp only [List.getElem?_toArray, List.getElem?_cons_succ, List.getElem?_cons_zero]; rfl) (fun K hK => ?_) AllReadyH.nil
        go_simp
        go_at_call 14
        refine (HSd.out.apply HWd.out HK.out (by omega) c).mono ?_
        rintro e w6 ⟨M6, r6, rfl, hr6, -, hk6⟩
        rw [HER.out] at hr6
        have hri := rv_eta r6 hr6.e hr6.did hr6.value
        have HWf := Lib.hid hk6.bel
        have hI6 := hk6.in_ hHeld.1 (by simp)
        refine hK.out _ _ (o11_of hI6) (fun hHeld => ?_)
        clear hr6 hk6 hI6 hK K
        ((try simp only [Act.put]); (try simp only [List.setIfInBounds_toArray]); (try simp only [List.set_cons_succ]); (try simp only [List.set_cons_zero]))
        refine takeL 11 (hy := by intro z hSz; exact run_opRpE (x := .tmp 65) (r := r6) rfl (by rfl)) (h := ?_)
        rw [hri]
        clear hri
        dsimp only
        refine takeL 12 (h := ?_)
        refine takeL 13 (h := ?_)
        refine takeL 14 (h := ?_)
        refine wpAnyH_done (by kernel_rfl) ?_ _
        clear hHeld
        go_wp2_with fail
        go_ret
        exact ⟨rfl, HWf.out⟩
      ·have hnew := Sm.apply_new (m := m) HRT.out (by have := HX.out; omega)
       have HNS := Lib.hid hnew.1
       have HNR := Lib.hid hnew.2
       go_wp2_with fail
       go_quiet (first | (go_at_call 17; exact (hla _).mono fun _ _ ⟨h1, h2⟩ => ⟨h1, _, h2.symm⟩))
       have hbn := bwN (w := wr) nq
       have HSn := Lib.hid (HS.out.up hbn)
       have hcn := HC.out.up hbn
       have HWn := Lib.hid (bwstep HW.out hbn)
       clear q0 q1 hla hbn hnew HS HC HW HIF HX
       generalize wr.drewN nq = wn at *
       go_wp2_with (refine St.load cmOk rfl (.tmp 4) rfl rfl hcn ?_)
       refine (HSn.out.apply2 HWn.out HK.out (by omega) c).mono ?_
       rintro e w6 ⟨M6, r6, B6, rfl, hB6, hr6, hs6, hk6⟩
       have hsn := hs6 (Value.slice r6.a r6.n r6.c).ownBlock.toList fun k hk => by
        have := hr6.cells.lt k (by simpa using hk)
        exact ⟨this.1, this.2⟩
       have HI6 := Lib.hid (⟨hr6.e, hr6.did, hr6.value, (hr6.cells.rd (S := []) (fun _ h => by cases h)).apart fun k hk hm => hsn.x k (by simp [hk]) hm⟩ : RpIs w6 M6 r6 (m.apply c).2)
       have HS6 := Lib.hid (hsn.less (X' := [g3]) (by simp))
       have HC6 := Lib.hid (hk6.in_ hcn (by simp))
       have HW6 := Lib.hid hk6.bel
       have HFR := Lib.hid (Sm.apply_few (c := c) HSn.out.st.few)
       obtain ⟨n6, hn6e⟩ : ∃ n6, n6 = L.length + 1 := ⟨_, rfl⟩
       have HN6 : Hid (n6 ≤ 51) := Lib.hid (by omega)
       have HNS' := HNS.out
       have HNR' := HNR.out
       generalize (m.apply c).2 = R at *
       generalize (m.apply c).1 = m1 at *
       rw [← hn6e] at HS6
       clear hn6e hr6 hs6 hk6 hcn HSn HNS HNR hB6 hsn
       go_wp2_with (refine St.alloc rpOk rfl rfl ?_)
       constructor
       intro w7 hx7 hb7 hz7
       clear hz7
       have HS7 := Lib.hid (HS6.out.add hb7 (Nat.le_refl _) hx7.lt)
       have HC7 := Lib.hid (HC6.out.up hb7)
       have HB7 := Lib.hid hb7
       have HW7 := Lib.hid (bwstep HW6.out hb7)
       have HG7 : Hid (g3 < w6.heap.size) := Lib.hid HC6.out.lt
       clear hb7 HC6
       go_wp2_with (refine St.store rpOk (c := r6) rfl (.tmp 9) (.tmp 71) rfl rfl rfl hx7 ?_)
       constructor
       intro w8 hs8
       have HX8 := Lib.hid hs8.i
       have HC8 := Lib.hid (hs8.up HC7.out (Nat.ne_of_lt HG7.out))
       have HS8 := Lib.hid (HS7.out.turn (St.Sp.Set.kp hs8 (by simp)))
       have HW8 := Lib.hid (hs8.bel HW7.out HW6.out.size)
       have HI8 := Lib.hid (HI6.out.bel (hs8.bel HB7.out (Nat.le_refl _)))
       clear hs8 hx7 HS7 HC7 HW7 HB7 HS6
       have HGR : Hid (g3 < w6.heap.size ∧ w.heap.size ≤ w6.heap.size) := Lib.hid ⟨HG7.out, HW6.out.size⟩
       clear HG7 HI6
       generalize w6.heap.size = gr at *
       have HM8 : Hid (m1.seq c.client.toNat = c.seq ∧ m1.rep c.client.toNat = R) := Lib.hid ⟨HNS', HNR'⟩
       clear HNS' HNR' hge
       go_wp2_with fail
       go_loopw [10] (fun i wr => ∃ (k : Nat) (M : List Nat) (m : Sm), k ≤ L2.length ∧ i = .int .i64 (k : Int) ∧ Hid (OneS w wr [gr, g3] M b m (n6 + k)) ∧ Hid (m.seq c.client.toNat = c.seq ∧ m.rep c.client.toNat = R) ∧ Hid (rpD.In gr r6 wr) ∧ Hid (cmD.In g3 c wr) ∧ Hid (RpIs wr M r6 R) ∧ Hid (Below w.heap.size w wr)) (fun i _ => L2.length - (intOf i).toNat)
       case atStart => exact ⟨0, M6, m1, by omega, rfl, HS8, HM8, HX8, HC8, HI8, HW8⟩
       case round =>
        obtain ⟨k, M, m, hk, rfl, HS, HMM, HX, HC, HI, HW⟩ := hrel
        clear HS8 HM8 HX8 HC8 HI8 HW8
        have hn6 := HN6.out
        by_cases hlt : k < L2.length
        ·obtain ⟨bl, off, rfl, -, -, -⟩ := HV2.out.open_ (by omega)
         have hh3 : (0 : Int) ≤ (k : Int) := by omega
         have hh4 : (k : Int) < (L2.length : Int) := by omega
         have hfk : L2[k]? = some (L2[k]'hlt) := List.getElem?_eq_getElem _
         generalize L2[k]'hlt = d at hfk
         have HVD := Lib.hid (fun z (hz : Below w.heap.size w z) => (HV2.out.bel hz).all cmOk hfk)
         have p0 : wr.cell? ⟨bl, off + k * 10, none⟩ = some (.int .i64 d.client) := by
          have := HVD.out _ HW.out 0 _ rfl
          rw [Addr.add_lit, Nat.add_zero] at this
          exact this
         have q0 : wr.cell? ⟨g3, 0, none⟩ = some (.int .i64 c.client) := (CmAt.of HC.out).c0
         clear hfk
         by_cases hcl : d.client = c.client
         ·have hqq : (d.client == c.client) = true := by simpa using hcl
          have hqn : (d.client != c.client) = false := by simpa using hcl
          clear hcl
          go_wp2_with fail
          go_quiet (fail)
          have hbn := bwN (w := wr) nq
          clear p0 q0
          go_wp2_with fail
          go_roundw
          case rel => exact ⟨k + 1, M, m, by omega, by go_num, Lib.hid ((HS.out.up hbn).mono (by omega)), HMM, Lib.hid (HX.out.up hbn), Lib.hid (HC.out.up hbn), Lib.hid (HI.out.bel hbn), Lib.hid (bwstep HW.out hbn)⟩
          case measure => simp [intOf]; omega
         ·have hqq : (d.client == c.client) = false := by simpa using hcl
          have hqn : (d.client != c.client) = true := by simpa using hcl
          obtain ⟨a1, a2⟩ := Sm.apply_other (m := m) HRT.out hcl
          have HMM2 : Hid ((m.apply d).1.seq c.client.toNat = c.seq ∧ (m.apply d).1.rep c.client.toNat = R) := Lib.hid ⟨a1.trans HMM.out.1, a2.trans HMM.out.2⟩
          clear hcl a1 a2
          go_wp2_with fail
          go_quiet (fail)
          have hbn := bwN (w := wr) nq
          have HSn := Lib.hid (HS.out.up hbn)
          have HXn := Lib.hid (HX.out.up hbn)
          have HCn := Lib.hid (HC.out.up hbn)
          have HIn := Lib.hid (HI.out.bel hbn)
          have HWn := Lib.hid (bwstep HW.out hbn)
          have hall := HVD.out _ HWn.out
          clear p0 q0 hbn HS HX HC HI HW
          generalize wr.drewN nq = wn at *
          go_wp2_with (refine St.loadAt cmOk rfl (.tmp 89) rfl ⟨bl, off + k * 10, none⟩ rfl hall ?_)
          refine (HSn.out.apply HWn.out HK.out (by omega) d).mono ?_
          rintro e w9 ⟨M9, r9, rfl, -, hs9, hk9⟩
          have HS9 := Lib.hid (hs9.mono (n' := n6 + (k + 1)) (by omega))
          have HX9 := Lib.hid (hk9.in_ HXn.out (by simp))
          have HC9 := Lib.hid (hk9.in_ HCn.out (by simp))
          have HI9 := Lib.hid (HIn.out.up hk9.kp hk9.new)
          have HW9 := Lib.hid hk9.bel
          clear hs9 hk9 hall
          go_wp2_with fail
          go_roundw
          case rel => exact ⟨k + 1, M9, _, by omega, by go_num, HS9, HMM2, HX9, HC9, HI9, HW9⟩
          case measure => simp [intOf]; omega
        ·obtain rfl : k = L2.length := by omega
         clear hlt hk HV2
         have HAG := Lib.hid (Sm.apply_again HRT.out HMM.out.1)
         rw [HMM.out.2] at HAG
         have HOL := Lib.hid (Sm.apply_old HMM.out.1)
         have HFC : Hid (m.cells.length ≤ 1000000000) := Lib.hid (Nat.le_trans HS.out.st.good.le (by omega))
         obtain ⟨n9, hn9⟩ : ∃ n9, n9 = n6 + L2.length := ⟨_, rfl⟩
         have HN9 : Hid (n9 ≤ 101) := Lib.hid (by omega)
         rw [← hn9] at HS
         clear hn9 hn6
         go_wp2_with fail
         refine (scells_any HS.out.st).mono ?_
         rintro e w10 ⟨⟨x11, rfl, hx10⟩, hb10⟩
         have HS10 := Lib.hid (HS.out.up hb10)
         have HR10 := Lib.hid (hx10.rd (S := M) fun k hk => (HS.out.st.sub k hk).2)
         have HX10 := Lib.hid (HX.out.up hb10)
         have hc10 := HC.out.up hb10
         have HI10 := Lib.hid (HI.out.bel hb10)
         have HW10 := Lib.hid (bwstep HW.out hb10)
         clear hx10 hb10 HS HX HC HI HW
         go_wp2_with (refine St.load cmOk rfl (.tmp 4) rfl rfl hc10 ?_)
         refine (HS10.out.apply2 HW10.out HK.out (by have := HN9.out; omega) c).mono ?_
         rintro e w11 ⟨M11, r11, B11, rfl, hB11, hr11, hs11, hk11⟩
         rw [HAG.out] at hr11 hs11
         have hsn := hs11 (Value.slice r11.a r11.n r11.c).ownBlock.toList fun k hk => by
          have := hr11.cells.lt k (by simpa using hk)
          exact ⟨this.1, this.2⟩
         have HA11 := Lib.hid (⟨hr11.e, hr11.did, hr11.value, (hr11.cells.rd (S := []) (fun _ h => by cases h)).apart fun k hk hm => hsn.x k (by simp [hk]) hm⟩ : RpIs w11 M11 r11 R)
         have HS11 : Hid (OneS w w11 [gr, g3] M11 b m (n9 + 1)) := Lib.hid (hsn.less (by simp))
         have HX11 := Lib.hid (hk11.in_ HX10.out (by simp))
         have HC11 := Lib.hid (hk11.in_ hc10 (by simp))
         have HI11 := Lib.hid (HI10.out.up hk11.kp hk11.new)
         have HR11 := Lib.hid (HR10.out.up hk11.kp hk11.new)
         have HW11 := Lib.hid hk11.bel
         clear hr11 hs11 hk11 hc10 hsn hB11 HS10 HX10 HI10 HR10 HW10
         go_wp2_with (refine St.alloc rpOk rfl rfl ?_)
         constructor
         intro w12 ha12 hb12 hz12
         clear hz12
         have HS12 := Lib.hid (HS11.out.add hb12 (Nat.le_refl _) ha12.lt)
         have HX12 := Lib.hid (HX11.out.up hb12)
         have HC12 := Lib.hid (HC11.out.up hb12)
         have HB12 := Lib.hid hb12
         have HW12 := Lib.hid (bwstep HW11.out hb12)
         have HGA : Hid (gr < w11.heap.size ∧ g3 < w11.heap.size ∧ w.heap.size ≤ w11.heap.size) := Lib.hid ⟨HX11.out.lt, HC11.out.lt, HW11.out.size⟩
         clear hb12 HX11 HC11 HS11
         go_wp2_with (refine St.store rpOk (c := r11) rfl (.tmp 12) (.tmp 96) rfl rfl rfl ha12 ?_)
         constructor
         intro w13 hs13
         have HA13 := Lib.hid hs13.i
         have HX13 := Lib.hid (hs13.up HX12.out (Nat.ne_of_lt HGA.out.1))
         have HC13 := Lib.hid (hs13.up HC12.out (Nat.ne_of_lt HGA.out.2.1))
         have HS13 := Lib.hid (HS12.out.turn (St.Sp.Set.kp hs13 (by simp)))
         have HB13 := Lib.hid (hs13.bel HB12.out (Nat.le_refl _))
         have HW13 := Lib.hid (hs13.bel HW12.out HGA.out.2.2)
         have HIA13 := Lib.hid (HA11.out.bel HB13.out)
         have HI13 := Lib.hid (HI11.out.bel HB13.out)
         have HR13 := Lib.hid (HR11.out.bel HB13.out)
         have hc13 := HC13.out
         clear hs13 ha12 HX12 HC12 HS12 HB12 HW12 HB13 HI11 HR11 HA11
         generalize w11.heap.size = ga at *
         go_wp2_with (first | refine St.load cmOk rfl (.tmp 4) rfl rfl hc13 ?_ | refine St.alloc cmOk rfl rfl ?_)
         constructor
         intro w14 ho14 hb14 hz14
         clear hz14
         have HS14 := Lib.hid (HS13.out.add hb14 (Nat.le_refl _) ho14.lt)
         have HX14 := Lib.hid (HX13.out.up hb14)
         have HA14 := Lib.hid (HA13.out.up hb14)
         have HC14 := Lib.hid (HC13.out.up hb14)
         have HB14 := Lib.hid hb14
         have HW14 := Lib.hid (bwstep HW13.out hb14)
         have HGO : Hid (gr < w13.heap.size ∧ g3 < w13.heap.size ∧ ga < w13.heap.size ∧ w.heap.size ≤ w13.heap.size) := Lib.hid ⟨HX13.out.lt, HC13.out.lt, HA13.out.lt, HW13.out.size⟩
         clear hb14 hc13 HX13 HC13 HS13 HA13
         go_wp2_with (refine St.store cmOk (c := c) rfl (.tmp 13) (.tmp 97) rfl rfl rfl ho14 ?_)
         constructor
         intro w15 hs15
         have HO15 := Lib.hid hs15.i
         have HX15 := Lib.hid (hs15.up HX14.out (Nat.ne_of_lt HGO.out.1))
         have HC15 := Lib.hid (hs15.up HC14.out (Nat.ne_of_lt HGO.out.2.1))
         have HA15 := Lib.hid (hs15.up HA14.out (Nat.ne_of_lt HGO.out.2.2.1))
         have HS15 := Lib.hid (HS14.out.turn (St.Sp.Set.kp hs15 (by simp)))
         have HB15 := Lib.hid (hs15.bel HB14.out (Nat.le_refl _))
         have HW15 := Lib.hid (hs15.bel HW14.out HGO.out.2.2.2)
         have q1 : w15.cell? ⟨g3, 1, none⟩ = some (.int .i64 c.seq) := (CmAt.of HC15.out).c1
         have q2 : w15.cell? ⟨w13.heap.size, 1, none⟩ = some (.int .i64 c.seq) := (CmAt.of HO15.out).c1
         have f2 := HO15.out.fz 1
         have hsq1 : 1 ≤ c.seq := HRT.out.1.s1
         have hsq2 : c.seq ≤ 2147483647 := HRT.out.1.s2
         have hsw : IntKind.i64.wrap (c.seq - 1) = c.seq - 1 := IntWalk.i64_in _ (by omega)
         have hset := old_set HO15.out
         have ho16 := hset.i
         have HX16 := Lib.hid (hset.up HX15.out (Nat.ne_of_lt HGO.out.1))
         have HC16 := Lib.hid (hset.up HC15.out (Nat.ne_of_lt HGO.out.2.1))
         have HA16 := Lib.hid (hset.up HA15.out (Nat.ne_of_lt HGO.out.2.2.1))
         have HS16 := Lib.hid (HS15.out.turn (St.Sp.Set.kp hset (by simp)))
         have HB16 := Lib.hid (hset.bel HB15.out (Nat.le_refl _))
         have HW16 := Lib.hid (hset.bel HW15.out HGO.out.2.2.2)
         have HIA16 := Lib.hid (HIA13.out.bel HB16.out)
         have HI16 := Lib.hid (HI13.out.bel HB16.out)
         have HR16 := Lib.hid (HR13.out.bel HB16.out)
         clear hs15 ho14 hset HX14 HA14 HC14 HS14 HB14 HW14 HO15 HX15 HC15 HA15 HS15 HB15 HB16 HIA13 HI13 HR13
         go_wp2_with (refine St.load cmOk (c := c.old) rfl (.tmp 13) rfl rfl ho16 ?_)
         generalize w15.setCell ⟨w13.heap.size, 1, none⟩ (.int .i64 (c.seq - 1)) = w16 at *
         refine (HS16.out.apply HW16.out HK.out (by have := HN9.out; omega) c.old).mono ?_
         rintro e w17 ⟨M17, r17, rfl, hr17, hs17, hk17⟩
         rw [HOL.out] at hr17 hs17
         have hri := rv_eta r17 hr17.e hr17.did hr17.value
         obtain ⟨Aq, hAq⟩ : ∃ A, A = r17.a := ⟨_, rfl⟩
         obtain ⟨nq, hnq⟩ : ∃ n, n = r17.n := ⟨_, rfl⟩
         obtain ⟨cq, hcq⟩ : ∃ n, n = r17.c := ⟨_, rfl⟩
         rw [← hAq, ← hnq, ← hcq] at hri
         clear hAq hnq hcq hr17
         subst hri
         have HS17 := Lib.hid hs17
         have HX17 := Lib.hid (hk17.in_ HX16.out (by simp))
         have HC17 := Lib.hid (hk17.in_ HC16.out (by simp))
         have HA17 := Lib.hid (hk17.in_ HA16.out (by simp))
         have HIA17 := Lib.hid (HIA16.out.up (S' := []) hk17.kp (fun _ h => by cases h))
         have HI17 := Lib.hid (HI16.out.up (S' := []) hk17.kp (fun _ h => by cases h))
         have HR17 := Lib.hid (HR16.out.up (S' := []) hk17.kp (fun _ h => by cases h))
         have HW17 := Lib.hid hk17.bel
         clear hs17 hk17 ho16 q1 q2 f2 hsw HS16 HX16 HC16 HA16 HIA16 HI16 HR16 HW16
         go_wp2_with (refine St.alloc rpOk rfl rfl ?_)
         constructor
         intro w18 hq18 hb18 hz18
         clear hz18
         have HS18 := Lib.hid (HS17.out.add hb18 (Nat.le_refl _) hq18.lt)
         have HX18 := Lib.hid (HX17.out.up hb18)
         have HA18 := Lib.hid (HA17.out.up hb18)
         have HC18 := Lib.hid (HC17.out.up hb18)
         have HB18 := Lib.hid hb18
         have HW18 := Lib.hid (bwstep HW17.out hb18)
         have HGQ : Hid (gr < w17.heap.size ∧ g3 < w17.heap.size ∧ ga < w17.heap.size ∧ w.heap.size ≤ w17.heap.size) := Lib.hid ⟨HX17.out.lt, HC17.out.lt, HA17.out.lt, HW17.out.size⟩
         clear hb18 HX17 HC17 HS17 HA17
         go_wp2_with (refine St.store rpOk (c := ⟨1, false, ⟨#[]⟩, Aq, nq, cq⟩) rfl (.tmp 14) (.tmp 104) rfl rfl rfl hq18 ?_)
         constructor
         intro w19 hs19
         have hX19 := hs19.up HX18.out (Nat.ne_of_lt HGQ.out.1)
         have hC19 := hs19.up HC18.out (Nat.ne_of_lt HGQ.out.2.1)
         have hA19 := hs19.up HA18.out (Nat.ne_of_lt HGQ.out.2.2.1)
         have hS19 := HS18.out.turn (St.Sp.Set.kp hs19 (by simp))
         have hB19 := hs19.bel HB18.out (Nat.le_refl _)
         have hW19 := hs19.bel HW18.out HGQ.out.2.2.2
         have hd : Below w19.heap.size w19 w19.drew := (Below.refl _ _).drew
         have HT := Lib.hid (o23_of (hX19.up hd) (hA19.up hd) (hs19.i.up hd) (hC19.up hd))
         have HSd := Lib.hid (hS19.up hd)
         have HWd := Lib.hid (bwstep hW19 hd)
         have HRr := Lib.hid ((HI17.out.bel hB19).bel hd)
         have HRa := Lib.hid ((HIA17.out.bel hB19).bel hd)
         have HRw := Lib.hid ((HR17.out.bel hB19).bel hd)
         have HIF : Hid ((if 1 ≤ c.client ∧ c.client ≤ 16 then m.seq c.client.toNat else 0) = c.seq) := Lib.hid ((last_if HRT.out).trans HMM.out.1)
         clear hs19 hq18 hX19 hC19 hA19 hS19 hB19 hW19 hd HX18 HA18 HC18 HB18 HW18 HS18
         generalize w17.heap.size = gq at *
         go_wp2_with fail
         refine wp_region_held_drew (S := fun z => rpD.In gr r6 z ∧ rpD.In ga r11 z ∧ rpD.In gq ⟨1, false, ⟨#[]⟩, Aq, nq, cq⟩ z ∧ cmD.In g3 c z ∧ z.cell? ⟨g3, 0, none⟩ = some (.int .i64 c.client) ∧ z.cell? ⟨g3, 1, none⟩ = some (.int .i64 c.seq) ∧ z.cell? ⟨gq, 0, none⟩ = some (.int .i64 1)) (by kernel_rfl) HT.out (fun hHeld => ?_)
         refine takeL 0 (hy := by intro z hSz; exact St.run_opLoad rpOk (.tmp 9) rfl rfl hSz.1) (h := ?_)
         refine takeL 1 (hy := by intro z hSz; exact St.run_opLoad rpOk (.tmp 12) rfl rfl hSz.2.1) (h := ?_)
         refine wpAnyH_ready (rs := [2]) (by kernel_rfl) (by simp) ?_
         refine AllReadyH.cons (o := _) (by simp only [List.getElem?_toArray, List.getElem?_cons_succ, List.getElem?_cons_zero]; rfl) (fun K hK => ?_) AllReadyH.nil
         go_simp
         go_at_call 18
         refine (ssame_any r6 r11 R R _ HRr.out HRa.out HFR.out).mono ?_
         rintro e wa ⟨rfl, hba⟩
         have HBa := Lib.hid hba
         rw [decide_eq_true rfl]
         refine hK.out _ _ (o23_of (hHeld.1.up hba) (hHeld.2.1.up hba) (hHeld.2.2.1.up hba) (hHeld.2.2.2.1.up hba)) (fun hHeld => ?_)
         clear hba hK K
         ((try simp only [Act.put]); (try simp only [List.setIfInBounds_toArray]); (try simp only [List.set_cons_succ]); (try simp only [List.set_cons_zero]))
         refine takeL 3 (h := ?_)
         refine takeL 4 (hy := by intro z hSz; exact St.run_opLoad rpOk (.tmp 9) rfl rfl hSz.1) (h := ?_)
         refine takeL 5 (hy := by intro z hSz; exact St.run_opLoad rpOk (.tmp 12) rfl rfl hSz.2.1) (h := ?_)
         refine wpAnyH_ready (rs := [6]) (by kernel_rfl) (by simp) ?_
         refine AllReadyH.cons (o := _) (by simp only [List.getElem?_toArray, List.getElem?_cons_succ, List.getElem?_cons_zero]; rfl) (fun K hK => ?_) AllReadyH.nil
         go_simp
         go_at_call 13
         refine (rsame16_any r6 r11 R R _ (HRr.out.bel HBa.out) (HRa.out.bel HBa.out) HFR.out).mono ?_
         rintro e wb ⟨rfl, hbb⟩
         have HBb := Lib.hid (bwstep HBa.out hbb)
         rw [decide_eq_true rfl]
         refine hK.out _ _ (o23_of (hHeld.1.up hbb) (hHeld.2.1.up hbb) (hHeld.2.2.1.up hbb) (hHeld.2.2.2.1.up hbb)) (fun hHeld => ?_)
         clear hbb hK K
         ((try simp only [Act.put]); (try simp only [List.setIfInBounds_toArray]); (try simp only [List.set_cons_succ]); (try simp only [List.set_cons_zero]))
         refine takeL 7 (h := ?_)
         refine takeL 8 (h := ?_)
         refine takeL 9 (h := ?_)
         refine takeL 11 (h := ?_)
         have HSb := Lib.hid (HSd.out.up HBb.out)
         refine wpAnyH_ready (rs := [10]) (by kernel_rfl) (by simp) ?_
         refine AllReadyH.cons (o := _) (by simp only [List.getElem?_toArray, List.getElem?_cons_succ, List.getElem?_cons_zero]; rfl) (fun K hK => ?_) AllReadyH.nil
         go_simp
         go_at_call 16
         refine (scells_any HSb.out.st).mono ?_
         rintro e wc' ⟨⟨x8, rfl, hx8⟩, hbc⟩
         have HX8 := Lib.hid (hx8.rd (S := []) (fun _ h => by cases h))
         have HBc := Lib.hid (bwstep HBb.out hbc)
         refine hK.out _ _ (o23_of (hHeld.1.up hbc) (hHeld.2.1.up hbc) (hHeld.2.2.1.up hbc) (hHeld.2.2.2.1.up hbc)) (fun hHeld => ?_)
         clear hx8 hbc hK K
         ((try simp only [Act.put]); (try simp only [List.setIfInBounds_toArray]); (try simp only [List.set_cons_succ]); (try simp only [List.set_cons_zero]))
         refine wpAnyH_ready (rs := [12]) (by kernel_rfl) (by simp) ?_
         refine AllReadyH.cons (o := _) (by simp only [List.getElem?_toArray, List.getElem?_cons_succ, List.getElem?_cons_zero]; rfl) (fun K hK => ?_) AllReadyH.nil
         go_simp
         go_at_call 15
         refine (rsameL_any x8 x11 m.cells m.cells _ HX8.out (HRw.out.bel HBc.out) HFC.out).mono ?_
         rintro e we ⟨rfl, hbe⟩
         have HBe := Lib.hid (bwstep HBc.out hbe)
         rw [decide_eq_true rfl]
         refine hK.out _ _ (o23_of (hHeld.1.up hbe) (hHeld.2.1.up hbe) (hHeld.2.2.1.up hbe) (hHeld.2.2.2.1.up hbe)) (fun hHeld => ?_)
         clear hbe hK K
         ((try simp only [Act.put]); (try simp only [List.setIfInBounds_toArray]); (try simp only [List.set_cons_succ]); (try simp only [List.set_cons_zero]))
         have HSe := Lib.hid (HSd.out.up HBe.out)
         refine takeL 13 (h := ?_)
         refine takeL 14 (h := ?_)
         refine takeL 15 (h := ?_)
         refine takeL 16 (h := ?_)
         refine takeL 17 (h := ?_)
         refine takeL 19 (h := ?_)
         refine takeL 20 (h := ?_)
         refine wpAnyH_ready (rs := [18]) (by kernel_rfl) (by simp) ?_
         refine AllReadyH.cons (o := _) (by simp only [List.getElem?_toArray, List.getElem?_cons_succ, List.getElem?_cons_zero]; rfl) (fun K hK => ?_) AllReadyH.nil
         go_simp
         go_at_call 17
         refine (slast_any c.client HSe.out.st).mono ?_
         rintro e wl ⟨rfl, rfl⟩
         rw [HIF.out]
         refine hK.out _ _ hHeld (fun hHeld => ?_)
         clear hK K
         ((try simp only [Act.put]); (try simp only [List.setIfInBounds_toArray]); (try simp only [List.set_cons_succ]); (try simp only [List.set_cons_zero]))
         refine takeL 21 (h := ?_)
         refine takeL 22 (h := ?_)
         refine takeL 23 (h := ?_)
         refine takeL 24 (h := ?_)
         refine takeL 25 (h := ?_)
         refine takeL 26 (h := ?_)
         refine takeL 27 (h := ?_)
         refine takeL 28 (h := ?_)
         refine wpAnyH_done (by kernel_rfl) ?_ _
         clear hHeld
         have HWz := Lib.hid (bwstep HWd.out HBe.out)
         go_wp2_with fail
         go_ret
         exact ⟨rfl, HWz.out⟩
   ·rw [decide_eq_false hr]
    clear hr
    go_wp2_with fail
    refine (awake16_ok _ (HK.out.up HW4.out)).mono ?_
    rintro e w5 ⟨rfl, hbw5⟩
    have HWx := Lib.hid (bwstep HW4.out hbw5)
    go_wp2_with fail
    go_ret
    exact ⟨rfl, HWx.out⟩
end Go.Proofs.YtcpkhhbbjimdaaaGreatDoor.Ce
