/- Layer 16, StateKeeps. -/
import Derived.Test.YtcpkhhbbjimdaaaGreatDoorSaZ
import Derived.Deep.Cut
import Derived.Deep.RegionHeld3
import Derived.BigQuiet
set_option maxHeartbeats 8000000
set_option maxRecDepth 100000
namespace Go.Proofs.YtcpkhhbbjimdaaaGreatDoor.Ce
open Go.RowKit
theorem Sm.keeps_again {m : Sm} {c : Cm} (hr : c.Right) (he : (m.apply c).2.e = 0) : ((m.apply c).1.apply c).2 = (m.apply c).2 := by
 rw [Sm.apply_yes (m := m) hr] at he ⊢
 by_cases h1 : c.seq < m.seq c.client.toNat
 ·rw [show m.app c = (m, Rp.err) from if_pos h1] at he
  cases he
 ·by_cases h2 : c.seq = m.seq c.client.toNat
  ·have e : m.app c = (m, m.rep c.client.toNat) := by unfold Sm.app; rw [if_neg h1, if_pos h2]
   rw [e]
   show (m.apply c).2 = _
   rw [Sm.apply_yes hr, e]
  ·obtain ⟨q1, q2⟩ := Sm.app_new (m := m) (c := c) (by omega)
   rw [Sm.apply_yes hr, (Sm.app_again q1).2, q2]
structure KeepX (w0 : World) (X M : List Nat) (gx g3 b n : Nat) (m : Sm) (c : Cm) (r : Rv) (was : Value) (V : List Cl) (B : Nat) (wr : World) : Prop where
 one : OneS w0 wr X M b m n
 bel : Below w0.heap.size w0 wr
 ix : rpD.In gx r wr
 ic : cmD.In g3 c wr
 own : ∃ Y : List Cl, Y.length = r.n ∧ OwL wr B (.slice r.a r.n r.c) Y
 rd : RdL wr (X ++ M) was V
theorem KeepX.step {w0 wr wz : World} {X M : List Nat} {gx g3 b n g k : Nat} {cur : Array Value} {m : Sm} {c : Cm} {r : Rv} {was : Value} {V Y : List Cl} {B : Nat} (h : KeepX w0 X M gx g3 b n m c r was V B wr) (_hY : OwL wr B (.slice r.a r.n r.c) Y) (hYn : Y.length = r.n) (hra : r.a = some ⟨g, 0, none⟩) (hgX : g ∈ X) (hgx : gx ≠ g) (hg3 : g3 ≠ g) (hBg : B ≤ g) (hw0 : w0.heap.size ≤ B)
  (hk : k < r.n) (hc : r.n ≤ r.c) (hm : r.c ≤ maxLen) (hcs : cur.size = r.c * 5) (ht : cur.toList.take (r.n * 5) = flat5 Y) (hT : Turned g (cpd cur (k * 5) [Cl.zero]) wr wz) : KeepX w0 X M gx g3 b n m c r was V B wz := by
 have hkp : Kp X wr wz := Kp.grown hT.grown fun k e => by injection e with e; rw [← e]; exact hgX
 have hbel : Below w0.heap.size w0 wz := h.bel.trans (hT.b.mono (Nat.le_trans hw0 hBg))
 have hs := OwL.stored (c := Cl.zero) (B := B) hBg (by rw [hYn]; exact hk) (by rw [hYn]; exact hc) hm hcs (by rw [hYn]; exact ht) hT
 rw [hYn] at hs
 refine ⟨h.one.turn hkp, hbel, ⟨(hT.o gx hgx).trans h.ix.h⟩, ⟨(hT.o g3 hg3).trans h.ic.h⟩, ⟨Y.set k Cl.zero, by rw [List.length_set, hYn], by rw [hra]; exact hs⟩, h.rd.up (Kp.more hkp fun k hk => List.mem_append.2 (.inl hk)) fun k hk => .inl hk⟩
theorem stateKeeps_walk (v : Value) (L : List Cm) (c : Cm) (w : World) (hv : St.RdS cmD w [] v L) (hk : Kd w) :
  Calls Tryz.prog 7 #[v, c.v] w fun e w' => e = .returned (.bool true) ∧ Below w.heap.size w w' := by
 obtain ⟨A, cp, rfl, hcp, hcm⟩ := hv.shape
 unfold maxLen at hcm
 have HV := Lib.hid hv
 have HK := Lib.hid hk
 clear hv hk
 go_enter Tryz.func7, Tryz.ntmps7
 go_wp2_with (refine St.box cmD rfl (.tmp 1) c rfl rfl ?_)
 constructor
 intro w1 hI1 hb1 hz1
 clear hz1
 have HC1 := Lib.hid hI1
 have HW1 := Lib.hid hb1
 clear hI1 hb1
 go_wp2_with fail
 refine (awake16_ok _ (HK.out.up HW1.out)).mono ?_
 rintro e w2 ⟨rfl, hb2⟩
 have HC2 := Lib.hid (HC1.out.up hb2)
 have HW2 := Lib.hid (bwstep HW1.out hb2)
 clear hb2
 go_wp2_with fail
 refine (few16_any _ L _ (HV.out.bel HW2.out)).mono ?_
 rintro e w3 ⟨⟨q, rfl, hq⟩, rfl⟩
 cases q
 ·clear hq
  go_wp2_with fail
  refine (awake16_ok _ (HK.out.up HW2.out)).mono ?_
  rintro e w4 ⟨rfl, hbw4⟩
  have HWx := Lib.hid (bwstep HW2.out hbw4)
  go_wp2_with fail
  go_ret
  exact ⟨rfl, HWx.out⟩
 ·have hl50 := (hq rfl).1
  clear hq
  have hc2 := HC2.out
  go_wp2_with (refine St.load cmOk rfl (.tmp 3) rfl rfl hc2 ?_)
  refine (rright15_any c _).mono ?_
  rintro e w4 ⟨rfl, hb4⟩
  have HC4 := Lib.hid (hc2.up hb4)
  have HW4 := Lib.hid (bwstep HW2.out hb4)
  clear hb4 hc2 HC2 HW2 HC1 HW1
  by_cases hr : c.Right
  ·rw [decide_eq_true hr]
   have HRT := Lib.hid hr
   clear hr
   have HG3 : Hid (w.heap.size < w4.heap.size) := Lib.hid HC4.out.lt
   generalize hg3 : w.heap.size = g3 at HC4 HG3
   have HG3' := Lib.hid hg3
   clear hg3
   go_wp2_with fail
   refine (new_oneX w [g3] (by simpa using HG3.out) HW4.out).mono ?_
   rintro e w5 ⟨b, rfl, hs5, hb5, hlt5, hbb5⟩
   have HS3 := Lib.hid hs5
   have HC3 := Lib.hid (HC4.out.up hbb5)
   have HW3 := Lib.hid (bwstep HW4.out hbb5)
   clear hs5 hb5 hbb5 hlt5
   go_wp2_with fail
   go_loopw [6] (fun i wr => ∃ (k : Nat) (M : List Nat) (m : Sm), k ≤ L.length ∧ i = .int .i64 (k : Int) ∧ Hid (OneS w wr [g3] M b m k) ∧ Hid (cmD.In g3 c wr) ∧ Hid (Below w.heap.size w wr)) (fun i _ => L.length - (intOf i).toNat)
   case atStart => exact ⟨0, [b], Sm.zero, by omega, rfl, HS3, HC3, HW3⟩
   case round =>
    obtain ⟨k, M, m, hk, rfl, HS, HC, HW⟩ := hrel
    clear HS3 HC3 HW3
    by_cases hlt : k < L.length
    ·obtain ⟨bl, off, rfl, -, -, -⟩ := HV.out.open_ (by omega)
     have hh3 : (0 : Int) ≤ (k : Int) := by omega
     have hh4 : (k : Int) < (L.length : Int) := by omega
     have hfk : L[k]? = some (L[k]'hlt) := List.getElem?_eq_getElem _
     generalize L[k]'hlt = d at hfk
     have hall := (HV.out.bel HW.out).all cmOk hfk
     clear hfk
     go_wp2_with (refine St.loadAt cmOk rfl (.tmp 36) rfl ⟨bl, off + k * 10, none⟩ rfl hall ?_)
     refine (HS.out.apply HW.out HK.out (by omega) d).mono ?_
     rintro e w4 ⟨M4, r4, rfl, -, hs4, hk4⟩
     have HS4 := Lib.hid hs4
     have HC4 := Lib.hid (hk4.in_ HC.out (by simp))
     have HW4 := Lib.hid hk4.bel
     clear hs4 hk4 hall
     go_wp2_with fail
     go_roundw
     case rel => exact ⟨k + 1, M4, _, by omega, by go_num, HS4, HC4, HW4⟩
     case measure => simp [intOf]; omega
    ·obtain rfl : k = L.length := by omega
     have hcr := HC.out
     have HWG : Hid (w.heap.size ≤ wr.heap.size) := Lib.hid HW.out.size
     clear hlt hk HV HC4
     go_wp2_with (refine St.load cmOk rfl (.tmp 3) rfl rfl hcr ?_)
     refine (HS.out.apply2 HW.out HK.out (by omega) c).mono ?_
     rintro e w6 ⟨M6, r6, B6, rfl, hB6, hr6, hs6, hk6⟩
     have HO6 := Lib.hid hr6
     have HC6 := Lib.hid (hk6.in_ hcr (by simp))
     have HS6 := Lib.hid (hs6 (Value.slice r6.a r6.n r6.c).ownBlock.toList fun k hk => by
      have := hr6.cells.lt k (by simpa using hk)
      exact ⟨this.1, this.2⟩)
     have HW6 := Lib.hid hk6.bel
     have HBW : Hid (w.heap.size ≤ B6) := Lib.hid (Nat.le_trans HWG.out hB6)
     have HGB : Hid (g3 < B6) := Lib.hid (Nat.lt_of_lt_of_le hcr.lt hB6)
     have HAG : Hid ((m.apply c).2.e = 0 → (((m.apply c).1.apply c).2 = (m.apply c).2)) := Lib.hid fun h => Sm.keeps_again HRT.out h
     have HFW : Hid ((m.apply c).2.cells.length ≤ 1000000000) := Lib.hid (Sm.apply_few HS.out.st.few)
     have HFW2 : Hid (((m.apply c).1.apply c).2.cells.length ≤ 1000000000) := Lib.hid (Sm.apply_few (hs6 [] (by simp)).st.few)
     generalize (m.apply c).2 = R at *
     generalize (m.apply c).1 = m1 at *
     obtain ⟨n6, hn6e⟩ : ∃ n6, n6 = L.length + 1 := ⟨_, rfl⟩
     have hn6 : n6 ≤ 51 := by omega
     rw [← hn6e] at HS6
     clear hn6e
     clear hr6 hs6 hk6 hB6 HS HC HW HWG hcr
     go_wp2_with (refine St.alloc rpOk rfl rfl ?_)
     constructor
     intro w7 hx7 hb7 hz7
     clear hz7
     have HS7 := Lib.hid (HS6.out.add hb7 (Nat.le_refl _) hx7.lt)
     have HC7 := Lib.hid (HC6.out.up hb7)
     have HB7 := Lib.hid hb7
     have HW7 := Lib.hid (bwstep HW6.out hb7)
     have HG7 : Hid (g3 < w6.heap.size) := Lib.hid HC6.out.lt
     have HON : Hid (∀ k, (Value.slice r6.a r6.n r6.c).ownBlock = some k → B6 ≤ k ∧ k < w6.heap.size) := Lib.hid fun k hk => HO6.out.cells.lt k hk
     clear hb7 HS6 HC6
     go_wp2_with (refine St.store rpOk (c := r6) rfl (.tmp 7) (.tmp 41) rfl rfl rfl hx7 ?_)
     constructor
     intro w8 hs8
     have HX8 := Lib.hid hs8.i
     have HC8 := Lib.hid (hs8.up HC7.out (Nat.ne_of_lt HG7.out))
     have HS8 := Lib.hid (HS7.out.turn (St.Sp.Set.kp hs8 (by simp)))
     have HB8 := Lib.hid (hs8.bel HB7.out (Nat.le_refl _))
     have HW8 := Lib.hid (hs8.bel HW7.out HW6.out.size)
     have HO8 := Lib.hid (HO6.out.cells.below HB8.out)
     have c3 := rv_c3 HX8.out
     clear hs8 hx7 HS7 HC7 HW7 HB7
     have hr8 := HO8.out.rd (S := []) (fun _ h => by cases h)
     have hr9 := hr8.bel (bwalloc (bwrefl w8) (.cells #[] 47))
     have ho9 : OwL (w8.alloc (.cells #[] 47)) w8.heap.size (.slice (some ⟨w8.heap.size, 0, none⟩) 0 0) [] := OwL.empty w8 (Nat.le_refl _) _ rfl
     have hlA : ([] : List Cl).length + R.cells.length ≤ 2199023255552 := by have := HFW.out; simp; omega
     have hB9 := (bwalloc (bwrefl w8) (.cells #[] 47)).size
     have c3' := (rv_c3 (HX8.out.up (bwalloc (bwrefl w8) (.cells #[] 47))))
     clear hr8
     go_wp2_with (at_builtin; refine wpList_appL rfl (.tmp 42) (.tmp 44) rfl rfl ho9 rfl hr9 hlA hB9 ?_; intro v9 w9 hv9 hg9 _; rw [List.nil_append] at hv9; have HV9 := Lib.hid hv9; have HB9 := Lib.hid ((bwalloc (bwrefl w8) (.cells #[] 47)).grown hg9 hB9 (fun k hk => (ho9.lt k hk).1)); have c3 := rv_c3 (HX8.out.up HB9.out); clear hv9 hg9 ho9 hr9)
     have hrn : r6.n = R.cells.length := by
      obtain ⟨A', c', e, -, -⟩ := (HO6.out.cells.rd (S := []) (fun _ h => by cases h)).shape
      injection e
     have hcap : r6.n ≤ r6.c ∧ r6.c ≤ maxLen := by
      obtain ⟨A', c', e, h1, h2⟩ := (HO6.out.cells.rd (S := []) (fun _ h => by cases h)).shape
      injection e with _ e1 e2
      subst e2
      exact ⟨by omega, h2⟩
     have HCAP := Lib.hid hcap
     have HRE := Lib.hid HO6.out.e
     obtain ⟨X, hX⟩ : ∃ X, X = w6.heap.size :: ((Value.slice r6.a r6.n r6.c).ownBlock.toList ++ [g3]) := ⟨_, rfl⟩
     have HXO : Hid (∀ g, (Value.slice r6.a r6.n r6.c).ownBlock = some g → g ∈ X) := Lib.hid fun g hg => by rw [hX]; simp [hg]
     have HX1 : Hid (w6.heap.size ∈ X) := Lib.hid (by rw [hX]; simp)
     have hS8 := HS8.out
     rw [← hX] at hS8
     have HK9 : Hid (KeepX w X M6 w6.heap.size g3 b n6 m1 c r6 v9 R.cells B6 w9) := Lib.hid ⟨hS8.up HB9.out, bwstep HW8.out HB9.out, HX8.out.up HB9.out, HC8.out.up HB9.out, ⟨R.cells, hrn.symm, HO8.out.below HB9.out⟩, HV9.out.rd fun k hk => hS8.st.slt k hk⟩
     have HN6 : Hid (n6 ≤ 51) := Lib.hid hn6
     generalize hgx : w6.heap.size = gx at *
     clear hgx hX hrn hcap hS8 c3 c3' hlA hB9 HS8 HX8 HC8 HO8 HV9 HB9 HW8 HB8 HO6 hn6
     go_wp2_with fail
     go_loopw [9] (fun i wr => ∃ k : Nat, k ≤ r6.n ∧ i = .int .i64 (k : Int) ∧ Hid (KeepX w X M6 gx g3 b n6 m1 c r6 v9 R.cells B6 wr)) (fun i _ => r6.n - (intOf i).toNat)
     case atStart => exact ⟨0, by omega, rfl, HK9⟩
     case round =>
      obtain ⟨k, hk, rfl, HKX⟩ := hrel
      clear HK9
      by_cases hlt : k < r6.n
      ·have hh3 : (0 : Int) ≤ (k : Int) := by omega
       have hh4 : (k : Int) < (r6.n : Int) := by omega
       have hmx : r6.n ≤ 9223372036854775807 := by
        have h1 := HCAP.out.1
        have h2 := HCAP.out.2
        unfold maxLen at h2
        omega
       obtain ⟨Y, hYn, hY⟩ := HKX.out.own
       obtain ⟨g, cap, cur, e, hBg, hgc, h1, h2, hcs, ht⟩ := hY.open_ (by omega)
       injection e with ea en ec
       have hfit : k * 5 + [Cl.zero].length * 5 ≤ cur.size := by rw [hcs]; simp; omega
       have HSTEP : Hid (∀ wz, Turned g (cpd cur (k * 5) [Cl.zero]) wr wz → KeepX w X M6 gx g3 b n6 m1 c r6 v9 R.cells B6 wz) := Lib.hid fun wz hT => HKX.out.step hY hYn ea (HXO.out g (by rw [ea]; rfl)) (by have := (HON.out g (by rw [ea]; rfl)).2; omega) (by have := HGB.out; omega) hBg HBW.out hlt HCAP.out.1 HCAP.out.2 (by rw [ec]; exact hcs) (by rw [← hYn]; exact ht) hT
       have c3 := rv_c3 HKX.out.ix
       rw [ea] at c3
       have HGC := Lib.hid hgc
       have HFIT := Lib.hid hfit
       clear hY hYn ea en ec hBg hgc h1 h2 hcs ht hfit
       go_wp2_with (refine wpList_storeAt (c := Cl.zero) (g := g) (n := k * 5) rfl (.tmp 57) (.tmp 56) rfl (by simp [Act.eval]) rfl HGC.out HFIT.out ?_)
       constructor
       intro wz hT
       have HKZ := Lib.hid (HSTEP.out wz hT)
       clear hT HSTEP HGC HFIT c3
       go_wp2_with fail
       go_roundw
       case rel => exact ⟨k + 1, by omega, by go_num, HKZ⟩
       case measure => simp [intOf]; omega
      ·have c3 := rv_c3 HKX.out.ix
       have hh4 : ¬ (k : Int) < (r6.n : Int) := by omega
       have hcr := HKX.out.ic
       go_wp2_with (refine St.load cmOk rfl (.tmp 3) rfl rfl hcr ?_)
       refine (HKX.out.one.apply HKX.out.bel HK.out (by have := HN6.out; omega) c).mono ?_
       rintro e w10 ⟨M10, r10, rfl, hr10, hs10, hk10⟩
       have HO10 := Lib.hid hr10
       have HX10 := Lib.hid (hk10.in_ HKX.out.ix HX1.out)
       have HWAS := Lib.hid (HKX.out.rd.up (S' := []) (Kp.more hk10.kp fun k hk => List.mem_append.2 (.inr hk)) (fun _ h => by cases h))
       have HW10 := Lib.hid hk10.bel
       clear hr10 hs10 hk10 hcr c3
       go_wp2_with (refine St.alloc rpOk rfl rfl ?_)
       constructor
       intro w11 hy11 hb11 hz11
       clear hz11
       have HX11 := Lib.hid (HX10.out.up hb11)
       have HB11 := Lib.hid hb11
       have HW11 := Lib.hid (bwstep HW10.out hb11)
       have HLX := Lib.hid HX10.out.lt
       clear hb11
       go_wp2_with (refine St.store rpOk (c := r10) rfl (.tmp 10) (.tmp 60) rfl rfl rfl hy11 ?_)
       constructor
       intro w12 hs12
       have HB12 := Lib.hid (hs12.bel HB11.out (Nat.le_refl _))
       have HW12 := Lib.hid (hs12.bel HW11.out HW10.out.size)
       have d0 : w12.cell? ⟨gx, 0, none⟩ = some (.int .i64 R.e) := by
        rw [← HRE.out]
        exact (hs12.up HX11.out (Nat.ne_of_lt HLX.out)).at_ rfl
       have d3 := rv_c3 hs12.i
       clear hs12 hy11
       by_cases he : R.e = 0
       ·have hee : (R.e != 0) = false := by simp [he]
        have hrs := fun z h1 h2 => rsameL_any (.slice r10.a r10.n r10.c) v9 R.cells R.cells z h1 h2 HFW.out
        have hr12 : RdL w12 [] (.slice r10.a r10.n r10.c) R.cells := by
         have := (HO10.out.cells.below HB12.out).rd (S := []) (fun _ h => by cases h)
         rw [HAG.out he] at this
         exact this
        rw [he] at d0
        clear hee
        go_wp2_with fail
        refine (hrs _ hr12 (HWAS.out.bel HB12.out)).mono ?_
        rintro e w13 ⟨rfl, hb13⟩
        have HW13 := Lib.hid (bwstep HW12.out hb13)
        simp only [decide_true]
        clear hb13 hr12 hrs d0 d3
        go_wp2_with fail
        go_ret
        exact ⟨rfl, HW13.out⟩
       ·have hee : (R.e == 0) = false := by simpa using he
        have hee2 : (R.e != 0) = true := by simpa using he
        go_wp2_with fail
        go_ret
        exact ⟨rfl, HW12.out⟩
  ·rw [decide_eq_false hr]
   clear hr
   go_wp2_with fail
   refine (awake16_ok _ (HK.out.up HW4.out)).mono ?_
   rintro e w5 ⟨rfl, hbw5⟩
   have HWx := Lib.hid (bwstep HW4.out hbw5)
   go_wp2_with fail
   go_ret
   exact ⟨rfl, HWx.out⟩
end Go.Proofs.YtcpkhhbbjimdaaaGreatDoor.Ce
