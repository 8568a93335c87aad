/- Apply of a new command. A new state; a client's last number; a state's cells. Layer 16's law: few. One state beside a law's own variables; what a call of Apply leaves. Layer 16's law: awake. What a reply has; a state's value carried on. -/
import Derived.Test.YtcpkhhbbjimdaaaGreatDoorSaY
import Derived.Deep.Cut
import Derived.Deep.RegionHeld3
import Derived.Test.YtcpkhhbbjimdaaaGreatDoorCmX
import Derived.Test.YtcpkhhbbjimdaaaGreatDoorRpX
import Derived.Test.YtcpkhhbbjimdaaaGreatDoorCmY
set_option maxHeartbeats 8000000
set_option maxRecDepth 100000
namespace Go.Proofs.YtcpkhhbbjimdaaaGreatDoor.Ce
open Go.RowKit
section
variable {P : Program} {w : World} {b : Nat} {o : Oper} {a : Act} {K0 : Act → World → Prop} {Q : Exit → Act → World → Prop}
theorem wp_deed (h : w.heap[b]? = some (.map deedsA 5)) {n : Nat} (hn : n < 5) {f : FuncId} (hf : deedsA[n]? = some (deedE n f)) (m k : Operand) (ho : o.op = .lookup 76 m k false) (hm : a.eval m = .map (some b)) (q : Int) (hk : a.eval k = .int .i64 q) (hq : q = ((n + 1 : Nat) : Int))
  (hh : K0 (a.put o.dst (.agg #[.func (.func f) #[] #[]])) w) : o.wp Tryz.prog a w K0 Q := by
 subst hq
 unfold Oper.wp execOp
 simp only [ho, hm, hk, Sem.run_bind, Sem.run_pure, run_deed h hn hf, Result.andThen_ok]
 exact hh
theorem run_opDeed {x : Operand} {f : FuncId} (ho : o.op = .field 75 x 0) (hx : a.eval x = .agg #[.func (.func f) #[] #[]]) : (execOp a.eval o).run Tryz.prog w = .ok (.value (.func (.func f) #[] #[])) w := by
 have hr : (Instr.field 75 (.agg #[.func (.func f) #[] #[]]) 0).run Tryz.prog w = .ok (.func (.func f) #[] #[]) w := by kernel_rfl
 unfold execOp
 simp only [ho, hx, Sem.run_bind, Sem.run_pure, hr, Result.andThen_ok]
end
theorem doR_few (L : List Cl) (c : Cm) : (doR L c).cells.length ≤ 20 := by
 show (if c.kind = 5 then (someP c.row c.to_ c.at_ L).take 20 else []).length ≤ 20
 split
 ·rw [List.length_take]; omega
 ·simp
theorem upd_self {α : Type} (f : Nat → α) (i : Nat) (x : α) : upd f i x i = x := by simp [upd]
theorem RpOw.keepN {w w' : World} {B : Nat} {r : Rv} {R : Rp} {N : List Nat} (h : RpOw w B r R) (hk : Kp N w w') (hn : ∀ k, (Value.slice r.a r.n r.c).ownBlock = some k → k ∉ N) : RpOw w' B r R := ⟨h.e, h.did, h.value, h.cells.keepN hk hn⟩
theorem apply_end {w w1 wd w7 w8 w9 w10 w11 w12 : World} {S M M' : List Nat} {b n : Nat} {m : Sm} {c : Cm} {rv : Nat → Rv} {t' : Tr} {K' : List Cl} {r8 r11 : Rv} (hst : StAt w S M b m n) (hr : c.Right) (hE : m.app c = (⟨doL m.cells c, upd m.seq c.client.toNat c.seq, upd m.rep c.client.toNat (doR m.cells c)⟩, doR m.cells c)) (hrp : ∀ i, RpIs w S (rv i) (m.rep i))
  (hbw : Below w.heap.size w wd) (hN : ∀ k ∈ [w.heap.size, w1.heap.size], w.heap.size ≤ k ∧ k < wd.heap.size) (hlt : ∀ k ∈ M, k < w.heap.size) (hbM : b ∈ M) (hA : TreeAt (stH m.seq rv) w7 (M' ++ ([w.heap.size, w1.heap.size] ++ S)) M' b shf t') (hP : Kp M wd w7) (hM : ∀ k ∈ M', k ∈ M ∨ wd.heap.size ≤ k) (hg' : GoodT shf t' K') (hkn : K'.length ≤ n + 1 ∧ szs K' ≤ 401 * (K'.length : Int)) (htc : t'.cells = doL m.cells c)
  (hb8 : Below w7.heap.size w7 w8) (hk9 : Kp [b] w8 w9) (hk10 : Kp [b] w9 w10) (hA10 : TreeAt (stH (upd m.seq c.client.toNat c.seq) (upd rv c.client.toNat r8)) w10 (M' ++ ([w.heap.size, w1.heap.size] ++ S)) M' b shf t') (hR10 : RpOw w10 w7.heap.size r8 (doR m.cells c)) (hb11 : Below w10.heap.size w10 w11) (hs12 : Kp [w.heap.size, w1.heap.size] w11 w12) (hRR : RpOw w12 w10.heap.size r11 (doR m.cells c)) :
  AppEndS w S M b (m.app c).1 (m.app c).2 (n + 1) (.returned r11.v) w12 := by
 have hb1 : ∀ k ∈ [b], k ∈ M := fun k hk => by rw [List.mem_singleton.1 hk]; exact hbM
 have hKM : Kp M wd w10 := ((hP.bel hb8).trans hk9 fun k hk => .inl (hb1 k hk)).trans hk10 fun k hk => .inl (hb1 k hk)
 have hK12 : Kp [w.heap.size, w1.heap.size] w10 w12 := (Kp.of_below hb11 _).trans hs12 fun _ h => .inl h
 obtain ⟨-, d2, d3⟩ := TreeAt.done hbw hN hlt hA10 hKM hM hK12
 have hMS : ∀ k ∈ M, k ∈ S := fun k hk => (hst.sub k hk).1
 have hS' : ∀ k ∈ M' ++ S, k ∈ S ∨ w.heap.size ≤ k := fun k hk => by
  rcases List.mem_append.1 hk with q | q
  ·exact (d3 k q).imp (hMS k) id
  ·exact .inl q
 have z7 := hP.size
 have z10 := hb8.size
 have z1 := hbw.size
 have hlt7 : ∀ k ∈ M' ++ S, k < w7.heap.size := fun k hk => by
  rcases List.mem_append.1 hk with q | q
  ·exact (tree_sub hA k q).2
  ·have := hst.slt k q
   omega
 have hgood := Sm.app_good (c := c) hst.good hr
 have z9 := hk9.size
 have z11 := hk10.size
 have hne : ∀ k ∈ [w.heap.size, w1.heap.size], k ∉ M' := fun k hk hm => by
  rcases hM k hm with q | q
  ·have := hlt k q; have := (hN k hk).1; omega
  ·have := (hN k hk).2; omega
 have hb7 : ∀ k ∈ M' ++ ([w.heap.size, w1.heap.size] ++ S), k < w7.heap.size := fun k hk => tree_slt hA k hk
 have hR10' := hR10.is hb7
 have hex : ∀ N : List Nat, (∀ k ∈ N, w10.heap.size ≤ k ∧ k < w12.heap.size) → StAt w12 (N ++ (M' ++ S)) M' b ⟨doL m.cells c, upd m.seq c.client.toNat c.seq, upd m.rep c.client.toNat (doR m.cells c)⟩ (n + 1) := fun N hNN => by
  rw [hE] at hgood
  refine ⟨⟨_, t', K', tree_keep hA10 hK12 (fun k hk => .inl ⟨?_, hne k hk⟩) (fun k hk => ?_) (fun k hk => ?_) (fun k hk => ?_), hg', hkn, htc, fun i => ?_⟩, hgood, fun i => ?_⟩
  ·exact List.mem_append.2 (.inr (List.mem_append.2 (.inl hk)))
  ·rcases List.mem_append.1 hk with q | q
   ·exact .inr (hNN k q).1
   ·rcases List.mem_append.1 q with q | q
    ·exact .inl (List.mem_append.2 (.inl q))
    ·exact .inl (List.mem_append.2 (.inr (List.mem_append.2 (.inr q))))
  ·exact List.mem_append.2 (.inr (List.mem_append.2 (.inl hk)))
  ·rcases List.mem_append.1 hk with q | q
   ·exact (hNN k q).2
   ·have := hlt7 k q
    have := hK12.size
    omega
  ·show RpIs w12 (N ++ (M' ++ S)) (upd rv c.client.toNat r8 i) (upd m.rep c.client.toNat (doR m.cells c) i)
   unfold upd
   by_cases hi : i = c.client.toNat
   ·rw [if_pos hi, if_pos hi]
    refine hR10'.up (Kp.more hK12 fun k hk => List.mem_append.2 (.inr (List.mem_append.2 (.inl hk)))) fun k hk => ?_
    rcases List.mem_append.1 hk with q | q
    ·exact .inr (hNN k q).1
    ·rcases List.mem_append.1 q with q | q
     ·exact .inl (List.mem_append.2 (.inl q))
     ·exact .inl (List.mem_append.2 (.inr (List.mem_append.2 (.inr q))))
   ·rw [if_neg hi, if_neg hi]
    refine (hrp i).up ⟨d2.os, d2.tape, d2.output, d2.size, fun k hk hn => d2.block k hk fun q => hn (hMS k q)⟩ fun k hk => ?_
    rcases List.mem_append.1 hk with q | q
    ·have := (hNN k q).1
     exact .inr (by omega)
    ·exact hS' k q
  ·show (upd m.rep c.client.toNat (doR m.cells c) i).cells.length ≤ 20
   unfold upd
   split
   ·exact doR_few _ _
   ·exact hst.few i
 rw [hE]
 exact ⟨M', r11, rfl, hRR.mono (by omega), hex [] (by simp), d2, d3, w10.heap.size, by omega, hRR, fun k hk => by have := hlt7 k (by simp [hk]); omega, hex⟩
theorem s7_of {g3 : Nat} {c : Cm} {z : World} (h : cmD.In g3 c z) : cmD.In g3 c z ∧ z.cell? ⟨g3, 1, none⟩ = some (.int .i64 c.seq) ∧ z.cell? ⟨g3, 2, none⟩ = some (.int .i64 c.kind) := ⟨h, (CmAt.of h).c1, (CmAt.of h).c2⟩
theorem apply_gt {w : World} {S M : List Nat} {b n : Nat} {m : Sm} (c : Cm) (h : StAt w S M b m n) (hk : Kd w) {k : Nat} {f : FuncId} (hk5 : k < 5) (hf : deedsA[k]? = some (deedE k f)) (hent : ∀ (args : Array Value) (W : World), (callFunc f args).run Tryz.prog W = .ok (.enter f args) W) (hdo : ∀ (H : Hos) (t : Tr) (K : List Cl) (W : World) (S0 : List Nat), TreeAt H W S0 M b shf t → GoodT shf t K → K.length ≤ n → szs K ≤ 401 * (K.length : Int) → Calls Tryz.prog f #[.pointer (some ⟨b, 0, none⟩), c.v] W (DoEnd H W S0 M b t.cells c n)) (hr : c.Right) (hq : m.seq c.client.toNat < c.seq) (hck : c.kind = ((k + 1 : Nat) : Int)) :
  Calls Tryz.prog 14 #[.pointer (some ⟨b, 0, none⟩), c.v] w (AppEndS w S M b (m.app c).1 (m.app c).2 (n + 1)) := by
 have HRT := Lib.hid (fun w hk => cright_any c w hk)
 have HK := Lib.hid hk
 have HST := Lib.hid h
 clear h hk
 rw [decide_eq_true hr] at HRT
 have h0 : (0 : Int) ≤ c.client := by have := hr.1.c1; omega
 have h17 : c.client < 17 := by have := hr.1.c2; omega
 have hn17 : c.client.toNat < 17 := by omega
 have HRT2 := Lib.hid hr
 have hn1 : ¬ c.seq < m.seq c.client.toNat := by omega
 have HE : Hid (m.app c = (⟨doL m.cells c, upd m.seq c.client.toNat c.seq, upd m.rep c.client.toNat (doR m.cells c)⟩, doR m.cells c)) := Lib.hid (by unfold Sm.app; rw [if_neg (by omega), if_neg (by omega)])
 obtain ⟨rv, t, K, ht, hg, hKn, htc, hrp⟩ := HST.out.ex
 have HT := Lib.hid ht
 have HRP := Lib.hid hrp
 have HLT : Hid (∀ k ∈ M, k < w.heap.size) := Lib.hid fun k hk => (tree_sub ht k hk).2
 have HDO : Hid (∀ W S0, TreeAt (stH m.seq rv) W S0 M b shf t → Calls Tryz.prog f #[.pointer (some ⟨b, 0, none⟩), c.v] W (DoEnd (stH m.seq rv) W S0 M b m.cells c n)) := Lib.hid fun W S0 hW => htc ▸ hdo _ t K W S0 hW hg hKn.1 hKn.2
 have HCK := Lib.hid hck
 have HENT := Lib.hid hent
 clear ht hrp hg hKn htc hr hdo hck hent
 go_enter Tryz.func14, Tryz.ntmps14
 go_wp2_with (refine St.box cmD rfl (.tmp 1) c rfl rfl ?_)
 constructor
 intro w1 hI1 hb1 hz1
 clear hz1
 go_wp2_with (refine St.alloc rpOk rfl rfl ?_)
 constructor
 intro w2 hJ2 hb2 hz2
 clear hz2
 have HL1 := Lib.hid hI1.lt
 have HL2 := Lib.hid hJ2.lt
 have HB2 := Lib.hid (bwstep hb1 hb2)
 have hI2 := hI1.up hb2
 clear hI1 hb1 hb2
 go_wp2_with (refine St.load cmOk rfl (.tmp 3) rfl rfl hI2 ?_)
 refine (HRT.out _ (HK.out.up HB2.out)).mono ?_
 rintro e w3 ⟨rfl, hb3⟩
 have HI3 := Lib.hid (hI2.up hb3)
 have HJ3 := Lib.hid (hJ2.up hb3)
 have HB3 := Lib.hid (bwstep HB2.out hb3)
 clear hI2 hJ2 hb3 HB2
 have q1 : w3.cell? ⟨w.heap.size, 1, none⟩ = some (.int .i64 c.seq) := (CmAt.of HI3.out).c1
 have q2 : w3.cell? ⟨b, 7 + c.client.toNat * 5, none⟩ = some (.int .i64 (m.seq c.client.toNat)) := (HT.out.up HB3.out).seqC hn17
 have q0 : w3.cell? ⟨w.heap.size, 0, none⟩ = some (.int .i64 c.client) := (CmAt.of HI3.out).c0
 go_wp2_with fail
 go_quiet (fail)
 have hbn := bwN (w := w3) nq
 have HI4 := Lib.hid (HI3.out.up hbn)
 have HJ4 := Lib.hid (HJ3.out.up hbn)
 have HB4 := Lib.hid (bwstep HB3.out hbn)
 clear q1 q2 hbn HI3 HJ3 HB3 q0
 generalize w3.drewN nq = w4 at *
 have q1 : w4.cell? ⟨w.heap.size, 1, none⟩ = some (.int .i64 c.seq) := (CmAt.of HI4.out).c1
 have q2 : w4.cell? ⟨b, 7 + c.client.toNat * 5, none⟩ = some (.int .i64 (m.seq c.client.toNat)) := (HT.out.up HB4.out).seqC hn17
 go_wp2_with fail
 go_quiet (fail)
 have hbn := bwN (w := w4) nq
 have HI5 := Lib.hid (HI4.out.up hbn)
 have HJ5 := Lib.hid (HJ4.out.up hbn)
 have HB5 := Lib.hid (bwstep HB4.out hbn)
 clear q1 q2 hbn HI4 HJ4 HB4
 generalize w4.drewN nq = w5 at *
 have q1 : w5.cell? ⟨w.heap.size, 1, none⟩ = some (.int .i64 c.seq) := (CmAt.of HI5.out).c1
 have q2 : w5.cell? ⟨b, 7 + c.client.toNat * 5, none⟩ = some (.int .i64 (m.seq c.client.toNat)) := (HT.out.up HB5.out).seqC hn17
 go_wp2_with fail
 go_quiet (fail)
 have hbn := bwN (w := w5) nq
 have HI6 := Lib.hid (HI5.out.up hbn)
 have HJ6 := Lib.hid (HJ5.out.up hbn)
 have HB6 := Lib.hid (bwstep HB5.out hbn)
 clear q1 q2 hbn HI5 HJ5 HB5
 generalize w5.drewN nq = w6 at *
 have HMD := Lib.hid (Below.refl w6.heap.size w6).drew
 have hs6 : cmD.In w.heap.size c w6.drew ∧ w6.drew.cell? ⟨w.heap.size, 1, none⟩ = some (.int .i64 c.seq) ∧ w6.drew.cell? ⟨w.heap.size, 2, none⟩ = some (.int .i64 c.kind) := s7_of (HI6.out.up HMD.out)
 go_wp2_with fail
 refine wp_region_held_drew (S := fun z => cmD.In w.heap.size c z ∧ z.cell? ⟨w.heap.size, 1, none⟩ = some (.int .i64 c.seq) ∧ z.cell? ⟨w.heap.size, 2, none⟩ = some (.int .i64 c.kind)) (by kernel_rfl) hs6 (fun hHeld => ?_)
 refine takeL 0 (h := ?_)
 refine takeL 1 (h := ?_)
 refine takeL 2 (h := ?_)
 refine takeL 3 (h := ?_)
 refine takeL 5 (h := ?_)
 refine takeL 6 (h := ?_)
 refine takeL 9 (h := ?_)
 refine takeL 10 (hy := by intro z hSz; exact St.run_opLoad cmOk (.tmp 3) rfl rfl hSz.1) (h := ?_)
 refine wpAnyH_ready (rs := [4]) (by kernel_rfl) (by simp) ?_
 refine AllReadyH.cons (o := _) (by simp only [List.getElem?_toArray, List.getElem?_cons_succ, List.getElem?_cons_zero]; rfl) (fun K hK => ?_) AllReadyH.nil
 go_simp
 go_at_call 28
 refine (deeds_any _).mono ?_
 rintro e wd ⟨rfl, hmp, hbd, hzd⟩
 have HBD := Lib.hid (bwstep HMD.out hbd)
 refine hK.out _ _ (s7_of (hHeld.1.up hbd)) (fun hHeld => ?_)
 clear hbd hzd hK K
 ((try simp only [Act.put]); (try simp only [List.setIfInBounds_toArray]); (try simp only [List.set_cons_succ]); (try simp only [List.set_cons_zero]))
 refine wpAnyH_ready (rs := [7]) (by kernel_rfl) (by simp) ?_
 refine AllReadyH.cons (o := _) (by simp only [List.getElem?_toArray, List.getElem?_cons_succ, List.getElem?_cons_zero]; rfl) (fun K hK => ?_) AllReadyH.nil
 rw [if_pos (by rfl)]
 refine wp_deed hmp hk5 hf (.tmp 35) (.tmp 37) rfl rfl c.kind rfl HCK.out ?_
 refine hK.out _ _ hHeld (fun hHeld => ?_)
 clear hmp hK K
 ((try simp only [Act.put]); (try simp only [List.setIfInBounds_toArray]); (try simp only [List.set_cons_succ]); (try simp only [List.set_cons_zero]))
 refine takeL 8 (hy := by intro z hSz; exact run_opDeed (x := .tmp 38) rfl rfl) (h := ?_)
 refine wpAnyH_ready (rs := [11]) (by kernel_rfl) (by simp) ?_
 refine AllReadyH.cons (o := _) (by simp only [List.getElem?_toArray, List.getElem?_cons_succ, List.getElem?_cons_zero]; rfl) (fun K hK => ?_) AllReadyH.nil
 go_simp
 have HBW := Lib.hid (bwstep HB6.out HBD.out)
 have HN : Hid (∀ k ∈ [w.heap.size, w1.heap.size], w.heap.size ≤ k ∧ k < wd.heap.size) := Lib.hid fun k hk => by
  have h1 := HL1.out
  have h2 := HJ6.out.lt
  have h3 := HBD.out.size
  simp only [List.mem_cons, List.not_mem_nil, or_false] at hk
  rcases hk with rfl | rfl
  ·exact ⟨Nat.le_refl _, by omega⟩
  ·exact ⟨by omega, by omega⟩
 rw [HENT.out, Oper.upon_enter]
 refine (HDO.out _ _ (HT.out.more HBW.out _ HN.out)).mono ?_
 rintro e w7 ⟨M', r, t', K', rfl, hri, hA, hg', hkn', htc', hP, hM⟩
 have hne : ∀ g ∈ [w.heap.size, w1.heap.size], g ∉ M := fun g hg hm => by have := HLT.out g hm; have := (HN.out g hg).1; omega
 have hI7 : cmD.In w.heap.size c w7 := ⟨(hP.block _ (HN.out _ (by simp)).2 (hne _ (by simp))).trans hHeld.1.h⟩
 have hJ7 : rpD.In w1.heap.size rpD.z w7 := ⟨(hP.block _ (HN.out _ (by simp)).2 (hne _ (by simp))).trans (HJ6.out.up HBD.out).h⟩
 have HRI := Lib.hid hri
 have HA := Lib.hid hA
 have HG' := Lib.hid hg'
 have HKN := Lib.hid hkn'
 have HTC := Lib.hid htc'
 have HP := Lib.hid hP
 have HM := Lib.hid hM
 have HJ7 := Lib.hid hJ7
 refine hK.out _ _ (s7_of hI7) (fun hHeld => ?_)
 clear hri hA hg' hkn' htc' hP hM hne hI7 hJ7 hK K
 ((try simp only [Act.put]); (try simp only [List.setIfInBounds_toArray]); (try simp only [List.set_cons_succ]); (try simp only [List.set_cons_zero]))
 refine wpAnyH_ready (rs := [12]) (by kernel_rfl) (by simp) ?_
 refine AllReadyH.cons (o := _) (by simp only [List.getElem?_toArray, List.getElem?_cons_succ, List.getElem?_cons_zero]; rfl) (fun K hK => ?_) AllReadyH.nil
 go_simp
 go_at_call 27
 refine (own_any r (doR m.cells c) _ HRI.out (Nat.le_trans (doR_few _ _) (by omega))).mono ?_
 rintro e w8 ⟨⟨r8, rfl, ho8⟩, hb8⟩
 have HO8 := Lib.hid ho8
 have HB8 := Lib.hid hb8
 have HA8 := Lib.hid (HA.out.up hb8)
 have HJ8 := Lib.hid (HJ7.out.up hb8)
 refine hK.out _ _ (s7_of (hHeld.1.up hb8)) (fun hHeld => ?_)
 clear ho8 hb8 hK K
 ((try simp only [Act.put]); (try simp only [List.setIfInBounds_toArray]); (try simp only [List.set_cons_succ]); (try simp only [List.set_cons_zero]))
 refine takeL 13 (h := ?_)
 refine takeL 14 (h := ?_)
 have e1 := HA8.out.seqC hn17
 have f1 := HA8.out.fz (7 + c.client.toNat * 5)
 refine wpAnyH_ready (rs := [15]) (by kernel_rfl) (by simp) ?_
 refine AllReadyH.cons (o := _) (by simp only [List.getElem?_toArray, List.getElem?_cons_succ, List.getElem?_cons_zero]; rfl) (fun K hK => ?_) AllReadyH.nil
 go_simp
 have hset9 := HA8.out.setSeq hn17 c.seq
 have HA9 := Lib.hid hset9.1
 have HK9 := Lib.hid hset9.2
 have hbne : ∀ g ∈ [w.heap.size, w1.heap.size], g ∉ [b] := fun g hg hm => by have := HLT.out b HT.out.bM; have := (HN.out g hg).1; rw [List.mem_singleton.1 hm] at this; omega
 have hI9 := (⟨(HK9.out.block _ hHeld.1.lt (hbne _ (by simp))).trans hHeld.1.h⟩ : cmD.In w.heap.size c (w8.setCell ⟨b, 7 + c.client.toNat * 5, none⟩ (.int .i64 c.seq)))
 have HJ9 := Lib.hid (⟨(HK9.out.block _ HJ8.out.lt (hbne _ (by simp))).trans HJ8.out.h⟩ : rpD.In w1.heap.size rpD.z (w8.setCell ⟨b, 7 + c.client.toNat * 5, none⟩ (.int .i64 c.seq)))
 refine hK.out _ _ (s7_of hI9) (fun hHeld => ?_)
 clear hset9 hI9 hK K e1 f1 hbne
 generalize w8.setCell ⟨b, 7 + c.client.toNat * 5, none⟩ (.int .i64 c.seq) = w9 at *
 ((try simp only [Act.put]); (try simp only [List.setIfInBounds_toArray]); (try simp only [List.set_cons_succ]); (try simp only [List.set_cons_zero]))
 refine takeL 16 (h := ?_)
 refine takeL 17 (h := ?_)
 refine wpAnyH_ready (rs := [18]) (by kernel_rfl) (by simp) ?_
 refine AllReadyH.cons (o := _) (by simp only [List.getElem?_toArray, List.getElem?_cons_succ, List.getElem?_cons_zero]; rfl) (fun K hK => ?_) AllReadyH.nil
 rw [if_pos (by rfl)]
 obtain ⟨cur, hcur, hfit, hset⟩ := HA9.out.openRep hn17
 refine St.wp_storeAt rpOk (c := r8) (.tmp 47) (.tmp 43) rfl rfl rfl hcur hfit ?_
 intro w10 ht10
 obtain ⟨hA10, hk10⟩ := hset r8 w10 ht10
 have HA10 := Lib.hid hA10
 have HK10 := Lib.hid hk10
 have hbne : ∀ g ∈ [w.heap.size, w1.heap.size], g ∉ [b] := fun g hg hm => by have := HLT.out b HT.out.bM; have := (HN.out g hg).1; rw [List.mem_singleton.1 hm] at this; omega
 have hI10 := (⟨(hk10.block _ hHeld.1.lt (hbne _ (by simp))).trans hHeld.1.h⟩ : cmD.In w.heap.size c w10)
 have HJ10 := Lib.hid (⟨(hk10.block _ HJ9.out.lt (hbne _ (by simp))).trans HJ9.out.h⟩ : rpD.In w1.heap.size rpD.z w10)
 refine hK.out _ _ (s7_of hI10) (fun hHeld => ?_)
 clear hcur hfit hset ht10 hA10 hk10 hbne hI10 hK K
 ((try simp only [Act.put]); (try simp only [List.setIfInBounds_toArray]); (try simp only [List.set_cons_succ]); (try simp only [List.set_cons_zero]))
 refine wpAnyH_done (by kernel_rfl) ?_ _
 clear hHeld
 have HR10 : Hid (RpOw w10 w7.heap.size r8 (doR m.cells c)) := Lib.hid (RpOw.keepN HO8.out (Kp.trans HK9.out HK10.out fun _ h => .inl h) fun k hk hm => by
  have := (HO8.out.cells.lt k hk).1
  have := (HT.out.up HBW.out).blt
  have := HP.out.size
  rw [List.mem_singleton.1 hm] at *
  omega)
 have hra := HA10.out.repAll hn17
 rw [upd_self] at hra
 go_wp2_with (refine St.loadAt rpOk rfl (.tmp 50) rfl ⟨b, 7 + c.client.toNat * 5 + 1, none⟩ rfl hra ?_)
 refine (own_any r8 (doR m.cells c) _ (HR10.out.is (fun _ h => by cases h)) (Nat.le_trans (doR_few _ _) (by omega))).mono ?_
 rintro e w11 ⟨⟨r11, rfl, ho11⟩, hb11⟩
 have HO11 := Lib.hid ho11
 have HB11 := Lib.hid hb11
 have hj11 := HJ10.out.up hb11
 clear ho11 hb11 hra
 go_wp2_with (refine St.store rpOk (c := r11) rfl (.tmp 4) (.tmp 52) rfl rfl rfl hj11 ?_)
 constructor
 intro w12 hs12
 have HS12 := Lib.hid (St.Sp.Set.kp hs12 (S := [w.heap.size, w1.heap.size]) (by simp))
 have HRR : Hid (RpOw w12 w10.heap.size r11 (doR m.cells c)) := Lib.hid (RpOw.keepN HO11.out (St.Sp.Set.kp hs12 (S := [w1.heap.size]) (by simp)) fun k hk hm => by
  have := (HO11.out.cells.lt k hk).1
  have := HJ10.out.lt
  rw [List.mem_singleton.1 hm] at *
  omega)
 have hj12 := hs12.i
 clear hs12 hj11
 go_wp2_with fail
 refine bodyPost_ret (St.res1 rpOk Tryz.results14 rfl hj12) rfl ?_
 exact apply_end HST.out HRT2.out HE.out HRP.out HBW.out HN.out HLT.out HT.out.bM HA.out HP.out HM.out HG'.out HKN.out HTC.out HB8.out HK9.out HK10.out HA10.out HR10.out HB11.out HS12.out HRR.out
theorem apply_any {w : World} {S M : List Nat} {b n : Nat} {m : Sm} (c : Cm) (h : StAt w S M b m n) (hk : Kd w) (hn : n ≤ 104) :
  Calls Tryz.prog 14 #[.pointer (some ⟨b, 0, none⟩), c.v] w (AppEndS w S M b (m.apply c).1 (m.apply c).2 (n + 1)) := by
 by_cases hr : c.Right
 ·rw [Sm.apply_yes hr]
  by_cases h1 : c.seq < m.seq c.client.toNat
  ·rw [show m.app c = (m, Rp.err) from if_pos h1]
   exact apply_lt c h hk hr h1
  ·by_cases h2 : c.seq = m.seq c.client.toNat
   ·rw [show m.app c = (m, m.rep c.client.toNat) by unfold Sm.app; rw [if_neg h1, if_pos h2]]
    exact apply_eq c h hk hr h2
   ·have h3 : m.seq c.client.toNat < c.seq := by omega
    have k1 := hr.1.k1
    have k2 := hr.1.k2
    have hc : c.kind = 1 ∨ c.kind = 2 ∨ c.kind = 3 ∨ c.kind = 4 ∨ c.kind = 5 := by omega
    rcases hc with hc | hc | hc | hc | hc
    ·exact apply_gt c h hk (k := 0) (by omega) rfl (fun _ _ => by kernel_rfl) (fun H t K W S0 h1 h2 h3 h4 => do1_any c h1 h2 h3 hn h4 hr hc) hr h3 hc
    ·exact apply_gt c h hk (k := 1) (by omega) rfl (fun _ _ => by kernel_rfl) (fun H t K W S0 h1 h2 h3 h4 => do2_any c h1 h2 h3 hn h4 hr hc) hr h3 hc
    ·exact apply_gt c h hk (k := 2) (by omega) rfl (fun _ _ => by kernel_rfl) (fun H t K W S0 h1 h2 h3 h4 => do3_any c h1 h2 h3 hn h4 hr hc) hr h3 hc
    ·exact apply_gt c h hk (k := 3) (by omega) rfl (fun _ _ => by kernel_rfl) (fun H t K W S0 h1 h2 h3 h4 => do4_any c h1 h2 h3 hn h4 hr hc) hr h3 hc
    ·exact apply_gt c h hk (k := 4) (by omega) rfl (fun _ _ => by kernel_rfl) (fun H t K W S0 h1 h2 h3 h4 => do5_any c h1 h2 h3 hn h4 hr hc) hr h3 hc
 ·rw [Sm.apply_no hr]
  exact apply_no c h hk hr
end Go.Proofs.YtcpkhhbbjimdaaaGreatDoor.Ce
namespace Go.Proofs.YtcpkhhbbjimdaaaGreatDoor.Ce
open Go.RowKit
theorem slast_any {w : World} {S M : List Nat} {b n : Nat} {m : Sm} (i : Int) (h : StAt w S M b m n) : Calls Tryz.prog 17 #[.pointer (some ⟨b, 0, none⟩), .int .i64 i] w fun e w' => e = .returned (.int .i64 (if 1 ≤ i ∧ i ≤ 16 then m.seq i.toNat else 0)) ∧ w = w' := by
 obtain ⟨rv, t, K, ht, -⟩ := h.ex
 by_cases h1 : i < 1
 ·have hr : (if 1 ≤ i ∧ i ≤ 16 then m.seq i.toNat else 0) = 0 := if_neg (by omega)
  rw [hr]
  clear h ht hr
  go_enter Tryz.func17, Tryz.ntmps17
  go_wp2_with fail
  go_ret
  exact ⟨rfl, rfl⟩
 ·by_cases h2 : 16 < i
  ·have hr : (if 1 ≤ i ∧ i ≤ 16 then m.seq i.toNat else 0) = 0 := if_neg (by omega)
   rw [hr]
   clear h ht hr
   go_enter Tryz.func17, Tryz.ntmps17
   go_wp2_with fail
   go_ret
   exact ⟨rfl, rfl⟩
  ·have hr : (if 1 ≤ i ∧ i ≤ 16 then m.seq i.toNat else 0) = m.seq i.toNat := if_pos (by omega)
   rw [hr]
   have h3 : (0 : Int) ≤ i := by omega
   have h4 : i < 17 := by omega
   have q := ht.seqC (i := i.toNat) (by omega)
   generalize m.seq i.toNat = x at *
   clear h ht hr
   go_enter Tryz.func17, Tryz.ntmps17
   go_wp2_with fail
   go_ret
   exact ⟨rfl, rfl⟩
theorem scells_any {w : World} {S M : List Nat} {b n : Nat} {m : Sm} (h : StAt w S M b m n) : Calls Tryz.prog 16 #[.pointer (some ⟨b, 0, none⟩)] w fun e w' => (∃ x, e = .returned x ∧ OwL w' w.heap.size x m.cells) ∧ Below w.heap.size w w' := by
 obtain ⟨rv, t, K, ht, hg, -, hc, -⟩ := h.ex
 have HC := Lib.hid (tree_cells ht hg)
 rw [hc] at HC
 clear h ht hg hc
 go_enter Tryz.func16, Tryz.ntmps16
 go_wp2_with fail
 refine HC.out.mono ?_
 rintro e w2 ⟨⟨x, rfl, hx⟩, hb⟩
 go_wp2_with fail
 go_ret
 exact ⟨⟨_, rfl, hx⟩, hb⟩
theorem shf_right : shf.right := ⟨by decide, by decide, by decide, by decide, by decide, by decide⟩
def newRow : Array Value := Rst.row ⟨200, 100, 3, .slice none 0 0, 0, stH Sm.zero.seq (fun _ => rpD.z)⟩ (.slice none 0 0) 0
theorem state_built : Tryz.prog.built 63 [(0, .agg #[.int .i64 200, .int .i64 100, .int .i64 3, .slice none 0 0, .int .i64 0, .slice none 0 0, .int .i64 0])] = some newRow := by kernel_rfl
theorem snew_any (w : World) : Calls Tryz.prog 10 #[] w fun e w' => (∃ b, e = .returned (.pointer (some ⟨b, 0, none⟩)) ∧ w.heap.size ≤ b ∧ b < w'.heap.size ∧ ∀ S0 : List Nat, (∀ k ∈ S0, k < w'.heap.size) → StAt w' (S0 ++ [b]) [b] b Sm.zero 0) ∧ Below w.heap.size w w' := by
 have HNW := Lib.hid (tnew_ok shf w shf_right)
 have hbt := state_built
 go_enter Tryz.func10, Tryz.ntmps10
 go_wp2_with fail
 refine HNW.out.mono ?_
 rintro e w2 ⟨⟨b, rfl, hb, hh⟩, hb2⟩
 have HB2 := Lib.hid hb2
 have c0 : w2.cell? ⟨b, 0, none⟩ = some (.int .i64 200) := cell_of_row _ _ 0 _ _ _ hh
 have c1 : w2.cell? ⟨b, 1, none⟩ = some (.int .i64 100) := cell_of_row _ _ 1 _ _ _ hh
 have c2 : w2.cell? ⟨b, 2, none⟩ = some (.int .i64 3) := cell_of_row _ _ 2 _ _ _ hh
 have c3 : w2.cell? ⟨b, 3, none⟩ = some (.slice none 0 0) := cell_of_row _ _ 3 _ _ _ hh
 have c4 : w2.cell? ⟨b, 4, none⟩ = some (.int .i64 0) := cell_of_row _ _ 4 _ _ _ hh
 have c5 : w2.cell? ⟨b, 5, none⟩ = some (.slice none 0 0) := cell_of_row _ _ 5 _ _ _ hh
 have c6 : w2.cell? ⟨b, 6, none⟩ = some (.int .i64 0) := cell_of_row _ _ 6 _ _ _ hh
 clear hb2 HNW hh
 go_wp2_with (refine wpList_boxRow rfl _ (.tmp 11) rfl newRow rfl ?_)
 have hal := bwalloc (bwrefl w2) (.cells newRow 63)
 have hnb : (w2.alloc (.cells newRow 63)).heap[w2.heap.size]? = some (.cells newRow 63 (0, 0)) := heap_alloc_new _ _
 have hsz : (w2.alloc (.cells newRow 63)).heap.size = w2.heap.size + 1 := by simp
 generalize w2.alloc (.cells newRow 63) = w3 at *
 go_ret
 have hown : ∀ k, k ∈ ownT w2.heap.size (.slice none 0 0) (.slice none 0 0) ↔ k ∈ [w2.heap.size] := fun k => by simp [ownT, blks, Value.ownBlock]
 refine ⟨⟨w2.heap.size, rfl, HB2.out.size, by omega, fun S0 hS0 => ⟨⟨fun _ => rpD.z, Tr.empty, [], ⟨⟨.slice none 0 0, .slice none 0 0, ⟨⟨hnb, OwL.nil _ _, by simp [Value.ownBlock]⟩, ⟨[], Ow.nil _ _ _, Levs.nil _ _⟩, by simp [Value.ownBlock], Apart.nil _, fun k hk => List.mem_append.2 (.inr ((hown k).1 hk)), fun k hk => by
  rcases List.mem_append.1 hk with q | q
  ·exact hS0 k q
  ·rw [List.mem_singleton.1 q]; omega⟩, by simp [ownT, blks, Value.ownBlock]⟩, FewT.nil _⟩, ⟨shf_right, Tr.empty_ok, Tr.empty_in, fits_nil⟩, ⟨by simp, by simp [szs]⟩, rfl, fun i => RpIs.zero _ _⟩, Sm.zero_good, fun i => by simp [Sm.zero, Rp.zero]⟩⟩, bwstep HB2.out hal⟩
end Go.Proofs.YtcpkhhbbjimdaaaGreatDoor.Ce
namespace Go.Proofs.YtcpkhhbbjimdaaaGreatDoor.Ce
open Go.RowKit
def Cm.short (c : Cm) : Prop := c.row.size ≤ 300 ∧ c.col.size ≤ 300 ∧ c.to_.size ≤ 300 ∧ c.value.size ≤ 300 ∧ c.expect.size ≤ 300
def Few16End (L : List Cm) (w : World) (e : Ending) (w' : World) : Prop := (∃ b, e = .returned (.bool b) ∧ (b = true → L.length ≤ 50 ∧ ∀ c ∈ L, c.short)) ∧ w' = w
theorem few16_any (v : Value) (L : List Cm) (w : World) (hv : St.RdS cmD w [] v L) : Calls Tryz.prog 9 #[v] w (Few16End L w) := by
 obtain ⟨A, c, rfl, hc, hm⟩ := hv.shape
 unfold maxLen at hm
 have HV := Lib.hid hv
 clear hv
 go_enter Tryz.func9, Tryz.ntmps9
 go_wp2_with fail
 go_loop [3] (fun i => ∃ k : Nat, k ≤ L.length ∧ k ≤ 100 ∧ i = .int .i64 (k : Int) ∧ Hid (∀ a ∈ L.take k, a.short)) (fun i => L.length - (intOf i).toNat)
 case atStart => exact ⟨0, Nat.zero_le _, by omega, rfl, Lib.hid (by simp)⟩
 case round =>
  obtain ⟨k, hk, hk1, rfl, HS⟩ := hrel
  by_cases hlt : k < L.length ∧ k < 100
  ·obtain ⟨hlt, hlt1⟩ := hlt
   have hfk : L[k]? = some (L[k]'hlt) := List.getElem?_eq_getElem _
   have HTK : Hid (∀ a ∈ L.take (k + 1), a ∈ L.take k ∨ a = L[k]'hlt) := Lib.hid fun a ha => by
    rw [List.take_succ_eq_append_getElem hlt, List.mem_append, List.mem_singleton] at ha
    exact ha
   generalize L[k]'hlt = f at hfk HTK
   obtain ⟨b, off, rfl, -, -, -⟩ := HV.out.open_ (by omega)
   have hat := (HV.out.at_ cmOk hfk).1
   have c3 : w.cell? ⟨b, off + k * 10 + 3, none⟩ = some (.string f.row) := hat 3 _ rfl
   have c4 : w.cell? ⟨b, off + k * 10 + 4, none⟩ = some (.string f.col) := hat 4 _ rfl
   have c5 : w.cell? ⟨b, off + k * 10 + 5, none⟩ = some (.string f.to_) := hat 5 _ rfl
   have c7 : w.cell? ⟨b, off + k * 10 + 7, none⟩ = some (.string f.value) := hat 7 _ rfl
   have c8 : w.cell? ⟨b, off + k * 10 + 8, none⟩ = some (.string f.expect) := hat 8 _ rfl
   have hh3 : (0 : Int) ≤ (k : Int) := by omega
   have hh4 : (k : Int) < (L.length : Int) := by omega
   have hh5 : (k : Int) < 100 := by omega
   clear hfk hat
   by_cases h : f.short
   ·have g1 : ¬ (300 : Int) < (f.row.size : Int) := by have := h.1; omega
    have g2 : ¬ (300 : Int) < (f.col.size : Int) := by have := h.2.1; omega
    have g3 : ¬ (300 : Int) < (f.to_.size : Int) := by have := h.2.2.1; omega
    have g4 : ¬ (300 : Int) < (f.value.size : Int) := by have := h.2.2.2.1; omega
    have g5 : ¬ (300 : Int) < (f.expect.size : Int) := by have := h.2.2.2.2; omega
    have HN : Hid (∀ a ∈ L.take (k + 1), a.short) := Lib.hid fun a ha => (HTK.out a ha).elim (HS.out a) fun e => e ▸ h
    clear h
    go_wp2_with fail
    go_round
    case rel => exact ⟨k + 1, by omega, by omega, by go_num, HN⟩
    case measure => simp [intOf]; omega
   ·have hor : (300 : Int) < (f.row.size : Int) ∨ (¬ (300 : Int) < (f.row.size : Int) ∧ (300 : Int) < (f.col.size : Int)) ∨ (¬ (300 : Int) < (f.row.size : Int) ∧ ¬ (300 : Int) < (f.col.size : Int) ∧ (300 : Int) < (f.to_.size : Int)) ∨ (¬ (300 : Int) < (f.row.size : Int) ∧ ¬ (300 : Int) < (f.col.size : Int) ∧ ¬ (300 : Int) < (f.to_.size : Int) ∧ (300 : Int) < (f.value.size : Int)) ∨ (¬ (300 : Int) < (f.row.size : Int) ∧ ¬ (300 : Int) < (f.col.size : Int) ∧ ¬ (300 : Int) < (f.to_.size : Int) ∧ ¬ (300 : Int) < (f.value.size : Int) ∧ (300 : Int) < (f.expect.size : Int)) := by
     unfold Cm.short at h
     omega
    clear h
    rcases hor with g1 | ⟨g1, g2⟩ | ⟨g1, g2, g3⟩ | ⟨g1, g2, g3, g4⟩ | ⟨g1, g2, g3, g4, g5⟩
    all_goals
     go_wp2_with fail
     go_ret
     exact ⟨⟨false, rfl, fun h => by cases h⟩, rfl⟩
  ·go_wp2_with fail
   all_goals
    go_ret
    refine ⟨⟨_, rfl, fun h => ?_⟩, rfl⟩
    have h50 : L.length ≤ 50 := by
     have := of_decide_eq_true h
     omega
    have : k = L.length := by omega
    subst this
    have hs := HS.out
    rw [List.take_length] at hs
    exact ⟨h50, hs⟩
end Go.Proofs.YtcpkhhbbjimdaaaGreatDoor.Ce
namespace Go.Proofs.YtcpkhhbbjimdaaaGreatDoor.Ce
open Go.RowKit
structure OneS (w0 w : World) (X M : List Nat) (b : Nat) (m : Sm) (n : Nat) : Prop where
 st : StAt w (X ++ M) M b m n
 ge : ∀ k ∈ M, w0.heap.size ≤ k
 x : ∀ g ∈ X, g ∉ M
section
variable {w0 w w' : World} {X M : List Nat} {b n g : Nat} {m : Sm}
theorem OneS.up (h : OneS w0 w X M b m n) (hb : Below w.heap.size w w') : OneS w0 w' X M b m n := ⟨h.st.up hb, h.ge, h.x⟩
theorem OneS.xlt (h : OneS w0 w X M b m n) : ∀ g ∈ X, g < w.heap.size := fun g hg => h.st.slt g (by simp [hg])
theorem OneS.add (h : OneS w0 w X M b m n) (hb : Below w.heap.size w w') (hg : w.heap.size ≤ g) (hg2 : g < w'.heap.size) : OneS w0 w' (g :: X) M b m n := by
 refine ⟨h.st.keep (Kp.of_below hb []) (by simp) (fun k hk => ?_) (fun k hk => by simp [hk]) (fun k hk => ?_), h.ge, fun k hk hm => ?_⟩
 ·rw [List.cons_append] at hk
  rcases List.mem_cons.1 hk with rfl | q
  ·exact .inr hg
  ·exact .inl q
 ·rw [List.cons_append] at hk
  rcases List.mem_cons.1 hk with rfl | q
  ·exact hg2
  ·exact Nat.lt_of_lt_of_le (h.st.slt k q) hb.size
 ·rcases List.mem_cons.1 hk with rfl | q
  ·have := (h.st.sub _ hm).2
   omega
  ·exact h.x k q hm
theorem OneS.turn (h : OneS w0 w X M b m n) (hk : Kp X w w') : OneS w0 w' X M b m n :=
 ⟨h.st.keep hk (fun k hk => .inl ⟨by simp [hk], h.x k hk⟩) (fun k hk => .inl hk) (fun k hk => by simp [hk]) (fun k hm => Nat.lt_of_lt_of_le (h.st.slt k hm) hk.size), h.ge, h.x⟩
theorem OneS.less {X' : List Nat} (h : OneS w0 w X M b m n) (hX : ∀ k ∈ X', k ∈ X) : OneS w0 w X' M b m n := by
 refine ⟨h.st.keep (Kp.refl [] w) (by simp) (fun k hk => .inl ?_) (fun k hk => by simp [hk]) (fun k hk => h.st.slt k ?_), h.ge, fun g hg => h.x g (hX g hg)⟩
 ·rcases List.mem_append.1 hk with q | q
  ·simp [hX k q]
  ·simp [q]
 ·rcases List.mem_append.1 hk with q | q
  ·simp [hX k q]
  ·simp [q]
structure AppK (w0 w w' : World) (X M M' : List Nat) : Prop where
 bel : Below w0.heap.size w0 w'
 kp : Kp M w w'
 new : ∀ k ∈ M', k ∈ M ∨ w.heap.size ≤ k
 x : ∀ g ∈ X, g ∉ M ∧ g < w.heap.size
theorem AppK.in_ {M' : List Nat} {α : Type} {D : St.Sp α} {c : α} (h : AppK w0 w w' X M M') (hi : D.In g c w) (hg : g ∈ X) : D.In g c w' := ⟨(h.kp.block g hi.lt (h.x g hg).1).trans hi.h⟩
theorem OneS.apply (h : OneS w0 w X M b m n) (hb : Below w0.heap.size w0 w) (hk : Kd w0) (hn : n ≤ 104) (c : Cm) :
  Calls Tryz.prog 14 #[.pointer (some ⟨b, 0, none⟩), c.v] w fun e w' => ∃ (M' : List Nat) (r : Rv), e = .returned r.v ∧ RpOw w' w.heap.size r (m.apply c).2 ∧ OneS w0 w' X M' b (m.apply c).1 (n + 1) ∧ AppK w0 w w' X M M' := by
 refine (apply_any c h.st (hk.up hb) hn).mono ?_
 rintro e w' ⟨M', r, he, hr, hs, hK, hM, -⟩
 refine ⟨M', r, he, hr, ⟨hs.keep (Kp.refl [] w') (by simp) (fun k hk => .inl ?_) (fun k hk => by simp [hk]) (fun k hk => hs.slt k ?_), fun k hk => ?_, fun g hg hm => ?_⟩, ⟨hb.trans (hK.below h.ge hb.size), hK, hM, fun g hg => ⟨h.x g hg, h.xlt g hg⟩⟩⟩
 ·rcases List.mem_append.1 hk with q | q <;> simp [q]
 ·rcases List.mem_append.1 hk with q | q <;> simp [q]
 ·rcases hM k hk with q | q
  ·exact h.ge k q
  ·exact Nat.le_trans hb.size q
 ·rcases hM g hm with q | q
  ·exact h.x g hg q
  ·have := h.xlt g hg
   omega
theorem OneS.apply2 (h : OneS w0 w X M b m n) (hb : Below w0.heap.size w0 w) (hk : Kd w0) (hn : n ≤ 104) (c : Cm) :
  Calls Tryz.prog 14 #[.pointer (some ⟨b, 0, none⟩), c.v] w fun e w' => ∃ (M' : List Nat) (r : Rv) (B : Nat), e = .returned r.v ∧ w.heap.size ≤ B ∧ RpOw w' B r (m.apply c).2 ∧ (∀ N : List Nat, (∀ k ∈ N, B ≤ k ∧ k < w'.heap.size) → OneS w0 w' (N ++ X) M' b (m.apply c).1 (n + 1)) ∧ AppK w0 w w' X M M' := by
 refine (apply_any c h.st (hk.up hb) hn).mono ?_
 rintro e w' ⟨M', r, he, -, -, hK, hM, B, hB, hr, hMB, hs⟩
 refine ⟨M', r, B, he, hB, hr, fun N hN => ⟨(hs N hN).keep (Kp.refl [] w') (by simp) (fun k hk => .inl ?_) (fun k hk => by simp [hk]) (fun k hk => (hs N hN).slt k ?_), fun k hk => ?_, fun g hg hm => ?_⟩, ⟨hb.trans (hK.below h.ge hb.size), hK, hM, fun g hg => ⟨h.x g hg, h.xlt g hg⟩⟩⟩
 ·simp only [List.mem_append] at hk ⊢
  rcases hk with (q | q) | q <;> simp [q]
 ·simp only [List.mem_append] at hk ⊢
  rcases hk with (q | q) | q <;> simp [q]
 ·rcases hM k hk with q | q
  ·exact h.ge k q
  ·exact Nat.le_trans hb.size q
 ·rcases List.mem_append.1 hg with q | q
  ·have := hMB g hm
   have := (hN g q).1
   omega
  ·rcases hM g hm with q2 | q2
   ·exact h.x g q q2
   ·have := h.xlt g q
    omega
theorem new_oneX (w0 : World) (X : List Nat) (hX : ∀ g ∈ X, g < w.heap.size) (hb : Below w0.heap.size w0 w) : Calls Tryz.prog 10 #[] w fun e w' => ∃ b, e = .returned (.pointer (some ⟨b, 0, none⟩)) ∧ OneS w0 w' X [b] b Sm.zero 0 ∧ w.heap.size ≤ b ∧ b < w'.heap.size ∧ Below w.heap.size w w' := by
 refine (snew_any w).mono ?_
 rintro e w' ⟨⟨b, he, hle, hlt, hs⟩, hbb⟩
 exact ⟨b, he, ⟨hs X fun k hk => Nat.lt_of_lt_of_le (hX k hk) hbb.size, fun k hk => by rw [List.mem_singleton.1 hk]; exact Nat.le_trans hb.size hle, fun g hg hm => by have := hX g hg; rw [List.mem_singleton.1 hm] at this; omega⟩, hle, hlt, hbb⟩
theorem new_one (w0 : World) (hb : Below w0.heap.size w0 w) : Calls Tryz.prog 10 #[] w fun e w' => ∃ b, e = .returned (.pointer (some ⟨b, 0, none⟩)) ∧ OneS w0 w' [] [b] b Sm.zero 0 ∧ w.heap.size ≤ b ∧ Below w.heap.size w w' := by
 refine (new_oneX w0 [] (by simp) hb).mono ?_
 rintro e w' ⟨b, h1, h2, h3, -, h4⟩
 exact ⟨b, h1, h2, h3, h4⟩
end
end Go.Proofs.YtcpkhhbbjimdaaaGreatDoor.Ce
namespace Go.Proofs.YtcpkhhbbjimdaaaGreatDoor.Ce
open Go.RowKit
def aP : Cm := ⟨1, 1, 1, ⟨#[114]⟩, ⟨#[99]⟩, ⟨#[]⟩, 0, ⟨#[118]⟩, ⟨#[]⟩, false⟩
def aG : Cm := ⟨2, 1, 4, ⟨#[114]⟩, ⟨#[99]⟩, ⟨#[]⟩, 9, ⟨#[]⟩, ⟨#[]⟩, false⟩
def aC : Cl := ⟨⟨#[114]⟩, ⟨#[99]⟩, 0, ⟨#[118]⟩, false⟩
theorem aP_right : aP.Right := ⟨⟨by decide, by decide, by decide, by decide, by decide, by decide, fun h => absurd h (by decide), fun _ => ⟨rfl, .inr ⟨rfl, rfl⟩, .inr rfl, fun h => absurd h (by decide), by decide, ⟨by decide, by decide, by decide, by decide, by decide, by decide, by decide, fun h => by cases h⟩⟩⟩, by rw [cmdB_len]; decide⟩
theorem aG_right : aG.Right := ⟨⟨by decide, by decide, by decide, by decide, by decide, by decide, fun h => absurd h (by decide), fun _ => ⟨rfl, .inr ⟨rfl, rfl⟩, .inr rfl, fun _ => rfl, by decide, ⟨by decide, by decide, by decide, by decide, by decide, by decide, by decide, fun h => by cases h⟩⟩⟩, by rw [cmdB_len]; decide⟩
theorem zero_notright : ¬ Cm.zero.Right := fun h => absurd h.1.c1 (by decide)
def aRP : Rp := ⟨0, false, ⟨#[]⟩, []⟩
def aRG : Rp := ⟨0, true, ⟨#[118]⟩, []⟩
def aS1 : Sm := ⟨[aC], upd Sm.zero.seq 1 1, upd Sm.zero.rep 1 aRP⟩
def aS2 : Sm := ⟨[aC], upd aS1.seq 2 1, upd aS1.rep 2 aRG⟩
theorem aw1 : Sm.zero.apply aP = (aS1, aRP) := by
 have hw : writesB ([] : List Cl) aP = true := rfl
 have h1 : doL [] aP = [aC] := by
  unfold doL
  rw [if_pos hw]
  rfl
 have h2 : doR [] aP = aRP := by
  unfold doR
  rw [if_pos hw]
  rfl
 rw [Sm.apply_yes aP_right]
 unfold Sm.app
 rw [if_neg (by decide), if_neg (by decide)]
 show ((⟨doL [] aP, upd Sm.zero.seq 1 1, upd Sm.zero.rep 1 (doR [] aP)⟩ : Sm), doR [] aP) = _
 rw [h1, h2]
 rfl
theorem aw2 : aS1.apply aG = (aS2, aRG) := by
 have hn : newest aG.row aG.col aG.at_ [aC] = some aC := by
  unfold newest
  rw [List.find?_cons_of_pos]
  exact decide_eq_true ⟨rfl, rfl, by decide⟩
 have hw : writesB [aC] aG = false := rfl
 have ht : thereB [aC] aG = true := by
  unfold thereB nwB nwC
  rw [hn]
  rfl
 have hf : foundV [aC] aG = ⟨#[118]⟩ := by
  unfold foundV nwC
  rw [hn]
  rfl
 have h1 : doL [aC] aG = [aC] := by
  unfold doL
  rw [hw]
  rfl
 have h2 : doR [aC] aG = aRG := by
  unfold doR
  rw [hw, ht, hf]
  rfl
 rw [Sm.apply_yes aG_right]
 unfold Sm.app
 rw [if_neg (by decide), if_neg (by decide)]
 show ((⟨doL [aC] aG, upd aS1.seq 2 1, upd aS1.rep 2 (doR [aC] aG)⟩ : Sm), doR [aC] aG) = _
 rw [h1, h2]
 rfl
theorem aw3 : aS2.apply Cm.zero = (aS2, Rp.err) := Sm.apply_no zero_notright
theorem aw4 : aS2.apply aG = (aS2, aRG) := by
 rw [Sm.apply_yes aG_right]
 unfold Sm.app
 rw [if_neg (by decide), if_pos (by decide)]
 rfl
theorem rv_eta (r : Rv) {e : Int} {d : Bool} {v : ByteArray} (h0 : r.e = e) (h1 : r.did = d) (h2 : r.value = v) : r = ⟨e, d, v, r.a, r.n, r.c⟩ := by
 subst h0 h1 h2
 rfl
theorem aw_of {ga gb gc gg : Nat} {A1 A2 A3 : Option Addr} {n1 n2 n3 c1 c2 c3 : Nat} {z : World} (h1 : rpD.In ga ⟨0, false, ⟨#[]⟩, A1, n1, c1⟩ z) (h2 : rpD.In gb ⟨0, true, ⟨#[118]⟩, A2, n2, c2⟩ z) (h3 : rpD.In gc ⟨1, false, ⟨#[]⟩, A3, n3, c3⟩ z) (h4 : cmD.In gg aG z) : rpD.In ga ⟨0, false, ⟨#[]⟩, A1, n1, c1⟩ z ∧ rpD.In gb ⟨0, true, ⟨#[118]⟩, A2, n2, c2⟩ z ∧ rpD.In gc ⟨1, false, ⟨#[]⟩, A3, n3, c3⟩ z ∧ cmD.In gg aG z ∧ z.cell? ⟨ga, 0, none⟩ = some (.int .i64 0) ∧ z.cell? ⟨gb, 1, none⟩ = some (.bool true) ∧ z.cell? ⟨gb, 2, none⟩ = some (.string ⟨#[118]⟩) ∧ z.cell? ⟨gc, 0, none⟩ = some (.int .i64 1) := ⟨h1, h2, h3, h4, h1.at_ rfl, h2.at_ rfl, h2.at_ rfl, h3.at_ rfl⟩
theorem RdL.nil_any {w w' : World} {S S' : List Nat} {A : Option Addr} {n c : Nat} (h : RdL w S (.slice A n c) []) : RdL w' S' (.slice A n c) [] := by
 obtain ⟨A', c', e, -, hm⟩ := h.shape
 injection e with e1 e2 e3
 subst e1 e2 e3
 exact RdL.none_ hm
theorem awake16_ok (w : World) (hk : Kd w) : Calls Tryz.prog 8 #[] w fun e w' => e = .returned (.bool true) ∧ Below w.heap.size w w' := by
 have HK := Lib.hid hk
 clear hk
 go_enter Tryz.func8, Tryz.ntmps8
 go_wp2_with fail
 refine (new_one w (Below.refl _ _)).mono ?_
 rintro e w1 ⟨b, rfl, hs1, hb1, hbb1⟩
 have HS1 := Lib.hid hs1
 have HB1 := Lib.hid hbb1
 clear hs1 hbb1 hb1
 go_wp2_with (refine St.alloc cmOk rfl rfl ?_)
 constructor
 intro w2 hP2 hb2 hz2
 clear hz2
 have HS2 := Lib.hid (HS1.out.add hb2 (Nat.le_refl _) hP2.lt)
 have HB2 := Lib.hid (bwstep HB1.out hb2)
 clear hb2
 go_wp2_with (refine St.store cmOk (c := aP) rfl (.tmp 2) (.tmp 10) rfl rfl rfl hP2 ?_)
 constructor
 intro w3 hs3
 have HS3 := Lib.hid (HS2.out.turn (St.Sp.Set.kp hs3 (by simp)))
 have HP3 := Lib.hid hs3.i
 have HB3 := Lib.hid (hs3.bel HB2.out HB1.out.size)
 clear hs3 hP2
 go_wp2_with (refine St.alloc cmOk rfl rfl ?_)
 constructor
 intro w4 hG4 hb4 hz4
 clear hz4
 have HS4 := Lib.hid (HS3.out.add hb4 (Nat.le_refl _) hG4.lt)
 have HP4 := Lib.hid (HP3.out.up hb4)
 have HB4 := Lib.hid (bwstep HB3.out hb4)
 clear hb4
 go_wp2_with (refine St.store cmOk (c := aG) rfl (.tmp 3) (.tmp 11) rfl rfl rfl hG4 ?_)
 constructor
 intro w5 hs5
 have HS5 := Lib.hid (HS4.out.turn (St.Sp.Set.kp hs5 (by simp)))
 have HG5 := Lib.hid hs5.i
 have hp5 := hs5.up HP4.out (Nat.ne_of_lt HP3.out.lt)
 have HB5 := Lib.hid (hs5.bel HB4.out HB3.out.size)
 clear hs5 hG4
 go_wp2_with (refine St.load cmOk rfl (.tmp 2) rfl rfl hp5 ?_)
 refine (HS5.out.apply HB5.out HK.out (by omega) aP).mono ?_
 rintro e w6 ⟨M6, r6, rfl, hr6, hs6, hk6⟩
 rw [aw1] at hr6 hs6
 have hri := rv_eta r6 hr6.e hr6.did hr6.value
 have HC1 := Lib.hid hr6.cells
 obtain ⟨A1, hA1⟩ : ∃ A, A = r6.a := ⟨_, rfl⟩
 obtain ⟨n1, hn1⟩ : ∃ n, n = r6.n := ⟨_, rfl⟩
 obtain ⟨c1, hc1⟩ : ∃ c, c = r6.c := ⟨_, rfl⟩
 rw [← hA1, ← hn1, ← hc1] at hri HC1
 clear hA1 hn1 hc1 hr6
 subst hri
 have HG5_6 := Lib.hid (hk6.in_ HG5.out (by simp))
 have HS6 := Lib.hid hs6
 have HB6 := Lib.hid hk6.bel
 clear hs6 hk6
 go_wp2_with (refine St.alloc rpOk rfl rfl ?_)
 constructor
 intro w7 hR7 hb7 hz7
 clear hz7
 have HS7 := Lib.hid (HS6.out.add hb7 (Nat.le_refl _) hR7.lt)
 have HB7 := Lib.hid (bwstep HB6.out hb7)
 have HX1 := Lib.hid (HC1.out.below hb7)
 have HG5_7 := Lib.hid (HG5_6.out.up hb7)
 clear hb7
 go_wp2_with (refine St.store rpOk (c := ⟨0, false, ⟨#[]⟩, A1, n1, c1⟩) rfl (.tmp 4) (.tmp 14) rfl rfl rfl hR7 ?_)
 constructor
 intro w8 hs8
 have HS8 := Lib.hid (HS7.out.turn (St.Sp.Set.kp hs8 (by simp)))
 have HR8 := Lib.hid hs8.i
 have HB8 := Lib.hid (hs8.bel HB7.out HB6.out.size)
 have HQ1 : Hid (RdL w8 [] (.slice A1 n1 c1) aRP.cells) := Lib.hid ((HX1.out.keepN (St.Sp.Set.kp hs8 (S := [w6.heap.size]) (by simp)) fun k hk hm => by
  have := (HC1.out.lt k hk).2
  rw [List.mem_singleton.1 hm] at this
  omega).rd (fun _ h => by cases h))
 have HG5_8 := Lib.hid (hs8.up HG5_7.out (Nat.ne_of_lt HG5_6.out.lt))
 clear hs8 hR7
 have hg8 := HG5_8.out
 go_wp2_with (refine St.load cmOk rfl (.tmp 3) rfl rfl hg8 ?_)
 clear hg8
 refine (HS8.out.apply HB8.out HK.out (by omega) aG).mono ?_
 rintro e w9 ⟨M9, r9, rfl, hr9, hs9, hk9⟩
 rw [aw2] at hr9 hs9
 have hri := rv_eta r9 hr9.e hr9.did hr9.value
 have HC2 := Lib.hid hr9.cells
 obtain ⟨A2, hA2⟩ : ∃ A, A = r9.a := ⟨_, rfl⟩
 obtain ⟨n2, hn2⟩ : ∃ n, n = r9.n := ⟨_, rfl⟩
 obtain ⟨c2, hc2⟩ : ∃ c, c = r9.c := ⟨_, rfl⟩
 rw [← hA2, ← hn2, ← hc2] at hri HC2
 clear hA2 hn2 hc2 hr9
 subst hri
 have HG5_8_9 := Lib.hid (hk9.in_ HG5_8.out (by simp))
 have HR8_9 := Lib.hid (hk9.in_ HR8.out (by simp))
 have HS9 := Lib.hid hs9
 have HB9 := Lib.hid hk9.bel
 clear hs9 hk9
 go_wp2_with (refine St.alloc rpOk rfl rfl ?_)
 constructor
 intro w10 hR10 hb10 hz10
 clear hz10
 have HS10 := Lib.hid (HS9.out.add hb10 (Nat.le_refl _) hR10.lt)
 have HB10 := Lib.hid (bwstep HB9.out hb10)
 have HX2 := Lib.hid (HC2.out.below hb10)
 have HG5_8_10 := Lib.hid (HG5_8_9.out.up hb10)
 have HR8_10 := Lib.hid (HR8_9.out.up hb10)
 clear hb10
 go_wp2_with (refine St.store rpOk (c := ⟨0, true, ⟨#[118]⟩, A2, n2, c2⟩) rfl (.tmp 5) (.tmp 17) rfl rfl rfl hR10 ?_)
 constructor
 intro w11 hs11
 have HS11 := Lib.hid (HS10.out.turn (St.Sp.Set.kp hs11 (by simp)))
 have HR11 := Lib.hid hs11.i
 have HB11 := Lib.hid (hs11.bel HB10.out HB9.out.size)
 have HQ2 : Hid (RdL w11 [] (.slice A2 n2 c2) aRG.cells) := Lib.hid ((HX2.out.keepN (St.Sp.Set.kp hs11 (S := [w9.heap.size]) (by simp)) fun k hk hm => by
  have := (HC2.out.lt k hk).2
  rw [List.mem_singleton.1 hm] at this
  omega).rd (fun _ h => by cases h))
 have HG5_8_11 := Lib.hid (hs11.up HG5_8_10.out (Nat.ne_of_lt HG5_8_9.out.lt))
 have HR8_11 := Lib.hid (hs11.up HR8_10.out (Nat.ne_of_lt HR8_9.out.lt))
 clear hs11 hR10
 go_wp2_with fail
 refine (HS11.out.apply HB11.out HK.out (by omega) Cm.zero).mono ?_
 rintro e w12 ⟨M12, r12, rfl, hr12, hs12, hk12⟩
 rw [aw3] at hr12 hs12
 have hri := rv_eta r12 hr12.e hr12.did hr12.value
 have HC3 := Lib.hid hr12.cells
 obtain ⟨A3, hA3⟩ : ∃ A, A = r12.a := ⟨_, rfl⟩
 obtain ⟨n3, hn3⟩ : ∃ n, n = r12.n := ⟨_, rfl⟩
 obtain ⟨c3, hc3⟩ : ∃ c, c = r12.c := ⟨_, rfl⟩
 rw [← hA3, ← hn3, ← hc3] at hri HC3
 clear hA3 hn3 hc3 hr12
 subst hri
 have HG5_8_11_12 := Lib.hid (hk12.in_ HG5_8_11.out (by simp))
 have HR8_11_12 := Lib.hid (hk12.in_ HR8_11.out (by simp))
 have HR11_12 := Lib.hid (hk12.in_ HR11.out (by simp))
 have HS12 := Lib.hid hs12
 have HB12 := Lib.hid hk12.bel
 clear hs12 hk12
 go_wp2_with (refine St.alloc rpOk rfl rfl ?_)
 constructor
 intro w13 hR13 hb13 hz13
 clear hz13
 have HS13 := Lib.hid (HS12.out.add hb13 (Nat.le_refl _) hR13.lt)
 have HB13 := Lib.hid (bwstep HB12.out hb13)
 have HX3 := Lib.hid (HC3.out.below hb13)
 have HG5_8_11_13 := Lib.hid (HG5_8_11_12.out.up hb13)
 have HR8_11_13 := Lib.hid (HR8_11_12.out.up hb13)
 have HR11_13 := Lib.hid (HR11_12.out.up hb13)
 clear hb13
 go_wp2_with (refine St.store rpOk (c := ⟨1, false, ⟨#[]⟩, A3, n3, c3⟩) rfl (.tmp 6) (.tmp 20) rfl rfl rfl hR13 ?_)
 constructor
 intro w14 hs14
 have HS14 := Lib.hid (HS13.out.turn (St.Sp.Set.kp hs14 (by simp)))
 have HR14 := Lib.hid hs14.i
 have HB14 := Lib.hid (hs14.bel HB13.out HB12.out.size)
 have HQ3 : Hid (RdL w14 [] (.slice A3 n3 c3) Rp.err.cells) := Lib.hid ((HX3.out.keepN (St.Sp.Set.kp hs14 (S := [w12.heap.size]) (by simp)) fun k hk hm => by
  have := (HC3.out.lt k hk).2
  rw [List.mem_singleton.1 hm] at this
  omega).rd (fun _ h => by cases h))
 have HG5_8_11_14 := Lib.hid (hs14.up HG5_8_11_13.out (Nat.ne_of_lt HG5_8_11_12.out.lt))
 have HR8_11_14 := Lib.hid (hs14.up HR8_11_13.out (Nat.ne_of_lt HR8_11_12.out.lt))
 have HR11_14 := Lib.hid (hs14.up HR11_13.out (Nat.ne_of_lt HR11_12.out.lt))
 clear hs14 hR13
 have hd : Below w14.heap.size w14 w14.drew := (Below.refl _ _).drew
 have HT := Lib.hid (aw_of (HR8_11_14.out.up hd) (HR11_14.out.up hd) (HR14.out.up hd) (HG5_8_11_14.out.up hd))
 have HW := Lib.hid (bwstep HB14.out hd)
 have HS := Lib.hid (HS14.out.up hd)
 have hlast : (if (1 : Int) ≤ 1 ∧ (1 : Int) ≤ 16 then aS2.seq (1 : Int).toNat else 0) = 1 := rfl
 have HQ2' := Lib.hid (fun z => RdL.nil_any (w' := z) (S' := []) HQ2.out)
 have HQ1' := Lib.hid (fun z => RdL.nil_any (w' := z) (S' := []) HQ1.out)
 have HBL : Hid (aS2.cells = [aC]) := Lib.hid rfl
 go_wp2_with fail
 refine wp_region_held_drew (S := fun z => rpD.In w6.heap.size ⟨0, false, ⟨#[]⟩, A1, n1, c1⟩ z ∧ rpD.In w9.heap.size ⟨0, true, ⟨#[118]⟩, A2, n2, c2⟩ z ∧ rpD.In w12.heap.size ⟨1, false, ⟨#[]⟩, A3, n3, c3⟩ z ∧ cmD.In w3.heap.size aG z ∧ z.cell? ⟨w6.heap.size, 0, none⟩ = some (.int .i64 0) ∧ z.cell? ⟨w9.heap.size, 1, none⟩ = some (.bool true) ∧ z.cell? ⟨w9.heap.size, 2, none⟩ = some (.string ⟨#[118]⟩) ∧ z.cell? ⟨w12.heap.size, 0, none⟩ = some (.int .i64 1)) (by kernel_rfl) HT.out (fun hHeld => ?_)
 refine takeL 0 (h := ?_)
 refine takeL 1 (h := ?_)
 refine takeL 2 (h := ?_)
 refine takeL 3 (h := ?_)
 refine takeL 4 (h := ?_)
 refine takeL 5 (h := ?_)
 refine takeL 6 (h := ?_)
 refine takeL 7 (h := ?_)
 refine takeL 8 (h := ?_)
 refine takeL 9 (h := ?_)
 refine takeL 10 (h := ?_)
 refine takeL 11 (h := ?_)
 refine takeL 12 (h := ?_)
 refine takeL 13 (h := ?_)
 refine takeL 14 (h := ?_)
 refine takeL 15 (h := ?_)
 refine takeL 16 (h := ?_)
 refine takeL 17 (h := ?_)
 refine takeL 18 (h := ?_)
 refine wpAnyH_ready (rs := [19]) (by kernel_rfl) (by simp) ?_
 refine AllReadyH.cons (o := _) (by simp only [List.getElem?_toArray, List.getElem?_cons_succ, List.getElem?_cons_zero]; rfl) (fun K hK => ?_) AllReadyH.nil
 go_simp
 go_at_call 17
 refine (slast_any 1 HS.out.st).mono ?_
 rintro e wl ⟨rfl, rfl⟩
 rw [hlast]
 refine hK.out _ _ hHeld (fun hHeld => ?_)
 clear hK K
 ((try simp only [Act.put]); (try simp only [List.setIfInBounds_toArray]); (try simp only [List.set_cons_succ]); (try simp only [List.set_cons_zero]))
 refine takeL 20 (h := ?_)
 refine takeL 21 (h := ?_)
 refine takeL 22 (h := ?_)
 refine takeL 23 (h := ?_)
 refine wpAnyH_ready (rs := [24]) (by kernel_rfl) (by simp) ?_
 refine AllReadyH.cons (o := _) (by simp only [List.getElem?_toArray, List.getElem?_cons_succ, List.getElem?_cons_zero]; rfl) (fun K hK => ?_) AllReadyH.nil
 go_simp
 go_at_call 16
 refine (scells_any HS.out.st).mono ?_
 rintro e wl ⟨⟨x, rfl, hx⟩, hb⟩
 rw [HBL.out] at hx
 have HW2 := Lib.hid (bwstep HW.out hb)
 have HS2' := Lib.hid (HS.out.up hb)
 obtain ⟨Ax, cx, rfl, -, -⟩ := (hx.rd (S := []) (fun _ h => by cases h)).shape
 refine hK.out _ _ (aw_of (hHeld.1.up hb) (hHeld.2.1.up hb) (hHeld.2.2.1.up hb) (hHeld.2.2.2.1.up hb)) (fun hHeld => ?_)
 clear hK K hx hb
 ((try simp only [Act.put]); (try simp only [List.setIfInBounds_toArray]); (try simp only [List.set_cons_succ]); (try simp only [List.set_cons_zero]))
 refine takeL 25 (h := ?_)
 refine takeL 26 (h := ?_)
 refine takeL 27 (h := ?_)
 refine takeL 28 (h := ?_)
 refine takeL 29 (hy := by intro z hSz; exact St.run_opLoad rpOk (.tmp 5) rfl rfl hSz.2.1) (h := ?_)
 refine takeL 30 (h := ?_)
 refine takeL 31 (hy := by intro z hSz; exact St.run_opLoad cmOk (.tmp 3) rfl rfl hSz.2.2.2.1) (h := ?_)
 refine wpAnyH_ready (rs := [32]) (by kernel_rfl) (by simp) ?_
 refine AllReadyH.cons (o := _) (by simp only [List.getElem?_toArray, List.getElem?_cons_succ, List.getElem?_cons_zero]; rfl) (fun K hK => ?_) AllReadyH.nil
 go_simp
 go_at_call 14
 refine (HS2'.out.apply HW2.out HK.out (by omega) aG).mono ?_
 rintro e wq ⟨Mq, rq, rfl, hrq, hsq, hkq⟩
 rw [aw4] at hrq
 have HRQ := Lib.hid (hrq.is (S := []) (fun _ h => by cases h))
 have HBq := Lib.hid hkq.bel
 refine hK.out _ _ (aw_of (hkq.in_ hHeld.1 (by simp)) (hkq.in_ hHeld.2.1 (by simp)) (hkq.in_ hHeld.2.2.1 (by simp)) (hkq.in_ hHeld.2.2.2.1 (by simp))) (fun hHeld => ?_)
 clear hK K hrq hsq hkq
 ((try simp only [Act.put]); (try simp only [List.setIfInBounds_toArray]); (try simp only [List.set_cons_succ]); (try simp only [List.set_cons_zero]))
 refine wpAnyH_ready (rs := [33]) (by kernel_rfl) (by simp) ?_
 refine AllReadyH.cons (o := _) (by simp only [List.getElem?_toArray, List.getElem?_cons_succ, List.getElem?_cons_zero]; rfl) (fun K hK => ?_) AllReadyH.nil
 go_simp
 go_at_call 18
 refine (ssame_any ⟨0, true, ⟨#[118]⟩, A2, n2, c2⟩ rq aRG aRG _ ⟨rfl, rfl, rfl, HQ2'.out _⟩ HRQ.out (by simp [aRG])).mono ?_
 rintro e wr ⟨rfl, hbr⟩
 rw [decide_eq_true rfl]
 have HBr := Lib.hid (bwstep HBq.out hbr)
 refine hK.out _ _ (aw_of (hHeld.1.up hbr) (hHeld.2.1.up hbr) (hHeld.2.2.1.up hbr) (hHeld.2.2.2.1.up hbr)) (fun hHeld => ?_)
 clear hK K hbr
 ((try simp only [Act.put]); (try simp only [List.setIfInBounds_toArray]); (try simp only [List.set_cons_succ]); (try simp only [List.set_cons_zero]))
 refine takeL 34 (h := ?_)
 refine takeL 35 (h := ?_)
 refine takeL 36 (hy := by intro z hSz; exact St.run_opLoad rpOk (.tmp 4) rfl rfl hSz.1) (h := ?_)
 refine takeL 37 (hy := by intro z hSz; exact St.run_opLoad rpOk (.tmp 5) rfl rfl hSz.2.1) (h := ?_)
 refine wpAnyH_ready (rs := [38]) (by kernel_rfl) (by simp) ?_
 refine AllReadyH.cons (o := _) (by simp only [List.getElem?_toArray, List.getElem?_cons_succ, List.getElem?_cons_zero]; rfl) (fun K hK => ?_) AllReadyH.nil
 go_simp
 go_at_call 18
 refine (ssame_any ⟨0, false, ⟨#[]⟩, A1, n1, c1⟩ ⟨0, true, ⟨#[118]⟩, A2, n2, c2⟩ aRP aRG _ ⟨rfl, rfl, rfl, HQ1'.out _⟩ ⟨rfl, rfl, rfl, HQ2'.out _⟩ (by simp [aRP])).mono ?_
 rintro e wt ⟨rfl, hbt⟩
 rw [decide_eq_false (fun h => by injection h with _ h; cases h)]
 have HBt := Lib.hid (bwstep HBr.out hbt)
 refine hK.out _ _ (aw_of (hHeld.1.up hbt) (hHeld.2.1.up hbt) (hHeld.2.2.1.up hbt) (hHeld.2.2.2.1.up hbt)) (fun hHeld => ?_)
 clear hK K hbt
 ((try simp only [Act.put]); (try simp only [List.setIfInBounds_toArray]); (try simp only [List.set_cons_succ]); (try simp only [List.set_cons_zero]))
 refine takeL 39 (h := ?_)
 refine takeL 40 (h := ?_)
 refine takeL 41 (h := ?_)
 refine wpAnyH_done (by kernel_rfl) ?_ _
 clear hHeld
 go_wp2_with fail
 go_ret
 exact ⟨rfl, HBt.out⟩
end Go.Proofs.YtcpkhhbbjimdaaaGreatDoor.Ce
namespace Go.Proofs.YtcpkhhbbjimdaaaGreatDoor.Ce
open Go.RowKit
theorem SvIs.up {w w' : World} {S S' : List Nat} {s : Sv} {m : Sm} (h : SvIs w S s m) (hk : Kp S w w') (hS : ∀ k ∈ S', k ∈ S ∨ w.heap.size ≤ k) : SvIs w' S' s m := ⟨h.cells.up hk hS, h.seq, fun i => (h.rep i).up hk hS⟩
theorem RdL.apart {w : World} {S : List Nat} {v : Value} {L : List Cl} (h : RdL w [] v L) (hn : ∀ k, v.ownBlock = some k → k ∉ S) : RdL w S v L := by
 obtain ⟨A, c, e, h1, h2, h3⟩ := h
 refine ⟨A, c, e, h1, h2, fun hp => ?_⟩
 obtain ⟨b, off, ea, hb, -, hc⟩ := h3 hp
 exact ⟨b, off, ea, hb, hn b (by rw [e, ea]; rfl), hc⟩
theorem OneS.mono {w0 w : World} {X M : List Nat} {b n n' : Nat} {m : Sm} (h : OneS w0 w X M b m n) (hn : n ≤ n') : OneS w0 w X M b m n' := ⟨h.st.mono hn, h.ge, h.x⟩
theorem Sm.apply_few {m : Sm} {c : Cm} (h : ∀ i, (m.rep i).cells.length ≤ 20) : (m.apply c).2.cells.length ≤ 1000000000 := by
 by_cases hr : c.Right
 ·rw [Sm.apply_yes hr]
  unfold Sm.app
  split
  ·simp [Rp.err]
  ·split
   ·exact Nat.le_trans (h _) (by omega)
   ·exact Nat.le_trans (doR_few _ _) (by omega)
 ·rw [Sm.apply_no hr]
  simp [Rp.err]
theorem Sm.apply_good {m : Sm} {c : Cm} (h : m.Good) : (m.apply c).1.Good := by
 by_cases hr : c.Right
 ·rw [Sm.apply_yes hr]
  exact Sm.app_good h hr
 ·rw [Sm.apply_no hr]
  exact h
end Go.Proofs.YtcpkhhbbjimdaaaGreatDoor.Ce
