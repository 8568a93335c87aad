/- The reference's Apply of layer 16: Scan. The reference's Apply of layer 16, whatever right command; a state stays good. -/
import Derived.Test.YtcpkhhbbjimdaaaGreatDoorApX
set_option maxHeartbeats 8000000
set_option maxRecDepth 100000
namespace Go.Proofs.YtcpkhhbbjimdaaaGreatDoor.Ce
open Go.RowKit
theorem take20_step {V : List Cl} {k nr : Nat} {f : Cl} {p : Cl → Bool} (q : Bool) (h : (V.take (k + 1)).filter p = (V.take k).filter p ++ (if q = true then [f] else [])) (hn : nr = (((V.take k).filter p).take 20).length) : ((V.take (k + 1)).filter p).take 20 = if (q && decide ((nr : Int) < 20)) = true then (((V.take k).filter p).take 20) ++ [f] else ((V.take k).filter p).take 20 := by
 rw [h]
 generalize (V.take k).filter p = F at *
 rw [List.length_take] at hn
 cases q
 ·simp
 ·have hd : decide ((nr : Int) < 20) = decide (F.length < 20) := decide_eq_decide.2 (by omega)
  rw [hd]
  by_cases hl : F.length < 20
  ·rw [decide_eq_true hl]
   simp only [Bool.true_and, if_true]
   rw [List.take_of_length_le (l := F ++ [f]) (by simp; omega), List.take_of_length_le (l := F) (by omega)]
  ·rw [decide_eq_false hl]
   simp only [Bool.and_false, if_true, Bool.false_eq_true, if_false]
   rw [List.take_append_of_le_length (by omega)]
theorem Kp.belB {S : List Nat} {a b c : World} (h : Kp S a b) (k : Below a.heap.size b c) : Kp S a c := ⟨k.os.trans h.os, k.tape.trans h.tape, k.output.trans h.output, Nat.le_trans h.size k.size, fun j hj hn => (k.block j hj).trans (h.block j hj hn)⟩
theorem ApW.belB {gs gc g4 g5 g6 g7 g9 B : Nat} {c : Cm} {x : Cl} {sv : Sv} {rv : Rv} {w z z' : World} (h : ApW gs gc g4 g5 g6 g7 g9 c x sv rv w z) (hb : Below B z z') (h9 : g9 < B) (hw : w.heap.size ≤ B) : ApW gs gc g4 g5 g6 g7 g9 c x sv rv w z' := by
 have h1 := h.o1; have h2 := h.o2; have h3 := h.o3; have h4 := h.o4; have h5 := h.o5; have h6 := h.o6
 exact ⟨h.is_.bel hb (by omega), h.ic.bel hb (by omega), h.i4.bel hb (by omega), h.i5.bel hb (by omega), h.i6.bel hb (by omega), h.i7.bel hb (by omega), h.i9.bel hb h9, h.o0, h1, h2, h3, h4, h5, h6, h.bel.trans (hb.mono hw)⟩
theorem St.Sp.Set.grown {α : Type} {D : St.Sp α} {g : Nat} {x : α} {w w' : World} (h : D.Set g x w w') : w.grownBy w' (some g) := ⟨h.b.os, h.b.tape, h.b.output, by rw [h.z]; exact Nat.le_refl _, fun k _ hk => h.o k fun e => hk (by rw [e])⟩
theorem rapply_scan (s : Sv) (m : Sm) (c : Cm) (w : World) (S0 : List Nat) (hS0 : ∀ k ∈ S0, k < w.heap.size) (hs : SvIs w S0 s m) (hr : c.Right) (hg : m.Good) (hq : m.seq c.client.toNat < c.seq) (h5 : c.kind = 5) : Calls Tryz.prog 12 #[s.v, c.v] w (AppEnd w S0 m c) := by
 have hrr := fun w => rright15_any c w
 rw [decide_eq_true hr] at hrr
 have HS := Lib.hid hs
 have HS0 := Lib.hid hS0
 have h0 : (0 : Int) ≤ c.client := by have := hr.1.c1; omega
 have h17 : c.client < 17 := by have := hr.1.c2; omega
 have hn17 : c.client.toNat < 17 := by omega
 have HE : Hid (m.app c = (⟨doL m.cells c, upd m.seq c.client.toNat c.seq, upd m.rep c.client.toNat (doR m.cells c)⟩, doR m.cells c)) := Lib.hid (by unfold Sm.app; rw [if_neg (by omega), if_neg (by omega)])
 have HNW : Hid (∀ z v, RdL z [] v m.cells → Calls Tryz.prog 22 #[v, .string c.row, .string c.col, .int .i64 c.at_] z fun e w' => e = .returned (.tuple #[(nwC c.row c.col c.at_ m.cells).v, .bool (nwB c.row c.col c.at_ m.cells)]) ∧ Below z.heap.size z w') := Lib.hid fun z v h => rnewest_any v m.cells c.row c.col c.at_ z h hg.srt (by have := hg.le; omega) hg.ok
 have HG := Lib.hid hg
 rw [← hs.seq] at hq
 have hq1 : decide (c.seq < s.seq c.client.toNat) = false := decide_eq_false (by omega)
 have hq2 : (c.seq == s.seq c.client.toNat) = false := beq_eq_false_iff_ne.2 (by omega)
 have HRT := Lib.hid hr
 have HD5 := Lib.hid h5
 clear hs hS0 hr hq hg h5
 go_enter Tryz.func12, Tryz.ntmps12
 go_wp2_with (refine St.box stD rfl (.tmp 0) s rfl rfl ?_)
 constructor
 intro w1 hI1 hw1 hz1
 clear hz1
 go_wp2_with (refine St.box cmD rfl (.tmp 1) c rfl rfl ?_)
 constructor
 intro w2 hJ2 hb2 hz2
 have HI2 := Lib.hid (hI1.up hb2)
 have HJ2 := Lib.hid hJ2
 have hw2 := bwstep hw1 hb2
 have HL1 := Lib.hid hI1.lt
 have HL2 := Lib.hid hJ2.lt
 clear hz2 hI1 hw1 hb2 hJ2
 go_wp2_with (refine St.alloc stOk rfl rfl ?_)
 constructor
 intro w3 hK3 hb3 hz3
 have HI3 := Lib.hid (HI2.out.up hb3)
 have HJ3 := Lib.hid (HJ2.out.up hb3)
 have HK3 := Lib.hid hK3
 have HL3 := Lib.hid hK3.lt
 have hw3 := bwstep hw2 hb3
 clear hz3 hw2 hb3 hK3
 go_wp2_with (refine St.alloc rpOk rfl rfl ?_)
 constructor
 intro w4 hL4 hb4 hz4
 have HI4 := Lib.hid (HI3.out.up hb4)
 have HJ4 := Lib.hid (HJ3.out.up hb4)
 have HK4 := Lib.hid (HK3.out.up hb4)
 have HL4 := Lib.hid hL4
 have HW4 := Lib.hid (bwstep hw3 hb4)
 clear hz4 hw3 hb4 hL4
 have HT := Lib.hid (sA_of (wb := w4) (z := w4.drew) hn17 (HI4.out.kept rfl) (HJ4.out.kept rfl) (Below.refl _ _).drew)
 have HU := Lib.hid fun (a b : World) h hb => sA_up hn17 (s := s) (c := c) (w := w) (w1 := w1) (wb := w4) (z := a) (z' := b) h hb
 go_wp2_with fail
 go_region_held3 (fun z => stD.In w.heap.size s z ∧ cmD.In w1.heap.size c z ∧ z.cell? ⟨w1.heap.size, 0, none⟩ = some (.int .i64 c.client) ∧ z.cell? ⟨w1.heap.size, 1, none⟩ = some (.int .i64 c.seq) ∧ z.cell? ⟨w1.heap.size, 2, none⟩ = some (.int .i64 c.kind) ∧ z.cell? ⟨w1.heap.size, 3, none⟩ = some (.string c.row) ∧ z.cell? ⟨w1.heap.size, 4, none⟩ = some (.string c.col) ∧ z.cell? ⟨w1.heap.size, 5, none⟩ = some (.string c.to_) ∧ z.cell? ⟨w1.heap.size, 6, none⟩ = some (.int .i64 c.at_) ∧ z.cell? ⟨w1.heap.size, 7, none⟩ = some (.string c.value) ∧ z.cell? ⟨w1.heap.size, 8, none⟩ = some (.string c.expect) ∧ z.cell? ⟨w1.heap.size, 9, none⟩ = some (.bool c.has) ∧ z.cell? ⟨w.heap.size, 1 + c.client.toNat, none⟩ = some (.int .i64 (s.seq c.client.toNat)) ∧ Below w4.heap.size w4 z) (first | exact HT.out | assumption | exact HU.out _ _ (by assumption) (by assumption))
  (first
   | (go_at_call 11; refine (hrr _).mono ?_; rintro e w5 ⟨rfl, hb5⟩))
 obtain ⟨hI5, hJ5, -, -, -, -, -, -, -, -, -, -, -, hb45⟩ := (by assumption : stD.In w.heap.size s w5 ∧ cmD.In w1.heap.size c w5 ∧ w5.cell? ⟨w1.heap.size, 0, none⟩ = some (.int .i64 c.client) ∧ w5.cell? ⟨w1.heap.size, 1, none⟩ = some (.int .i64 c.seq) ∧ w5.cell? ⟨w1.heap.size, 2, none⟩ = some (.int .i64 c.kind) ∧ w5.cell? ⟨w1.heap.size, 3, none⟩ = some (.string c.row) ∧ w5.cell? ⟨w1.heap.size, 4, none⟩ = some (.string c.col) ∧ w5.cell? ⟨w1.heap.size, 5, none⟩ = some (.string c.to_) ∧ w5.cell? ⟨w1.heap.size, 6, none⟩ = some (.int .i64 c.at_) ∧ w5.cell? ⟨w1.heap.size, 7, none⟩ = some (.string c.value) ∧ w5.cell? ⟨w1.heap.size, 8, none⟩ = some (.string c.expect) ∧ w5.cell? ⟨w1.heap.size, 9, none⟩ = some (.bool c.has) ∧ w5.cell? ⟨w.heap.size, 1 + c.client.toNat, none⟩ = some (.int .i64 (s.seq c.client.toNat)) ∧ Below w4.heap.size w4 w5)
 have HK5 := Lib.hid (HK4.out.up hb45)
 have HL5 := Lib.hid (HL4.out.up hb45)
 have HW5 := Lib.hid (bwstep HW4.out hb45)
 have HI5 := Lib.hid hI5
 have HJ5 := Lib.hid hJ5
 clear HT HU hb45 hb5 hI5 hJ5 hrr
 have HT := Lib.hid (sA_of (wb := w) (z := w5.drew) hn17 (HI5.out.kept rfl) (HJ5.out.kept rfl) (bwstep HW5.out (Below.refl _ _).drew))
 have HU := Lib.hid fun (a b : World) h hb => sA_up hn17 (s := s) (c := c) (w := w) (w1 := w1) (wb := w) (z := a) (z' := b) h hb
 go_wp2_with fail
 go_region_held3 (fun z => stD.In w.heap.size s z ∧ cmD.In w1.heap.size c z ∧ z.cell? ⟨w1.heap.size, 0, none⟩ = some (.int .i64 c.client) ∧ z.cell? ⟨w1.heap.size, 1, none⟩ = some (.int .i64 c.seq) ∧ z.cell? ⟨w1.heap.size, 2, none⟩ = some (.int .i64 c.kind) ∧ z.cell? ⟨w1.heap.size, 3, none⟩ = some (.string c.row) ∧ z.cell? ⟨w1.heap.size, 4, none⟩ = some (.string c.col) ∧ z.cell? ⟨w1.heap.size, 5, none⟩ = some (.string c.to_) ∧ z.cell? ⟨w1.heap.size, 6, none⟩ = some (.int .i64 c.at_) ∧ z.cell? ⟨w1.heap.size, 7, none⟩ = some (.string c.value) ∧ z.cell? ⟨w1.heap.size, 8, none⟩ = some (.string c.expect) ∧ z.cell? ⟨w1.heap.size, 9, none⟩ = some (.bool c.has) ∧ z.cell? ⟨w.heap.size, 1 + c.client.toNat, none⟩ = some (.int .i64 (s.seq c.client.toNat)) ∧ Below w.heap.size w z) (first | exact HT.out | assumption | exact HU.out _ _ (by assumption) (by assumption))
  (fail)
 clear HU HT
 have HBD : Below w5.heap.size w5 w5.drew := (Below.refl _ _).drew
 have HI6 := Lib.hid (HI5.out.up HBD)
 have HJ6 := Lib.hid (HJ5.out.up HBD)
 have HK6 := Lib.hid (HK5.out.up HBD)
 have HL6 := Lib.hid (HL5.out.up HBD)
 have HW6 := Lib.hid (bwstep HW5.out HBD)
 generalize w5.drew = w6 at *
 clear HBD HI5 HJ5 HK5 HL5 HW5 HI4 HJ4 HK4 HL4 HW4 HI3 HJ3 HK3 HI2 HJ2
 go_wp2_with (refine St.alloc rpOk rfl rfl ?_)
 constructor
 intro w7 hM7 hb7 hz7
 have HI7 := Lib.hid (HI6.out.up hb7)
 have HJ7 := Lib.hid (HJ6.out.up hb7)
 have HK7 := Lib.hid (HK6.out.up hb7)
 have HL7 := Lib.hid (HL6.out.up hb7)
 have HW7 := Lib.hid (bwstep HW6.out hb7)
 have HL6' := Lib.hid HL6.out.lt
 clear hz7 hb7 HI6 HJ6 HK6 HL6
 go_wp2_with (refine St.store rpOk (c := rpD.z) rfl (.tmp 6) (.tmp 42) rfl rfl rfl hM7 ?_)
 constructor
 intro w8 hs8
 have HLT : Hid (w.heap.size < w6.heap.size ∧ w1.heap.size < w6.heap.size ∧ w2.heap.size < w6.heap.size ∧ w3.heap.size < w6.heap.size) := by
  have e1 := HL1.out; have e2 := HL2.out; have e3 := HL3.out; have e4 := HL6'.out
  exact Lib.hid ⟨by omega, by omega, by omega, e4⟩
 have HI8 := Lib.hid (hs8.up HI7.out (Nat.ne_of_lt HLT.out.1))
 have HJ8 := Lib.hid (hs8.up HJ7.out (Nat.ne_of_lt HLT.out.2.1))
 have HK8 := Lib.hid (hs8.up HK7.out (Nat.ne_of_lt HLT.out.2.2.1))
 have HL8 := Lib.hid (hs8.up HL7.out (Nat.ne_of_lt HLT.out.2.2.2))
 have HM8 := Lib.hid hs8.i
 have HW8 := Lib.hid (hs8.bel HW7.out (Nat.le_of_lt HLT.out.1))
 have s0 := HI8.out.at_ (i := 0) rfl
 obtain ⟨c0, c1, c2, c3, c4, c5, c6, c7, c8, c9⟩ := CmAt.of HJ8.out
 clear hs8 hM7 HI7 HJ7 HK7 HL7 HW7
 go_wp2_with fail
 refine (HNW.out _ _ ((HS.out.cells.bel HW8.out).up (Kp.refl _ _) (fun _ h => by cases h))).mono ?_
 rintro e w9 ⟨rfl, hb9⟩
 obtain ⟨x, hx⟩ : ∃ x, x = nwC c.row c.col c.at_ m.cells := ⟨_, rfl⟩
 obtain ⟨nb, hnb⟩ : ∃ nb, nb = nwB c.row c.col c.at_ m.cells := ⟨_, rfl⟩
 rw [← hx, ← hnb]
 have HX := Lib.hid hx
 have HNB := Lib.hid hnb
 have HI9 := Lib.hid (HI8.out.up hb9)
 have HJ9 := Lib.hid (HJ8.out.up hb9)
 have HK9 := Lib.hid (HK8.out.up hb9)
 have HL9 := Lib.hid (HL8.out.up hb9)
 have HM9 := Lib.hid (HM8.out.up hb9)
 have HW9 := Lib.hid (bwstep HW8.out hb9)
 clear hx hnb hb9 c0 c1 c2 c3 c4 c5 c6 c7 c8 c9 s0 HI8 HJ8 HK8 HL8 HM8 HNW
 go_wp2_with (refine St.alloc clOk rfl rfl ?_)
 constructor
 intro w10 hN10 hb10 hz10
 have HI10 := Lib.hid (HI9.out.up hb10)
 have HJ10 := Lib.hid (HJ9.out.up hb10)
 have HK10 := Lib.hid (HK9.out.up hb10)
 have HL10 := Lib.hid (HL9.out.up hb10)
 have HM10 := Lib.hid (HM9.out.up hb10)
 have HW10 := Lib.hid (bwstep HW9.out hb10)
 have HLT9 := Lib.hid HM9.out.lt
 clear hz10 hb10 HI9 HJ9 HK9 HL9 HM9 HW9
 go_wp2_with (refine St.store clOk (c := x) rfl (.tmp 7) (.tmp 53) rfl rfl rfl hN10 ?_)
 constructor
 intro w11 hs11
 have HO : Hid (w.heap.size < w1.heap.size ∧ w1.heap.size < w2.heap.size ∧ w2.heap.size < w3.heap.size ∧ w3.heap.size < w6.heap.size ∧ w6.heap.size < w9.heap.size) := Lib.hid ⟨HL1.out, HL2.out, HL3.out, HL6'.out, HLT9.out⟩
 have HI11 := Lib.hid (hs11.up HI10.out (by have := HO.out; omega))
 have HJ11 := Lib.hid (hs11.up HJ10.out (by have := HO.out; omega))
 have HK11 := Lib.hid (hs11.up HK10.out (by have := HO.out; omega))
 have HL11 := Lib.hid (hs11.up HL10.out (by have := HO.out; omega))
 have HM11 := Lib.hid (hs11.up HM10.out (by have := HO.out; omega))
 have HN11 := Lib.hid hs11.i
 have HW11 := Lib.hid (hs11.bel HW10.out (by have := HO.out; omega))
 clear hs11 hN10 HI10 HJ10 HK10 HL10 HM10 HW10
 go_upto_region 7 with fail
 go_cut [8] from 55 to 61 (fun v wx => v = .bool (nb && !x.gone) ∧ wx = w11)
 case first =>
  have hgo := HN11.out.at_ (i := 4) (u := .bool x.gone) rfl
  cases nb
  ·go_wp2_with fail
   go_meet
   case rel => exact ⟨rfl, rfl⟩
  ·go_wp2_with fail
   go_meet
   case rel => exact ⟨rfl, rfl⟩
 case rest =>
  obtain ⟨rfl, hwx⟩ := hcut
  subst wc
  have HTH : Hid ((nb && !x.gone) = thereB m.cells c) := Lib.hid (by rw [HNB.out, HX.out]; rfl)
  generalize (nb && !x.gone) = th at *
  obtain ⟨c0, c1, c2, c3, c4, c5, c6, c7, c8, c9⟩ := CmAt.of HJ11.out
  clear c0 c1 c5 c8 c9 HNB
  go_wp2_with (refine St.alloc clOk rfl rfl ?_)
  constructor
  intro w12 hP12 hb12 hz12
  have HI12 := Lib.hid (HI11.out.up hb12)
  have HJ12 := Lib.hid (HJ11.out.up hb12)
  have HK12 := Lib.hid (HK11.out.up hb12)
  have HL12 := Lib.hid (HL11.out.up hb12)
  have HM12 := Lib.hid (HM11.out.up hb12)
  have HN12 := Lib.hid (HN11.out.up hb12)
  have HW12 := Lib.hid (bwstep HW11.out hb12)
  have HLTB := Lib.hid HN11.out.lt
  clear hz12 hb12 c2 c3 c4 c6 c7 HI11 HJ11 HK11 HL11 HM11 HN11 HW11
  go_wp2_with (refine St.store clOk (c := c.one) rfl (.tmp 9) (.tmp 72) rfl rfl rfl hP12 ?_)
  constructor
  intro w13 hs13
  have HA : Hid (ApW w.heap.size w1.heap.size w2.heap.size w3.heap.size w6.heap.size w9.heap.size w11.heap.size c x s rpD.z w w13) := by
   have e := HO.out
   have e2 := HLTB.out
   exact Lib.hid ⟨hs13.up HI12.out (by omega), hs13.up HJ12.out (by omega), hs13.up HK12.out (by omega), hs13.up HL12.out (by omega), hs13.up HM12.out (by omega), hs13.up HN12.out (by omega), hs13.i, Nat.le_refl _, e.1, e.2.1, e.2.2.1, e.2.2.2.1, e.2.2.2.2, e2, hs13.bel HW12.out (by omega)⟩
  clear hs13 hP12 HI12 HJ12 HK12 HL12 HM12 HN12 HW12 HLTB HLT HLT9 HL6' HL1 HL2 HL3 HW8
  go_upto_region 9 with fail
  go_cut [10] from 73 to 88 (fun v wx => v = .bool (holdsB m.cells c) ∧ wx = w13)
  case first =>
   obtain ⟨c0, c1, c2, c3, c4, c5, c6, c7, c8, c9⟩ := CmAt.of HA.out.ic
   have x3 := HA.out.i7.at_ (i := 3) (u := .string x.val) rfl
   have HH : Hid (holdsB m.cells c = ((th == c.has) && (!th || decide (x.val = c.expect)))) := Lib.hid (by unfold holdsB foundV; rw [← HTH.out, ← HX.out])
   clear c0 c1 c2 c3 c4 c5 c6 c7
   generalize c.has = hs9 at *
   by_cases he : x.val = c.expect
   ·rw [decide_eq_true he] at HH
    have hse := str_eq he
    clear he
    cases th <;> cases hs9
    all_goals
     go_wp2_with fail
     go_meet
     case rel => exact ⟨vb (by rw [HH.out]; rfl), rfl⟩
   ·rw [decide_eq_false he] at HH
    have hse := str_ne he
    clear he
    cases th <;> cases hs9
    all_goals
     go_wp2_with fail
     go_meet
     case rel => exact ⟨vb (by rw [HH.out]; rfl), rfl⟩
  case rest =>
   obtain ⟨rfl, hwx⟩ := hcut
   subst wc
   go_upto_region 10 with fail
   go_cut [98] from 88 to 99 (fun v wx => v = .bool (writesB m.cells c) ∧ wx = w13)
   case first =>
    have c2 := (CmAt.of HA.out.ic).c2
    by_cases h2 : c.kind ≤ 2
    ·have HWB : Hid (writesB m.cells c = true) := Lib.hid (by unfold writesB; rw [decide_eq_true h2]; rfl)
     go_wp2_with fail
     go_meet
     case rel => exact ⟨vb HWB.out.symm, rfl⟩
    ·have hd2 : decide (c.kind ≤ 2) = false := decide_eq_false h2
     by_cases h3 : c.kind = 3
     ·have hd3 : (c.kind == 3) = true := beq_iff_eq.2 h3
      have HWB : Hid (writesB m.cells c = holdsB m.cells c) := Lib.hid (by unfold writesB; rw [decide_eq_false h2, decide_eq_true h3]; rfl)
      clear h2 h3
      go_wp2_with fail
      go_meet
      case rel => exact ⟨vb HWB.out.symm, rfl⟩
     ·have hd3 : (c.kind == 3) = false := beq_eq_false_iff_ne.2 h3
      have HWB : Hid (writesB m.cells c = false) := Lib.hid (by unfold writesB; rw [decide_eq_false h2, decide_eq_false h3]; rfl)
      clear h2 h3
      go_wp2_with fail
      go_meet
      case rel => exact ⟨vb HWB.out.symm, rfl⟩
   case rest =>
    obtain ⟨rfl, hwx⟩ := hcut
    subst wc
    go_upto_if 98 with fail
    go_cut [] from 99 to 117 (fun wx => Hid (PA S0 w.heap.size w1.heap.size w2.heap.size w3.heap.size w6.heap.size w9.heap.size w11.heap.size m c x s w wx))
    case first =>
     have HOK : Hid (writesB m.cells c = true → c.one.ok) := Lib.hid fun h => one_ok HRT.out.1 h
     have HCL : Hid (∀ z, Below w.heap.size w z → RdL z ([w.heap.size, w2.heap.size, w3.heap.size, w6.heap.size] ++ S0) (.slice s.a s.n s.c) m.cells) := Lib.hid fun z hz => HS.out.cells.up (Kp.of_below hz _) fun k hk => by
      rcases List.mem_append.1 hk with hk | hk
      ·refine .inr ?_
       have e := HO.out
       simp only [List.mem_cons, List.not_mem_nil, or_false] at hk
       omega
      ·exact .inl hk
     have HSL : Hid (∀ k ∈ ([w.heap.size, w2.heap.size, w3.heap.size, w6.heap.size] ++ S0), k < w13.heap.size) := Lib.hid fun k hk => by
      have e := HO.out
      have e2 := HA.out.i7.lt
      rcases List.mem_append.1 hk with hk | hk
      ·simp only [List.mem_cons, List.not_mem_nil, or_false] at hk
       omega
      ·have := HS0.out k hk
       omega
     have HPE : Hid (doL m.cells c = if writesB m.cells c = true then putL m.cells c.one else m.cells) := Lib.hid rfl
     have HPA := Lib.hid (@PA.of S0 w.heap.size w1.heap.size w2.heap.size w3.heap.size w6.heap.size w9.heap.size w11.heap.size m c x s w)
     generalize writesB m.cells c = wb at *
     cases wb
     ·go_wp2_with fail
      go_meet
      case rel => exact Lib.hid (HPA.out _ s.a s.n s.c 0 false HA.out (HCL.out _ HA.out.bel) (by rw [HPE.out]; rfl) rfl rfl)
     ·have hok := HOK.out rfl
      have hp := fun h => rput16_any (.slice s.a s.n s.c) m.cells c.one w13 _ HSL.out h hok HG.out.ok (by have := HG.out.le; omega)
      have s0 := HA.out.is_.at_ (i := 0) (u := .slice s.a s.n s.c) rfl
      have hi9 := HA.out.i9
      clear hok
      go_wp2_with (refine St.load clOk rfl (.tmp 9) rfl rfl hi9 ?_)
      refine (hp (HCL.out _ HA.out.bel)).mono ?_
      rintro e w14 ⟨⟨An, nn, cn, rfl, hrd⟩, hb14⟩
      have HA14 := Lib.hid (HA.out.up hb14)
      have HPL : Hid (doL m.cells c = putL m.cells c.one) := Lib.hid (by rw [HPE.out]; rfl)
      have HRD := Lib.hid hrd
      have HS1 : Hid (stD.Set w.heap.size ⟨An, nn, cn, s.seq, s.rep⟩ w14 (w14.setCell ⟨w.heap.size, 0, none⟩ (.slice An nn cn))) := Lib.hid (St.Sp.Set.part HA14.out.is_ rfl)
      have HA15 := Lib.hid (HA14.out.setS HS1.out)
      have s0 := HA14.out.is_.at_ (i := 0) (u := .slice s.a s.n s.c) rfl
      have f0 := HA14.out.is_.fz 0
      have e0 := HA15.out.i6.at_ (i := 0) (u := .int .i64 0) rfl
      have g0 := HA15.out.i6.fz 0
      have HR1 : Hid (∀ e, rpD.Set w6.heap.size ⟨e, false, ⟨#[]⟩, none, 0, 0⟩ (w14.setCell ⟨w.heap.size, 0, none⟩ (.slice An nn cn)) ((w14.setCell ⟨w.heap.size, 0, none⟩ (.slice An nn cn)).setCell ⟨w6.heap.size, 0, none⟩ (.int .i64 e))) := Lib.hid fun e => St.Sp.Set.part HA15.out.i6 rfl
      have HRB : Hid (putE16 m.cells c.one = if roomB m.cells c.one = true then 0 else 4) := Lib.hid rfl
      clear hb14 hrd hi9 hp
      generalize putE16 m.cells c.one = pe at *
      have HA16 := Lib.hid (HA15.out.setR (HR1.out pe))
      have c2 := (CmAt.of HA16.out.ic).c2
      have r0 := HA16.out.i6.at_ (i := 0) (u := .int .i64 pe) rfl
      have r1 := HA16.out.i6.at_ (i := 1) (u := .bool false) rfl
      have z1 := HA16.out.i6.fz 1
      have HR2 : Hid (∀ d, rpD.Set w6.heap.size ⟨pe, d, ⟨#[]⟩, none, 0, 0⟩ _ (((w14.setCell ⟨w.heap.size, 0, none⟩ (.slice An nn cn)).setCell ⟨w6.heap.size, 0, none⟩ (.int .i64 pe)).setCell ⟨w6.heap.size, 1, none⟩ (.bool d))) := Lib.hid fun d => St.Sp.Set.part HA16.out.i6 rfl
      have HRZ : Hid (∀ d, RdL (((w14.setCell ⟨w.heap.size, 0, none⟩ (.slice An nn cn)).setCell ⟨w6.heap.size, 0, none⟩ (.int .i64 pe)).setCell ⟨w6.heap.size, 1, none⟩ (.bool d)) ([w.heap.size, w2.heap.size, w3.heap.size, w6.heap.size] ++ S0) (.slice An nn cn) (putL m.cells c.one)) := Lib.hid fun d =>
       ((HRD.out.up (Kp.set w14 (p := ⟨w.heap.size, 0, none⟩) (by simp) _) fun _ h => .inl h).up (Kp.set _ (p := ⟨w6.heap.size, 0, none⟩) (by simp) _) fun _ h => .inl h).up (Kp.set _ (p := ⟨w6.heap.size, 1, none⟩) (by simp) _) fun _ h => .inl h
      by_cases h3 : c.kind = 3
      ·have hd3 : (c.kind == 3) = true := beq_iff_eq.2 h3
       have HK3 := Lib.hid (decide_eq_true h3)
       clear h3
       go_wp2_with fail
       go_meet
       case rel => exact Lib.hid (HPA.out _ An nn cn pe (pe == 0) (HA16.out.setR (HR2.out _)) (HRZ.out _) HPL.out rfl (by rw [HK3.out]; rfl))
      ·have hd3 : (c.kind == 3) = false := beq_eq_false_iff_ne.2 h3
       have HK3 := Lib.hid (decide_eq_false h3)
       clear h3
       go_wp2_with fail
       go_meet
       case rel => exact Lib.hid (HPA.out _ An nn cn pe false (HA16.out.setR (HR2.out _)) (HRZ.out _) HPL.out rfl (by rw [HK3.out]; rfl))
    case rest =>
     obtain ⟨wd, hwd⟩ : ∃ wd, wd = wc := ⟨_, rfl⟩
     subst hwd
     obtain ⟨A, n, cc, hap, hrd⟩ := hcut.out
     have HAP := Lib.hid hap
     have HRD := Lib.hid hrd
     clear hcut hap hrd HA
     go_upto_region 13 with fail
     go_cut [122] from 117 to 123 (fun v wx => v = .bool (decide (c.kind = 4) && th) ∧ wx = wd)
     case first =>
      have c2 := (CmAt.of HAP.out.ic).c2
      by_cases h4 : c.kind = 4
      ·have hd4 : (c.kind == 4) = true := beq_iff_eq.2 h4
       have HQ : Hid ((decide (c.kind = 4) && th) = th) := Lib.hid (by rw [decide_eq_true h4]; rfl)
       clear h4
       go_wp2_with fail
       go_meet
       case rel => exact ⟨vb HQ.out.symm, rfl⟩
      ·have hd4 : (c.kind == 4) = false := beq_eq_false_iff_ne.2 h4
       have HQ : Hid ((decide (c.kind = 4) && th) = false) := Lib.hid (by rw [decide_eq_false h4]; rfl)
       clear h4
       go_wp2_with fail
       go_meet
       case rel => exact ⟨vb HQ.out.symm, rfl⟩
     case rest =>
      obtain ⟨rfl, hwx⟩ := hcut
      subst wc
      go_upto_if 122 with fail
      go_cut [] from 123 to 127 (fun wx => Hid (PB S0 w.heap.size w1.heap.size w2.heap.size w3.heap.size w6.heap.size w9.heap.size w11.heap.size m c x s w wx))
      case first =>
       have HPB := Lib.hid (@PB.of S0 w.heap.size w1.heap.size w2.heap.size w3.heap.size w6.heap.size w9.heap.size w11.heap.size m c x s w)
       have HQD : Hid (∀ d0, (d0 || (decide (c.kind = 4) && thereB m.cells c)) = (d0 || (decide (c.kind = 4) && th))) := Lib.hid fun d0 => by rw [← HTH.out]
       have HQV : Hid ((if (decide (c.kind = 4) && thereB m.cells c) = true then foundV m.cells c else ⟨#[]⟩) = if (decide (c.kind = 4) && th) = true then x.val else ⟨#[]⟩) := Lib.hid (by rw [← HTH.out, HX.out]; rfl)
       generalize (decide (c.kind = 4) && th) = q at *
       cases q
       ·go_wp2_with fail
        go_meet
        case rel => exact Lib.hid (HPB.out _ A n cc _ _ _ HAP.out HRD.out rfl ((HQD.out _).trans (Bool.or_false _)) (HQV.out.trans rfl))
       ·have r1 := HAP.out.i6.at_ (i := 1) rfl
        have z1 := HAP.out.i6.fz 1
        have HR1 := Lib.hid (St.Sp.Set.part (u := .bool true) (i := 1) (y := ⟨_, true, _, none, 0, 0⟩) HAP.out.i6 rfl)
        have HA18 := Lib.hid (HAP.out.setR HR1.out)
        have x3 := HA18.out.i7.at_ (i := 3) (u := .string x.val) rfl
        have r2 := HA18.out.i6.at_ (i := 2) rfl
        have z2 := HA18.out.i6.fz 2
        have HR2 := Lib.hid (St.Sp.Set.part (u := .string x.val) (i := 2) (y := ⟨_, true, x.val, none, 0, 0⟩) HA18.out.i6 rfl)
        have HA19 := Lib.hid (HA18.out.setR HR2.out)
        have HRZ := Lib.hid ((HRD.out.up (Kp.set _ (p := ⟨w6.heap.size, 1, none⟩) (by simp) (.bool true)) fun _ h => .inl h).up (Kp.set _ (p := ⟨w6.heap.size, 2, none⟩) (by simp) (.string x.val)) fun _ h => .inl h)
        go_wp2_with fail
        go_meet
        case rel => exact Lib.hid (HPB.out _ A n cc _ _ _ HA19.out HRZ.out rfl ((HQD.out _).trans (Bool.or_true _)) (HQV.out.trans rfl))
      case rest =>
       obtain ⟨we, hwe⟩ : ∃ we, we = wc := ⟨_, rfl⟩
       subst hwe
       clear HAP HRD
       obtain ⟨A, n, cc, hap, hrd⟩ := hcut.out
       clear hcut
       have HAP := Lib.hid hap
       have HRD := Lib.hid hrd
       have HDL : Hid (doL m.cells c = m.cells) := Lib.hid (if_neg (by unfold writesB; rw [HD5.out]; simp))
       have hvr : RdL we [] (.slice A n cc) m.cells := by
        have := hrd.up (S' := []) (Kp.refl _ _) (fun _ h => by cases h)
        rwa [HDL.out] at this
       have hvis := rvis_any (.slice A n cc) m.cells c.at_ we hvr HG.out.srt (by have := HG.out.le; omega) HG.out.ok
       have HRC : Hid ((doR m.cells c).cells = ((visP c.at_ m.cells).filter (inS c.row c.to_)).take 20) := Lib.hid (by
        show (if c.kind = 5 then (someP c.row c.to_ c.at_ m.cells).take 20 else []) = _
        rw [if_pos HD5.out]
        rfl)
       have HVO : Hid (∀ f ∈ visP c.at_ m.cells, f.ok) := Lib.hid fun f hf => HG.out.ok f (List.mem_filter.1 hf).1
       have HVL : Hid ((visP c.at_ m.cells).length ≤ 400) := Lib.hid (Nat.le_trans (List.length_filter_le _ _) HG.out.le)
       have hsz : c.row.size ≤ 1000000 ∧ c.to_.size ≤ 1000000 := by
        have := HRT.out.1.five HD5.out
        have h1 := this.row
        have h2 := this.to_
        omega
       have hd5 : (c.kind == 5) = true := beq_iff_eq.2 HD5.out
       have s0 := hap.is_.at_ (i := 0) (u := .slice A n cc) rfl
       obtain ⟨c0, c1, c2, c3, c4, c5, c6, c7, c8, c9⟩ := CmAt.of hap.ic
       generalize visP c.at_ m.cells = V at *
       clear hap hrd hvr c0 c1 c3 c4 c5 c7 c8 c9
       go_wp2_with fail
       refine hvis.mono ?_
       rintro e w18 ⟨⟨xv, rfl, hxo⟩, hb18⟩
       have HA18 := Lib.hid (HAP.out.up hb18)
       have HRD18 := Lib.hid (HRD.out.bel hb18)
       have hg6 : w6.heap.size < we.heap.size := HAP.out.i6.lt
       have hxr := hxo.rd (S := [w6.heap.size]) (fun k hk => by rw [List.mem_singleton.1 hk]; exact hg6)
       obtain ⟨Ax, cx, rfl, hcx, hmx⟩ := hxr.shape
       unfold maxLen at hmx
       have HX18 := Lib.hid hxr
       have HG6 := Lib.hid (HA18.out.i6.lt)
       have hvl := HVL.out
       clear hxo hxr hb18 hvis hg6 HAP HRD s0 c2 c6
       go_wp2_with fail
       go_loopw [12] (fun i wr => ∃ (k : Nat) (Ar : Option Addr) (nr cr : Nat), k ≤ V.length ∧ i = .int .i64 (k : Int) ∧ Hid (ApW w.heap.size w1.heap.size w2.heap.size w3.heap.size w6.heap.size w9.heap.size w11.heap.size c x ⟨A, n, cc, s.seq, s.rep⟩ ⟨(doR m.cells c).e, (doR m.cells c).did, (doR m.cells c).value, Ar, nr, cr⟩ w wr) ∧ Hid (OwL wr w18.heap.size (.slice Ar nr cr) (((V.take k).filter (inS c.row c.to_)).take 20)) ∧ Hid (Kp [w6.heap.size] w18 wr)) (fun i _ => V.length - (intOf i).toNat)
       case atStart => exact ⟨0, none, 0, 0, by omega, rfl, HA18, Lib.hid (by simpa using OwL.nil _ _), Lib.hid (Kp.refl _ _)⟩
       case round =>
        obtain ⟨k, Ar, nr, cr, hk, rfl, HAr, HOr, HKr⟩ := hrel
        by_cases hlt : k < V.length
        ·obtain ⟨b, off, rfl, -, -⟩ := HX18.out.open_ (by omega)
         have hh3 : (0 : Int) ≤ (k : Int) := by omega
         have hh4 : (k : Int) < (V.length : Int) := by omega
         have hfk : V[k]? = some (V[k]'hlt) := List.getElem?_eq_getElem _
         generalize V[k]'hlt = f at hfk
         have HXr := Lib.hid (HX18.out.up HKr.out (S' := []) (fun _ h => by cases h))
         obtain ⟨h5f, hbl⟩ := HXr.out.at_ hfk
         have HF5 : Hid (∀ z, Below wr.heap.size wr z → FiveAt b (off + k * 5) f z) := Lib.hid fun z hz => ((HXr.out.bel hz).at_ hfk).1
         have HFS := Lib.hid (filter_snoc hfk (inS c.row c.to_))
         have hfo := HVO.out f (List.mem_of_getElem? hfk)
         have hfz : f.row.size ≤ 1000000 := by have := hfo.r2; omega
         have HT1 : Hid (∀ w', Calls Tryz.prog 25 #[.string f.row, .string c.row] w' fun e w2 => e = .returned (.int .i64 (scmp f.row.data.toList c.row.data.toList)) ∧ Below w'.heap.size w' w2) := Lib.hid fun w' => rtext_any f.row c.row w' hfz hsz.1
         have HT2 : Hid (∀ w', Calls Tryz.prog 25 #[.string f.row, .string c.to_] w' fun e w2 => e = .returned (.int .i64 (scmp f.row.data.toList c.to_.data.toList)) ∧ Below w'.heap.size w' w2) := Lib.hid fun w' => rtext_any f.row c.to_ w' hfz hsz.2
         have HP1 := Lib.hid (@scmp_nlt f.row.data.toList c.row.data.toList)
         have HP2 := Lib.hid (@scmp_ltI f.row.data.toList c.to_.data.toList)
         have HIN : Hid (inS c.row c.to_ f = (decide (¬ f.row.data.toList < c.row.data.toList) && (decide (c.to_.size = 0) || decide (f.row.data.toList < c.to_.data.toList)))) := Lib.hid rfl
         have HLN : Hid (nr = (((V.take k).filter (inS c.row c.to_)).take 20).length) := Lib.hid (by
          obtain ⟨A', c', e, -, -⟩ := (HOr.out.rd (S := []) (fun _ h => by cases h)).shape
          injection e with e1 e2 e3)
         have HU : Hid (∀ z, Below wr.heap.size wr z → (z.cell? ⟨b, off + k * 5, none⟩ = some (.string f.row) ∧ z.cell? ⟨w1.heap.size, 0, none⟩ = some (.int .i64 c.client) ∧ z.cell? ⟨w1.heap.size, 1, none⟩ = some (.int .i64 c.seq) ∧ z.cell? ⟨w1.heap.size, 2, none⟩ = some (.int .i64 c.kind) ∧ z.cell? ⟨w1.heap.size, 3, none⟩ = some (.string c.row) ∧ z.cell? ⟨w1.heap.size, 4, none⟩ = some (.string c.col) ∧ z.cell? ⟨w1.heap.size, 5, none⟩ = some (.string c.to_) ∧ z.cell? ⟨w1.heap.size, 6, none⟩ = some (.int .i64 c.at_) ∧ z.cell? ⟨w1.heap.size, 7, none⟩ = some (.string c.value) ∧ z.cell? ⟨w1.heap.size, 8, none⟩ = some (.string c.expect) ∧ z.cell? ⟨w1.heap.size, 9, none⟩ = some (.bool c.has) ∧ z.cell? ⟨w6.heap.size, 3, none⟩ = some (.slice Ar nr cr) ∧ Below wr.heap.size wr z)) := Lib.hid fun z hz => by
          have a := CmAt.of (HAr.out.ic.up hz)
          have r3 := (HAr.out.i6.up hz).at_ (i := 3) (u := .slice Ar nr cr) rfl
          exact ⟨(HF5.out z hz).1, a.c0, a.c1, a.c2, a.c3, a.c4, a.c5, a.c6, a.c7, a.c8, a.c9, r3, hz⟩
         have HT := Lib.hid (HU.out _ (Below.refl wr.heap.size wr).drew)
         clear hfk h5f hbl hfo hfz
         generalize scmp f.row.data.toList c.row.data.toList = s1 at HT1 HP1
         generalize scmp f.row.data.toList c.to_.data.toList = s2 at HT2 HP2
         generalize inS c.row c.to_ f = q at HFS HIN
         obtain ⟨wo, hwo⟩ : ∃ wo, wo = wr := ⟨_, rfl⟩
         subst hwo
         go_upto_region 21 with fail
         go_cut [171] from 141 to 172 (fun v wx => v = .bool (q && decide ((nr : Int) < 20)) ∧ Hid (Below wo.heap.size wo wx))
         case first =>
          by_cases hs1 : 0 ≤ s1
          ·have hq1 := HP1.out.1 hs1
           have hd1 : decide (0 ≤ s1) = true := decide_eq_true hs1
           by_cases hte : c.to_ = ⟨#[]⟩
           ·have hse : c.to_.toList.isEmpty = true := by
             have := str_eq hte
             simpa using this
            have HQ : Hid (decide ((nr : Int) < 20) = (q && decide ((nr : Int) < 20))) := Lib.hid (by rw [HIN.out, decide_eq_true hq1, decide_eq_true (empty_iff.1 hte)]; rfl)
            clear hs1 hq1 hte
            go_wp2_with fail
            refine wp_region_held_drew (S := fun z => z.cell? ⟨b, off + k * 5, none⟩ = some (.string f.row) ∧ z.cell? ⟨w1.heap.size, 0, none⟩ = some (.int .i64 c.client) ∧ z.cell? ⟨w1.heap.size, 1, none⟩ = some (.int .i64 c.seq) ∧ z.cell? ⟨w1.heap.size, 2, none⟩ = some (.int .i64 c.kind) ∧ z.cell? ⟨w1.heap.size, 3, none⟩ = some (.string c.row) ∧ z.cell? ⟨w1.heap.size, 4, none⟩ = some (.string c.col) ∧ z.cell? ⟨w1.heap.size, 5, none⟩ = some (.string c.to_) ∧ z.cell? ⟨w1.heap.size, 6, none⟩ = some (.int .i64 c.at_) ∧ z.cell? ⟨w1.heap.size, 7, none⟩ = some (.string c.value) ∧ z.cell? ⟨w1.heap.size, 8, none⟩ = some (.string c.expect) ∧ z.cell? ⟨w1.heap.size, 9, none⟩ = some (.bool c.has) ∧ z.cell? ⟨w6.heap.size, 3, none⟩ = some (.slice Ar nr cr) ∧ Below wo.heap.size wo z) (by kernel_rfl) HT.out (fun hHeld => ?_)
            refine takeL 0 (h := ?_)
            refine takeL 1 (h := ?_)
            refine takeL 2 (h := ?_)
            refine takeL 3 (h := ?_)
            refine takeL 4 (h := ?_)
            refine takeL 5 (h := ?_)
            refine takeL 6 (h := ?_)
            refine wpAnyH_ready (rs := [7]) (by kernel_rfl) (by simp) ?_
            refine AllReadyH.cons (o := _) (by simp only [List.getElem?_toArray, List.getElem?_cons_succ, List.getElem?_cons_zero]; rfl) (fun K hK => ?_) AllReadyH.nil
            go_simp
            go_at_call 25
            refine (HT1.out _).mono ?_
            rintro e wx ⟨rfl, hbx⟩
            refine hK.out _ _ (HU.out _ (bwstep hHeld.2.2.2.2.2.2.2.2.2.2.2.2 hbx)) (fun hHeld => ?_)
            clear hK K
            ((try simp only [Act.put]); (try simp only [List.setIfInBounds_toArray]); (try simp only [List.set_cons_succ]); (try simp only [List.set_cons_zero]))
            refine takeL 8 (h := ?_)
            refine takeL 9 (h := ?_)
            refine takeL 10 (h := ?_)
            refine takeL 11 (h := ?_)
            refine takeL 12 (h := ?_)
            refine takeL 13 (h := ?_)
            refine skipL 14 (h := ?_)
            refine skipL 15 (h := ?_)
            refine skipL 16 (h := ?_)
            refine skipL 17 (h := ?_)
            refine skipL 18 (h := ?_)
            refine skipL 19 (h := ?_)
            refine skipL 20 (h := ?_)
            refine skipL 21 (h := ?_)
            refine skipL 22 (h := ?_)
            refine takeL 23 (h := ?_)
            refine takeL 24 (h := ?_)
            refine takeL 25 (h := ?_)
            refine takeL 26 (h := ?_)
            refine takeL 27 (h := ?_)
            refine takeL 28 (h := ?_)
            refine takeL 29 (h := ?_)
            refine takeL 30 (h := ?_)
            refine wpAnyH_done (by kernel_rfl) ?_ _
            have HBZ := Lib.hid hHeld.2.2.2.2.2.2.2.2.2.2.2.2
            clear hHeld
            go_wp2_with fail
            go_meet
            case rel => exact ⟨vb HQ.out, HBZ⟩
           ·have hse : c.to_.toList.isEmpty = false := by
             have := str_ne hte
             simpa using this
            by_cases hs2 : s2 < 0
            ·have hd2 : decide (s2 < 0) = true := decide_eq_true hs2
             have HQ : Hid (decide ((nr : Int) < 20) = (q && decide ((nr : Int) < 20))) := Lib.hid (by rw [HIN.out, decide_eq_true hq1, decide_eq_true (HP2.out.1 hs2)]; simp)
             clear hs1 hq1 hte hs2
             go_wp2_with fail
             refine wp_region_held_drew (S := fun z => z.cell? ⟨b, off + k * 5, none⟩ = some (.string f.row) ∧ z.cell? ⟨w1.heap.size, 0, none⟩ = some (.int .i64 c.client) ∧ z.cell? ⟨w1.heap.size, 1, none⟩ = some (.int .i64 c.seq) ∧ z.cell? ⟨w1.heap.size, 2, none⟩ = some (.int .i64 c.kind) ∧ z.cell? ⟨w1.heap.size, 3, none⟩ = some (.string c.row) ∧ z.cell? ⟨w1.heap.size, 4, none⟩ = some (.string c.col) ∧ z.cell? ⟨w1.heap.size, 5, none⟩ = some (.string c.to_) ∧ z.cell? ⟨w1.heap.size, 6, none⟩ = some (.int .i64 c.at_) ∧ z.cell? ⟨w1.heap.size, 7, none⟩ = some (.string c.value) ∧ z.cell? ⟨w1.heap.size, 8, none⟩ = some (.string c.expect) ∧ z.cell? ⟨w1.heap.size, 9, none⟩ = some (.bool c.has) ∧ z.cell? ⟨w6.heap.size, 3, none⟩ = some (.slice Ar nr cr) ∧ Below wo.heap.size wo z) (by kernel_rfl) HT.out (fun hHeld => ?_)
             refine takeL 0 (h := ?_)
             refine takeL 1 (h := ?_)
             refine takeL 2 (h := ?_)
             refine takeL 3 (h := ?_)
             refine takeL 4 (h := ?_)
             refine takeL 5 (h := ?_)
             refine takeL 6 (h := ?_)
             refine wpAnyH_ready (rs := [7]) (by kernel_rfl) (by simp) ?_
             refine AllReadyH.cons (o := _) (by simp only [List.getElem?_toArray, List.getElem?_cons_succ, List.getElem?_cons_zero]; rfl) (fun K hK => ?_) AllReadyH.nil
             go_simp
             go_at_call 25
             refine (HT1.out _).mono ?_
             rintro e wx ⟨rfl, hbx⟩
             refine hK.out _ _ (HU.out _ (bwstep hHeld.2.2.2.2.2.2.2.2.2.2.2.2 hbx)) (fun hHeld => ?_)
             clear hK K
             ((try simp only [Act.put]); (try simp only [List.setIfInBounds_toArray]); (try simp only [List.set_cons_succ]); (try simp only [List.set_cons_zero]))
             refine takeL 8 (h := ?_)
             refine takeL 9 (h := ?_)
             refine takeL 10 (h := ?_)
             refine takeL 11 (h := ?_)
             refine takeL 12 (h := ?_)
             refine takeL 13 (h := ?_)
             refine takeL 14 (h := ?_)
             refine takeL 15 (h := ?_)
             refine takeL 16 (h := ?_)
             refine takeL 17 (h := ?_)
             refine takeL 18 (h := ?_)
             refine takeL 19 (h := ?_)
             refine takeL 20 (h := ?_)
             refine wpAnyH_ready (rs := [21]) (by kernel_rfl) (by simp) ?_
             refine AllReadyH.cons (o := _) (by simp only [List.getElem?_toArray, List.getElem?_cons_succ, List.getElem?_cons_zero]; rfl) (fun K hK => ?_) AllReadyH.nil
             go_simp
             go_at_call 25
             refine (HT2.out _).mono ?_
             rintro e wy ⟨rfl, hby⟩
             refine hK.out _ _ (HU.out _ (bwstep hHeld.2.2.2.2.2.2.2.2.2.2.2.2 hby)) (fun hHeld => ?_)
             clear hK K
             ((try simp only [Act.put]); (try simp only [List.setIfInBounds_toArray]); (try simp only [List.set_cons_succ]); (try simp only [List.set_cons_zero]))
             refine takeL 22 (h := ?_)
             refine takeL 23 (h := ?_)
             refine takeL 24 (h := ?_)
             refine takeL 25 (h := ?_)
             refine takeL 26 (h := ?_)
             refine takeL 27 (h := ?_)
             refine takeL 28 (h := ?_)
             refine takeL 29 (h := ?_)
             refine takeL 30 (h := ?_)
             refine wpAnyH_done (by kernel_rfl) ?_ _
             have HBZ := Lib.hid hHeld.2.2.2.2.2.2.2.2.2.2.2.2
             clear hHeld
             go_wp2_with fail
             go_meet
             case rel => exact ⟨vb HQ.out, HBZ⟩
            ·have hd2 : decide (s2 < 0) = false := decide_eq_false hs2
             have HQ : Hid (false = (q && decide ((nr : Int) < 20))) := Lib.hid (by rw [HIN.out, decide_eq_false (fun h => hs2 (HP2.out.2 h)), decide_eq_false (fun h => hte (empty_iff.2 h))]; simp)
             clear hs1 hq1 hte hs2
             go_wp2_with fail
             refine wp_region_held_drew (S := fun z => z.cell? ⟨b, off + k * 5, none⟩ = some (.string f.row) ∧ z.cell? ⟨w1.heap.size, 0, none⟩ = some (.int .i64 c.client) ∧ z.cell? ⟨w1.heap.size, 1, none⟩ = some (.int .i64 c.seq) ∧ z.cell? ⟨w1.heap.size, 2, none⟩ = some (.int .i64 c.kind) ∧ z.cell? ⟨w1.heap.size, 3, none⟩ = some (.string c.row) ∧ z.cell? ⟨w1.heap.size, 4, none⟩ = some (.string c.col) ∧ z.cell? ⟨w1.heap.size, 5, none⟩ = some (.string c.to_) ∧ z.cell? ⟨w1.heap.size, 6, none⟩ = some (.int .i64 c.at_) ∧ z.cell? ⟨w1.heap.size, 7, none⟩ = some (.string c.value) ∧ z.cell? ⟨w1.heap.size, 8, none⟩ = some (.string c.expect) ∧ z.cell? ⟨w1.heap.size, 9, none⟩ = some (.bool c.has) ∧ z.cell? ⟨w6.heap.size, 3, none⟩ = some (.slice Ar nr cr) ∧ Below wo.heap.size wo z) (by kernel_rfl) HT.out (fun hHeld => ?_)
             refine takeL 0 (h := ?_)
             refine takeL 1 (h := ?_)
             refine takeL 2 (h := ?_)
             refine takeL 3 (h := ?_)
             refine takeL 4 (h := ?_)
             refine takeL 5 (h := ?_)
             refine takeL 6 (h := ?_)
             refine wpAnyH_ready (rs := [7]) (by kernel_rfl) (by simp) ?_
             refine AllReadyH.cons (o := _) (by simp only [List.getElem?_toArray, List.getElem?_cons_succ, List.getElem?_cons_zero]; rfl) (fun K hK => ?_) AllReadyH.nil
             go_simp
             go_at_call 25
             refine (HT1.out _).mono ?_
             rintro e wx ⟨rfl, hbx⟩
             refine hK.out _ _ (HU.out _ (bwstep hHeld.2.2.2.2.2.2.2.2.2.2.2.2 hbx)) (fun hHeld => ?_)
             clear hK K
             ((try simp only [Act.put]); (try simp only [List.setIfInBounds_toArray]); (try simp only [List.set_cons_succ]); (try simp only [List.set_cons_zero]))
             refine takeL 8 (h := ?_)
             refine takeL 9 (h := ?_)
             refine takeL 10 (h := ?_)
             refine takeL 11 (h := ?_)
             refine takeL 12 (h := ?_)
             refine takeL 13 (h := ?_)
             refine takeL 14 (h := ?_)
             refine takeL 15 (h := ?_)
             refine takeL 16 (h := ?_)
             refine takeL 17 (h := ?_)
             refine takeL 18 (h := ?_)
             refine takeL 19 (h := ?_)
             refine takeL 20 (h := ?_)
             refine wpAnyH_ready (rs := [21]) (by kernel_rfl) (by simp) ?_
             refine AllReadyH.cons (o := _) (by simp only [List.getElem?_toArray, List.getElem?_cons_succ, List.getElem?_cons_zero]; rfl) (fun K hK => ?_) AllReadyH.nil
             go_simp
             go_at_call 25
             refine (HT2.out _).mono ?_
             rintro e wy ⟨rfl, hby⟩
             refine hK.out _ _ (HU.out _ (bwstep hHeld.2.2.2.2.2.2.2.2.2.2.2.2 hby)) (fun hHeld => ?_)
             clear hK K
             ((try simp only [Act.put]); (try simp only [List.setIfInBounds_toArray]); (try simp only [List.set_cons_succ]); (try simp only [List.set_cons_zero]))
             refine takeL 22 (h := ?_)
             refine takeL 23 (h := ?_)
             refine takeL 24 (h := ?_)
             refine takeL 25 (h := ?_)
             refine skipL 26 (h := ?_)
             refine skipL 27 (h := ?_)
             refine skipL 28 (h := ?_)
             refine skipL 29 (h := ?_)
             refine takeL 30 (h := ?_)
             refine wpAnyH_done (by kernel_rfl) ?_ _
             have HBZ := Lib.hid hHeld.2.2.2.2.2.2.2.2.2.2.2.2
             clear hHeld
             go_wp2_with fail
             go_meet
             case rel => exact ⟨vb HQ.out, HBZ⟩
          ·have hd1 : decide (0 ≤ s1) = false := decide_eq_false hs1
           have HQ : Hid (false = (q && decide ((nr : Int) < 20))) := Lib.hid (by rw [HIN.out, decide_eq_false (fun h => hs1 (HP1.out.2 h))]; rfl)
           clear hs1
           go_wp2_with fail
           refine wp_region_held_drew (S := fun z => z.cell? ⟨b, off + k * 5, none⟩ = some (.string f.row) ∧ z.cell? ⟨w1.heap.size, 0, none⟩ = some (.int .i64 c.client) ∧ z.cell? ⟨w1.heap.size, 1, none⟩ = some (.int .i64 c.seq) ∧ z.cell? ⟨w1.heap.size, 2, none⟩ = some (.int .i64 c.kind) ∧ z.cell? ⟨w1.heap.size, 3, none⟩ = some (.string c.row) ∧ z.cell? ⟨w1.heap.size, 4, none⟩ = some (.string c.col) ∧ z.cell? ⟨w1.heap.size, 5, none⟩ = some (.string c.to_) ∧ z.cell? ⟨w1.heap.size, 6, none⟩ = some (.int .i64 c.at_) ∧ z.cell? ⟨w1.heap.size, 7, none⟩ = some (.string c.value) ∧ z.cell? ⟨w1.heap.size, 8, none⟩ = some (.string c.expect) ∧ z.cell? ⟨w1.heap.size, 9, none⟩ = some (.bool c.has) ∧ z.cell? ⟨w6.heap.size, 3, none⟩ = some (.slice Ar nr cr) ∧ Below wo.heap.size wo z) (by kernel_rfl) HT.out (fun hHeld => ?_)
           refine takeL 0 (h := ?_)
           refine takeL 1 (h := ?_)
           refine takeL 2 (h := ?_)
           refine takeL 3 (h := ?_)
           refine takeL 4 (h := ?_)
           refine takeL 5 (h := ?_)
           refine takeL 6 (h := ?_)
           refine wpAnyH_ready (rs := [7]) (by kernel_rfl) (by simp) ?_
           refine AllReadyH.cons (o := _) (by simp only [List.getElem?_toArray, List.getElem?_cons_succ, List.getElem?_cons_zero]; rfl) (fun K hK => ?_) AllReadyH.nil
           go_simp
           go_at_call 25
           refine (HT1.out _).mono ?_
           rintro e wx ⟨rfl, hbx⟩
           refine hK.out _ _ (HU.out _ (bwstep hHeld.2.2.2.2.2.2.2.2.2.2.2.2 hbx)) (fun hHeld => ?_)
           clear hK K
           ((try simp only [Act.put]); (try simp only [List.setIfInBounds_toArray]); (try simp only [List.set_cons_succ]); (try simp only [List.set_cons_zero]))
           refine takeL 8 (h := ?_)
           refine takeL 9 (h := ?_)
           refine skipL 10 (h := ?_)
           refine skipL 11 (h := ?_)
           refine skipL 12 (h := ?_)
           refine skipL 13 (h := ?_)
           refine skipL 14 (h := ?_)
           refine skipL 15 (h := ?_)
           refine skipL 16 (h := ?_)
           refine skipL 17 (h := ?_)
           refine skipL 18 (h := ?_)
           refine skipL 19 (h := ?_)
           refine skipL 20 (h := ?_)
           refine skipL 21 (h := ?_)
           refine skipL 22 (h := ?_)
           refine skipL 23 (h := ?_)
           refine takeL 24 (h := ?_)
           refine takeL 25 (h := ?_)
           refine skipL 26 (h := ?_)
           refine skipL 27 (h := ?_)
           refine skipL 28 (h := ?_)
           refine skipL 29 (h := ?_)
           refine takeL 30 (h := ?_)
           refine wpAnyH_done (by kernel_rfl) ?_ _
           have HBZ := Lib.hid hHeld.2.2.2.2.2.2.2.2.2.2.2.2
           clear hHeld
           go_wp2_with fail
           go_meet
           case rel => exact ⟨vb HQ.out, HBZ⟩
         case rest =>
          obtain ⟨rfl, HBW⟩ := hcut
          obtain ⟨wq, hwq⟩ : ∃ wq, wq = wc := ⟨_, rfl⟩
          subst hwq
          have HAq := Lib.hid (HAr.out.up HBW.out)
          have HOq := Lib.hid (HOr.out.below HBW.out)
          have HKq := Lib.hid (HKr.out.bel HBW.out)
          have HEQ : Hid ((((V.take (k + 1)).filter (inS c.row c.to_)).take 20) = if (q && decide ((nr : Int) < 20)) = true then (((V.take k).filter (inS c.row c.to_)).take 20) ++ [f] else (((V.take k).filter (inS c.row c.to_)).take 20)) := Lib.hid (take20_step q HFS.out HLN.out)
          have hfl : (((V.take k).filter (inS c.row c.to_)).take 20).length ≤ 20 := by simp; omega
          generalize ((V.take k).filter (inS c.row c.to_)).take 20 = F at *
          generalize (q && decide ((nr : Int) < 20)) = qq at *
          clear HU HT1 HT2 HP1 HP2 HIN HFS
          cases qq
          ·have HE2 : Hid ((((V.take (k + 1)).filter (inS c.row c.to_)).take 20) = F) := Lib.hid (by rw [HEQ.out]; rfl)
           clear HEQ
           go_wp2_with fail
           go_roundw
           case rel => exact ⟨k + 1, Ar, nr, cr, by omega, by go_num, HAq, Lib.hid (by rw [HE2.out]; exact HOq.out), HKq⟩
           case measure => simp [intOf]; omega
          ·have HE2 : Hid ((((V.take (k + 1)).filter (inS c.row c.to_)).take 20) = F ++ [f]) := Lib.hid (by rw [HEQ.out]; rfl)
           clear HEQ
           have bA := bwalloc (bwrefl wq) (.cells #[.string f.row, .string f.col, .int .i64 f.at_, .string f.val, .bool f.gone] 47)
           have hx0 := RdL.one wq [] f (by simp) 47
           have hx1 := hx0.bel (bwrefl (wq.alloc (.cells #[.string f.row, .string f.col, .int .i64 f.at_, .string f.val, .bool f.gone] 47))).drew
           have ho1 := HOq.out.below bA.drew
           have hB1 := Nat.le_trans HKq.out.size bA.size
           have hlA : F.length + [f].length ≤ 1000000000 := by simp; omega
           have HBA := Lib.hid (bA.drew.mono HKq.out.size)
           obtain ⟨d0, d1, d2, d3, d4⟩ := HF5.out _ HBW.out
           have r3 := HAq.out.i6.at_ (i := 3) (u := .slice Ar nr cr) rfl
           have r3a := (HAq.out.up bA).i6.at_ (i := 3) (u := .slice Ar nr cr) rfl
           have HL18 : Hid (w11.heap.size < w18.heap.size ∧ w.heap.size ≤ w18.heap.size) := Lib.hid ⟨HA18.out.i9.lt, HA18.out.bel.size⟩
           clear hx0 bA
           go_wp2_with fail
           go_region_law (refine step_appL rfl (.tmp 173) (.tmp 178) rfl (by simp [Act.eval]) ho1 (by simp [Act.eval]) hx1 hlA hB1 ?_; intro v5 w5 o5 g5 _; obtain ⟨A5, c5, e5, -, -⟩ := (o5.rd (S := []) (fun _ h => by cases h)).shape; rw [List.length_append, List.length_singleton] at e5; subst e5; have HO5 := Lib.hid o5; have HB5 := Lib.hid (HBA.out.grown g5 hB1 (fun k hk => (ho1.lt k hk).1)); have HA5 := Lib.hid (HAq.out.belB HB5.out HL18.out.1 HL18.out.2); have HK5 := Lib.hid (Kp.belB HKq.out HB5.out); have y3 := HA5.out.i6.at_ (i := 3) (u := .slice Ar nr cr) rfl; have y4 := HA5.out.i6.fz 3; clear o5 g5 ho1 hx1)
           all_goals
            have HR5 : Hid (rpD.Set w6.heap.size ⟨(doR m.cells c).e, (doR m.cells c).did, (doR m.cells c).value, A5, F.length + 1, c5⟩ w5 (w5.setCell ⟨w6.heap.size, 3, none⟩ (.slice A5 (F.length + 1) c5))) := Lib.hid (St.Sp.Set.part HA5.out.i6 rfl)
            have HO6 := Lib.hid (World.ownsRow.kept HO5.out (St.Sp.Set.grown HR5.out) (.inr (fun e => by have := (HO5.out.lt _ e).1; have := HG6.out; omega)))
            have HA6 := Lib.hid (HA5.out.setR HR5.out)
            have HK6 := Lib.hid (HK5.out.trans (Kp.set w5 (S := [w6.heap.size]) (p := ⟨w6.heap.size, 3, none⟩) (by simp) (.slice A5 (F.length + 1) c5)) (fun _ h => .inl h))
            go_wp2_with fail
            go_roundw
            case rel => exact ⟨k + 1, A5, F.length + 1, c5, by omega, by go_num, HA6, Lib.hid (by rw [HE2.out]; exact HO6.out), HK6⟩
            case measure => simp [intOf]; omega
        ·obtain rfl : k = V.length := by omega
         have hap := HAr.out
         obtain ⟨rr, hrr⟩ : ∃ rr : Rv, rr = ⟨(doR m.cells c).e, (doR m.cells c).did, (doR m.cells c).value, Ar, nr, cr⟩ := ⟨_, rfl⟩
         rw [← hrr] at hap
         have HRE : Hid (rr.e = (doR m.cells c).e ∧ rr.did = (doR m.cells c).did ∧ rr.value = (doR m.cells c).value) := Lib.hid (by rw [hrr]; exact ⟨rfl, rfl, rfl⟩)
         have hrd : TwoR wr ([w.heap.size, w2.heap.size, w3.heap.size, w6.heap.size] ++ S0) (.slice A n cc) (.slice rr.a rr.n rr.c) (doL m.cells c) (doR m.cells c).cells := ⟨HRD18.out.up (Kp.more HKr.out (by simp)) (fun _ h => .inl h), by
          have ho := HOr.out
          rw [List.take_length] at ho
          rw [hrr, HRC.out]
          refine ho.rd fun k hk => ?_
          have e := HO.out
          have e2 := HG6.out
          rcases List.mem_append.1 hk with hk | hk
          ·simp only [List.mem_cons, List.not_mem_nil, or_false] at hk
           omega
          ·have := HS0.out k hk
           omega⟩
         clear hrr HAr HOr HRD18 HA18 HX18 HRC HVO
         obtain ⟨wf, hwf⟩ : ∃ wf, wf = wr := ⟨_, rfl⟩
         subst hwf
         have HAP := Lib.hid hap
         have HRD := Lib.hid hrd
         obtain ⟨c0, c1, c2, c3, c4, c5, c6, c7, c8, c9⟩ := CmAt.of hap.ic
         have q1 := hap.is_.at_ (st_seq ⟨A, n, cc, s.seq, s.rep⟩ hn17)
         have z1 := hap.is_.fz (1 + c.client.toNat)
         have HS1 := Lib.hid (St.Sp.Set.part hap.is_ (st_setSeq ⟨A, n, cc, s.seq, s.rep⟩ hn17 c.seq))
         have HA20 := Lib.hid (hap.setS HS1.out)
         have d0 := (CmAt.of HA20.out.ic).c0
         have i6 := HA20.out.i6
         have hgs := HA20.out.is_.h
         have HR20 := Lib.hid (hrd.up (Kp.set wf (p := ⟨w.heap.size, 1 + c.client.toNat, none⟩) (by simp) (.int .i64 c.seq)) fun _ h => .inl h)
         clear hap hrd c3 c4 c5 c6 c7 c8 c9
         go_wp2_with (first | refine St.load rpOk rfl (.tmp 6) rfl rfl i6 ?_ | refine St.storeAt rpOk rfl (.tmp 191) (.tmp 189) rfl rfl rfl hgs (by show 18 + c.client.toNat * 4 + 4 ≤ 86; omega) ?_)
         constructor
         intro wg htn
         obtain ⟨sv, hsv⟩ : ∃ sv : Sv, sv = ⟨A, n, cc, upd s.seq c.client.toNat c.seq, upd s.rep c.client.toNat rr⟩ := ⟨_, rfl⟩
         have hst : stD.Set w.heap.size sv _ wg := ⟨⟨by rw [htn.i, hsv]; exact congrArg (fun q => some (Obj.cells q 34 (0, 0))) (st_setRep ⟨A, n, cc, upd s.seq c.client.toNat c.seq, s.rep⟩ hn17 rr)⟩, htn.b, htn.z, htn.o⟩
         have HA21 := Lib.hid (HA20.out.setS hst)
         have HR21 := Lib.hid (HR20.out.up (St.Sp.Set.kp hst (S := ([w.heap.size, w2.heap.size, w3.heap.size, w6.heap.size] ++ S0)) (by simp)) fun _ h => .inl h)
         have HSV := Lib.hid hsv
         clear htn hst hsv hgs i6 d0 q1 z1 c0 c1 c2
         have HT := Lib.hid (s25_of (w := w) (z := wg.drew) (HA21.out.is_.kept rfl) (HA21.out.i6.kept rfl) ⟨_, HA21.out.i4.kept rfl⟩ ⟨_, HA21.out.i5.kept rfl⟩ (bwstep HA21.out.bel (Below.refl _ _).drew))
         have HR22 := Lib.hid (HR21.out.bel (Below.refl wg.heap.size wg).drew)
         have HO4 : Hid (w2.heap.size ≠ w.heap.size ∧ w6.heap.size ≠ w2.heap.size ∧ w.heap.size ≠ w3.heap.size ∧ w6.heap.size ≠ w3.heap.size ∧ w2.heap.size ≠ w3.heap.size ∧ w.heap.size ≤ w2.heap.size ∧ w.heap.size ≤ w3.heap.size) := by
          have e := HO.out
          exact Lib.hid ⟨by omega, by omega, by omega, by omega, by omega, by omega, by omega⟩
         go_upto_region 25 with fail
         refine wp_region_held_drew (S := fun z => stD.In w.heap.size sv z ∧ rpD.In w6.heap.size rr z ∧ (∃ c0, stD.In w2.heap.size c0 z) ∧ (∃ r0, rpD.In w3.heap.size r0 z) ∧ Below w.heap.size w z) (by kernel_rfl) HT.out (fun hHeld => ?_)
         refine takeL 0 (hy := by intro z hSz; exact St.run_opLoad stOk (.tmp 2) rfl rfl hSz.1) (h := ?_)
         refine takeL 1 (hy := by intro z hSz; exact St.run_opLoad rpOk (.tmp 6) rfl rfl hSz.2.1) (h := ?_)
         refine wpAnyH_ready (rs := [2]) (by kernel_rfl) (by simp) ?_
         refine AllReadyH.cons (o := _) (by simp only [List.getElem?_toArray, List.getElem?_cons_succ, List.getElem?_cons_zero]; rfl) (fun K hK => ?_) AllReadyH.nil
         rw [if_pos (by rfl)]
         obtain ⟨c0, hc0⟩ := hHeld.2.2.1
         refine St.wp_storeS stOk (c := sv) (c0 := c0) (.tmp 4) (.tmp 192) rfl rfl rfl hc0 ?_
         intro wh hsh
         have HKh := Lib.hid hsh.i
         have HRh := Lib.hid (HR22.out.up (St.Sp.Set.kp hsh (S := ([w.heap.size, w2.heap.size, w3.heap.size, w6.heap.size] ++ S0)) (by simp)) fun _ h => .inl h)
         have HLh := hHeld.2.2.2.1.elim fun r0 k => (⟨r0, hsh.up k (Ne.symm HO4.out.2.2.2.2.1)⟩ : ∃ r0, rpD.In w3.heap.size r0 wh)
         refine hK.out _ _ (s25_of (hsh.up hHeld.1 (Ne.symm HO4.out.1)) (hsh.up hHeld.2.1 HO4.out.2.1) ⟨_, hsh.i⟩ HLh (hsh.bel hHeld.2.2.2.2 HO4.out.2.2.2.2.2.1)) (fun hHeld => ?_)
         clear hK K hsh HLh
         ((try simp only [Act.put]); (try simp only [List.setIfInBounds_toArray]); (try simp only [List.set_cons_succ]); (try simp only [List.set_cons_zero]))
         refine wpAnyH_ready (rs := [3]) (by kernel_rfl) (by simp) ?_
         refine AllReadyH.cons (o := _) (by simp only [List.getElem?_toArray, List.getElem?_cons_succ, List.getElem?_cons_zero]; rfl) (fun K hK => ?_) AllReadyH.nil
         rw [if_pos (by rfl)]
         obtain ⟨r0, hr0⟩ := hHeld.2.2.2.1
         refine St.wp_storeS rpOk (c := rr) (c0 := r0) (.tmp 5) (.tmp 193) rfl rfl rfl hr0 ?_
         intro wi hsi
         have HLi := Lib.hid hsi.i
         have HKi := Lib.hid (hsi.up HKh.out HO4.out.2.2.2.2.1)
         have HRi := Lib.hid (HRh.out.up (St.Sp.Set.kp hsi (S := ([w.heap.size, w2.heap.size, w3.heap.size, w6.heap.size] ++ S0)) (by simp)) fun _ h => .inl h)
         have HWi := Lib.hid (hsi.bel hHeld.2.2.2.2 HO4.out.2.2.2.2.2.2)
         refine hK.out _ _ (s25_of (hsi.up hHeld.1 HO4.out.2.2.1) (hsi.up hHeld.2.1 HO4.out.2.2.2.1) ⟨_, HKi.out⟩ ⟨_, hsi.i⟩ HWi.out) (fun hHeld => ?_)
         clear hK K hsi
         ((try simp only [Act.put]); (try simp only [List.setIfInBounds_toArray]); (try simp only [List.set_cons_succ]); (try simp only [List.set_cons_zero]))
         refine wpAnyH_done (by kernel_rfl) ?_ _
         clear hHeld
         go_wp2_with fail
         refine bodyPost_ret (St.res2c stOk rpOk Tryz.results12 rfl rfl HKi.out HLi.out) rfl ⟨⟨sv, rr, rfl, ?_, ?_⟩, HWi.out⟩
         ·rw [HE.out, HSV.out]
          refine ⟨HRi.out.a.up (Kp.refl _ _) (fun k h => .inl (by simp [h])), by rw [HS.out.seq], fun i => ?_⟩
          show RpIs wi S0 (upd s.rep c.client.toNat rr i) (upd m.rep c.client.toNat (doR m.cells c) i)
          unfold upd
          by_cases hi : i = c.client.toNat
          ·rw [if_pos hi, if_pos hi]
           exact ⟨HRE.out.1, HRE.out.2.1, HRE.out.2.2, HRi.out.b.up (Kp.refl _ _) (fun k h => .inl (by simp [h]))⟩
          ·rw [if_neg hi, if_neg hi]
           exact (HS.out.bel HWi.out).rep i
         ·rw [HE.out]
          exact ⟨HRE.out.1, HRE.out.2.1, HRE.out.2.2, HRi.out.b.up (Kp.refl _ _) (fun k h => .inl (by simp [h]))⟩
end Go.Proofs.YtcpkhhbbjimdaaaGreatDoor.Ce
namespace Go.Proofs.YtcpkhhbbjimdaaaGreatDoor.Ce
open Go.RowKit
theorem rapply_any (s : Sv) (m : Sm) (c : Cm) (w : World) (S0 : List Nat) (hS0 : ∀ k ∈ S0, k < w.heap.size) (hs : SvIs w S0 s m) (hr : c.Right) (hg : m.Good) : Calls Tryz.prog 12 #[s.v, c.v] w (AppEnd w S0 m c) := by
 by_cases h1 : c.seq < m.seq c.client.toNat
 ·exact rapply_lt s m c w S0 hS0 hs hr h1
 ·by_cases h2 : c.seq = m.seq c.client.toNat
  ·exact rapply_eq s m c w S0 hS0 hs hr h2
  ·by_cases h5 : c.kind = 5
   ·exact rapply_scan s m c w S0 hS0 hs hr hg (by omega) h5
   ·exact rapply_gt s m c w S0 hS0 hs hr hg (by omega) h5
theorem doL_good {m : Sm} {c : Cm} (hg : m.Good) (hr : c.Right) : Srt (doL m.cells c) ∧ (∀ x ∈ doL m.cells c, x.ok) ∧ (doL m.cells c).length ≤ 400 := by
 unfold doL
 by_cases hw : writesB m.cells c = true
 ·rw [if_pos hw]
  unfold putL
  by_cases hb : roomB m.cells c.one = true
  ·rw [if_pos hb]
   refine ⟨srt_put1 hg.srt, fun x hx => ?_, of_decide_eq_true hb⟩
   rcases mem_put1 hx with rfl | h
   ·exact one_ok hr.1 hw
   ·exact hg.ok x h
  ·rw [if_neg hb]
   exact ⟨hg.srt, hg.ok, hg.le⟩
 ·rw [if_neg hw]
  exact ⟨hg.srt, hg.ok, hg.le⟩
theorem Sm.app_good {m : Sm} {c : Cm} (hg : m.Good) (hr : c.Right) : (m.app c).1.Good := by
 unfold Sm.app
 by_cases h1 : c.seq < m.seq c.client.toNat
 ·rw [if_pos h1]; exact hg
 ·rw [if_neg h1]
  by_cases h2 : c.seq = m.seq c.client.toNat
  ·rw [if_pos h2]; exact hg
  ·rw [if_neg h2]
   obtain ⟨a, b, d⟩ := doL_good hg hr
   exact ⟨a, b, d⟩
theorem Sm.app_again {m : Sm} {c : Cm} (h : (m.app c).1.seq c.client.toNat = c.seq) : ((m.app c).1.app c).1 = (m.app c).1 ∧ ((m.app c).1.app c).2 = (m.app c).1.rep c.client.toNat := by
 have e : ∀ n : Sm, n.seq c.client.toNat = c.seq → n.app c = (n, n.rep c.client.toNat) := fun n hn => by
  unfold Sm.app
  rw [if_neg (by omega), if_pos hn.symm]
 rw [e _ h]
 exact ⟨rfl, rfl⟩
theorem Sm.app_new {m : Sm} {c : Cm} (h : m.seq c.client.toNat < c.seq) : (m.app c).1.seq c.client.toNat = c.seq ∧ (m.app c).1.rep c.client.toNat = (m.app c).2 := by
 unfold Sm.app
 rw [if_neg (by omega), if_neg (by omega)]
 exact ⟨by simp [upd], by simp [upd]⟩
theorem Sm.app_other {m : Sm} {c : Cm} {k : Nat} (h : k ≠ c.client.toNat) : (m.app c).1.seq k = m.seq k ∧ (m.app c).1.rep k = m.rep k := by
 unfold Sm.app
 by_cases h1 : c.seq < m.seq c.client.toNat
 ·rw [if_pos h1]; exact ⟨rfl, rfl⟩
 ·rw [if_neg h1]
  by_cases h2 : c.seq = m.seq c.client.toNat
  ·rw [if_pos h2]; exact ⟨rfl, rfl⟩
  ·rw [if_neg h2]
   exact ⟨by simp [upd, h], by simp [upd, h]⟩
theorem Sm.app_read {m : Sm} {c : Cm} (h : 4 ≤ c.kind) : (m.app c).1.cells = m.cells := by
 unfold Sm.app
 by_cases h1 : c.seq < m.seq c.client.toNat
 ·rw [if_pos h1]
 ·rw [if_neg h1]
  by_cases h2 : c.seq = m.seq c.client.toNat
  ·rw [if_pos h2]
  ·rw [if_neg h2]
   show doL m.cells c = m.cells
   unfold doL writesB
   rw [decide_eq_false (by omega), decide_eq_false (by omega)]
   rfl
end Go.Proofs.YtcpkhhbbjimdaaaGreatDoor.Ce
