/- Layer 17's law SlotPuts. -/
import Derived.Test.YtofhnomljfbckaaVoI
import Derived.Deep.RegionHeld3
import Derived.BigQuiet
set_option maxHeartbeats 8000000
set_option maxRecDepth 100000
namespace Go.Proofs.Ytofhnomljfbckaa.Ce
open Go.RowKit
theorem s17_of {g : Nat} {c : Vt} {wb z : World} (h : vtD.In g c z) (b : Below wb.heap.size wb z) : vtD.In g c z ∧ z.cell? ⟨g, 0, none⟩ = some (.int .i64 c.slot) ∧ z.cell? ⟨g, 1, none⟩ = some (.int .i64 c.ballot) ∧ z.cell? ⟨g, 2, none⟩ = some (.int .i64 c.origin) ∧ z.cell? ⟨g, 3, none⟩ = some (.bool c.full) ∧ z.cell? ⟨g, 4, none⟩ = some (.string c.bytes) ∧ Below wb.heap.size wb z :=
 have a := VtAt.of h
 ⟨h, a.c0, a.c1, a.c2, a.c3, a.c4, b⟩
theorem s17_up {g : Nat} {c : Vt} {wb z z' : World} (h : vtD.In g c z ∧ z.cell? ⟨g, 0, none⟩ = some (.int .i64 c.slot) ∧ z.cell? ⟨g, 1, none⟩ = some (.int .i64 c.ballot) ∧ z.cell? ⟨g, 2, none⟩ = some (.int .i64 c.origin) ∧ z.cell? ⟨g, 3, none⟩ = some (.bool c.full) ∧ z.cell? ⟨g, 4, none⟩ = some (.string c.bytes) ∧ Below wb.heap.size wb z) (hb : Below z.heap.size z z') : vtD.In g c z' ∧ z'.cell? ⟨g, 0, none⟩ = some (.int .i64 c.slot) ∧ z'.cell? ⟨g, 1, none⟩ = some (.int .i64 c.ballot) ∧ z'.cell? ⟨g, 2, none⟩ = some (.int .i64 c.origin) ∧ z'.cell? ⟨g, 3, none⟩ = some (.bool c.full) ∧ z'.cell? ⟨g, 4, none⟩ = some (.string c.bytes) ∧ Below wb.heap.size wb z' :=
 s17_of (h.1.up hb) (bwstep h.2.2.2.2.2.2 hb)
theorem slotPuts_gen (I : SlotI) (c : Vt) (b : Int) (w : World) : Calls Try.prog 3 #[c.v, .int .i64 b] w fun e w' => e = .returned (.bool true) ∧ Below w.heap.size w w' := by
 have hss : sameB (vtB c) (vtB c) = true := sameB_self _
 have hsp : sameB (prB b) (prB b) = true := sameB_self _
 have hri := fun w1 => I.right c w1
 have hrr := fun w1 => rright17_any c w1
 go_enter Try.func3, Try.ntmps3
 go_wp2_with (refine St.box vtD rfl (.tmp 0) c rfl rfl ?_)
 constructor
 intro w1 hI1 hb1 hz1
 clear hz1
 go_wp2_with fail
 refine (awake17_ok I _).mono ?_
 rintro e w2 ⟨rfl, hb2⟩
 have hI2 := hI1.up hb2
 have hw2 := bwstep hb1 hb2
 have c4 := (VtAt.of hI2).c4
 clear hI1 hb1 hb2
 by_cases hlen : (1000 : Int) < (c.bytes.size : Int)
 ·go_wp2_with fail
  refine (awake17_ok I _).mono ?_
  rintro e w3 ⟨rfl, hb3⟩
  have hw3 := bwstep hw2 hb3
  clear hw2 hb3 hI2 c4
  go_wp2_with fail
  go_ret
  exact ⟨rfl, hw3⟩
 by_cases hR : c.Right
 ·rw [decide_eq_true hR] at hri hrr
  go_wp2_with (refine St.load vtOk rfl (.tmp 2) rfl rfl hI2 ?_)
  refine (I.put_yes c _ hR).mono ?_
  rintro e w3 ⟨x3, rfl, ho3, hb3⟩
  have hr3 := ho3.rd
  have HI3 := Lib.hid (hI2.up hb3)
  have hw3 := bwstep hw2 hb3
  clear hI2 hw2 hb3 ho3 c4 hlen
  go_wp2_with fail
  by_cases hP : PrOk b
  ·have hP1 := hP.1
   have hP2 := hP.2
   refine (I.prom_yes b _ hP).mono ?_
   rintro e w4 ⟨p4, rfl, hop4, hb4⟩
   have hp4 := hop4.rd
   have HI4 := Lib.hid (HI3.out.up hb4)
   have hr4 := hr3.up hb4
   have hw4 := bwstep hw3 hb4
   clear hb4 hop4 hw3 HI3 hr3
   go_wp2_with fail
   refine (rprom17_ok b _ hP).mono ?_
   rintro e w5 ⟨q5, rfl, hoq5, hb5⟩
   have hq5 := hoq5.rd
   have hp5 := hp4.up hb5
   have HI5 := Lib.hid (HI4.out.up hb5)
   have hr5 := hr4.up hb5
   have hw5 := bwstep hw4 hb5
   clear hb5 hoq5 hw4 HI4 hp4 hr4
   go_wp2_with fail
   refine (rsame_bel _ _ _ _ _ _ _ hp5 hq5).mono ?_
   rintro e w6 ⟨rfl, hb6⟩
   have hI6 := HI5.out.up hb6
   have hr6 := hr5.up hb6
   have hw6 := bwstep hw5 hb6
   clear hb6 hw5 HI5 hp5 hq5 hr5
   rw [hsp]
   clear hsp
   have HT := Lib.hid (s17_of (wb := w6) (z := w6.drew) (hI6.up (Below.refl _ _).drew) (Below.refl _ _).drew)
   have HU := Lib.hid fun (a b : World) h hb => s17_up (g := w.heap.size) (c := c) (wb := w6) (z := a) (z' := b) h hb
   go_wp2_with fail
   go_region_held3 (fun z => vtD.In w.heap.size c z ∧ z.cell? ⟨w.heap.size, 0, none⟩ = some (.int .i64 c.slot) ∧ z.cell? ⟨w.heap.size, 1, none⟩ = some (.int .i64 c.ballot) ∧ z.cell? ⟨w.heap.size, 2, none⟩ = some (.int .i64 c.origin) ∧ z.cell? ⟨w.heap.size, 3, none⟩ = some (.bool c.full) ∧ z.cell? ⟨w.heap.size, 4, none⟩ = some (.string c.bytes) ∧ Below w6.heap.size w6 z) (first | exact HT.out | assumption | exact HU.out _ _ (by assumption) (by assumption))
    (first
     | (go_at_call 12; refine (hri _).mono ?_; rintro e wa ⟨rfl, hba⟩)
     | (go_at_call 13; refine (hrr _).mono ?_; rintro e w7 ⟨rfl, hb7⟩))
   obtain ⟨hI7, -, -, -, -, -, hb45⟩ := (by assumption : vtD.In w.heap.size c w7 ∧ w7.cell? ⟨w.heap.size, 0, none⟩ = some (.int .i64 c.slot) ∧ w7.cell? ⟨w.heap.size, 1, none⟩ = some (.int .i64 c.ballot) ∧ w7.cell? ⟨w.heap.size, 2, none⟩ = some (.int .i64 c.origin) ∧ w7.cell? ⟨w.heap.size, 3, none⟩ = some (.bool c.full) ∧ w7.cell? ⟨w.heap.size, 4, none⟩ = some (.string c.bytes) ∧ Below w6.heap.size w6 w7)
   have hw7 := bwstep hw6 hb45
   have hr7 := hr6.up hb45
   clear HT HU hI6 hw6 hb45 hba hb7 hri hr6
   go_wp2_with (refine St.load vtOk rfl (.tmp 2) rfl rfl hI7 ?_)
   refine (hrr _).mono ?_
   rintro e w8 ⟨rfl, hb8⟩
   have hI8 := hI7.up hb8
   have hr8 := hr7.up hb8
   have hw8 := bwstep hw7 hb8
   clear hI7 hr7 hw7 hb8
   go_wp2_with (refine St.load vtOk rfl (.tmp 2) rfl rfl hI8 ?_)
   refine (rput17_ok c _ hR).mono ?_
   rintro e w9 ⟨y, rfl, hoy, hb9⟩
   have hry := hoy.rd
   have hr9 := hr8.up hb9
   have hw9 := bwstep hw8 hb9
   clear hI8 hr8 hw8 hoy hb9
   go_wp2_with fail
   refine (rsame_bel _ _ _ _ _ _ _ hr9 hry).mono ?_
   rintro e w10 ⟨rfl, hb10⟩
   have hw10 := bwstep hw9 hb10
   clear hr9 hry hw9 hb10
   rw [hss]
   go_wp2_with fail
   go_ret
   exact ⟨rfl, hw10⟩
  ·refine (I.prom_not b _ hP).mono ?_
   rintro e w4 ⟨A4, c4, rfl, hb4⟩
   have hI4 := HI3.out.up hb4
   have hr4 := hr3.up hb4
   have hw4 := bwstep hw3 hb4
   have hPn : decide ((1 : Int) ≤ b) = false ∨ (decide ((1 : Int) ≤ b) = true ∧ decide (b ≤ 2147483647) = false) := by
    unfold PrOk at hP
    by_cases h1 : (1 : Int) ≤ b
    ·exact .inr ⟨decide_eq_true h1, decide_eq_false fun h2 => hP ⟨h1, h2⟩⟩
    ·exact .inl (decide_eq_false h1)
   clear hb4 hw3 HI3 hP hsp hr3
   rcases hPn with h1 | ⟨h1, h2⟩
   ·have HT := Lib.hid (s17_of (wb := w4) (z := w4.drew) (hI4.up (Below.refl _ _).drew) (Below.refl _ _).drew)
    have HU := Lib.hid fun (a b : World) h hb => s17_up (g := w.heap.size) (c := c) (wb := w4) (z := a) (z' := b) h hb
    go_wp2_with fail
    go_region_held3 (fun z => vtD.In w.heap.size c z ∧ z.cell? ⟨w.heap.size, 0, none⟩ = some (.int .i64 c.slot) ∧ z.cell? ⟨w.heap.size, 1, none⟩ = some (.int .i64 c.ballot) ∧ z.cell? ⟨w.heap.size, 2, none⟩ = some (.int .i64 c.origin) ∧ z.cell? ⟨w.heap.size, 3, none⟩ = some (.bool c.full) ∧ z.cell? ⟨w.heap.size, 4, none⟩ = some (.string c.bytes) ∧ Below w4.heap.size w4 z) (first | exact HT.out | assumption | exact HU.out _ _ (by assumption) (by assumption))
     (first
      | (go_at_call 12; refine (hri _).mono ?_; rintro e wa ⟨rfl, hba⟩)
      | (go_at_call 13; refine (hrr _).mono ?_; rintro e w5 ⟨rfl, hb5⟩))
    obtain ⟨hI5, -, -, -, -, -, hb45⟩ := (by assumption : vtD.In w.heap.size c w5 ∧ w5.cell? ⟨w.heap.size, 0, none⟩ = some (.int .i64 c.slot) ∧ w5.cell? ⟨w.heap.size, 1, none⟩ = some (.int .i64 c.ballot) ∧ w5.cell? ⟨w.heap.size, 2, none⟩ = some (.int .i64 c.origin) ∧ w5.cell? ⟨w.heap.size, 3, none⟩ = some (.bool c.full) ∧ w5.cell? ⟨w.heap.size, 4, none⟩ = some (.string c.bytes) ∧ Below w4.heap.size w4 w5)
    have hw5 := bwstep hw4 hb45
    have hr5 := hr4.up hb45
    clear HT HU hI4 hw4 hb45 hba hb5 hri hr4
    go_wp2_with (refine St.load vtOk rfl (.tmp 2) rfl rfl hI5 ?_)
    refine (hrr _).mono ?_
    rintro e w6 ⟨rfl, hb6⟩
    have hI6 := hI5.up hb6
    have hr6 := hr5.up hb6
    have hw6 := bwstep hw5 hb6
    clear hI5 hr5 hw5 hb6
    go_wp2_with (refine St.load vtOk rfl (.tmp 2) rfl rfl hI6 ?_)
    refine (rput17_ok c _ hR).mono ?_
    rintro e w7 ⟨y, rfl, hoy, hb7⟩
    have hry := hoy.rd
    have hr7 := hr6.up hb7
    have hw7 := bwstep hw6 hb7
    clear hI6 hr6 hw6 hoy hb7
    go_wp2_with fail
    refine (rsame_bel _ _ _ _ _ _ _ hr7 hry).mono ?_
    rintro e w8 ⟨rfl, hb8⟩
    have hw8 := bwstep hw7 hb8
    clear hr7 hry hw7 hb8
    rw [hss]
    go_wp2_with fail
    go_ret
    exact ⟨rfl, hw8⟩
   ·have HT := Lib.hid (s17_of (wb := w4) (z := w4.drew) (hI4.up (Below.refl _ _).drew) (Below.refl _ _).drew)
    have HU := Lib.hid fun (a b : World) h hb => s17_up (g := w.heap.size) (c := c) (wb := w4) (z := a) (z' := b) h hb
    go_wp2_with fail
    go_region_held3 (fun z => vtD.In w.heap.size c z ∧ z.cell? ⟨w.heap.size, 0, none⟩ = some (.int .i64 c.slot) ∧ z.cell? ⟨w.heap.size, 1, none⟩ = some (.int .i64 c.ballot) ∧ z.cell? ⟨w.heap.size, 2, none⟩ = some (.int .i64 c.origin) ∧ z.cell? ⟨w.heap.size, 3, none⟩ = some (.bool c.full) ∧ z.cell? ⟨w.heap.size, 4, none⟩ = some (.string c.bytes) ∧ Below w4.heap.size w4 z) (first | exact HT.out | assumption | exact HU.out _ _ (by assumption) (by assumption))
     (first
      | (go_at_call 12; refine (hri _).mono ?_; rintro e wa ⟨rfl, hba⟩)
      | (go_at_call 13; refine (hrr _).mono ?_; rintro e w5 ⟨rfl, hb5⟩))
    obtain ⟨hI5, -, -, -, -, -, hb45⟩ := (by assumption : vtD.In w.heap.size c w5 ∧ w5.cell? ⟨w.heap.size, 0, none⟩ = some (.int .i64 c.slot) ∧ w5.cell? ⟨w.heap.size, 1, none⟩ = some (.int .i64 c.ballot) ∧ w5.cell? ⟨w.heap.size, 2, none⟩ = some (.int .i64 c.origin) ∧ w5.cell? ⟨w.heap.size, 3, none⟩ = some (.bool c.full) ∧ w5.cell? ⟨w.heap.size, 4, none⟩ = some (.string c.bytes) ∧ Below w4.heap.size w4 w5)
    have hw5 := bwstep hw4 hb45
    have hr5 := hr4.up hb45
    clear HT HU hI4 hw4 hb45 hba hb5 hri hr4
    go_wp2_with (refine St.load vtOk rfl (.tmp 2) rfl rfl hI5 ?_)
    refine (hrr _).mono ?_
    rintro e w6 ⟨rfl, hb6⟩
    have hI6 := hI5.up hb6
    have hr6 := hr5.up hb6
    have hw6 := bwstep hw5 hb6
    clear hI5 hr5 hw5 hb6
    go_wp2_with (refine St.load vtOk rfl (.tmp 2) rfl rfl hI6 ?_)
    refine (rput17_ok c _ hR).mono ?_
    rintro e w7 ⟨y, rfl, hoy, hb7⟩
    have hry := hoy.rd
    have hr7 := hr6.up hb7
    have hw7 := bwstep hw6 hb7
    clear hI6 hr6 hw6 hoy hb7
    go_wp2_with fail
    refine (rsame_bel _ _ _ _ _ _ _ hr7 hry).mono ?_
    rintro e w8 ⟨rfl, hb8⟩
    have hw8 := bwstep hw7 hb8
    clear hr7 hry hw7 hb8
    rw [hss]
    go_wp2_with fail
    go_ret
    exact ⟨rfl, hw8⟩
 ·rw [decide_eq_false hR] at hri hrr
  go_wp2_with (refine St.load vtOk rfl (.tmp 2) rfl rfl hI2 ?_)
  refine (I.put_not c _ hR).mono ?_
  rintro e w3 ⟨A3, c3, rfl, hb3⟩
  have HI3 := Lib.hid (hI2.up hb3)
  have hw3 := bwstep hw2 hb3
  clear hI2 hw2 hb3 c4 hlen hss
  go_wp2_with fail
  by_cases hP : PrOk b
  ·have hP1 := hP.1
   have hP2 := hP.2
   refine (I.prom_yes b _ hP).mono ?_
   rintro e w4 ⟨p4, rfl, hop4, hb4⟩
   have hp4 := hop4.rd
   have HI4 := Lib.hid (HI3.out.up hb4)
   skip
   have hw4 := bwstep hw3 hb4
   clear hb4 hop4 hw3 HI3
   go_wp2_with fail
   refine (rprom17_ok b _ hP).mono ?_
   rintro e w5 ⟨q5, rfl, hoq5, hb5⟩
   have hq5 := hoq5.rd
   have hp5 := hp4.up hb5
   have HI5 := Lib.hid (HI4.out.up hb5)
   skip
   have hw5 := bwstep hw4 hb5
   clear hb5 hoq5 hw4 HI4 hp4
   go_wp2_with fail
   refine (rsame_bel _ _ _ _ _ _ _ hp5 hq5).mono ?_
   rintro e w6 ⟨rfl, hb6⟩
   have hI6 := HI5.out.up hb6
   skip
   have hw6 := bwstep hw5 hb6
   clear hb6 hw5 HI5 hp5 hq5
   rw [hsp]
   clear hsp
   have HT := Lib.hid (s17_of (wb := w6) (z := w6.drew) (hI6.up (Below.refl _ _).drew) (Below.refl _ _).drew)
   have HU := Lib.hid fun (a b : World) h hb => s17_up (g := w.heap.size) (c := c) (wb := w6) (z := a) (z' := b) h hb
   go_wp2_with fail
   go_region_held3 (fun z => vtD.In w.heap.size c z ∧ z.cell? ⟨w.heap.size, 0, none⟩ = some (.int .i64 c.slot) ∧ z.cell? ⟨w.heap.size, 1, none⟩ = some (.int .i64 c.ballot) ∧ z.cell? ⟨w.heap.size, 2, none⟩ = some (.int .i64 c.origin) ∧ z.cell? ⟨w.heap.size, 3, none⟩ = some (.bool c.full) ∧ z.cell? ⟨w.heap.size, 4, none⟩ = some (.string c.bytes) ∧ Below w6.heap.size w6 z) (first | exact HT.out | assumption | exact HU.out _ _ (by assumption) (by assumption))
    (first
     | (go_at_call 12; refine (hri _).mono ?_; rintro e wa ⟨rfl, hba⟩)
     | (go_at_call 13; refine (hrr _).mono ?_; rintro e w7 ⟨rfl, hb7⟩))
   obtain ⟨hI7, -, -, -, -, -, hb45⟩ := (by assumption : vtD.In w.heap.size c w7 ∧ w7.cell? ⟨w.heap.size, 0, none⟩ = some (.int .i64 c.slot) ∧ w7.cell? ⟨w.heap.size, 1, none⟩ = some (.int .i64 c.ballot) ∧ w7.cell? ⟨w.heap.size, 2, none⟩ = some (.int .i64 c.origin) ∧ w7.cell? ⟨w.heap.size, 3, none⟩ = some (.bool c.full) ∧ w7.cell? ⟨w.heap.size, 4, none⟩ = some (.string c.bytes) ∧ Below w6.heap.size w6 w7)
   have hw7 := bwstep hw6 hb45
   clear HT HU hI6 hw6 hb45 hba hb7 hri
   go_wp2_with (refine St.load vtOk rfl (.tmp 2) rfl rfl hI7 ?_)
   refine (hrr _).mono ?_
   rintro e w8 ⟨rfl, hb8⟩
   have hw8 := bwstep hw7 hb8
   clear hI7 hw7 hb8
   go_wp2_with fail
   go_ret
   exact ⟨rfl, hw8⟩
  ·refine (I.prom_not b _ hP).mono ?_
   rintro e w4 ⟨A4, c4, rfl, hb4⟩
   have hI4 := HI3.out.up hb4
   skip
   have hw4 := bwstep hw3 hb4
   have hPn : decide ((1 : Int) ≤ b) = false ∨ (decide ((1 : Int) ≤ b) = true ∧ decide (b ≤ 2147483647) = false) := by
    unfold PrOk at hP
    by_cases h1 : (1 : Int) ≤ b
    ·exact .inr ⟨decide_eq_true h1, decide_eq_false fun h2 => hP ⟨h1, h2⟩⟩
    ·exact .inl (decide_eq_false h1)
   clear hb4 hw3 HI3 hP hsp
   rcases hPn with h1 | ⟨h1, h2⟩
   ·have HT := Lib.hid (s17_of (wb := w4) (z := w4.drew) (hI4.up (Below.refl _ _).drew) (Below.refl _ _).drew)
    have HU := Lib.hid fun (a b : World) h hb => s17_up (g := w.heap.size) (c := c) (wb := w4) (z := a) (z' := b) h hb
    go_wp2_with fail
    go_region_held3 (fun z => vtD.In w.heap.size c z ∧ z.cell? ⟨w.heap.size, 0, none⟩ = some (.int .i64 c.slot) ∧ z.cell? ⟨w.heap.size, 1, none⟩ = some (.int .i64 c.ballot) ∧ z.cell? ⟨w.heap.size, 2, none⟩ = some (.int .i64 c.origin) ∧ z.cell? ⟨w.heap.size, 3, none⟩ = some (.bool c.full) ∧ z.cell? ⟨w.heap.size, 4, none⟩ = some (.string c.bytes) ∧ Below w4.heap.size w4 z) (first | exact HT.out | assumption | exact HU.out _ _ (by assumption) (by assumption))
     (first
      | (go_at_call 12; refine (hri _).mono ?_; rintro e wa ⟨rfl, hba⟩)
      | (go_at_call 13; refine (hrr _).mono ?_; rintro e w5 ⟨rfl, hb5⟩))
    obtain ⟨hI5, -, -, -, -, -, hb45⟩ := (by assumption : vtD.In w.heap.size c w5 ∧ w5.cell? ⟨w.heap.size, 0, none⟩ = some (.int .i64 c.slot) ∧ w5.cell? ⟨w.heap.size, 1, none⟩ = some (.int .i64 c.ballot) ∧ w5.cell? ⟨w.heap.size, 2, none⟩ = some (.int .i64 c.origin) ∧ w5.cell? ⟨w.heap.size, 3, none⟩ = some (.bool c.full) ∧ w5.cell? ⟨w.heap.size, 4, none⟩ = some (.string c.bytes) ∧ Below w4.heap.size w4 w5)
    have hw5 := bwstep hw4 hb45
    clear HT HU hI4 hw4 hb45 hba hb5 hri
    go_wp2_with (refine St.load vtOk rfl (.tmp 2) rfl rfl hI5 ?_)
    refine (hrr _).mono ?_
    rintro e w6 ⟨rfl, hb6⟩
    have hw6 := bwstep hw5 hb6
    clear hI5 hw5 hb6
    go_wp2_with fail
    go_ret
    exact ⟨rfl, hw6⟩
   ·have HT := Lib.hid (s17_of (wb := w4) (z := w4.drew) (hI4.up (Below.refl _ _).drew) (Below.refl _ _).drew)
    have HU := Lib.hid fun (a b : World) h hb => s17_up (g := w.heap.size) (c := c) (wb := w4) (z := a) (z' := b) h hb
    go_wp2_with fail
    go_region_held3 (fun z => vtD.In w.heap.size c z ∧ z.cell? ⟨w.heap.size, 0, none⟩ = some (.int .i64 c.slot) ∧ z.cell? ⟨w.heap.size, 1, none⟩ = some (.int .i64 c.ballot) ∧ z.cell? ⟨w.heap.size, 2, none⟩ = some (.int .i64 c.origin) ∧ z.cell? ⟨w.heap.size, 3, none⟩ = some (.bool c.full) ∧ z.cell? ⟨w.heap.size, 4, none⟩ = some (.string c.bytes) ∧ Below w4.heap.size w4 z) (first | exact HT.out | assumption | exact HU.out _ _ (by assumption) (by assumption))
     (first
      | (go_at_call 12; refine (hri _).mono ?_; rintro e wa ⟨rfl, hba⟩)
      | (go_at_call 13; refine (hrr _).mono ?_; rintro e w5 ⟨rfl, hb5⟩))
    obtain ⟨hI5, -, -, -, -, -, hb45⟩ := (by assumption : vtD.In w.heap.size c w5 ∧ w5.cell? ⟨w.heap.size, 0, none⟩ = some (.int .i64 c.slot) ∧ w5.cell? ⟨w.heap.size, 1, none⟩ = some (.int .i64 c.ballot) ∧ w5.cell? ⟨w.heap.size, 2, none⟩ = some (.int .i64 c.origin) ∧ w5.cell? ⟨w.heap.size, 3, none⟩ = some (.bool c.full) ∧ w5.cell? ⟨w.heap.size, 4, none⟩ = some (.string c.bytes) ∧ Below w4.heap.size w4 w5)
    have hw5 := bwstep hw4 hb45
    clear HT HU hI4 hw4 hb45 hba hb5 hri
    go_wp2_with (refine St.load vtOk rfl (.tmp 2) rfl rfl hI5 ?_)
    refine (hrr _).mono ?_
    rintro e w6 ⟨rfl, hb6⟩
    have hw6 := bwstep hw5 hb6
    clear hI5 hw5 hb6
    go_wp2_with fail
    go_ret
    exact ⟨rfl, hw6⟩
end Go.Proofs.Ytofhnomljfbckaa.Ce
