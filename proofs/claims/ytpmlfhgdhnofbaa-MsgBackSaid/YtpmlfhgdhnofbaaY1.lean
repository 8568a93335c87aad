/- Layer 19's law MsgPuts, over package msg's contracts. -/
import Derived.Test.YtpmlfhgdhnofbaaMsI
import Derived.Test.YtpmlfhgdhnofbaaMsT
set_option maxHeartbeats 8000000
set_option maxRecDepth 100000
namespace Go.Proofs.Ytpmlfhgdhnofbaa.Ce
open Go.RowKit
theorem s19_of {w w1 wb z : World} {x y : Mx} {m n : Ms} (h1 : msD.In w.heap.size x z) (h2 : msD.In w1.heap.size y z) (h3 : MsIs z [] x m) (h4 : MsIs z [] y n) (h5 : Below wb.heap.size wb z) : (msD.In w.heap.size x z ∧ msD.In w1.heap.size y z ∧ MsIs z [] x m ∧ MsIs z [] y n ∧ Below wb.heap.size wb z) ∧ z.cell? ⟨w.heap.size, 0, none⟩ = some (.int .i64 x.h.kind) ∧ z.cell? ⟨w.heap.size, 1, none⟩ = some (.int .i64 x.h.fr) ∧ z.cell? ⟨w.heap.size, 2, none⟩ = some (.int .i64 x.h.to_) ∧ z.cell? ⟨w.heap.size, 3, none⟩ = some (.int .i64 x.h.ballot) ∧ z.cell? ⟨w.heap.size, 4, none⟩ = some (.int .i64 x.h.slot) ∧ z.cell? ⟨w.heap.size, 5, none⟩ = some (.int .i64 x.h.vote.slot) ∧ z.cell? ⟨w.heap.size, 6, none⟩ = some (.int .i64 x.h.vote.ballot) ∧ z.cell? ⟨w.heap.size, 7, none⟩ = some (.int .i64 x.h.vote.origin) ∧ z.cell? ⟨w.heap.size, 8, none⟩ = some (.bool x.h.vote.full) ∧ z.cell? ⟨w.heap.size, 9, none⟩ = some (.string x.h.vote.bytes) ∧ z.cell? ⟨w.heap.size, 10, none⟩ = some (.slice x.a x.n x.c) ∧ z.cell? ⟨w1.heap.size, 0, none⟩ = some (.int .i64 y.h.kind) ∧ z.cell? ⟨w1.heap.size, 1, none⟩ = some (.int .i64 y.h.fr) ∧ z.cell? ⟨w1.heap.size, 2, none⟩ = some (.int .i64 y.h.to_) ∧ z.cell? ⟨w1.heap.size, 3, none⟩ = some (.int .i64 y.h.ballot) ∧ z.cell? ⟨w1.heap.size, 4, none⟩ = some (.int .i64 y.h.slot) ∧ z.cell? ⟨w1.heap.size, 5, none⟩ = some (.int .i64 y.h.vote.slot) ∧ z.cell? ⟨w1.heap.size, 6, none⟩ = some (.int .i64 y.h.vote.ballot) ∧ z.cell? ⟨w1.heap.size, 7, none⟩ = some (.int .i64 y.h.vote.origin) ∧ z.cell? ⟨w1.heap.size, 8, none⟩ = some (.bool y.h.vote.full) ∧ z.cell? ⟨w1.heap.size, 9, none⟩ = some (.string y.h.vote.bytes) ∧ z.cell? ⟨w1.heap.size, 10, none⟩ = some (.slice y.a y.n y.c) := by
 have a := MxAt.of h1
 have b := MxAt.of h2
 exact ⟨⟨h1, h2, h3, h4, h5⟩, a.c0, a.c1, a.c2, a.c3, a.c4, a.c5, a.c6, a.c7, a.c8, a.c9, a.cA, b.c0, b.c1, b.c2, b.c3, b.c4, b.c5, b.c6, b.c7, b.c8, b.c9, b.cA⟩
theorem msgPuts_gen (I : MsgI) (x y : Mx) (m n : Ms) (w : World) (hx : MsIs w [] x m) (hy : MsIs w [] y n) : Calls Try.prog 3 #[x.v, y.v] w fun e w' => e = .returned (.bool true) ∧ Below w.heap.size w w' := by
 go_enter Try.func3, Try.ntmps3
 go_wp2_with (refine St.box msD rfl (.tmp 0) x rfl rfl ?_)
 constructor
 intro w1 hI1 hb1 hz1
 clear hz1
 go_wp2_with (refine St.box msD rfl (.tmp 1) y rfl rfl ?_)
 constructor
 intro w2 hJ2 hb2 hz2
 clear hz2
 have hI2 := hI1.up hb2
 have hw2 := bwstep hb1 hb2
 have hx2 := hx.bel hw2
 have hy2 := hy.bel hw2
 clear hI1 hb1 hb2 hx hy
 go_wp2_with fail
 refine (awake19_ok I _).mono ?_
 rintro e w3 ⟨rfl, hb3⟩
 have hI3 := hI2.up hb3
 have hJ3 := hJ2.up hb3
 have hx3 := hx2.bel hb3
 have hy3 := hy2.bel hb3
 have hw3 := bwstep hw2 hb3
 clear hI2 hJ2 hw2 hb3 hx2 hy2
 go_wp2_with (refine St.load msOk rfl (.tmp 2) rfl rfl hI3 ?_)
 refine (rsmall19_any x m w3 hx3).mono ?_
 rintro e w4 ⟨⟨q, rfl, hq⟩, hb4⟩
 have hI4 := hI3.up hb4
 have hJ4 := hJ3.up hb4
 have hx4 := hx3.bel hb4
 have hy4 := hy3.bel hb4
 have hw4 := bwstep hw3 hb4
 clear hI3 hJ3 hw3 hb4 hx3 hy3
 cases q
 ·go_wp2_with fail
  refine (awake19_ok I _).mono ?_
  rintro e w5 ⟨rfl, hb5⟩
  have hw5 := bwstep hw4 hb5
  clear hw4 hb5
  go_wp2_with fail
  go_ret
  exact ⟨rfl, hw5⟩
 have h70 := hq rfl
 clear hq
 go_wp2_with (refine St.load msOk rfl (.tmp 3) rfl rfl hJ4 ?_)
 refine (rsmall19_any y n w4 hy4).mono ?_
 rintro e w5 ⟨⟨q, rfl, hq⟩, hb5⟩
 have hI5 := hI4.up hb5
 have hJ5 := hJ4.up hb5
 have hx5 := hx4.bel hb5
 have hy5 := hy4.bel hb5
 have hw5 := bwstep hw4 hb5
 clear hI4 hJ4 hw4 hb5 hx4 hy4
 cases q
 ·go_wp2_with fail
  refine (awake19_ok I _).mono ?_
  rintro e w6 ⟨rfl, hb6⟩
  have hw6 := bwstep hw5 hb6
  clear hw5 hb6
  go_wp2_with fail
  go_ret
  exact ⟨rfl, hw6⟩
 have h71 := hq rfl
 clear hq
 by_cases hR : m.Right
 ·go_wp2_with (refine St.load msOk rfl (.tmp 2) rfl rfl hI5 ?_)
  refine (I.put_yes x m w5 hx5 hR).mono ?_
  rintro e w6 ⟨v, rfl, hv, hb6⟩
  obtain ⟨Av, cv, rfl, -, -⟩ := hv.rd.shapeM
  have HV := Lib.hid hv
  have hI6 := hI5.up hb6
  have hJ6 := hJ5.up hb6
  have hx6 := hx5.bel hb6
  have hy6 := hy5.bel hb6
  have hw6 := bwstep hw5 hb6
  clear hI5 hJ5 hw5 hb6 hx5 hy5 hv
  have HT := Lib.hid (s19_of (wb := w6) (z := w6.drew) (hI6.up (Below.refl _ _).drew) (hJ6.up (Below.refl _ _).drew) (hx6.bel (Below.refl _ _).drew) (hy6.bel (Below.refl _ _).drew) (Below.refl _ _).drew)
  have HU : Hid (∀ a b : World, ((msD.In w.heap.size x a ∧ msD.In w1.heap.size y a ∧ MsIs a [] x m ∧ MsIs a [] y n ∧ Below w6.heap.size w6 a) ∧ a.cell? ⟨w.heap.size, 0, none⟩ = some (.int .i64 x.h.kind) ∧ a.cell? ⟨w.heap.size, 1, none⟩ = some (.int .i64 x.h.fr) ∧ a.cell? ⟨w.heap.size, 2, none⟩ = some (.int .i64 x.h.to_) ∧ a.cell? ⟨w.heap.size, 3, none⟩ = some (.int .i64 x.h.ballot) ∧ a.cell? ⟨w.heap.size, 4, none⟩ = some (.int .i64 x.h.slot) ∧ a.cell? ⟨w.heap.size, 5, none⟩ = some (.int .i64 x.h.vote.slot) ∧ a.cell? ⟨w.heap.size, 6, none⟩ = some (.int .i64 x.h.vote.ballot) ∧ a.cell? ⟨w.heap.size, 7, none⟩ = some (.int .i64 x.h.vote.origin) ∧ a.cell? ⟨w.heap.size, 8, none⟩ = some (.bool x.h.vote.full) ∧ a.cell? ⟨w.heap.size, 9, none⟩ = some (.string x.h.vote.bytes) ∧ a.cell? ⟨w.heap.size, 10, none⟩ = some (.slice x.a x.n x.c) ∧ a.cell? ⟨w1.heap.size, 0, none⟩ = some (.int .i64 y.h.kind) ∧ a.cell? ⟨w1.heap.size, 1, none⟩ = some (.int .i64 y.h.fr) ∧ a.cell? ⟨w1.heap.size, 2, none⟩ = some (.int .i64 y.h.to_) ∧ a.cell? ⟨w1.heap.size, 3, none⟩ = some (.int .i64 y.h.ballot) ∧ a.cell? ⟨w1.heap.size, 4, none⟩ = some (.int .i64 y.h.slot) ∧ a.cell? ⟨w1.heap.size, 5, none⟩ = some (.int .i64 y.h.vote.slot) ∧ a.cell? ⟨w1.heap.size, 6, none⟩ = some (.int .i64 y.h.vote.ballot) ∧ a.cell? ⟨w1.heap.size, 7, none⟩ = some (.int .i64 y.h.vote.origin) ∧ a.cell? ⟨w1.heap.size, 8, none⟩ = some (.bool y.h.vote.full) ∧ a.cell? ⟨w1.heap.size, 9, none⟩ = some (.string y.h.vote.bytes) ∧ a.cell? ⟨w1.heap.size, 10, none⟩ = some (.slice y.a y.n y.c)) → Below a.heap.size a b → ((msD.In w.heap.size x b ∧ msD.In w1.heap.size y b ∧ MsIs b [] x m ∧ MsIs b [] y n ∧ Below w6.heap.size w6 b) ∧ b.cell? ⟨w.heap.size, 0, none⟩ = some (.int .i64 x.h.kind) ∧ b.cell? ⟨w.heap.size, 1, none⟩ = some (.int .i64 x.h.fr) ∧ b.cell? ⟨w.heap.size, 2, none⟩ = some (.int .i64 x.h.to_) ∧ b.cell? ⟨w.heap.size, 3, none⟩ = some (.int .i64 x.h.ballot) ∧ b.cell? ⟨w.heap.size, 4, none⟩ = some (.int .i64 x.h.slot) ∧ b.cell? ⟨w.heap.size, 5, none⟩ = some (.int .i64 x.h.vote.slot) ∧ b.cell? ⟨w.heap.size, 6, none⟩ = some (.int .i64 x.h.vote.ballot) ∧ b.cell? ⟨w.heap.size, 7, none⟩ = some (.int .i64 x.h.vote.origin) ∧ b.cell? ⟨w.heap.size, 8, none⟩ = some (.bool x.h.vote.full) ∧ b.cell? ⟨w.heap.size, 9, none⟩ = some (.string x.h.vote.bytes) ∧ b.cell? ⟨w.heap.size, 10, none⟩ = some (.slice x.a x.n x.c) ∧ b.cell? ⟨w1.heap.size, 0, none⟩ = some (.int .i64 y.h.kind) ∧ b.cell? ⟨w1.heap.size, 1, none⟩ = some (.int .i64 y.h.fr) ∧ b.cell? ⟨w1.heap.size, 2, none⟩ = some (.int .i64 y.h.to_) ∧ b.cell? ⟨w1.heap.size, 3, none⟩ = some (.int .i64 y.h.ballot) ∧ b.cell? ⟨w1.heap.size, 4, none⟩ = some (.int .i64 y.h.slot) ∧ b.cell? ⟨w1.heap.size, 5, none⟩ = some (.int .i64 y.h.vote.slot) ∧ b.cell? ⟨w1.heap.size, 6, none⟩ = some (.int .i64 y.h.vote.ballot) ∧ b.cell? ⟨w1.heap.size, 7, none⟩ = some (.int .i64 y.h.vote.origin) ∧ b.cell? ⟨w1.heap.size, 8, none⟩ = some (.bool y.h.vote.full) ∧ b.cell? ⟨w1.heap.size, 9, none⟩ = some (.string y.h.vote.bytes) ∧ b.cell? ⟨w1.heap.size, 10, none⟩ = some (.slice y.a y.n y.c))) := Lib.hid fun a b h hb => s19_of (h.1.1.up hb) (h.1.2.1.up hb) (h.1.2.2.1.bel hb) (h.1.2.2.2.1.bel hb) (bwstep h.1.2.2.2.2 hb)
  have HR1 : Hid (∀ z, ((msD.In w.heap.size x z ∧ msD.In w1.heap.size y z ∧ MsIs z [] x m ∧ MsIs z [] y n ∧ Below w6.heap.size w6 z) ∧ z.cell? ⟨w.heap.size, 0, none⟩ = some (.int .i64 x.h.kind) ∧ z.cell? ⟨w.heap.size, 1, none⟩ = some (.int .i64 x.h.fr) ∧ z.cell? ⟨w.heap.size, 2, none⟩ = some (.int .i64 x.h.to_) ∧ z.cell? ⟨w.heap.size, 3, none⟩ = some (.int .i64 x.h.ballot) ∧ z.cell? ⟨w.heap.size, 4, none⟩ = some (.int .i64 x.h.slot) ∧ z.cell? ⟨w.heap.size, 5, none⟩ = some (.int .i64 x.h.vote.slot) ∧ z.cell? ⟨w.heap.size, 6, none⟩ = some (.int .i64 x.h.vote.ballot) ∧ z.cell? ⟨w.heap.size, 7, none⟩ = some (.int .i64 x.h.vote.origin) ∧ z.cell? ⟨w.heap.size, 8, none⟩ = some (.bool x.h.vote.full) ∧ z.cell? ⟨w.heap.size, 9, none⟩ = some (.string x.h.vote.bytes) ∧ z.cell? ⟨w.heap.size, 10, none⟩ = some (.slice x.a x.n x.c) ∧ z.cell? ⟨w1.heap.size, 0, none⟩ = some (.int .i64 y.h.kind) ∧ z.cell? ⟨w1.heap.size, 1, none⟩ = some (.int .i64 y.h.fr) ∧ z.cell? ⟨w1.heap.size, 2, none⟩ = some (.int .i64 y.h.to_) ∧ z.cell? ⟨w1.heap.size, 3, none⟩ = some (.int .i64 y.h.ballot) ∧ z.cell? ⟨w1.heap.size, 4, none⟩ = some (.int .i64 y.h.slot) ∧ z.cell? ⟨w1.heap.size, 5, none⟩ = some (.int .i64 y.h.vote.slot) ∧ z.cell? ⟨w1.heap.size, 6, none⟩ = some (.int .i64 y.h.vote.ballot) ∧ z.cell? ⟨w1.heap.size, 7, none⟩ = some (.int .i64 y.h.vote.origin) ∧ z.cell? ⟨w1.heap.size, 8, none⟩ = some (.bool y.h.vote.full) ∧ z.cell? ⟨w1.heap.size, 9, none⟩ = some (.string y.h.vote.bytes) ∧ z.cell? ⟨w1.heap.size, 10, none⟩ = some (.slice y.a y.n y.c)) → Calls Try.prog 10 #[x.v] z fun e w' => e = .returned (.bool true) ∧ Below z.heap.size z w') := Lib.hid fun z h => by
   have := I.right x m z h.1.2.2.1 (by omega)
   rwa [decide_eq_true hR] at this
  have HR2 : Hid (∀ z, ((msD.In w.heap.size x z ∧ msD.In w1.heap.size y z ∧ MsIs z [] x m ∧ MsIs z [] y n ∧ Below w6.heap.size w6 z) ∧ z.cell? ⟨w.heap.size, 0, none⟩ = some (.int .i64 x.h.kind) ∧ z.cell? ⟨w.heap.size, 1, none⟩ = some (.int .i64 x.h.fr) ∧ z.cell? ⟨w.heap.size, 2, none⟩ = some (.int .i64 x.h.to_) ∧ z.cell? ⟨w.heap.size, 3, none⟩ = some (.int .i64 x.h.ballot) ∧ z.cell? ⟨w.heap.size, 4, none⟩ = some (.int .i64 x.h.slot) ∧ z.cell? ⟨w.heap.size, 5, none⟩ = some (.int .i64 x.h.vote.slot) ∧ z.cell? ⟨w.heap.size, 6, none⟩ = some (.int .i64 x.h.vote.ballot) ∧ z.cell? ⟨w.heap.size, 7, none⟩ = some (.int .i64 x.h.vote.origin) ∧ z.cell? ⟨w.heap.size, 8, none⟩ = some (.bool x.h.vote.full) ∧ z.cell? ⟨w.heap.size, 9, none⟩ = some (.string x.h.vote.bytes) ∧ z.cell? ⟨w.heap.size, 10, none⟩ = some (.slice x.a x.n x.c) ∧ z.cell? ⟨w1.heap.size, 0, none⟩ = some (.int .i64 y.h.kind) ∧ z.cell? ⟨w1.heap.size, 1, none⟩ = some (.int .i64 y.h.fr) ∧ z.cell? ⟨w1.heap.size, 2, none⟩ = some (.int .i64 y.h.to_) ∧ z.cell? ⟨w1.heap.size, 3, none⟩ = some (.int .i64 y.h.ballot) ∧ z.cell? ⟨w1.heap.size, 4, none⟩ = some (.int .i64 y.h.slot) ∧ z.cell? ⟨w1.heap.size, 5, none⟩ = some (.int .i64 y.h.vote.slot) ∧ z.cell? ⟨w1.heap.size, 6, none⟩ = some (.int .i64 y.h.vote.ballot) ∧ z.cell? ⟨w1.heap.size, 7, none⟩ = some (.int .i64 y.h.vote.origin) ∧ z.cell? ⟨w1.heap.size, 8, none⟩ = some (.bool y.h.vote.full) ∧ z.cell? ⟨w1.heap.size, 9, none⟩ = some (.string y.h.vote.bytes) ∧ z.cell? ⟨w1.heap.size, 10, none⟩ = some (.slice y.a y.n y.c)) → Calls Try.prog 11 #[x.v] z fun e w' => e = .returned (.bool true) ∧ Below z.heap.size z w') := Lib.hid fun z h => by
   have := rright19_any x m z h.1.2.2.1 (by omega)
   rwa [decide_eq_true hR] at this
  obtain ⟨sm, hsm⟩ : ∃ sm : Bool, sm = decide (m = n) := ⟨_, rfl⟩
  have HS1 : Hid (∀ z, ((msD.In w.heap.size x z ∧ msD.In w1.heap.size y z ∧ MsIs z [] x m ∧ MsIs z [] y n ∧ Below w6.heap.size w6 z) ∧ z.cell? ⟨w.heap.size, 0, none⟩ = some (.int .i64 x.h.kind) ∧ z.cell? ⟨w.heap.size, 1, none⟩ = some (.int .i64 x.h.fr) ∧ z.cell? ⟨w.heap.size, 2, none⟩ = some (.int .i64 x.h.to_) ∧ z.cell? ⟨w.heap.size, 3, none⟩ = some (.int .i64 x.h.ballot) ∧ z.cell? ⟨w.heap.size, 4, none⟩ = some (.int .i64 x.h.slot) ∧ z.cell? ⟨w.heap.size, 5, none⟩ = some (.int .i64 x.h.vote.slot) ∧ z.cell? ⟨w.heap.size, 6, none⟩ = some (.int .i64 x.h.vote.ballot) ∧ z.cell? ⟨w.heap.size, 7, none⟩ = some (.int .i64 x.h.vote.origin) ∧ z.cell? ⟨w.heap.size, 8, none⟩ = some (.bool x.h.vote.full) ∧ z.cell? ⟨w.heap.size, 9, none⟩ = some (.string x.h.vote.bytes) ∧ z.cell? ⟨w.heap.size, 10, none⟩ = some (.slice x.a x.n x.c) ∧ z.cell? ⟨w1.heap.size, 0, none⟩ = some (.int .i64 y.h.kind) ∧ z.cell? ⟨w1.heap.size, 1, none⟩ = some (.int .i64 y.h.fr) ∧ z.cell? ⟨w1.heap.size, 2, none⟩ = some (.int .i64 y.h.to_) ∧ z.cell? ⟨w1.heap.size, 3, none⟩ = some (.int .i64 y.h.ballot) ∧ z.cell? ⟨w1.heap.size, 4, none⟩ = some (.int .i64 y.h.slot) ∧ z.cell? ⟨w1.heap.size, 5, none⟩ = some (.int .i64 y.h.vote.slot) ∧ z.cell? ⟨w1.heap.size, 6, none⟩ = some (.int .i64 y.h.vote.ballot) ∧ z.cell? ⟨w1.heap.size, 7, none⟩ = some (.int .i64 y.h.vote.origin) ∧ z.cell? ⟨w1.heap.size, 8, none⟩ = some (.bool y.h.vote.full) ∧ z.cell? ⟨w1.heap.size, 9, none⟩ = some (.string y.h.vote.bytes) ∧ z.cell? ⟨w1.heap.size, 10, none⟩ = some (.slice y.a y.n y.c)) → ∀ (u : Value) (q : Bool), ((u = y.v ∧ q = sm) ∨ (u = x.v ∧ q = true)) → Calls Try.prog 12 #[x.v, u] z fun e w' => e = .returned (.bool q) ∧ Below z.heap.size z w') := Lib.hid fun z h u q hu => by
   rcases hu with ⟨rfl, rfl⟩ | ⟨rfl, rfl⟩
   ·rw [hsm]
    exact I.same x y m n z h.1.2.2.1 h.1.2.2.2.1 (by omega) (by omega)
   ·have := I.same x x m m z h.1.2.2.1 h.1.2.2.1 (by omega) (by omega)
    rwa [decide_eq_true rfl] at this
  have HS2 : Hid (∀ z, ((msD.In w.heap.size x z ∧ msD.In w1.heap.size y z ∧ MsIs z [] x m ∧ MsIs z [] y n ∧ Below w6.heap.size w6 z) ∧ z.cell? ⟨w.heap.size, 0, none⟩ = some (.int .i64 x.h.kind) ∧ z.cell? ⟨w.heap.size, 1, none⟩ = some (.int .i64 x.h.fr) ∧ z.cell? ⟨w.heap.size, 2, none⟩ = some (.int .i64 x.h.to_) ∧ z.cell? ⟨w.heap.size, 3, none⟩ = some (.int .i64 x.h.ballot) ∧ z.cell? ⟨w.heap.size, 4, none⟩ = some (.int .i64 x.h.slot) ∧ z.cell? ⟨w.heap.size, 5, none⟩ = some (.int .i64 x.h.vote.slot) ∧ z.cell? ⟨w.heap.size, 6, none⟩ = some (.int .i64 x.h.vote.ballot) ∧ z.cell? ⟨w.heap.size, 7, none⟩ = some (.int .i64 x.h.vote.origin) ∧ z.cell? ⟨w.heap.size, 8, none⟩ = some (.bool x.h.vote.full) ∧ z.cell? ⟨w.heap.size, 9, none⟩ = some (.string x.h.vote.bytes) ∧ z.cell? ⟨w.heap.size, 10, none⟩ = some (.slice x.a x.n x.c) ∧ z.cell? ⟨w1.heap.size, 0, none⟩ = some (.int .i64 y.h.kind) ∧ z.cell? ⟨w1.heap.size, 1, none⟩ = some (.int .i64 y.h.fr) ∧ z.cell? ⟨w1.heap.size, 2, none⟩ = some (.int .i64 y.h.to_) ∧ z.cell? ⟨w1.heap.size, 3, none⟩ = some (.int .i64 y.h.ballot) ∧ z.cell? ⟨w1.heap.size, 4, none⟩ = some (.int .i64 y.h.slot) ∧ z.cell? ⟨w1.heap.size, 5, none⟩ = some (.int .i64 y.h.vote.slot) ∧ z.cell? ⟨w1.heap.size, 6, none⟩ = some (.int .i64 y.h.vote.ballot) ∧ z.cell? ⟨w1.heap.size, 7, none⟩ = some (.int .i64 y.h.vote.origin) ∧ z.cell? ⟨w1.heap.size, 8, none⟩ = some (.bool y.h.vote.full) ∧ z.cell? ⟨w1.heap.size, 9, none⟩ = some (.string y.h.vote.bytes) ∧ z.cell? ⟨w1.heap.size, 10, none⟩ = some (.slice y.a y.n y.c)) → Calls Try.prog 13 #[x.v, y.v] z fun e w' => e = .returned (.bool sm) ∧ Below z.heap.size z w') := Lib.hid fun z h => by
   rw [hsm]
   exact rsame19_any x y m n z h.1.2.2.1 h.1.2.2.2.1 (by omega)
  clear hsm hI6 hJ6 hx6 hy6
  go_wp2_with fail
  go_region_held3 (fun z => (msD.In w.heap.size x z ∧ msD.In w1.heap.size y z ∧ MsIs z [] x m ∧ MsIs z [] y n ∧ Below w6.heap.size w6 z) ∧ z.cell? ⟨w.heap.size, 0, none⟩ = some (.int .i64 x.h.kind) ∧ z.cell? ⟨w.heap.size, 1, none⟩ = some (.int .i64 x.h.fr) ∧ z.cell? ⟨w.heap.size, 2, none⟩ = some (.int .i64 x.h.to_) ∧ z.cell? ⟨w.heap.size, 3, none⟩ = some (.int .i64 x.h.ballot) ∧ z.cell? ⟨w.heap.size, 4, none⟩ = some (.int .i64 x.h.slot) ∧ z.cell? ⟨w.heap.size, 5, none⟩ = some (.int .i64 x.h.vote.slot) ∧ z.cell? ⟨w.heap.size, 6, none⟩ = some (.int .i64 x.h.vote.ballot) ∧ z.cell? ⟨w.heap.size, 7, none⟩ = some (.int .i64 x.h.vote.origin) ∧ z.cell? ⟨w.heap.size, 8, none⟩ = some (.bool x.h.vote.full) ∧ z.cell? ⟨w.heap.size, 9, none⟩ = some (.string x.h.vote.bytes) ∧ z.cell? ⟨w.heap.size, 10, none⟩ = some (.slice x.a x.n x.c) ∧ z.cell? ⟨w1.heap.size, 0, none⟩ = some (.int .i64 y.h.kind) ∧ z.cell? ⟨w1.heap.size, 1, none⟩ = some (.int .i64 y.h.fr) ∧ z.cell? ⟨w1.heap.size, 2, none⟩ = some (.int .i64 y.h.to_) ∧ z.cell? ⟨w1.heap.size, 3, none⟩ = some (.int .i64 y.h.ballot) ∧ z.cell? ⟨w1.heap.size, 4, none⟩ = some (.int .i64 y.h.slot) ∧ z.cell? ⟨w1.heap.size, 5, none⟩ = some (.int .i64 y.h.vote.slot) ∧ z.cell? ⟨w1.heap.size, 6, none⟩ = some (.int .i64 y.h.vote.ballot) ∧ z.cell? ⟨w1.heap.size, 7, none⟩ = some (.int .i64 y.h.vote.origin) ∧ z.cell? ⟨w1.heap.size, 8, none⟩ = some (.bool y.h.vote.full) ∧ z.cell? ⟨w1.heap.size, 9, none⟩ = some (.string y.h.vote.bytes) ∧ z.cell? ⟨w1.heap.size, 10, none⟩ = some (.slice y.a y.n y.c)) (first | exact HT.out | assumption | exact HU.out _ _ (by assumption) (by assumption))
   (first
    | (go_at_call 10; refine (HR1.out _ (by assumption)).mono ?_; rintro e wa ⟨rfl, hba⟩)
    | (go_at_call 11; refine (HR2.out _ (by assumption)).mono ?_; rintro e wa ⟨rfl, hba⟩)
    | (go_at_call 12; refine (HS1.out _ (by assumption) _ _ (by exact .inl ⟨rfl, rfl⟩)).mono ?_; rintro e wa ⟨rfl, hba⟩)
    | (go_at_call 12; refine (HS1.out _ (by assumption) _ _ (by exact .inr ⟨rfl, rfl⟩)).mono ?_; rintro e wf ⟨rfl, hbf⟩)
    | (go_at_call 13; refine (HS2.out _ (by assumption)).mono ?_; rintro e wa ⟨rfl, hba⟩))
  obtain ⟨⟨hIf, -, hxf, -, hb6f⟩, -⟩ := (by assumption : (msD.In w.heap.size x wf ∧ msD.In w1.heap.size y wf ∧ MsIs wf [] x m ∧ MsIs wf [] y n ∧ Below w6.heap.size w6 wf) ∧ wf.cell? ⟨w.heap.size, 0, none⟩ = some (.int .i64 x.h.kind) ∧ wf.cell? ⟨w.heap.size, 1, none⟩ = some (.int .i64 x.h.fr) ∧ wf.cell? ⟨w.heap.size, 2, none⟩ = some (.int .i64 x.h.to_) ∧ wf.cell? ⟨w.heap.size, 3, none⟩ = some (.int .i64 x.h.ballot) ∧ wf.cell? ⟨w.heap.size, 4, none⟩ = some (.int .i64 x.h.slot) ∧ wf.cell? ⟨w.heap.size, 5, none⟩ = some (.int .i64 x.h.vote.slot) ∧ wf.cell? ⟨w.heap.size, 6, none⟩ = some (.int .i64 x.h.vote.ballot) ∧ wf.cell? ⟨w.heap.size, 7, none⟩ = some (.int .i64 x.h.vote.origin) ∧ wf.cell? ⟨w.heap.size, 8, none⟩ = some (.bool x.h.vote.full) ∧ wf.cell? ⟨w.heap.size, 9, none⟩ = some (.string x.h.vote.bytes) ∧ wf.cell? ⟨w.heap.size, 10, none⟩ = some (.slice x.a x.n x.c) ∧ wf.cell? ⟨w1.heap.size, 0, none⟩ = some (.int .i64 y.h.kind) ∧ wf.cell? ⟨w1.heap.size, 1, none⟩ = some (.int .i64 y.h.fr) ∧ wf.cell? ⟨w1.heap.size, 2, none⟩ = some (.int .i64 y.h.to_) ∧ wf.cell? ⟨w1.heap.size, 3, none⟩ = some (.int .i64 y.h.ballot) ∧ wf.cell? ⟨w1.heap.size, 4, none⟩ = some (.int .i64 y.h.slot) ∧ wf.cell? ⟨w1.heap.size, 5, none⟩ = some (.int .i64 y.h.vote.slot) ∧ wf.cell? ⟨w1.heap.size, 6, none⟩ = some (.int .i64 y.h.vote.ballot) ∧ wf.cell? ⟨w1.heap.size, 7, none⟩ = some (.int .i64 y.h.vote.origin) ∧ wf.cell? ⟨w1.heap.size, 8, none⟩ = some (.bool y.h.vote.full) ∧ wf.cell? ⟨w1.heap.size, 9, none⟩ = some (.string y.h.vote.bytes) ∧ wf.cell? ⟨w1.heap.size, 10, none⟩ = some (.slice y.a y.n y.c))
  have hwf := bwstep hw6 hb6f
  clear HT HU HR1 HR2 HS1 HS2 hw6
  have hrr := rright19_any x m wf hxf (by omega)
  rw [decide_eq_true hR] at hrr
  go_wp2_with (refine St.load msOk rfl (.tmp 2) rfl rfl hIf ?_)
  refine hrr.mono ?_
  rintro e wg ⟨rfl, hbg⟩
  have hIg := hIf.up hbg
  have hpt := rput19_any x m wg (hxf.bel hbg) hR
  have hvg := (HV.out.rd.up hb6f).up hbg
  have hwg := bwstep hwf hbg
  clear hrr hIf hxf hb6f hwf hbg HV hba hbf
  go_wp2_with (refine St.load msOk rfl (.tmp 2) rfl rfl hIg ?_)
  refine hpt.mono ?_
  rintro e wh ⟨q, rfl, hq, hbh⟩
  have hvh := hvg.up hbh
  have hwh := bwstep hwg hbh
  have hqh := hq.rd
  have hss : sameB (msB m) (msB m) = true := sameB_self _
  clear hpt hIg hvg hwg hbh hq
  go_wp2_with fail
  refine (rsame_bel _ _ _ _ _ _ _ hvh hqh).mono ?_
  rintro e wi ⟨rfl, hbi⟩
  have hwi := bwstep hwh hbi
  clear hvh hqh hwh hbi
  rw [hss]
  go_wp2_with fail
  go_ret
  exact ⟨rfl, hwi⟩
 ·go_wp2_with (refine St.load msOk rfl (.tmp 2) rfl rfl hI5 ?_)
  refine (I.put_not x m w5 hx5 (by omega) hR).mono ?_
  rintro e w6 ⟨Av, cv, rfl, hb6⟩
  have hI6 := hI5.up hb6
  have hJ6 := hJ5.up hb6
  have hx6 := hx5.bel hb6
  have hy6 := hy5.bel hb6
  have hw6 := bwstep hw5 hb6
  clear hI5 hJ5 hw5 hb6 hx5 hy5
  have HT := Lib.hid (s19_of (wb := w6) (z := w6.drew) (hI6.up (Below.refl _ _).drew) (hJ6.up (Below.refl _ _).drew) (hx6.bel (Below.refl _ _).drew) (hy6.bel (Below.refl _ _).drew) (Below.refl _ _).drew)
  have HU : Hid (∀ a b : World, ((msD.In w.heap.size x a ∧ msD.In w1.heap.size y a ∧ MsIs a [] x m ∧ MsIs a [] y n ∧ Below w6.heap.size w6 a) ∧ a.cell? ⟨w.heap.size, 0, none⟩ = some (.int .i64 x.h.kind) ∧ a.cell? ⟨w.heap.size, 1, none⟩ = some (.int .i64 x.h.fr) ∧ a.cell? ⟨w.heap.size, 2, none⟩ = some (.int .i64 x.h.to_) ∧ a.cell? ⟨w.heap.size, 3, none⟩ = some (.int .i64 x.h.ballot) ∧ a.cell? ⟨w.heap.size, 4, none⟩ = some (.int .i64 x.h.slot) ∧ a.cell? ⟨w.heap.size, 5, none⟩ = some (.int .i64 x.h.vote.slot) ∧ a.cell? ⟨w.heap.size, 6, none⟩ = some (.int .i64 x.h.vote.ballot) ∧ a.cell? ⟨w.heap.size, 7, none⟩ = some (.int .i64 x.h.vote.origin) ∧ a.cell? ⟨w.heap.size, 8, none⟩ = some (.bool x.h.vote.full) ∧ a.cell? ⟨w.heap.size, 9, none⟩ = some (.string x.h.vote.bytes) ∧ a.cell? ⟨w.heap.size, 10, none⟩ = some (.slice x.a x.n x.c) ∧ a.cell? ⟨w1.heap.size, 0, none⟩ = some (.int .i64 y.h.kind) ∧ a.cell? ⟨w1.heap.size, 1, none⟩ = some (.int .i64 y.h.fr) ∧ a.cell? ⟨w1.heap.size, 2, none⟩ = some (.int .i64 y.h.to_) ∧ a.cell? ⟨w1.heap.size, 3, none⟩ = some (.int .i64 y.h.ballot) ∧ a.cell? ⟨w1.heap.size, 4, none⟩ = some (.int .i64 y.h.slot) ∧ a.cell? ⟨w1.heap.size, 5, none⟩ = some (.int .i64 y.h.vote.slot) ∧ a.cell? ⟨w1.heap.size, 6, none⟩ = some (.int .i64 y.h.vote.ballot) ∧ a.cell? ⟨w1.heap.size, 7, none⟩ = some (.int .i64 y.h.vote.origin) ∧ a.cell? ⟨w1.heap.size, 8, none⟩ = some (.bool y.h.vote.full) ∧ a.cell? ⟨w1.heap.size, 9, none⟩ = some (.string y.h.vote.bytes) ∧ a.cell? ⟨w1.heap.size, 10, none⟩ = some (.slice y.a y.n y.c)) → Below a.heap.size a b → ((msD.In w.heap.size x b ∧ msD.In w1.heap.size y b ∧ MsIs b [] x m ∧ MsIs b [] y n ∧ Below w6.heap.size w6 b) ∧ b.cell? ⟨w.heap.size, 0, none⟩ = some (.int .i64 x.h.kind) ∧ b.cell? ⟨w.heap.size, 1, none⟩ = some (.int .i64 x.h.fr) ∧ b.cell? ⟨w.heap.size, 2, none⟩ = some (.int .i64 x.h.to_) ∧ b.cell? ⟨w.heap.size, 3, none⟩ = some (.int .i64 x.h.ballot) ∧ b.cell? ⟨w.heap.size, 4, none⟩ = some (.int .i64 x.h.slot) ∧ b.cell? ⟨w.heap.size, 5, none⟩ = some (.int .i64 x.h.vote.slot) ∧ b.cell? ⟨w.heap.size, 6, none⟩ = some (.int .i64 x.h.vote.ballot) ∧ b.cell? ⟨w.heap.size, 7, none⟩ = some (.int .i64 x.h.vote.origin) ∧ b.cell? ⟨w.heap.size, 8, none⟩ = some (.bool x.h.vote.full) ∧ b.cell? ⟨w.heap.size, 9, none⟩ = some (.string x.h.vote.bytes) ∧ b.cell? ⟨w.heap.size, 10, none⟩ = some (.slice x.a x.n x.c) ∧ b.cell? ⟨w1.heap.size, 0, none⟩ = some (.int .i64 y.h.kind) ∧ b.cell? ⟨w1.heap.size, 1, none⟩ = some (.int .i64 y.h.fr) ∧ b.cell? ⟨w1.heap.size, 2, none⟩ = some (.int .i64 y.h.to_) ∧ b.cell? ⟨w1.heap.size, 3, none⟩ = some (.int .i64 y.h.ballot) ∧ b.cell? ⟨w1.heap.size, 4, none⟩ = some (.int .i64 y.h.slot) ∧ b.cell? ⟨w1.heap.size, 5, none⟩ = some (.int .i64 y.h.vote.slot) ∧ b.cell? ⟨w1.heap.size, 6, none⟩ = some (.int .i64 y.h.vote.ballot) ∧ b.cell? ⟨w1.heap.size, 7, none⟩ = some (.int .i64 y.h.vote.origin) ∧ b.cell? ⟨w1.heap.size, 8, none⟩ = some (.bool y.h.vote.full) ∧ b.cell? ⟨w1.heap.size, 9, none⟩ = some (.string y.h.vote.bytes) ∧ b.cell? ⟨w1.heap.size, 10, none⟩ = some (.slice y.a y.n y.c))) := Lib.hid fun a b h hb => s19_of (h.1.1.up hb) (h.1.2.1.up hb) (h.1.2.2.1.bel hb) (h.1.2.2.2.1.bel hb) (bwstep h.1.2.2.2.2 hb)
  have HR1 : Hid (∀ z, ((msD.In w.heap.size x z ∧ msD.In w1.heap.size y z ∧ MsIs z [] x m ∧ MsIs z [] y n ∧ Below w6.heap.size w6 z) ∧ z.cell? ⟨w.heap.size, 0, none⟩ = some (.int .i64 x.h.kind) ∧ z.cell? ⟨w.heap.size, 1, none⟩ = some (.int .i64 x.h.fr) ∧ z.cell? ⟨w.heap.size, 2, none⟩ = some (.int .i64 x.h.to_) ∧ z.cell? ⟨w.heap.size, 3, none⟩ = some (.int .i64 x.h.ballot) ∧ z.cell? ⟨w.heap.size, 4, none⟩ = some (.int .i64 x.h.slot) ∧ z.cell? ⟨w.heap.size, 5, none⟩ = some (.int .i64 x.h.vote.slot) ∧ z.cell? ⟨w.heap.size, 6, none⟩ = some (.int .i64 x.h.vote.ballot) ∧ z.cell? ⟨w.heap.size, 7, none⟩ = some (.int .i64 x.h.vote.origin) ∧ z.cell? ⟨w.heap.size, 8, none⟩ = some (.bool x.h.vote.full) ∧ z.cell? ⟨w.heap.size, 9, none⟩ = some (.string x.h.vote.bytes) ∧ z.cell? ⟨w.heap.size, 10, none⟩ = some (.slice x.a x.n x.c) ∧ z.cell? ⟨w1.heap.size, 0, none⟩ = some (.int .i64 y.h.kind) ∧ z.cell? ⟨w1.heap.size, 1, none⟩ = some (.int .i64 y.h.fr) ∧ z.cell? ⟨w1.heap.size, 2, none⟩ = some (.int .i64 y.h.to_) ∧ z.cell? ⟨w1.heap.size, 3, none⟩ = some (.int .i64 y.h.ballot) ∧ z.cell? ⟨w1.heap.size, 4, none⟩ = some (.int .i64 y.h.slot) ∧ z.cell? ⟨w1.heap.size, 5, none⟩ = some (.int .i64 y.h.vote.slot) ∧ z.cell? ⟨w1.heap.size, 6, none⟩ = some (.int .i64 y.h.vote.ballot) ∧ z.cell? ⟨w1.heap.size, 7, none⟩ = some (.int .i64 y.h.vote.origin) ∧ z.cell? ⟨w1.heap.size, 8, none⟩ = some (.bool y.h.vote.full) ∧ z.cell? ⟨w1.heap.size, 9, none⟩ = some (.string y.h.vote.bytes) ∧ z.cell? ⟨w1.heap.size, 10, none⟩ = some (.slice y.a y.n y.c)) → Calls Try.prog 10 #[x.v] z fun e w' => e = .returned (.bool false) ∧ Below z.heap.size z w') := Lib.hid fun z h => by
   have := I.right x m z h.1.2.2.1 (by omega)
   rwa [decide_eq_false hR] at this
  have HR2 : Hid (∀ z, ((msD.In w.heap.size x z ∧ msD.In w1.heap.size y z ∧ MsIs z [] x m ∧ MsIs z [] y n ∧ Below w6.heap.size w6 z) ∧ z.cell? ⟨w.heap.size, 0, none⟩ = some (.int .i64 x.h.kind) ∧ z.cell? ⟨w.heap.size, 1, none⟩ = some (.int .i64 x.h.fr) ∧ z.cell? ⟨w.heap.size, 2, none⟩ = some (.int .i64 x.h.to_) ∧ z.cell? ⟨w.heap.size, 3, none⟩ = some (.int .i64 x.h.ballot) ∧ z.cell? ⟨w.heap.size, 4, none⟩ = some (.int .i64 x.h.slot) ∧ z.cell? ⟨w.heap.size, 5, none⟩ = some (.int .i64 x.h.vote.slot) ∧ z.cell? ⟨w.heap.size, 6, none⟩ = some (.int .i64 x.h.vote.ballot) ∧ z.cell? ⟨w.heap.size, 7, none⟩ = some (.int .i64 x.h.vote.origin) ∧ z.cell? ⟨w.heap.size, 8, none⟩ = some (.bool x.h.vote.full) ∧ z.cell? ⟨w.heap.size, 9, none⟩ = some (.string x.h.vote.bytes) ∧ z.cell? ⟨w.heap.size, 10, none⟩ = some (.slice x.a x.n x.c) ∧ z.cell? ⟨w1.heap.size, 0, none⟩ = some (.int .i64 y.h.kind) ∧ z.cell? ⟨w1.heap.size, 1, none⟩ = some (.int .i64 y.h.fr) ∧ z.cell? ⟨w1.heap.size, 2, none⟩ = some (.int .i64 y.h.to_) ∧ z.cell? ⟨w1.heap.size, 3, none⟩ = some (.int .i64 y.h.ballot) ∧ z.cell? ⟨w1.heap.size, 4, none⟩ = some (.int .i64 y.h.slot) ∧ z.cell? ⟨w1.heap.size, 5, none⟩ = some (.int .i64 y.h.vote.slot) ∧ z.cell? ⟨w1.heap.size, 6, none⟩ = some (.int .i64 y.h.vote.ballot) ∧ z.cell? ⟨w1.heap.size, 7, none⟩ = some (.int .i64 y.h.vote.origin) ∧ z.cell? ⟨w1.heap.size, 8, none⟩ = some (.bool y.h.vote.full) ∧ z.cell? ⟨w1.heap.size, 9, none⟩ = some (.string y.h.vote.bytes) ∧ z.cell? ⟨w1.heap.size, 10, none⟩ = some (.slice y.a y.n y.c)) → Calls Try.prog 11 #[x.v] z fun e w' => e = .returned (.bool false) ∧ Below z.heap.size z w') := Lib.hid fun z h => by
   have := rright19_any x m z h.1.2.2.1 (by omega)
   rwa [decide_eq_false hR] at this
  obtain ⟨sm, hsm⟩ : ∃ sm : Bool, sm = decide (m = n) := ⟨_, rfl⟩
  have HS1 : Hid (∀ z, ((msD.In w.heap.size x z ∧ msD.In w1.heap.size y z ∧ MsIs z [] x m ∧ MsIs z [] y n ∧ Below w6.heap.size w6 z) ∧ z.cell? ⟨w.heap.size, 0, none⟩ = some (.int .i64 x.h.kind) ∧ z.cell? ⟨w.heap.size, 1, none⟩ = some (.int .i64 x.h.fr) ∧ z.cell? ⟨w.heap.size, 2, none⟩ = some (.int .i64 x.h.to_) ∧ z.cell? ⟨w.heap.size, 3, none⟩ = some (.int .i64 x.h.ballot) ∧ z.cell? ⟨w.heap.size, 4, none⟩ = some (.int .i64 x.h.slot) ∧ z.cell? ⟨w.heap.size, 5, none⟩ = some (.int .i64 x.h.vote.slot) ∧ z.cell? ⟨w.heap.size, 6, none⟩ = some (.int .i64 x.h.vote.ballot) ∧ z.cell? ⟨w.heap.size, 7, none⟩ = some (.int .i64 x.h.vote.origin) ∧ z.cell? ⟨w.heap.size, 8, none⟩ = some (.bool x.h.vote.full) ∧ z.cell? ⟨w.heap.size, 9, none⟩ = some (.string x.h.vote.bytes) ∧ z.cell? ⟨w.heap.size, 10, none⟩ = some (.slice x.a x.n x.c) ∧ z.cell? ⟨w1.heap.size, 0, none⟩ = some (.int .i64 y.h.kind) ∧ z.cell? ⟨w1.heap.size, 1, none⟩ = some (.int .i64 y.h.fr) ∧ z.cell? ⟨w1.heap.size, 2, none⟩ = some (.int .i64 y.h.to_) ∧ z.cell? ⟨w1.heap.size, 3, none⟩ = some (.int .i64 y.h.ballot) ∧ z.cell? ⟨w1.heap.size, 4, none⟩ = some (.int .i64 y.h.slot) ∧ z.cell? ⟨w1.heap.size, 5, none⟩ = some (.int .i64 y.h.vote.slot) ∧ z.cell? ⟨w1.heap.size, 6, none⟩ = some (.int .i64 y.h.vote.ballot) ∧ z.cell? ⟨w1.heap.size, 7, none⟩ = some (.int .i64 y.h.vote.origin) ∧ z.cell? ⟨w1.heap.size, 8, none⟩ = some (.bool y.h.vote.full) ∧ z.cell? ⟨w1.heap.size, 9, none⟩ = some (.string y.h.vote.bytes) ∧ z.cell? ⟨w1.heap.size, 10, none⟩ = some (.slice y.a y.n y.c)) → ∀ (u : Value) (q : Bool), ((u = y.v ∧ q = sm) ∨ (u = x.v ∧ q = true)) → Calls Try.prog 12 #[x.v, u] z fun e w' => e = .returned (.bool q) ∧ Below z.heap.size z w') := Lib.hid fun z h u q hu => by
   rcases hu with ⟨rfl, rfl⟩ | ⟨rfl, rfl⟩
   ·rw [hsm]
    exact I.same x y m n z h.1.2.2.1 h.1.2.2.2.1 (by omega) (by omega)
   ·have := I.same x x m m z h.1.2.2.1 h.1.2.2.1 (by omega) (by omega)
    rwa [decide_eq_true rfl] at this
  have HS2 : Hid (∀ z, ((msD.In w.heap.size x z ∧ msD.In w1.heap.size y z ∧ MsIs z [] x m ∧ MsIs z [] y n ∧ Below w6.heap.size w6 z) ∧ z.cell? ⟨w.heap.size, 0, none⟩ = some (.int .i64 x.h.kind) ∧ z.cell? ⟨w.heap.size, 1, none⟩ = some (.int .i64 x.h.fr) ∧ z.cell? ⟨w.heap.size, 2, none⟩ = some (.int .i64 x.h.to_) ∧ z.cell? ⟨w.heap.size, 3, none⟩ = some (.int .i64 x.h.ballot) ∧ z.cell? ⟨w.heap.size, 4, none⟩ = some (.int .i64 x.h.slot) ∧ z.cell? ⟨w.heap.size, 5, none⟩ = some (.int .i64 x.h.vote.slot) ∧ z.cell? ⟨w.heap.size, 6, none⟩ = some (.int .i64 x.h.vote.ballot) ∧ z.cell? ⟨w.heap.size, 7, none⟩ = some (.int .i64 x.h.vote.origin) ∧ z.cell? ⟨w.heap.size, 8, none⟩ = some (.bool x.h.vote.full) ∧ z.cell? ⟨w.heap.size, 9, none⟩ = some (.string x.h.vote.bytes) ∧ z.cell? ⟨w.heap.size, 10, none⟩ = some (.slice x.a x.n x.c) ∧ z.cell? ⟨w1.heap.size, 0, none⟩ = some (.int .i64 y.h.kind) ∧ z.cell? ⟨w1.heap.size, 1, none⟩ = some (.int .i64 y.h.fr) ∧ z.cell? ⟨w1.heap.size, 2, none⟩ = some (.int .i64 y.h.to_) ∧ z.cell? ⟨w1.heap.size, 3, none⟩ = some (.int .i64 y.h.ballot) ∧ z.cell? ⟨w1.heap.size, 4, none⟩ = some (.int .i64 y.h.slot) ∧ z.cell? ⟨w1.heap.size, 5, none⟩ = some (.int .i64 y.h.vote.slot) ∧ z.cell? ⟨w1.heap.size, 6, none⟩ = some (.int .i64 y.h.vote.ballot) ∧ z.cell? ⟨w1.heap.size, 7, none⟩ = some (.int .i64 y.h.vote.origin) ∧ z.cell? ⟨w1.heap.size, 8, none⟩ = some (.bool y.h.vote.full) ∧ z.cell? ⟨w1.heap.size, 9, none⟩ = some (.string y.h.vote.bytes) ∧ z.cell? ⟨w1.heap.size, 10, none⟩ = some (.slice y.a y.n y.c)) → Calls Try.prog 13 #[x.v, y.v] z fun e w' => e = .returned (.bool sm) ∧ Below z.heap.size z w') := Lib.hid fun z h => by
   rw [hsm]
   exact rsame19_any x y m n z h.1.2.2.1 h.1.2.2.2.1 (by omega)
  clear hsm hI6 hJ6 hx6 hy6
  go_wp2_with fail
  go_region_held3 (fun z => (msD.In w.heap.size x z ∧ msD.In w1.heap.size y z ∧ MsIs z [] x m ∧ MsIs z [] y n ∧ Below w6.heap.size w6 z) ∧ z.cell? ⟨w.heap.size, 0, none⟩ = some (.int .i64 x.h.kind) ∧ z.cell? ⟨w.heap.size, 1, none⟩ = some (.int .i64 x.h.fr) ∧ z.cell? ⟨w.heap.size, 2, none⟩ = some (.int .i64 x.h.to_) ∧ z.cell? ⟨w.heap.size, 3, none⟩ = some (.int .i64 x.h.ballot) ∧ z.cell? ⟨w.heap.size, 4, none⟩ = some (.int .i64 x.h.slot) ∧ z.cell? ⟨w.heap.size, 5, none⟩ = some (.int .i64 x.h.vote.slot) ∧ z.cell? ⟨w.heap.size, 6, none⟩ = some (.int .i64 x.h.vote.ballot) ∧ z.cell? ⟨w.heap.size, 7, none⟩ = some (.int .i64 x.h.vote.origin) ∧ z.cell? ⟨w.heap.size, 8, none⟩ = some (.bool x.h.vote.full) ∧ z.cell? ⟨w.heap.size, 9, none⟩ = some (.string x.h.vote.bytes) ∧ z.cell? ⟨w.heap.size, 10, none⟩ = some (.slice x.a x.n x.c) ∧ z.cell? ⟨w1.heap.size, 0, none⟩ = some (.int .i64 y.h.kind) ∧ z.cell? ⟨w1.heap.size, 1, none⟩ = some (.int .i64 y.h.fr) ∧ z.cell? ⟨w1.heap.size, 2, none⟩ = some (.int .i64 y.h.to_) ∧ z.cell? ⟨w1.heap.size, 3, none⟩ = some (.int .i64 y.h.ballot) ∧ z.cell? ⟨w1.heap.size, 4, none⟩ = some (.int .i64 y.h.slot) ∧ z.cell? ⟨w1.heap.size, 5, none⟩ = some (.int .i64 y.h.vote.slot) ∧ z.cell? ⟨w1.heap.size, 6, none⟩ = some (.int .i64 y.h.vote.ballot) ∧ z.cell? ⟨w1.heap.size, 7, none⟩ = some (.int .i64 y.h.vote.origin) ∧ z.cell? ⟨w1.heap.size, 8, none⟩ = some (.bool y.h.vote.full) ∧ z.cell? ⟨w1.heap.size, 9, none⟩ = some (.string y.h.vote.bytes) ∧ z.cell? ⟨w1.heap.size, 10, none⟩ = some (.slice y.a y.n y.c)) (first | exact HT.out | assumption | exact HU.out _ _ (by assumption) (by assumption))
   (first
    | (go_at_call 10; refine (HR1.out _ (by assumption)).mono ?_; rintro e wa ⟨rfl, hba⟩)
    | (go_at_call 11; refine (HR2.out _ (by assumption)).mono ?_; rintro e wa ⟨rfl, hba⟩)
    | (go_at_call 12; refine (HS1.out _ (by assumption) _ _ (by exact .inl ⟨rfl, rfl⟩)).mono ?_; rintro e wa ⟨rfl, hba⟩)
    | (go_at_call 12; refine (HS1.out _ (by assumption) _ _ (by exact .inr ⟨rfl, rfl⟩)).mono ?_; rintro e wf ⟨rfl, hbf⟩)
    | (go_at_call 13; refine (HS2.out _ (by assumption)).mono ?_; rintro e wa ⟨rfl, hba⟩))
  obtain ⟨⟨hIf, -, hxf, -, hb6f⟩, -⟩ := (by assumption : (msD.In w.heap.size x wf ∧ msD.In w1.heap.size y wf ∧ MsIs wf [] x m ∧ MsIs wf [] y n ∧ Below w6.heap.size w6 wf) ∧ wf.cell? ⟨w.heap.size, 0, none⟩ = some (.int .i64 x.h.kind) ∧ wf.cell? ⟨w.heap.size, 1, none⟩ = some (.int .i64 x.h.fr) ∧ wf.cell? ⟨w.heap.size, 2, none⟩ = some (.int .i64 x.h.to_) ∧ wf.cell? ⟨w.heap.size, 3, none⟩ = some (.int .i64 x.h.ballot) ∧ wf.cell? ⟨w.heap.size, 4, none⟩ = some (.int .i64 x.h.slot) ∧ wf.cell? ⟨w.heap.size, 5, none⟩ = some (.int .i64 x.h.vote.slot) ∧ wf.cell? ⟨w.heap.size, 6, none⟩ = some (.int .i64 x.h.vote.ballot) ∧ wf.cell? ⟨w.heap.size, 7, none⟩ = some (.int .i64 x.h.vote.origin) ∧ wf.cell? ⟨w.heap.size, 8, none⟩ = some (.bool x.h.vote.full) ∧ wf.cell? ⟨w.heap.size, 9, none⟩ = some (.string x.h.vote.bytes) ∧ wf.cell? ⟨w.heap.size, 10, none⟩ = some (.slice x.a x.n x.c) ∧ wf.cell? ⟨w1.heap.size, 0, none⟩ = some (.int .i64 y.h.kind) ∧ wf.cell? ⟨w1.heap.size, 1, none⟩ = some (.int .i64 y.h.fr) ∧ wf.cell? ⟨w1.heap.size, 2, none⟩ = some (.int .i64 y.h.to_) ∧ wf.cell? ⟨w1.heap.size, 3, none⟩ = some (.int .i64 y.h.ballot) ∧ wf.cell? ⟨w1.heap.size, 4, none⟩ = some (.int .i64 y.h.slot) ∧ wf.cell? ⟨w1.heap.size, 5, none⟩ = some (.int .i64 y.h.vote.slot) ∧ wf.cell? ⟨w1.heap.size, 6, none⟩ = some (.int .i64 y.h.vote.ballot) ∧ wf.cell? ⟨w1.heap.size, 7, none⟩ = some (.int .i64 y.h.vote.origin) ∧ wf.cell? ⟨w1.heap.size, 8, none⟩ = some (.bool y.h.vote.full) ∧ wf.cell? ⟨w1.heap.size, 9, none⟩ = some (.string y.h.vote.bytes) ∧ wf.cell? ⟨w1.heap.size, 10, none⟩ = some (.slice y.a y.n y.c))
  have hwf := bwstep hw6 hb6f
  clear HT HU HR1 HR2 HS1 HS2 hw6
  have hrr := rright19_any x m wf hxf (by omega)
  rw [decide_eq_false hR] at hrr
  go_wp2_with (refine St.load msOk rfl (.tmp 2) rfl rfl hIf ?_)
  refine hrr.mono ?_
  rintro e wg ⟨rfl, hbg⟩
  have hwg := bwstep hwf hbg
  clear hrr hIf hxf hb6f hwf hbg hba hbf
  go_wp2_with fail
  go_ret
  exact ⟨rfl, hwg⟩
end Go.Proofs.Ytpmlfhgdhnofbaa.Ce
