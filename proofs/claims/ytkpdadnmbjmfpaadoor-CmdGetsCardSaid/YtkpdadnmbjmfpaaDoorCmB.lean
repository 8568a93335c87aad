/- What a command may have by its kind: the contract of bare. -/
import Derived.Test.YtkpdadnmbjmfpaaDoorCmA
namespace Go.Proofs.YtkpdadnmbjmfpaaDoor.Ce
open Go.RowKit

/-- all that its kind doesn't have is zero -/
structure Cm.bare (c : Cm) : Prop where
  col : (ptOf c.kind.toNat).col = true ∨ c.col.toList = []
  to_ : (ptOf c.kind.toNat).to_ = true ∨ c.to_.toList = []
  value : (ptOf c.kind.toNat).value = true ∨ c.value.toList = []
  expect : (ptOf c.kind.toNat).expect = true ∨ c.has = false
  has : c.has = true ∨ c.expect.toList = []
theorem Cm.bare_iff {c : Cm} : c.bare ↔ ((ptOf c.kind.toNat).col = true ∨ c.col.toList = []) ∧ ((ptOf c.kind.toNat).to_ = true ∨ c.to_.toList = []) ∧ ((ptOf c.kind.toNat).value = true ∨ c.value.toList = []) ∧ ((ptOf c.kind.toNat).expect = true ∨ c.has = false) ∧ (c.has = true ∨ c.expect.toList = []) :=
  ⟨fun h => ⟨h.1, h.2, h.3, h.4, h.5⟩, fun h => ⟨h.1, h.2.1, h.2.2.1, h.2.2.2.1, h.2.2.2.2⟩⟩
noncomputable instance (c : Cm) : Decidable c.bare := decidable_of_iff _ Cm.bare_iff.symm
set_option maxHeartbeats 8000000 in
set_option maxRecDepth 100000 in
theorem bare_any (c : Cm) (w : World) (hk : Kd w) (h1 : 1 ≤ c.kind) (h5 : c.kind ≤ 5) : Calls Tryd.prog 18 #[c.v] w fun e w' => e = .returned (.bool (decide c.bare)) ∧ Below w.heap.size w w' := by
  have HB := Lib.hid (Cm.bare_iff (c := c))
  have hcase : c.kind = 1 ∨ c.kind = 2 ∨ c.kind = 3 ∨ c.kind = 4 ∨ c.kind = 5 := by omega
  have HK := Lib.hid hk
  clear h1 h5 hk
  rcases hcase with hk | hk | hk | hk | hk
  · have HA := Lib.hid fun (w' : World) (h : Below w.heap.size w w') => (HK.out.up h).all 1 5 (by omega) rfl
    rw [hk] at HB
    simp only [Int.reduceToNat, ptOf] at HB
    go_enter Tryd.func18, Tryd.ntmps18
    go_wp2_with (refine St.box cmD rfl (.tmp 0) c rfl rfl ?_)
    constructor
    intro w1 hI hb hz
    clear hz
    have HI := Lib.hid hI
    have c2 := (CmAt.of hI).c2
    rw [hk] at c2
    clear hI
    go_wp2_with (first | refine St.loadAt ptOk rfl (.tmp 6) rfl _ rfl (HA.out _ hb) ?_ | refine St.alloc ptOk rfl rfl ?_)
    constructor
    intro w2 hI2 hb2 hz2
    have HI2 := Lib.hid (HI.out.up hb2)
    have hb3 := bwstep hb hb2
    clear c2 hb2 hz2
    go_wp2_with (refine St.store ptOk (c := ptOf 1) rfl (.tmp 3) (.tmp 7) rfl rfl rfl hI2 ?_)
    constructor
    intro w3 hs3
    have hb4 := hs3.bel hb3 hb.size
    have p0 : w3.cell? ⟨w1.heap.size, 0, none⟩ = some (.bool true) := hs3.i.at_ rfl
    have p1 : w3.cell? ⟨w1.heap.size, 1, none⟩ = some (.bool false) := hs3.i.at_ rfl
    have p2 : w3.cell? ⟨w1.heap.size, 2, none⟩ = some (.bool true) := hs3.i.at_ rfl
    have p3 : w3.cell? ⟨w1.heap.size, 3, none⟩ = some (.bool false) := hs3.i.at_ rfl
    obtain ⟨c0, c1, c2, c3, c4, c5, c6, c7, c8, c9⟩ := CmAt.of (hs3.up HI2.out (Nat.ne_of_lt HI.out.lt))
    clear hI2 hs3 c0 c1 c2 c3 c6 hb3
    go_wp2_with fail
    all_goals
      go_ret
      refine ⟨ret1 (vb ?_), hb4⟩
      rw [Bool.eq_iff_iff, decide_eq_true_iff (p := c.bare), HB.out]
      clear HA HK HI HI2 HB p0 p1 p2 p3 c4 c5 c7 c8 c9
      simp_all
  · have HA := Lib.hid fun (w' : World) (h : Below w.heap.size w w') => (HK.out.up h).all 2 10 (by omega) rfl
    rw [hk] at HB
    simp only [Int.reduceToNat, ptOf] at HB
    go_enter Tryd.func18, Tryd.ntmps18
    go_wp2_with (refine St.box cmD rfl (.tmp 0) c rfl rfl ?_)
    constructor
    intro w1 hI hb hz
    clear hz
    have HI := Lib.hid hI
    have c2 := (CmAt.of hI).c2
    rw [hk] at c2
    clear hI
    go_wp2_with (first | refine St.loadAt ptOk rfl (.tmp 6) rfl _ rfl (HA.out _ hb) ?_ | refine St.alloc ptOk rfl rfl ?_)
    constructor
    intro w2 hI2 hb2 hz2
    have HI2 := Lib.hid (HI.out.up hb2)
    have hb3 := bwstep hb hb2
    clear c2 hb2 hz2
    go_wp2_with (refine St.store ptOk (c := ptOf 2) rfl (.tmp 3) (.tmp 7) rfl rfl rfl hI2 ?_)
    constructor
    intro w3 hs3
    have hb4 := hs3.bel hb3 hb.size
    have p0 : w3.cell? ⟨w1.heap.size, 0, none⟩ = some (.bool true) := hs3.i.at_ rfl
    have p1 : w3.cell? ⟨w1.heap.size, 1, none⟩ = some (.bool false) := hs3.i.at_ rfl
    have p2 : w3.cell? ⟨w1.heap.size, 2, none⟩ = some (.bool false) := hs3.i.at_ rfl
    have p3 : w3.cell? ⟨w1.heap.size, 3, none⟩ = some (.bool false) := hs3.i.at_ rfl
    obtain ⟨c0, c1, c2, c3, c4, c5, c6, c7, c8, c9⟩ := CmAt.of (hs3.up HI2.out (Nat.ne_of_lt HI.out.lt))
    clear hI2 hs3 c0 c1 c2 c3 c6 hb3
    go_wp2_with fail
    all_goals
      go_ret
      refine ⟨ret1 (vb ?_), hb4⟩
      rw [Bool.eq_iff_iff, decide_eq_true_iff (p := c.bare), HB.out]
      clear HA HK HI HI2 HB p0 p1 p2 p3 c4 c5 c7 c8 c9
      simp_all
  · have HA := Lib.hid fun (w' : World) (h : Below w.heap.size w w') => (HK.out.up h).all 3 15 (by omega) rfl
    rw [hk] at HB
    simp only [Int.reduceToNat, ptOf] at HB
    go_enter Tryd.func18, Tryd.ntmps18
    go_wp2_with (refine St.box cmD rfl (.tmp 0) c rfl rfl ?_)
    constructor
    intro w1 hI hb hz
    clear hz
    have HI := Lib.hid hI
    have c2 := (CmAt.of hI).c2
    rw [hk] at c2
    clear hI
    go_wp2_with (first | refine St.loadAt ptOk rfl (.tmp 6) rfl _ rfl (HA.out _ hb) ?_ | refine St.alloc ptOk rfl rfl ?_)
    constructor
    intro w2 hI2 hb2 hz2
    have HI2 := Lib.hid (HI.out.up hb2)
    have hb3 := bwstep hb hb2
    clear c2 hb2 hz2
    go_wp2_with (refine St.store ptOk (c := ptOf 3) rfl (.tmp 3) (.tmp 7) rfl rfl rfl hI2 ?_)
    constructor
    intro w3 hs3
    have hb4 := hs3.bel hb3 hb.size
    have p0 : w3.cell? ⟨w1.heap.size, 0, none⟩ = some (.bool true) := hs3.i.at_ rfl
    have p1 : w3.cell? ⟨w1.heap.size, 1, none⟩ = some (.bool false) := hs3.i.at_ rfl
    have p2 : w3.cell? ⟨w1.heap.size, 2, none⟩ = some (.bool true) := hs3.i.at_ rfl
    have p3 : w3.cell? ⟨w1.heap.size, 3, none⟩ = some (.bool true) := hs3.i.at_ rfl
    obtain ⟨c0, c1, c2, c3, c4, c5, c6, c7, c8, c9⟩ := CmAt.of (hs3.up HI2.out (Nat.ne_of_lt HI.out.lt))
    clear hI2 hs3 c0 c1 c2 c3 c6 hb3
    go_wp2_with fail
    all_goals
      go_ret
      refine ⟨ret1 (vb ?_), hb4⟩
      rw [Bool.eq_iff_iff, decide_eq_true_iff (p := c.bare), HB.out]
      clear HA HK HI HI2 HB p0 p1 p2 p3 c4 c5 c7 c8 c9
      simp_all
  · have HA := Lib.hid fun (w' : World) (h : Below w.heap.size w w') => (HK.out.up h).all 4 20 (by omega) rfl
    rw [hk] at HB
    simp only [Int.reduceToNat, ptOf] at HB
    go_enter Tryd.func18, Tryd.ntmps18
    go_wp2_with (refine St.box cmD rfl (.tmp 0) c rfl rfl ?_)
    constructor
    intro w1 hI hb hz
    clear hz
    have HI := Lib.hid hI
    have c2 := (CmAt.of hI).c2
    rw [hk] at c2
    clear hI
    go_wp2_with (first | refine St.loadAt ptOk rfl (.tmp 6) rfl _ rfl (HA.out _ hb) ?_ | refine St.alloc ptOk rfl rfl ?_)
    constructor
    intro w2 hI2 hb2 hz2
    have HI2 := Lib.hid (HI.out.up hb2)
    have hb3 := bwstep hb hb2
    clear c2 hb2 hz2
    go_wp2_with (refine St.store ptOk (c := ptOf 4) rfl (.tmp 3) (.tmp 7) rfl rfl rfl hI2 ?_)
    constructor
    intro w3 hs3
    have hb4 := hs3.bel hb3 hb.size
    have p0 : w3.cell? ⟨w1.heap.size, 0, none⟩ = some (.bool true) := hs3.i.at_ rfl
    have p1 : w3.cell? ⟨w1.heap.size, 1, none⟩ = some (.bool false) := hs3.i.at_ rfl
    have p2 : w3.cell? ⟨w1.heap.size, 2, none⟩ = some (.bool false) := hs3.i.at_ rfl
    have p3 : w3.cell? ⟨w1.heap.size, 3, none⟩ = some (.bool false) := hs3.i.at_ rfl
    obtain ⟨c0, c1, c2, c3, c4, c5, c6, c7, c8, c9⟩ := CmAt.of (hs3.up HI2.out (Nat.ne_of_lt HI.out.lt))
    clear hI2 hs3 c0 c1 c2 c3 c6 hb3
    go_wp2_with fail
    all_goals
      go_ret
      refine ⟨ret1 (vb ?_), hb4⟩
      rw [Bool.eq_iff_iff, decide_eq_true_iff (p := c.bare), HB.out]
      clear HA HK HI HI2 HB p0 p1 p2 p3 c4 c5 c7 c8 c9
      simp_all
  · have HA := Lib.hid fun (w' : World) (h : Below w.heap.size w w') => (HK.out.up h).all 5 25 (by omega) rfl
    rw [hk] at HB
    simp only [Int.reduceToNat, ptOf] at HB
    go_enter Tryd.func18, Tryd.ntmps18
    go_wp2_with (refine St.box cmD rfl (.tmp 0) c rfl rfl ?_)
    constructor
    intro w1 hI hb hz
    clear hz
    have HI := Lib.hid hI
    have c2 := (CmAt.of hI).c2
    rw [hk] at c2
    clear hI
    go_wp2_with (first | refine St.loadAt ptOk rfl (.tmp 6) rfl _ rfl (HA.out _ hb) ?_ | refine St.alloc ptOk rfl rfl ?_)
    constructor
    intro w2 hI2 hb2 hz2
    have HI2 := Lib.hid (HI.out.up hb2)
    have hb3 := bwstep hb hb2
    clear c2 hb2 hz2
    go_wp2_with (refine St.store ptOk (c := ptOf 5) rfl (.tmp 3) (.tmp 7) rfl rfl rfl hI2 ?_)
    constructor
    intro w3 hs3
    have hb4 := hs3.bel hb3 hb.size
    have p0 : w3.cell? ⟨w1.heap.size, 0, none⟩ = some (.bool false) := hs3.i.at_ rfl
    have p1 : w3.cell? ⟨w1.heap.size, 1, none⟩ = some (.bool true) := hs3.i.at_ rfl
    have p2 : w3.cell? ⟨w1.heap.size, 2, none⟩ = some (.bool false) := hs3.i.at_ rfl
    have p3 : w3.cell? ⟨w1.heap.size, 3, none⟩ = some (.bool false) := hs3.i.at_ rfl
    obtain ⟨c0, c1, c2, c3, c4, c5, c6, c7, c8, c9⟩ := CmAt.of (hs3.up HI2.out (Nat.ne_of_lt HI.out.lt))
    clear hI2 hs3 c0 c1 c2 c3 c6 hb3
    go_wp2_with fail
    all_goals
      go_ret
      refine ⟨ret1 (vb ?_), hb4⟩
      rw [Bool.eq_iff_iff, decide_eq_true_iff (p := c.bare), HB.out]
      clear HA HK HI HI2 HB p0 p1 p2 p3 c4 c5 c7 c8 c9
      simp_all
end Go.Proofs.YtkpdadnmbjmfpaaDoor.Ce
