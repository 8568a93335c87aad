/- Package cmd's table of kinds, as the world holds it; the contracts of its small functions. What a command may have by its kind: the contract of bare. Cells as an St struct. What a command's parts may be in cells: the contract of placed. A command's bytes, as package cmd spells them. The contracts of package cmd's Put, Right and Writes. A command read from bytes: the contract of package cmd's read. The contract of package cmd's Get. Layer 15's law: '==' of commands, awake, small. -/
import Derived.Test.YtcpkhhbbjimdaaaGreatDoorCmX
import Derived.Test.YtcpkhhbbjimdaaaGreatDoorClA
import Derived.Test.YtcpkhhbbjimdaaaGreatDoorStA
import Derived.Test.YtcpkhhbbjimdaaaGreatDoorCpA
import Derived.BigQuiet
import Derived.Test.YtcpkhhbbjimdaaaGreatDoorLow
set_option maxHeartbeats 8000000
set_option maxRecDepth 100000
namespace Go.Proofs.YtcpkhhbbjimdaaaGreatDoor.Ce
open Go.RowKit
structure Pt where
 col : Bool
 to_ : Bool
 value : Bool
 expect : Bool
 writes : Bool
def Pt.cs (p : Pt) : Array Value := #[.bool p.col, .bool p.to_, .bool p.value, .bool p.expect, .bool p.writes]
abbrev ptD : St.Sp Pt := ⟨115, 0, 5, 5, Pt.cs, ⟨false, false, false, false, false⟩⟩
theorem ptOk : ptD.Ok Tryz.prog := ⟨⟨_, Tryz.underlying115, rfl⟩, by kernel_rfl, by decide, fun _ => rfl, fun x => by simp [Pt.cs, Value.oneCell']⟩
def ptOf : Nat → Pt
 | 1 => ⟨true, false, true, false, true⟩
 | 2 => ⟨true, false, false, false, true⟩
 | 3 => ⟨true, false, true, true, true⟩
 | 4 => ⟨true, false, false, false, false⟩
 | 5 => ⟨false, true, false, false, false⟩
 | _ => ⟨false, false, false, false, false⟩
structure Kd (w : World) : Prop where
 lt : 0 < w.heap.size
 at_ : ∀ k, k < 6 → ∀ (i : Nat) (u : Value), (ptOf k).cs[i]? = some u → w.cell? ⟨0, k * 5 + i, none⟩ = some u
theorem Kd.up {w w' : World} (h : Kd w) (hb : Below w.heap.size w w') : Kd w' :=
 ⟨Nat.lt_of_lt_of_le h.lt hb.size, fun k hk i u hu => (hb.cell (p := ⟨0, k * 5 + i, none⟩) h.lt).trans (h.at_ k hk i u hu)⟩
theorem Kd.all {w : World} (h : Kd w) (k o : Nat) (hk : k < 6) (ho : o = k * 5) : ∀ (i : Nat) (u : Value), (ptD.f (ptOf k))[i]? = some u → w.cell? ((⟨0, o, none⟩ : Addr).add i) = some u := fun i u hu => by
 rw [Addr.add_lit, ho]
 exact h.at_ k hk i u hu
theorem within_any (n a b : Int) (w : World) : Calls Tryz.prog 64 #[.int .i64 n, .int .i64 a, .int .i64 b] w fun e w' => e = .returned (.bool (decide (a ≤ n ∧ n ≤ b))) ∧ w = w' := by
 by_cases h1 : a ≤ n
 ·by_cases h2 : n ≤ b
  ·rw [decide_eq_true ⟨h1, h2⟩]
   go_enter Tryz.func64, Tryz.ntmps64
   go_wp2
   go_ret
   exact ⟨ret1 (vb (by simp)), rfl⟩
  ·rw [decide_eq_false (fun h => h2 h.2)]
   go_enter Tryz.func64, Tryz.ntmps64
   go_wp2
   go_ret
   exact ⟨ret1 (vb (by simp)), rfl⟩
 ·rw [decide_eq_false (fun h => h1 h.1)]
  go_enter Tryz.func64, Tryz.ntmps64
  go_wp2
  go_ret
  exact ⟨ret1 (vb (by simp)), rfl⟩
theorem cflag_any (b : Bool) (w : World) : Calls Tryz.prog 66 #[.bool b] w fun e w' => e = .returned (.int .i64 (if b = true then 1 else 0)) ∧ w = w' := by
 cases b
 ·go_enter Tryz.func66, Tryz.ntmps66
  go_wp2
  go_ret
  exact ⟨rfl, rfl⟩
 ·go_enter Tryz.func66, Tryz.ntmps66
  go_wp2
  go_ret
  exact ⟨rfl, rfl⟩
def Cm.numbered (c : Cm) : Prop := (1 ≤ c.client ∧ c.client ≤ 16) ∧ (1 ≤ c.seq ∧ c.seq ≤ 2147483647) ∧ (1 ≤ c.kind ∧ c.kind ≤ 5)
instance (c : Cm) : Decidable c.numbered := by unfold Cm.numbered; infer_instance
theorem numbered_any (c : Cm) (w : World) : Calls Tryz.prog 49 #[c.v] w fun e w' => e = .returned (.bool (decide c.numbered)) ∧ Below w.heap.size w w' := by
 have n1 := fun w => within_any c.client 1 16 w
 have n2 := fun w => within_any c.seq 1 2147483647 w
 have n3 := fun w => within_any c.kind 1 5 w
 by_cases h1 : 1 ≤ c.client ∧ c.client ≤ 16
 ·rw [decide_eq_true h1] at n1
  by_cases h2 : 1 ≤ c.seq ∧ c.seq ≤ 2147483647
  ·rw [decide_eq_true h2] at n2
   have hd : decide c.numbered = decide (1 ≤ c.kind ∧ c.kind ≤ 5) := decide_eq_decide.2 ⟨fun h => h.2.2, fun h => ⟨h1, h2, h⟩⟩
   rw [hd]
   generalize decide (1 ≤ c.kind ∧ c.kind ≤ 5) = d at n3
   clear hd h1 h2
   go_enter Tryz.func49, Tryz.ntmps49
   go_wp2_with (refine St.box cmD rfl (.tmp 0) c rfl rfl ?_)
   constructor
   intro w1 hI hb hz
   obtain ⟨c0, c1, c2, c3, c4, c5, c6, c7, c8, c9⟩ := CmAt.of hI
   clear hI
   go_wp2_with fail
   refine (n1 _).mono ?_
   rintro e w2 ⟨rfl, rfl⟩
   go_wp2_with fail
   refine (n2 _).mono ?_
   rintro e w2 ⟨rfl, rfl⟩
   go_wp2_with fail
   refine (n3 _).mono ?_
   rintro e w2 ⟨rfl, rfl⟩
   go_wp2_with fail
   go_ret
   exact ⟨rfl, hb⟩
  ·rw [decide_eq_false h2] at n2
   rw [decide_eq_false (fun h : c.numbered => h2 h.2.1)]
   clear h1 h2 n3
   go_enter Tryz.func49, Tryz.ntmps49
   go_wp2_with (refine St.box cmD rfl (.tmp 0) c rfl rfl ?_)
   constructor
   intro w1 hI hb hz
   obtain ⟨c0, c1, c2, c3, c4, c5, c6, c7, c8, c9⟩ := CmAt.of hI
   clear hI
   go_wp2_with fail
   refine (n1 _).mono ?_
   rintro e w2 ⟨rfl, rfl⟩
   go_wp2_with fail
   refine (n2 _).mono ?_
   rintro e w2 ⟨rfl, rfl⟩
   go_wp2_with fail
   go_ret
   exact ⟨rfl, hb⟩
 ·rw [decide_eq_false h1] at n1
  rw [decide_eq_false (fun h : c.numbered => h1 h.1)]
  clear h1 n2 n3
  go_enter Tryz.func49, Tryz.ntmps49
  go_wp2_with (refine St.box cmD rfl (.tmp 0) c rfl rfl ?_)
  constructor
  intro w1 hI hb hz
  obtain ⟨c0, c1, c2, c3, c4, c5, c6, c7, c8, c9⟩ := CmAt.of hI
  clear hI
  go_wp2_with fail
  refine (n1 _).mono ?_
  rintro e w2 ⟨rfl, rfl⟩
  go_wp2_with fail
  go_ret
  exact ⟨rfl, hb⟩
end Go.Proofs.YtcpkhhbbjimdaaaGreatDoor.Ce
namespace Go.Proofs.YtcpkhhbbjimdaaaGreatDoor.Ce
open Go.RowKit
structure Cm.bare (c : Cm) : Prop where
 col : (ptOf c.kind.toNat).col = true ∨ c.col.toList = []
 to_ : (ptOf c.kind.toNat).to_ = true ∨ c.to_.toList = []
 value : (ptOf c.kind.toNat).value = true ∨ c.value.toList = []
 expect : (ptOf c.kind.toNat).expect = true ∨ c.has = false
 has : c.has = true ∨ c.expect.toList = []
theorem Cm.bare_iff {c : Cm} : c.bare ↔ ((ptOf c.kind.toNat).col = true ∨ c.col.toList = []) ∧ ((ptOf c.kind.toNat).to_ = true ∨ c.to_.toList = []) ∧ ((ptOf c.kind.toNat).value = true ∨ c.value.toList = []) ∧ ((ptOf c.kind.toNat).expect = true ∨ c.has = false) ∧ (c.has = true ∨ c.expect.toList = []) :=
 ⟨fun h => ⟨h.1, h.2, h.3, h.4, h.5⟩, fun h => ⟨h.1, h.2.1, h.2.2.1, h.2.2.2.1, h.2.2.2.2⟩⟩
noncomputable instance (c : Cm) : Decidable c.bare := decidable_of_iff _ Cm.bare_iff.symm
theorem bare_any (c : Cm) (w : World) (hk : Kd w) (h1 : 1 ≤ c.kind) (h5 : c.kind ≤ 5) : Calls Tryz.prog 50 #[c.v] w fun e w' => e = .returned (.bool (decide c.bare)) ∧ Below w.heap.size w w' := by
 have HB := Lib.hid (Cm.bare_iff (c := c))
 have hcase : c.kind = 1 ∨ c.kind = 2 ∨ c.kind = 3 ∨ c.kind = 4 ∨ c.kind = 5 := by omega
 have HK := Lib.hid hk
 clear h1 h5 hk
 rcases hcase with hk | hk | hk | hk | hk
 ·have HA := Lib.hid fun (w' : World) (h : Below w.heap.size w w') => (HK.out.up h).all 1 5 (by omega) rfl
  rw [hk] at HB
  simp only [Int.reduceToNat, ptOf] at HB
  go_enter Tryz.func50, Tryz.ntmps50
  go_wp2_with (refine St.box cmD rfl (.tmp 0) c rfl rfl ?_)
  constructor
  intro w1 hI hb hz
  clear hz
  have HI := Lib.hid hI
  have c2 := (CmAt.of hI).c2
  rw [hk] at c2
  clear hI
  go_wp2_with (first | refine St.loadAt ptOk rfl (.tmp 6) rfl _ rfl (HA.out _ hb) ?_ | refine St.alloc ptOk rfl rfl ?_)
  constructor
  intro w2 hI2 hb2 hz2
  have HI2 := Lib.hid (HI.out.up hb2)
  have hb3 := bwstep hb hb2
  clear c2 hb2 hz2
  go_wp2_with (refine St.store ptOk (c := ptOf 1) rfl (.tmp 3) (.tmp 7) rfl rfl rfl hI2 ?_)
  constructor
  intro w3 hs3
  have hb4 := hs3.bel hb3 hb.size
  have p0 : w3.cell? ⟨w1.heap.size, 0, none⟩ = some (.bool true) := hs3.i.at_ rfl
  have p1 : w3.cell? ⟨w1.heap.size, 1, none⟩ = some (.bool false) := hs3.i.at_ rfl
  have p2 : w3.cell? ⟨w1.heap.size, 2, none⟩ = some (.bool true) := hs3.i.at_ rfl
  have p3 : w3.cell? ⟨w1.heap.size, 3, none⟩ = some (.bool false) := hs3.i.at_ rfl
  obtain ⟨c0, c1, c2, c3, c4, c5, c6, c7, c8, c9⟩ := CmAt.of (hs3.up HI2.out (Nat.ne_of_lt HI.out.lt))
  clear hI2 hs3 c0 c1 c2 c3 c6 hb3
  go_wp2_with fail
  all_goals
   go_ret
   refine ⟨ret1 (vb ?_), hb4⟩
   rw [Bool.eq_iff_iff, decide_eq_true_iff (p := c.bare), HB.out]
   clear HA HK HI HI2 HB p0 p1 p2 p3 c4 c5 c7 c8 c9
   simp_all
 ·have HA := Lib.hid fun (w' : World) (h : Below w.heap.size w w') => (HK.out.up h).all 2 10 (by omega) rfl
  rw [hk] at HB
  simp only [Int.reduceToNat, ptOf] at HB
  go_enter Tryz.func50, Tryz.ntmps50
  go_wp2_with (refine St.box cmD rfl (.tmp 0) c rfl rfl ?_)
  constructor
  intro w1 hI hb hz
  clear hz
  have HI := Lib.hid hI
  have c2 := (CmAt.of hI).c2
  rw [hk] at c2
  clear hI
  go_wp2_with (first | refine St.loadAt ptOk rfl (.tmp 6) rfl _ rfl (HA.out _ hb) ?_ | refine St.alloc ptOk rfl rfl ?_)
  constructor
  intro w2 hI2 hb2 hz2
  have HI2 := Lib.hid (HI.out.up hb2)
  have hb3 := bwstep hb hb2
  clear c2 hb2 hz2
  go_wp2_with (refine St.store ptOk (c := ptOf 2) rfl (.tmp 3) (.tmp 7) rfl rfl rfl hI2 ?_)
  constructor
  intro w3 hs3
  have hb4 := hs3.bel hb3 hb.size
  have p0 : w3.cell? ⟨w1.heap.size, 0, none⟩ = some (.bool true) := hs3.i.at_ rfl
  have p1 : w3.cell? ⟨w1.heap.size, 1, none⟩ = some (.bool false) := hs3.i.at_ rfl
  have p2 : w3.cell? ⟨w1.heap.size, 2, none⟩ = some (.bool false) := hs3.i.at_ rfl
  have p3 : w3.cell? ⟨w1.heap.size, 3, none⟩ = some (.bool false) := hs3.i.at_ rfl
  obtain ⟨c0, c1, c2, c3, c4, c5, c6, c7, c8, c9⟩ := CmAt.of (hs3.up HI2.out (Nat.ne_of_lt HI.out.lt))
  clear hI2 hs3 c0 c1 c2 c3 c6 hb3
  go_wp2_with fail
  all_goals
   go_ret
   refine ⟨ret1 (vb ?_), hb4⟩
   rw [Bool.eq_iff_iff, decide_eq_true_iff (p := c.bare), HB.out]
   clear HA HK HI HI2 HB p0 p1 p2 p3 c4 c5 c7 c8 c9
   simp_all
 ·have HA := Lib.hid fun (w' : World) (h : Below w.heap.size w w') => (HK.out.up h).all 3 15 (by omega) rfl
  rw [hk] at HB
  simp only [Int.reduceToNat, ptOf] at HB
  go_enter Tryz.func50, Tryz.ntmps50
  go_wp2_with (refine St.box cmD rfl (.tmp 0) c rfl rfl ?_)
  constructor
  intro w1 hI hb hz
  clear hz
  have HI := Lib.hid hI
  have c2 := (CmAt.of hI).c2
  rw [hk] at c2
  clear hI
  go_wp2_with (first | refine St.loadAt ptOk rfl (.tmp 6) rfl _ rfl (HA.out _ hb) ?_ | refine St.alloc ptOk rfl rfl ?_)
  constructor
  intro w2 hI2 hb2 hz2
  have HI2 := Lib.hid (HI.out.up hb2)
  have hb3 := bwstep hb hb2
  clear c2 hb2 hz2
  go_wp2_with (refine St.store ptOk (c := ptOf 3) rfl (.tmp 3) (.tmp 7) rfl rfl rfl hI2 ?_)
  constructor
  intro w3 hs3
  have hb4 := hs3.bel hb3 hb.size
  have p0 : w3.cell? ⟨w1.heap.size, 0, none⟩ = some (.bool true) := hs3.i.at_ rfl
  have p1 : w3.cell? ⟨w1.heap.size, 1, none⟩ = some (.bool false) := hs3.i.at_ rfl
  have p2 : w3.cell? ⟨w1.heap.size, 2, none⟩ = some (.bool true) := hs3.i.at_ rfl
  have p3 : w3.cell? ⟨w1.heap.size, 3, none⟩ = some (.bool true) := hs3.i.at_ rfl
  obtain ⟨c0, c1, c2, c3, c4, c5, c6, c7, c8, c9⟩ := CmAt.of (hs3.up HI2.out (Nat.ne_of_lt HI.out.lt))
  clear hI2 hs3 c0 c1 c2 c3 c6 hb3
  go_wp2_with fail
  all_goals
   go_ret
   refine ⟨ret1 (vb ?_), hb4⟩
   rw [Bool.eq_iff_iff, decide_eq_true_iff (p := c.bare), HB.out]
   clear HA HK HI HI2 HB p0 p1 p2 p3 c4 c5 c7 c8 c9
   simp_all
 ·have HA := Lib.hid fun (w' : World) (h : Below w.heap.size w w') => (HK.out.up h).all 4 20 (by omega) rfl
  rw [hk] at HB
  simp only [Int.reduceToNat, ptOf] at HB
  go_enter Tryz.func50, Tryz.ntmps50
  go_wp2_with (refine St.box cmD rfl (.tmp 0) c rfl rfl ?_)
  constructor
  intro w1 hI hb hz
  clear hz
  have HI := Lib.hid hI
  have c2 := (CmAt.of hI).c2
  rw [hk] at c2
  clear hI
  go_wp2_with (first | refine St.loadAt ptOk rfl (.tmp 6) rfl _ rfl (HA.out _ hb) ?_ | refine St.alloc ptOk rfl rfl ?_)
  constructor
  intro w2 hI2 hb2 hz2
  have HI2 := Lib.hid (HI.out.up hb2)
  have hb3 := bwstep hb hb2
  clear c2 hb2 hz2
  go_wp2_with (refine St.store ptOk (c := ptOf 4) rfl (.tmp 3) (.tmp 7) rfl rfl rfl hI2 ?_)
  constructor
  intro w3 hs3
  have hb4 := hs3.bel hb3 hb.size
  have p0 : w3.cell? ⟨w1.heap.size, 0, none⟩ = some (.bool true) := hs3.i.at_ rfl
  have p1 : w3.cell? ⟨w1.heap.size, 1, none⟩ = some (.bool false) := hs3.i.at_ rfl
  have p2 : w3.cell? ⟨w1.heap.size, 2, none⟩ = some (.bool false) := hs3.i.at_ rfl
  have p3 : w3.cell? ⟨w1.heap.size, 3, none⟩ = some (.bool false) := hs3.i.at_ rfl
  obtain ⟨c0, c1, c2, c3, c4, c5, c6, c7, c8, c9⟩ := CmAt.of (hs3.up HI2.out (Nat.ne_of_lt HI.out.lt))
  clear hI2 hs3 c0 c1 c2 c3 c6 hb3
  go_wp2_with fail
  all_goals
   go_ret
   refine ⟨ret1 (vb ?_), hb4⟩
   rw [Bool.eq_iff_iff, decide_eq_true_iff (p := c.bare), HB.out]
   clear HA HK HI HI2 HB p0 p1 p2 p3 c4 c5 c7 c8 c9
   simp_all
 ·have HA := Lib.hid fun (w' : World) (h : Below w.heap.size w w') => (HK.out.up h).all 5 25 (by omega) rfl
  rw [hk] at HB
  simp only [Int.reduceToNat, ptOf] at HB
  go_enter Tryz.func50, Tryz.ntmps50
  go_wp2_with (refine St.box cmD rfl (.tmp 0) c rfl rfl ?_)
  constructor
  intro w1 hI hb hz
  clear hz
  have HI := Lib.hid hI
  have c2 := (CmAt.of hI).c2
  rw [hk] at c2
  clear hI
  go_wp2_with (first | refine St.loadAt ptOk rfl (.tmp 6) rfl _ rfl (HA.out _ hb) ?_ | refine St.alloc ptOk rfl rfl ?_)
  constructor
  intro w2 hI2 hb2 hz2
  have HI2 := Lib.hid (HI.out.up hb2)
  have hb3 := bwstep hb hb2
  clear c2 hb2 hz2
  go_wp2_with (refine St.store ptOk (c := ptOf 5) rfl (.tmp 3) (.tmp 7) rfl rfl rfl hI2 ?_)
  constructor
  intro w3 hs3
  have hb4 := hs3.bel hb3 hb.size
  have p0 : w3.cell? ⟨w1.heap.size, 0, none⟩ = some (.bool false) := hs3.i.at_ rfl
  have p1 : w3.cell? ⟨w1.heap.size, 1, none⟩ = some (.bool true) := hs3.i.at_ rfl
  have p2 : w3.cell? ⟨w1.heap.size, 2, none⟩ = some (.bool false) := hs3.i.at_ rfl
  have p3 : w3.cell? ⟨w1.heap.size, 3, none⟩ = some (.bool false) := hs3.i.at_ rfl
  obtain ⟨c0, c1, c2, c3, c4, c5, c6, c7, c8, c9⟩ := CmAt.of (hs3.up HI2.out (Nat.ne_of_lt HI.out.lt))
  clear hI2 hs3 c0 c1 c2 c3 c6 hb3
  go_wp2_with fail
  all_goals
   go_ret
   refine ⟨ret1 (vb ?_), hb4⟩
   rw [Bool.eq_iff_iff, decide_eq_true_iff (p := c.bare), HB.out]
   clear HA HK HI HI2 HB p0 p1 p2 p3 c4 c5 c7 c8 c9
   simp_all
end Go.Proofs.YtcpkhhbbjimdaaaGreatDoor.Ce
namespace Go.Proofs.YtcpkhhbbjimdaaaGreatDoor.Ce
open Go.RowKit
abbrev clD : St.Sp Cl := ⟨47, 0, 5, 64, Cl.cs, Cl.zero⟩
theorem clOk : clD.Ok Tryz.prog := ⟨⟨_, Tryz.underlying47, rfl⟩, by kernel_rfl, by decide, fun _ => rfl, cs_one⟩
end Go.Proofs.YtcpkhhbbjimdaaaGreatDoor.Ce
namespace Go.Proofs.YtcpkhhbbjimdaaaGreatDoor.Ce
open Go.RowKit
def Cm.cellE (c : Cm) : Cl := ⟨c.row, c.col, c.at_, c.expect, false⟩
structure Cm.placed (c : Cm) : Prop where
 five : c.kind = 5 → (c.row.size ≤ 64 ∧ c.to_.size ≤ 64) ∧ 0 ≤ c.at_ ∧ c.at_ ≤ 4294967295
 four : c.kind ≠ 5 → c.cell.ok ∧ c.cellE.ok
noncomputable instance (c : Cm) : Decidable c.placed := Classical.propDecidable _
theorem Cm.placed5 {c : Cm} (h : c.kind = 5) : c.placed ↔ ((c.row.size : Int) ≤ 64 ∧ (c.to_.size : Int) ≤ 64) ∧ 0 ≤ c.at_ ∧ c.at_ ≤ 4294967295 :=
 ⟨fun p => by have := p.five h; omega, fun p => ⟨fun _ => by omega, fun q => absurd h q⟩⟩
theorem Cm.placed4 {c : Cm} (h : ¬ c.kind = 5) : c.placed ↔ c.cell.ok ∧ c.cellE.ok := ⟨fun p => p.four h, fun p => ⟨fun q => absurd q h, fun _ => p⟩⟩
theorem placed5_any (c : Cm) (w : World) (h5 : c.kind = 5) : Calls Tryz.prog 51 #[c.v] w fun e w' => e = .returned (.bool (decide c.placed)) ∧ Below w.heap.size w w' := by
 have HB := Lib.hid (Cm.placed5 h5)
 have hw := fun w => within_any c.at_ 0 4294967295 w
 go_enter Tryz.func51, Tryz.ntmps51
 go_wp2_with (refine St.box cmD rfl (.tmp 0) c rfl rfl ?_)
 constructor
 intro w1 hI hb hz
 obtain ⟨c0, c1, c2, c3, c4, c5, c6, c7, c8, c9⟩ := CmAt.of hI
 rw [h5] at c2
 clear hI hz c0 c1 c4 c7 c8 c9
 go_wp2_with fail
 all_goals first
  | (refine (hw _).mono ?_
     rintro e w2 ⟨rfl, rfl⟩
     go_wp2_with fail
     go_ret
     refine ⟨ret1 (vb ?_), hb⟩
     rw [Bool.eq_iff_iff, decide_eq_true_iff (p := c.placed), HB.out]
     clear HB c2 c3 c5 c6
     simp_all <;> omega)
  | (go_ret
     refine ⟨ret1 (vb ?_), hb⟩
     rw [Bool.eq_iff_iff, decide_eq_true_iff (p := c.placed), HB.out]
     clear HB c2 c3 c5 c6
     simp_all <;> omega)
theorem placed4_any (c : Cm) (w : World) (h5 : ¬ c.kind = 5) : Calls Tryz.prog 51 #[c.v] w fun e w' => e = .returned (.bool (decide c.placed)) ∧ Below w.heap.size w w' := by
 have HB := Lib.hid (Cm.placed4 h5)
 have hr := fun w => right_any c.cell w
 have hr2 := fun w => right_any c.cellE w
 go_enter Tryz.func51, Tryz.ntmps51
 go_wp2_with (refine St.box cmD rfl (.tmp 0) c rfl rfl ?_)
 constructor
 intro w1 hI hb hz
 have HI := Lib.hid hI
 obtain ⟨c0, c1, c2, c3, c4, c5, c6, c7, c8, c9⟩ := CmAt.of hI
 clear hI hz c0 c1 c5 c8 c9
 go_wp2_with (refine St.alloc clOk rfl rfl ?_)
 constructor
 intro w2 hI2 hb2 hz2
 have HI2 := Lib.hid (HI.out.up hb2)
 have hb3 := bwstep hb hb2
 clear c2 c3 c4 c6 c7 hb2 hz2
 go_wp2_with (refine St.store clOk (c := c.cell) rfl (.tmp 3) (.tmp 31) rfl rfl rfl hI2 ?_)
 constructor
 intro w3 hs3
 have hb4 := hs3.bel hb3 hb.size
 have HI3 := Lib.hid (hs3.up HI2.out (Nat.ne_of_lt HI.out.lt))
 have hI3 := hs3.i
 clear hI2 hs3 hb3
 go_wp2_with (first | refine St.load clOk rfl (.tmp 3) rfl rfl hI3 ?_ | refine St.alloc clOk rfl rfl ?_)
 constructor
 intro w4 hI4 hb5 hz4
 have HI4 := Lib.hid (HI3.out.up hb5)
 have HJ4 := Lib.hid (hI3.up hb5)
 have hb6 := bwstep hb4 hb5
 have hl3 := hI3.lt
 clear hI3 hb5 hz4
 go_wp2_with (refine St.store clOk (c := c.cell) rfl (.tmp 4) (.tmp 32) rfl rfl rfl hI4 ?_)
 constructor
 intro w5 hs5
 have hb7 := hs5.bel hb6 (Nat.le_trans hb.size (Nat.le_of_lt hl3))
 have hj5 := hs5.up HJ4.out (Nat.ne_of_lt hl3)
 have c8 := (CmAt.of (hs5.up HI4.out (Nat.ne_of_lt (Nat.lt_of_lt_of_le HI.out.lt (Nat.le_of_lt hl3))))).c8
 have hi5 := hs5.i
 have hst := hi5.at_ (i := 3) rfl
 have hfz := hi5.fz 3
 have hp : clD.Set w3.heap.size c.cellE w5 (w5.setCell ⟨w3.heap.size, 3, none⟩ (.string c.expect)) := St.Sp.Set.part hi5 rfl
 have hb8 := hp.bel hb7 (Nat.le_trans hb.size (Nat.le_of_lt hl3))
 have hj6 := hp.up hj5 (Nat.ne_of_lt hl3)
 have HI6 := Lib.hid hp.i
 have HZ := Lib.hid hp.z
 have HB8 := Lib.hid hb8
 have HN3 : Hid (w1.heap.size ≠ w3.heap.size) := Lib.hid (Nat.ne_of_lt hl3)
 clear hi5 hj5 hs5 hI4 hb hb4 hb6 hb7 hl3 hp hb8
 by_cases hok : c.cell.ok
 ·rw [decide_eq_true hok] at hr
  have HD : Hid (decide c.cellE.ok = decide c.placed) := Lib.hid (decide_eq_decide.2 ⟨fun h => HB.out.2 ⟨hok, h⟩, fun h => (HB.out.1 h).2⟩)
  clear hok
  go_wp2_with (refine St.load clOk rfl (.tmp 3) rfl rfl hj6 ?_)
  refine (hr _).mono ?_
  rintro e w7 ⟨rfl, hb7⟩
  have hi7 := HI6.out.up hb7
  have hb9 := bwstep HB8.out hb7
  clear hb7 hj6
  go_wp2_with (refine St.load clOk rfl (.tmp 4) rfl rfl hi7 ?_)
  refine (hr2 _).mono ?_
  rintro e w8 ⟨rfl, hb7⟩
  have hb10 := bwstep hb9 hb7
  clear hb7 hb9 hi7
  go_wp2_with fail
  go_ret
  exact ⟨ret1 (vb HD.out), hb10⟩
 ·rw [decide_eq_false hok] at hr
  have HD : Hid (false = decide c.placed) := Lib.hid (decide_eq_false fun h => hok (HB.out.1 h).1).symm
  clear hok
  go_wp2_with (refine St.load clOk rfl (.tmp 3) rfl rfl hj6 ?_)
  refine (hr _).mono ?_
  rintro e w7 ⟨rfl, hb7⟩
  have hb9 := bwstep HB8.out hb7
  clear hb7 hj6
  go_wp2_with fail
  go_ret
  exact ⟨ret1 (vb HD.out), hb9⟩
theorem placed_any (c : Cm) (w : World) : Calls Tryz.prog 51 #[c.v] w fun e w' => e = .returned (.bool (decide c.placed)) ∧ Below w.heap.size w w' := by
 by_cases h5 : c.kind = 5
 ·exact placed5_any c w h5
 ·exact placed4_any c w h5
end Go.Proofs.YtcpkhhbbjimdaaaGreatDoor.Ce
namespace Go.Proofs.YtcpkhhbbjimdaaaGreatDoor.Ce
open Go.RowKit
theorem run_idxI (A : Array Value) (k : Nat) (n : Int) (hk : k < 5) (h : A[k]? = some (.int .i64 n)) (w : World) : (Instr.index 118 (.agg A) (.int .i64 (k : Int))).run Tryz.prog w = .ok (.int .i64 n) w := by
 have hs : (Tryz.prog.info? 3).map (·.size) = some 1 := by kernel_rfl
 obtain ⟨i, hi, hz⟩ := Option.map_eq_some_iff.1 hs
 simp [Instr.index, run_underlying Tryz.underlying118, asIntOf, part, isAgg, run_underlying Tryz.underlying3, sizeOf, typeInfo, hi, hz, h]
 omega
theorem run_idxS (A : Array Value) (k : Nat) (s : ByteArray) (hk : k < 5) (h : A[k]? = some (.string s)) (w : World) : (Instr.index 119 (.agg A) (.int .i64 (k : Int))).run Tryz.prog w = .ok (.string s) w := by
 have hs : (Tryz.prog.info? 9).map (·.size) = some 1 := by kernel_rfl
 obtain ⟨i, hi, hz⟩ := Option.map_eq_some_iff.1 hs
 simp [Instr.index, run_underlying Tryz.underlying119, asIntOf, part, isAgg, run_underlying Tryz.underlying9, sizeOf, typeInfo, hi, hz, h]
 omega
theorem spell_ok (c : Cm) (w : World) (hs : c.Sound) : Calls Tryz.prog 52 #[c.v] w fun e w' => e = .returned (.string (cmdS c)) ∧ Below w.heap.size w w' := by
 have HN := Lib.hid hs.nums
 have HT := Lib.hid hs.texts
 have hCD : Hid (numsB (cmN c) ++ allB (cmT c) = cmdB c) := Lib.hid rfl
 obtain ⟨hx, hhx⟩ : ∃ x : Int, x = if c.has = true then 1 else 0 := ⟨_, rfl⟩
 have hfl := fun w => cflag_any c.has w
 rw [← hhx] at hfl
 have HAN : Hid (∀ k (hk : k < (cmN c).length), (#[Value.int .i64 c.client, .int .i64 c.seq, .int .i64 c.kind, .int .i64 c.at_, .int .i64 hx])[k]? = some (.int .i64 (cmN c)[k])) := Lib.hid fun k hk => by
  have e : #[Value.int .i64 c.client, .int .i64 c.seq, .int .i64 c.kind, .int .i64 c.at_, .int .i64 hx] = ((cmN c).map (fun n => Value.int .i64 n)).toArray := by rw [hhx]; rfl
  rw [e]
  simp [hk]
 have HAT : Hid (∀ k (hk : k < (cmT c).length), (#[Value.string c.row, .string c.col, .string c.to_, .string c.value, .string c.expect])[k]? = some (.string (cmT c)[k])) := Lib.hid fun k hk => by
  have e : #[Value.string c.row, .string c.col, .string c.to_, .string c.value, .string c.expect] = ((cmT c).map (fun n => Value.string n)).toArray := rfl
  rw [e]
  simp [hk]
 clear hhx
 go_enter Tryz.func52, Tryz.ntmps52
 go_wp2_with (refine St.box cmD rfl (.tmp 0) c rfl rfl ?_)
 constructor
 intro w1 hI hb hz
 obtain ⟨c0, c1, c2, c3, c4, c5, c6, c7, c8, c9⟩ := CmAt.of hI
 clear hz
 have HC3 : Hid (∀ z, Below w1.heap.size w1 z → CmAt w.heap.size c z) := Lib.hid fun z hz => CmAt.of (hI.up hz)
 have HB := Lib.hid hb
 clear hI hb
 go_wp2_with fail
 go_quiet (first | (go_at_call 66; exact (hfl _).mono fun _ _ ⟨h1, h2⟩ => ⟨h1, _, h2.symm⟩))
 case h.refine_2 =>
  have HB1 : Hid (Below w1.heap.size w1 (w1.drewN nq)) := Lib.hid (bwN nq)
  generalize w1.drewN nq = w2 at *
  clear c0 c1 c2 c3 c4 c5 c6 c7 c8 c9 hfl
  generalize #[Value.int .i64 c.client, .int .i64 c.seq, .int .i64 c.kind, .int .i64 c.at_, .int .i64 hx] = AN at *
  have hNl : (cmN c).length = 5 := rfl
  have hTl : (cmT c).length = 5 := rfl
  go_wp2_with fail
  go_loopw [3, 20] (fun o i wr => ∃ k : Nat, k ≤ 5 ∧ i = .int .i64 k ∧ Ow wr w2.heap.size 5 o ((numsB ((cmN c).take k)).map bv) ∧ Below w2.heap.size w2 wr) (fun _ i _ => 5 - (intOf i).toNat)
  case atStart => exact ⟨0, by omega, rfl, Ow.nilB _ _ _, Below.refl _ _⟩
  case round =>
   obtain ⟨k, hk, rfl, ho, hbw⟩ := hrel
   by_cases hlt : k < 5
   ·have hcell := HAN.out k (by omega)
    have hnn := HN.out _ (List.getElem_mem (show k < (cmN c).length by omega))
    have HS := Lib.hid (numsB_snoc (cmN c) k (by omega))
    generalize (cmN c)[k]'(by omega) = n at hcell hnn HS
    have hidx := run_idxI AN k n hlt hcell
    have hol : (numsB ((cmN c).take k)).length ≤ 20 := by rw [numsB_len, List.length_take]; omega
    generalize numsB ((cmN c).take k) = F at ho HS hol
    have HO := Lib.hid ho
    have HBW := Lib.hid hbw
    have h0 := hnn.1
    have h1 := hnn.2
    clear ho hbw hnn hcell
    obtain ⟨wo, hwo⟩ : ∃ wo, wo = wr := ⟨_, rfl⟩
    subst hwo
    go_wp2_with fail
    refine (num_int n _ h0 h1).mono ?_
    rintro e w3 ⟨q, rfl, hq, hb3⟩
    have hq3 := hq.rd
    have ho3 := HO.out.below hb3
    have hb4 := bwstep HBW.out hb3
    have hs4 := hb4.size
    have z4 : F.length + (numB n.toNat).length ≤ 140737488355328 := by rw [numB_len]; omega
    clear hq hb3
    go_wp2_with (at_builtin; refine wpList_appB bytesT rfl (.tmp 23) (.tmp 25) rfl rfl ho3 rfl hq3 z4 hs4 ?_; intro v5 w5 ho5 hg5 _; have HO5 := Lib.hid ho5; have HB5 := Lib.hid (hb4.grown hg5 hs4 ho3.ge); clear ho5 hg5)
    go_roundw
    case rel => exact ⟨k + 1, by omega, by go_num, by rw [HS.out]; exact HO5.out, HB5.out⟩
    case measure => simp [intOf]; omega
   ·rw [List.take_of_length_le (show (cmN c).length ≤ k by omega)] at ho
    have HO := Lib.hid ho
    have HBW := Lib.hid hbw
    have hk0 : 5 ≤ k := by omega
    clear ho hlt
    obtain ⟨-, -, -, d3, d4, d5, -, d7, d8, -⟩ := HC3.out wr (bwstep HB1.out hbw)
    clear hbw
    obtain ⟨wo, hwo⟩ : ∃ wo, wo = wr := ⟨_, rfl⟩
    subst hwo
    obtain ⟨p6, hp6⟩ : ∃ p6, p6 = u3 := ⟨_, rfl⟩
    subst hp6
    obtain ⟨km, hkm⟩ : ∃ km, km = k := ⟨_, rfl⟩
    subst hkm
    go_wp2_with fail
    generalize #[Value.string c.row, .string c.col, .string c.to_, .string c.value, .string c.expect] = AT at *
    clear d3 d4 d5 d7 d8
    go_loopw [3, 39] (fun o i wr => ∃ k : Nat, k ≤ 5 ∧ i = .int .i64 k ∧ Ow wr w2.heap.size 5 o ((numsB (cmN c) ++ allB ((cmT c).take k)).map bv) ∧ Below w2.heap.size w2 wr) (fun _ i _ => 5 - (intOf i).toNat)
    case atStart => exact ⟨0, by omega, rfl, by simpa [allB] using HO.out, HBW.out⟩
    case round =>
     clear HO HBW
     obtain ⟨k, hk, rfl, ho, hbw⟩ := hrel
     by_cases hlt5 : k < 5
     ·have hcell := HAT.out k (by omega)
      have hnn := HT.out _ (List.getElem_mem (show k < (cmT c).length by omega))
      have HS := Lib.hid (allB_snoc (cmT c) k (by omega))
      have hle := allB_take_le (cmT c) (k + 1)
      rw [HS.out, List.length_append] at hle
      generalize (cmT c)[k]'(by omega) = t at hcell hnn HS hle
      have hidx := run_idxS AT k t hlt5 hcell
      have hol : (numsB (cmN c) ++ allB ((cmT c).take k)).length + (textB t).length ≤ 140737488355328 := by
       have : (allB (cmT c)).length ≤ 40 + 5 * 4294967295 := by
        rw [allB_len]
        have hsum : sumS (cmT c) ≤ 5 * 4294967295 := by
         have q0 := HT.out c.row (by simp [cmT])
         have q1 := HT.out c.col (by simp [cmT])
         have q2 := HT.out c.to_ (by simp [cmT])
         have q3 := HT.out c.value (by simp [cmT])
         have q4 := HT.out c.expect (by simp [cmT])
         simp only [cmT, sumS, List.map_cons, List.map_nil, List.sum_cons, List.sum_nil]
         omega
        omega
       rw [List.length_append, numsB_len]
       omega
      generalize allB ((cmT c).take k) = F at ho HS hol
      have HO := Lib.hid ho
      have HBW := Lib.hid hbw
      clear ho hbw hle hcell
      obtain ⟨wi, hwi⟩ : ∃ wi, wi = wr := ⟨_, rfl⟩
      subst hwi
      go_wp2_with fail
      refine (text_ok t _ hnn).mono ?_
      rintro e w3 ⟨q, rfl, hq, hb3⟩
      have hq3 := hq.rd
      have ho3 := HO.out.below hb3
      have hb4 := bwstep HBW.out hb3
      have hs4 := hb4.size
      clear hq hb3
      go_wp2_with (at_builtin; refine wpList_appB bytesT rfl (.tmp 42) (.tmp 44) rfl rfl ho3 rfl hq3 hol hs4 ?_; intro v5 w5 ho5 hg5 _; have HO5 := Lib.hid ho5; have HB5 := Lib.hid (hb4.grown hg5 hs4 ho3.ge); clear ho5 hg5)
      go_roundw
      case rel => exact ⟨k + 1, by omega, by go_num, by rw [HS.out, ← List.append_assoc]; exact HO5.out, HB5.out⟩
      case measure => simp [intOf]; omega
     ·obtain rfl : k = 5 := by omega
      rw [List.take_of_length_le (show (cmT c).length ≤ 5 by omega), hCD.out] at ho
      have HBW := Lib.hid (bwstep HB.out (HB1.out.trans (hbw.mono HB1.out.size)))
      have hcv := run_str (P := Tryz.prog) (w := wr) Tryz.underlying84 Tryz.underlying5 Tryz.underlying9 ho.rd
      have HR : Hid ((⟨(cmdB c).toArray⟩ : ByteArray) = cmdS c) := Lib.hid rfl
      generalize (⟨(cmdB c).toArray⟩ : ByteArray) = sx at hcv HR
      clear ho hbw
      go_wp2_with fail
      go_ret
      rw [HR.out]
      exact ⟨rfl, HBW.out⟩
end Go.Proofs.YtcpkhhbbjimdaaaGreatDoor.Ce
namespace Go.Proofs.YtcpkhhbbjimdaaaGreatDoor.Ce
open Go.RowKit
theorem Cm.sound_iff {c : Cm} : c.Sound ↔ c.numbered ∧ c.bare ∧ c.placed := by
 constructor
 ·intro h
  have hk1 := h.k1
  have hk2 := h.k2
  refine ⟨⟨⟨h.c1, h.c2⟩, ⟨h.s1, h.s2⟩, hk1, hk2⟩, ?_, ?_⟩
  ·by_cases h5 : c.kind = 5
   ·have f := h.five h5
    rw [Cm.bare_iff, h5]
    exact ⟨.inr (nul_list f.col), .inl rfl, .inr (nul_list f.value), .inr f.has, .inr (nul_list f.expect)⟩
   ·have f := h.four h5
    have hc : c.kind = 1 ∨ c.kind = 2 ∨ c.kind = 3 ∨ c.kind = 4 := by omega
    rw [Cm.bare_iff]
    have hx : c.has = true ∨ c.expect.toList = [] := f.has.imp id nul_list
    rcases hc with hk | hk | hk | hk
    ·have g := f.check.resolve_left (by omega)
     rw [hk]
     exact ⟨.inl rfl, .inr (nul_list f.to_), .inl rfl, .inr g.1, hx⟩
    ·have g := f.check.resolve_left (by omega)
     have v := f.value (.inl hk)
     rw [hk]
     exact ⟨.inl rfl, .inr (nul_list f.to_), .inr (nul_list v), .inr g.1, hx⟩
    ·rw [hk]
     exact ⟨.inl rfl, .inr (nul_list f.to_), .inl rfl, .inl rfl, hx⟩
    ·have g := f.check.resolve_left (by omega)
     have v := f.value (.inr hk)
     rw [hk]
     exact ⟨.inl rfl, .inr (nul_list f.to_), .inr (nul_list v), .inr g.1, hx⟩
  ·refine ⟨fun h5 => ?_, fun h5 => ?_⟩
   ·have f := h.five h5
    exact ⟨⟨f.row, f.to_⟩, f.a1, f.a2⟩
   ·have f := h.four h5
    have q := f.cell
    exact ⟨q, ⟨q.r1, q.r2, q.c1, q.c2, q.a1, q.a2, f.expect, fun e => by cases e⟩⟩
 ·rintro ⟨⟨⟨c1, c2⟩, ⟨s1, s2⟩, k1, k2⟩, b, p⟩
  refine ⟨c1, c2, s1, s2, k1, k2, fun h5 => ?_, fun h5 => ?_⟩
  ·obtain ⟨⟨p1, p2⟩, p3, p4⟩ := p.five h5
   rw [Cm.bare_iff, h5] at b
   obtain ⟨b1, -, b3, b4, b5⟩ := b
   have e4 := b4.resolve_left (by decide)
   exact ⟨nul_of (b1.resolve_left (by decide)), nul_of (b3.resolve_left (by decide)), nul_of (b5.resolve_left (by simp [e4])), e4, p1, p2, p3, p4⟩
  ·obtain ⟨p1, p2⟩ := p.four h5
   have hc : c.kind = 1 ∨ c.kind = 2 ∨ c.kind = 3 ∨ c.kind = 4 := by omega
   rw [Cm.bare_iff] at b
   obtain ⟨b1, b2, b3, b4, b5⟩ := b
   have hz : c.has = true ∨ c.expect = nul := b5.imp id nul_of
   rcases hc with hk | hk | hk | hk
   ·rw [hk] at b2 b4
    have e4 := b4.resolve_left (by decide)
    exact ⟨nul_of (b2.resolve_left (by decide)), .inr ⟨e4, hz.resolve_left (by simp [e4])⟩, hz, fun h => by omega, p2.v, p1⟩
   ·rw [hk] at b2 b3 b4
    have e4 := b4.resolve_left (by decide)
    exact ⟨nul_of (b2.resolve_left (by decide)), .inr ⟨e4, hz.resolve_left (by simp [e4])⟩, hz, fun h => nul_of (b3.resolve_left (by decide)), p2.v, p1⟩
   ·rw [hk] at b2
    exact ⟨nul_of (b2.resolve_left (by decide)), .inl hk, hz, fun h => by omega, p2.v, p1⟩
   ·rw [hk] at b2 b3 b4
    have e4 := b4.resolve_left (by decide)
    exact ⟨nul_of (b2.resolve_left (by decide)), .inr ⟨e4, hz.resolve_left (by simp [e4])⟩, hz, fun h => nul_of (b3.resolve_left (by decide)), p2.v, p1⟩
noncomputable def putS (c : Cm) : ByteArray := if c.Right then cmdS c else ⟨#[]⟩
noncomputable def putE (c : Cm) : Int := if c.Sound then (if c.Right then 0 else 7) else 1
theorem cput_any (c : Cm) (w : World) (hk : Kd w) : Calls Tryz.prog 38 #[c.v] w fun e w' => e = .returned (.tuple #[.string (putS c), .int .i64 (putE c)]) ∧ Below w.heap.size w w' := by
 have HK := Lib.hid hk
 have HI9 := Lib.hid (Cm.sound_iff (c := c))
 have hn := fun w => numbered_any c w
 clear hk
 by_cases h1 : c.numbered
 ·have hb := fun w hk => bare_any c w hk h1.2.2.1 h1.2.2.2
  rw [decide_eq_true h1] at hn
  by_cases h2 : c.bare
  ·rw [decide_eq_true h2] at hb
   have hp := fun w => placed_any c w
   by_cases h3 : c.placed
   ·rw [decide_eq_true h3] at hp
    have hs : c.Sound := HI9.out.2 ⟨h1, h2, h3⟩
    have hsp := fun w => spell_ok c w hs
    by_cases h4 : (cmdB c).length ≤ 512
    ·have hr : c.Right := ⟨hs, h4⟩
     have eS : putS c = cmdS c := if_pos hr
     have eE : putE c = 0 := by unfold putE; rw [if_pos hs, if_pos hr]
     have h4i : ¬ (512 : Int) < (cmdS c).size := by rw [cmdS_size]; omega
     rw [eS, eE]
     generalize cmdS c = s at *
     clear eS eE hr h4 hs h1 h2 h3 HI9
     go_enter Tryz.func38, Tryz.ntmps38
     go_wp2_with (refine St.box cmD rfl (.tmp 0) c rfl rfl ?_)
     constructor
     intro w1 hI hw hz
     go_wp2_with (refine St.load cmOk rfl (.tmp 1) rfl rfl hI ?_)
     refine (hn _).mono ?_
     rintro e w2 ⟨rfl, hb2⟩
     have hI2 := hI.up hb2
     have hw2 := bwstep hw hb2
     clear hI hw hb2 hn hz
     go_wp2_with (refine St.load cmOk rfl (.tmp 1) rfl rfl hI2 ?_)
     refine (hb _ (HK.out.up hw2)).mono ?_
     rintro e w3 ⟨rfl, hb3⟩
     have hI3 := hI2.up hb3
     have hw3 := bwstep hw2 hb3
     clear hI2 hw2 hb3 hb
     go_wp2_with (refine St.load cmOk rfl (.tmp 1) rfl rfl hI3 ?_)
     refine (hp _).mono ?_
     rintro e w4 ⟨rfl, hb4⟩
     have hI4 := hI3.up hb4
     have hw4 := bwstep hw3 hb4
     clear hI3 hw3 hb4 hp
     go_wp2_with (refine St.load cmOk rfl (.tmp 1) rfl rfl hI4 ?_)
     refine (hsp _).mono ?_
     rintro e w5 ⟨rfl, hb5⟩
     have hw5 := bwstep hw4 hb5
     clear hI4 hw4 hb5 hsp
     go_wp2_with fail
     go_ret2
     exact ⟨rfl, hw5⟩
    ·have hr : ¬ c.Right := fun h => h4 h.2
     have eS : putS c = ⟨#[]⟩ := if_neg hr
     have eE : putE c = 7 := by unfold putE; rw [if_pos hs, if_neg hr]
     have h4i : (512 : Int) < (cmdS c).size := by rw [cmdS_size]; omega
     rw [eS, eE]
     generalize cmdS c = s at *
     clear eS eE hr h4 hs h1 h2 h3 HI9
     go_enter Tryz.func38, Tryz.ntmps38
     go_wp2_with (refine St.box cmD rfl (.tmp 0) c rfl rfl ?_)
     constructor
     intro w1 hI hw hz
     go_wp2_with (refine St.load cmOk rfl (.tmp 1) rfl rfl hI ?_)
     refine (hn _).mono ?_
     rintro e w2 ⟨rfl, hb2⟩
     have hI2 := hI.up hb2
     have hw2 := bwstep hw hb2
     clear hI hw hb2 hn hz
     go_wp2_with (refine St.load cmOk rfl (.tmp 1) rfl rfl hI2 ?_)
     refine (hb _ (HK.out.up hw2)).mono ?_
     rintro e w3 ⟨rfl, hb3⟩
     have hI3 := hI2.up hb3
     have hw3 := bwstep hw2 hb3
     clear hI2 hw2 hb3 hb
     go_wp2_with (refine St.load cmOk rfl (.tmp 1) rfl rfl hI3 ?_)
     refine (hp _).mono ?_
     rintro e w4 ⟨rfl, hb4⟩
     have hI4 := hI3.up hb4
     have hw4 := bwstep hw3 hb4
     clear hI3 hw3 hb4 hp
     go_wp2_with (refine St.load cmOk rfl (.tmp 1) rfl rfl hI4 ?_)
     refine (hsp _).mono ?_
     rintro e w5 ⟨rfl, hb5⟩
     have hw5 := bwstep hw4 hb5
     clear hI4 hw4 hb5 hsp
     go_wp2_with fail
     go_ret2
     exact ⟨rfl, hw5⟩
   ·rw [decide_eq_false h3] at hp
    have hs : ¬ c.Sound := fun h => h3 (HI9.out.1 h).2.2
    have eS : putS c = ⟨#[]⟩ := if_neg fun h => hs h.1
    have eE : putE c = 1 := if_neg hs
    rw [eS, eE]
    clear eS eE hs h1 h2 h3 HI9
    go_enter Tryz.func38, Tryz.ntmps38
    go_wp2_with (refine St.box cmD rfl (.tmp 0) c rfl rfl ?_)
    constructor
    intro w1 hI hw hz
    go_wp2_with (refine St.load cmOk rfl (.tmp 1) rfl rfl hI ?_)
    refine (hn _).mono ?_
    rintro e w2 ⟨rfl, hb2⟩
    have hI2 := hI.up hb2
    have hw2 := bwstep hw hb2
    clear hI hw hb2 hn hz
    go_wp2_with (refine St.load cmOk rfl (.tmp 1) rfl rfl hI2 ?_)
    refine (hb _ (HK.out.up hw2)).mono ?_
    rintro e w3 ⟨rfl, hb3⟩
    have hI3 := hI2.up hb3
    have hw3 := bwstep hw2 hb3
    clear hI2 hw2 hb3 hb
    go_wp2_with (refine St.load cmOk rfl (.tmp 1) rfl rfl hI3 ?_)
    refine (hp _).mono ?_
    rintro e w4 ⟨rfl, hb4⟩
    have hw4 := bwstep hw3 hb4
    clear hI3 hw3 hb4 hp
    go_wp2_with fail
    go_ret2
    exact ⟨rfl, hw4⟩
  ·rw [decide_eq_false h2] at hb
   have hs : ¬ c.Sound := fun h => h2 (HI9.out.1 h).2.1
   have eS : putS c = ⟨#[]⟩ := if_neg fun h => hs h.1
   have eE : putE c = 1 := if_neg hs
   rw [eS, eE]
   clear eS eE hs h1 h2 HI9
   go_enter Tryz.func38, Tryz.ntmps38
   go_wp2_with (refine St.box cmD rfl (.tmp 0) c rfl rfl ?_)
   constructor
   intro w1 hI hw hz
   go_wp2_with (refine St.load cmOk rfl (.tmp 1) rfl rfl hI ?_)
   refine (hn _).mono ?_
   rintro e w2 ⟨rfl, hb2⟩
   have hI2 := hI.up hb2
   have hw2 := bwstep hw hb2
   clear hI hw hb2 hn hz
   go_wp2_with (refine St.load cmOk rfl (.tmp 1) rfl rfl hI2 ?_)
   refine (hb _ (HK.out.up hw2)).mono ?_
   rintro e w3 ⟨rfl, hb3⟩
   have hw3 := bwstep hw2 hb3
   clear hI2 hw2 hb3 hb
   go_wp2_with fail
   go_ret2
   exact ⟨rfl, hw3⟩
 ·rw [decide_eq_false h1] at hn
  have hs : ¬ c.Sound := fun h => h1 (HI9.out.1 h).1
  have eS : putS c = ⟨#[]⟩ := if_neg fun h => hs h.1
  have eE : putE c = 1 := if_neg hs
  rw [eS, eE]
  clear eS eE hs h1 HI9
  go_enter Tryz.func38, Tryz.ntmps38
  go_wp2_with (refine St.box cmD rfl (.tmp 0) c rfl rfl ?_)
  constructor
  intro w1 hI hw hz
  go_wp2_with (refine St.load cmOk rfl (.tmp 1) rfl rfl hI ?_)
  refine (hn _).mono ?_
  rintro e w2 ⟨rfl, hb2⟩
  have hw2 := bwstep hw hb2
  clear hI hw hb2 hn hz
  go_wp2_with fail
  go_ret2
  exact ⟨rfl, hw2⟩
theorem putE_zero {c : Cm} : (putE c == 0) = decide c.Right := by
 unfold putE
 by_cases hs : c.Sound
 ·rw [if_pos hs]
  by_cases hr : c.Right
  ·rw [if_pos hr, decide_eq_true hr]; rfl
  ·rw [if_neg hr, decide_eq_false hr]; rfl
 ·rw [if_neg hs, decide_eq_false fun h => hs h.1]; rfl
theorem cright_any (c : Cm) (w : World) (hk : Kd w) : Calls Tryz.prog 26 #[c.v] w fun e w' => e = .returned (.bool (decide c.Right)) ∧ Below w.heap.size w w' := by
 have HE := Lib.hid (putE_zero (c := c))
 have hp := fun w hk => cput_any c w hk
 have HK := Lib.hid hk
 clear hk
 generalize putE c = n at *
 generalize putS c = s at *
 go_enter Tryz.func26, Tryz.ntmps26
 go_wp2_with (refine St.box cmD rfl (.tmp 0) c rfl rfl ?_)
 constructor
 intro w1 hI hw hz
 clear hz
 go_wp2_with (refine St.load cmOk rfl (.tmp 1) rfl rfl hI ?_)
 refine (hp _ (HK.out.up hw)).mono ?_
 rintro e w2 ⟨rfl, hb2⟩
 have hw2 := bwstep hw hb2
 clear hI hw hb2 hp
 go_wp2_with fail
 go_ret
 exact ⟨ret1 (vb HE.out), hw2⟩
end Go.Proofs.YtcpkhhbbjimdaaaGreatDoor.Ce
namespace Go.Proofs.YtcpkhhbbjimdaaaGreatDoor.Ce
open Go.RowKit
structure RdG (w : World) (G : Nat) (v : Value) (xs : List Value) : Prop where
 rd : Rd w w.heap.size v xs
 ge : ∀ k, v.ownBlock = some k → G ≤ k
theorem RdG.up {w w' : World} {G : Nat} {v : Value} {xs : List Value} (h : RdG w G v xs) (hb : Below w.heap.size w w') : RdG w' G v xs := ⟨h.rd.up hb, h.ge⟩
theorem RdG.set {w w' : World} {G : Nat} {v : Value} {xs : List Value} (h : RdG w G v xs) (ho : ∀ k, G ≤ k → w'.heap[k]? = w.heap[k]?) (hz : w'.heap.size = w.heap.size) : RdG w' G v xs := by
 obtain ⟨⟨A, c, rfl, h1, h2, h3⟩, hg⟩ := h
 refine ⟨⟨A, c, rfl, h1, h2, fun hp => ?_⟩, hg⟩
 obtain ⟨b, off, rfl, hb, hc⟩ := h3 hp
 refine ⟨b, off, rfl, by omega, fun j u hu => ?_⟩
 rw [← hc j u hu]
 have := ho b (hg b rfl)
 simp only [World.cell?, this]
def upd {α : Type} (g : Nat → α) (k : Nat) (x : α) : Nat → α := fun j => if j = k then x else g j
def Rd1 (l : List UInt8) (k : Nat) (g : Nat → Int) (L : List UInt8) : Prop := ∀ c, IsCmd l c → (∀ j, j < k → (cmN c)[j]? = some (g j)) ∧ L = numsB ((cmN c).drop k) ++ allB (cmT c)
def Rd2 (l : List UInt8) (k : Nat) (g : Nat → Int) (t : Nat → ByteArray) (L : List UInt8) : Prop := ∀ c, IsCmd l c → (∀ j, j < 5 → (cmN c)[j]? = some (g j)) ∧ (∀ j, j < k → (cmT c)[j]? = some (t j)) ∧ L = allB ((cmT c).drop k)
theorem Rd1.start (l : List UInt8) : Rd1 l 0 (fun _ => 0) l := by
 rintro c ⟨-, -, rfl⟩
 exact ⟨fun j hj => absurd hj (by omega), rfl⟩
theorem numsB_drop (N : List Int) {k : Nat} (h : k < N.length) : numsB (N.drop k) = numB N[k].toNat ++ numsB (N.drop (k + 1)) := by
 rw [List.drop_eq_getElem_cons h]
 rfl
theorem Rd1.ok {l : List UInt8} {k : Nat} {g : Nat → Int} {L : List UInt8} (h : Rd1 l k g L) (hk : k < 5) : Rd1 l (k + 1) (upd g k (numOf L)) (L.drop 4) := by
 intro c hc
 obtain ⟨h1, rfl⟩ := h c hc
 have hl : k < (cmN c).length := hk
 have hb := hc.1.nums _ (List.getElem_mem hl)
 rw [numsB_drop _ hl, List.append_assoc, numOf_numB _ (by omega), List.drop_left' (numB_len _)]
 refine ⟨fun j hj => ?_, rfl⟩
 unfold upd
 by_cases e : j = k
 ·subst e
  rw [if_pos rfl, List.getElem?_eq_getElem hl, Int.toNat_of_nonneg hb.1]
 ·rw [if_neg e]
  exact h1 j (by omega)
theorem Rd1.end_ {l : List UInt8} {k : Nat} {g : Nat → Int} {L : List UInt8} (h : Rd1 l k g L) (hk : 5 ≤ k) : Rd2 l 0 g (fun _ => ⟨#[]⟩) L := by
 intro c hc
 obtain ⟨h1, rfl⟩ := h c hc
 refine ⟨fun j hj => h1 j (by omega), fun j hj => absurd hj (by omega), ?_⟩
 rw [List.drop_of_length_le (show (cmN c).length ≤ k from hk)]
 rfl
theorem Rd2.ok {l : List UInt8} {k : Nat} {g : Nat → Int} {t : Nat → ByteArray} {L : List UInt8} (h : Rd2 l k g t L) (hk : k < 5) : Rd2 l (k + 1) g (upd t k ⟨(textOf L).toArray⟩) (textRest L) := by
 intro c hc
 obtain ⟨h0, h1, rfl⟩ := h c hc
 have hl : k < (cmT c).length := hk
 have hb := hc.1.texts _ (List.getElem_mem hl)
 rw [List.drop_eq_getElem_cons hl, Go.Proofs.YtcpkhhbbjimdaaaGreatDoor.allB_cons, textOf_textB _ hb, textRest_textB _ hb]
 refine ⟨h0, fun j hj => ?_, rfl⟩
 unfold upd
 by_cases e : j = k
 ·subst e
  rw [if_pos rfl, List.getElem?_eq_getElem hl]
 ·rw [if_neg e]
  exact h1 j (by omega)
def mk5 (g : Nat → Int) (t : Nat → ByteArray) : Cm := ⟨g 0, g 1, g 2, t 0, t 1, t 2, g 3, t 3, t 4, g 4 == 1⟩
theorem Rd2.end_ {l : List UInt8} {k : Nat} {g : Nat → Int} {t : Nat → ByteArray} {L : List UInt8} (h : Rd2 l k g t L) (hk : 5 ≤ k) : ∀ c, IsCmd l c → mk5 g t = c := by
 intro c hc
 obtain ⟨h0, h1, -⟩ := h c hc
 have a0 := h0 0 (by omega)
 have a1 := h0 1 (by omega)
 have a2 := h0 2 (by omega)
 have a3 := h0 3 (by omega)
 have a4 := h0 4 (by omega)
 have b0 := h1 0 (by omega)
 have b1 := h1 1 (by omega)
 have b2 := h1 2 (by omega)
 have b3 := h1 3 (by omega)
 have b4 := h1 4 (by omega)
 simp only [cmN, cmT, List.getElem?_cons_zero, List.getElem?_cons_succ, Option.some.injEq] at a0 a1 a2 a3 a4 b0 b1 b2 b3 b4
 apply Cm.ext' <;> simp only [mk5]
 ·exact a0.symm
 ·exact a1.symm
 ·exact a2.symm
 ·exact b0.symm
 ·exact b1.symm
 ·exact b2.symm
 ·exact a3.symm
 ·exact b3.symm
 ·exact b4.symm
 ·rw [← a4]
  cases c.has <;> rfl
end Go.Proofs.YtcpkhhbbjimdaaaGreatDoor.Ce
namespace Go.Proofs.YtcpkhhbbjimdaaaGreatDoor.Ce
open Go.RowKit
end Go.Proofs.YtcpkhhbbjimdaaaGreatDoor.Ce
namespace Go.Proofs.YtcpkhhbbjimdaaaGreatDoor.Ce
open Go.RowKit
noncomputable instance : DecidableEq Cm := fun _ _ => Classical.propDecidable _
def Cm.small (c : Cm) : Prop := c.row.size ≤ 600 ∧ c.col.size ≤ 600 ∧ c.to_.size ≤ 600 ∧ c.value.size ≤ 600 ∧ c.expect.size ≤ 600
instance (c : Cm) : Decidable c.small := by unfold Cm.small; infer_instance
end Go.Proofs.YtcpkhhbbjimdaaaGreatDoor.Ce
