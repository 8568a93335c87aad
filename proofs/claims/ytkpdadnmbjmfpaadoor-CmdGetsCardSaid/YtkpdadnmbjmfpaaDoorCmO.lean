/- A command that came in, opened; what the condition on cmd's table gives. -/
import Derived.Test.YtkpdadnmbjmfpaaDoorRow
import Derived.Test.YtkpdadnmbjmfpaaDoorCmW
import Derived.Test.YtkpdadnmbjmfpaaDoorRows
import Derived.LaidMore
import Derived.Lib.SmallJoins
import Derived.OpenShut
import Derived.Stop.Joined
namespace Go.Proofs.YtkpdadnmbjmfpaaDoor.Ce
open Go.ChangeShapes Go.WideShapes Go.ChangeAt Go.RowKit
section
variable {H : Type} {enc : TypeId × Value → H} {w : World}
theorem cellCm : Tryd.prog.cellsOf 23 = 10 := by kernel_rfl
theorem cell1I : Tryd.prog.cellsOf 3 = 1 := by kernel_rfl
theorem cell1S : Tryd.prog.cellsOf 9 = 1 := by kernel_rfl
theorem cell1B : Tryd.prog.cellsOf 4 = 1 := by kernel_rfl
set_option maxRecDepth 100000 in
theorem openCmC {fuel : Nat} {cs : List Value} {y : DataW H × List MemPlace} (hf : DataW.trod enc Tryd.prog w 0 (fun _ => true) true fuel 23 cs = some y) : ∃ c : Cm, cs = c.cs.toList := by
  obtain ⟨xs, n, _, rfl, hl, hxl, hfs⟩ := DataW.trod_struct Tryd.underlying23 hf
  rw [cellCm] at hl
  have hxl : xs.length = 10 := hxl
  match cs, hl with
  | [c0, c1, c2, c3, c4, c5, c6, c7, c8, c9], _ =>
    match xs, hxl with
    | [y0, y1, y2, y3, y4, y5, y6, y7, y8, y9], _ =>
      have f0 : DataW.trod enc Tryd.prog w 0 (fun _ => true) true n 3 (([c0, c1, c2, c3, c4, c5, c6, c7, c8, c9].drop 0).take (Tryd.prog.cellsOf 3)) = some y0 := hfs 0 _ rfl
      rw [cell1I] at f0
      have f1 : DataW.trod enc Tryd.prog w 0 (fun _ => true) true n 3 (([c0, c1, c2, c3, c4, c5, c6, c7, c8, c9].drop 1).take (Tryd.prog.cellsOf 3)) = some y1 := hfs 1 _ rfl
      rw [cell1I] at f1
      have f2 : DataW.trod enc Tryd.prog w 0 (fun _ => true) true n 3 (([c0, c1, c2, c3, c4, c5, c6, c7, c8, c9].drop 2).take (Tryd.prog.cellsOf 3)) = some y2 := hfs 2 _ rfl
      rw [cell1I] at f2
      have f3 : DataW.trod enc Tryd.prog w 0 (fun _ => true) true n 9 (([c0, c1, c2, c3, c4, c5, c6, c7, c8, c9].drop 3).take (Tryd.prog.cellsOf 9)) = some y3 := hfs 3 _ rfl
      rw [cell1S] at f3
      have f4 : DataW.trod enc Tryd.prog w 0 (fun _ => true) true n 9 (([c0, c1, c2, c3, c4, c5, c6, c7, c8, c9].drop 4).take (Tryd.prog.cellsOf 9)) = some y4 := hfs 4 _ rfl
      rw [cell1S] at f4
      have f5 : DataW.trod enc Tryd.prog w 0 (fun _ => true) true n 9 (([c0, c1, c2, c3, c4, c5, c6, c7, c8, c9].drop 5).take (Tryd.prog.cellsOf 9)) = some y5 := hfs 5 _ rfl
      rw [cell1S] at f5
      have f6 : DataW.trod enc Tryd.prog w 0 (fun _ => true) true n 3 (([c0, c1, c2, c3, c4, c5, c6, c7, c8, c9].drop 6).take (Tryd.prog.cellsOf 3)) = some y6 := hfs 6 _ rfl
      rw [cell1I] at f6
      have f7 : DataW.trod enc Tryd.prog w 0 (fun _ => true) true n 9 (([c0, c1, c2, c3, c4, c5, c6, c7, c8, c9].drop 7).take (Tryd.prog.cellsOf 9)) = some y7 := hfs 7 _ rfl
      rw [cell1S] at f7
      have f8 : DataW.trod enc Tryd.prog w 0 (fun _ => true) true n 9 (([c0, c1, c2, c3, c4, c5, c6, c7, c8, c9].drop 8).take (Tryd.prog.cellsOf 9)) = some y8 := hfs 8 _ rfl
      rw [cell1S] at f8
      have f9 : DataW.trod enc Tryd.prog w 0 (fun _ => true) true n 4 (([c0, c1, c2, c3, c4, c5, c6, c7, c8, c9].drop 9).take (Tryd.prog.cellsOf 4)) = some y9 := hfs 9 _ rfl
      rw [cell1B] at f9
      obtain ⟨a0, e0, -, -⟩ := DataW.trod_int Tryd.underlying3 (show DataW.trod enc Tryd.prog w 0 (fun _ => true) true n 3 [c0] = some y0 from f0)
      obtain ⟨a1, e1, -, -⟩ := DataW.trod_int Tryd.underlying3 (show DataW.trod enc Tryd.prog w 0 (fun _ => true) true n 3 [c1] = some y1 from f1)
      obtain ⟨a2, e2, -, -⟩ := DataW.trod_int Tryd.underlying3 (show DataW.trod enc Tryd.prog w 0 (fun _ => true) true n 3 [c2] = some y2 from f2)
      obtain ⟨a3, e3, -⟩ := DataW.trod_string Tryd.underlying9 (show DataW.trod enc Tryd.prog w 0 (fun _ => true) true n 9 [c3] = some y3 from f3)
      obtain ⟨a4, e4, -⟩ := DataW.trod_string Tryd.underlying9 (show DataW.trod enc Tryd.prog w 0 (fun _ => true) true n 9 [c4] = some y4 from f4)
      obtain ⟨a5, e5, -⟩ := DataW.trod_string Tryd.underlying9 (show DataW.trod enc Tryd.prog w 0 (fun _ => true) true n 9 [c5] = some y5 from f5)
      obtain ⟨a6, e6, -, -⟩ := DataW.trod_int Tryd.underlying3 (show DataW.trod enc Tryd.prog w 0 (fun _ => true) true n 3 [c6] = some y6 from f6)
      obtain ⟨a7, e7, -⟩ := DataW.trod_string Tryd.underlying9 (show DataW.trod enc Tryd.prog w 0 (fun _ => true) true n 9 [c7] = some y7 from f7)
      obtain ⟨a8, e8, -⟩ := DataW.trod_string Tryd.underlying9 (show DataW.trod enc Tryd.prog w 0 (fun _ => true) true n 9 [c8] = some y8 from f8)
      obtain ⟨a9, e9, -⟩ := DataW.trod_bool Tryd.underlying4 (show DataW.trod enc Tryd.prog w 0 (fun _ => true) true n 4 [c9] = some y9 from f9)
      simp only [List.cons.injEq, and_true] at e0 e1 e2 e3 e4 e5 e6 e7 e8 e9
      subst e0 e1 e2 e3 e4 e5 e6 e7 e8 e9
      exact ⟨⟨a0, a1, a2, a3, a4, a5, a6, a7, a8, a9⟩, rfl⟩
set_option maxRecDepth 100000 in
theorem openCm {r : Reach} {b0 : Nat} {v : Value} {d : DataW H} {p : List MemPlace} (hv : Value.okWide Tryd.prog w r b0 23 v) (h : DataW.Trod enc Tryd.prog w 0 (fun _ => true) true 23 v d p) : ∃ c : Cm, v = c.v := by
  obtain ⟨cs, rfl, _⟩ := okWide_struct Tryd.underlying23 hv
  obtain ⟨fuel, hf⟩ := h
  obtain ⟨s, hs⟩ := openCmC hf
  refine ⟨s, ?_⟩
  unfold Cm.v
  have hs' : cs.toList = s.cs.toList := hs
  rw [Array.toList_inj.1 hs']
end
/-- what the rows list -/
abbrev kindsD : List (String × DataW Unit) := [("shardlog/cmd.kinds", Rows.laid_shardlog_cmd_kinds)]
theorem gKinds : Tryd.prog.globalNamed "shardlog/cmd.kinds" = some 0 := by kernel_rfl
theorem tKinds : (Tryd.prog.globals[0]?).map (·.type) = some 46 := by kernel_rfl
theorem cellPt : Tryd.prog.cellsOf 45 = 5 := by kernel_rfl
section
variable {w : World} {base : Nat} {sp : Nat → Bool} {held : Bool}
set_option maxRecDepth 100000 in
theorem openPt {fuel : Nat} {cs : List Value} {b0 b1 b2 b3 b4 : Bool} {q : List MemPlace} (enc : TypeId × Value → Unit) (hf : DataW.trod enc Tryd.prog w base sp held fuel 45 cs = some (.agg [.lit (.bool b0), .lit (.bool b1), .lit (.bool b2), .lit (.bool b3), .lit (.bool b4)], q)) : cs = [.bool b0, .bool b1, .bool b2, .bool b3, .bool b4] := by
  obtain ⟨xs, n, _, hx, hl, hxl, hfs⟩ := DataW.trod_struct Tryd.underlying45 hf
  rw [cellPt] at hl
  have hxl : xs.length = 5 := hxl
  match cs, hl with
  | [c0, c1, c2, c3, c4], _ =>
    match xs, hxl with
    | [y0, y1, y2, y3, y4], _ =>
      have f0 : DataW.trod enc Tryd.prog w base sp held n 4 (([c0, c1, c2, c3, c4].drop 0).take (Tryd.prog.cellsOf 4)) = some y0 := hfs 0 _ rfl
      rw [cell1B] at f0
      obtain ⟨a0, e0, g0⟩ := DataW.trod_bool Tryd.underlying4 (show DataW.trod enc Tryd.prog w base sp held n 4 [c0] = some y0 from f0)
      have f1 : DataW.trod enc Tryd.prog w base sp held n 4 (([c0, c1, c2, c3, c4].drop 1).take (Tryd.prog.cellsOf 4)) = some y1 := hfs 1 _ rfl
      rw [cell1B] at f1
      obtain ⟨a1, e1, g1⟩ := DataW.trod_bool Tryd.underlying4 (show DataW.trod enc Tryd.prog w base sp held n 4 [c1] = some y1 from f1)
      have f2 : DataW.trod enc Tryd.prog w base sp held n 4 (([c0, c1, c2, c3, c4].drop 2).take (Tryd.prog.cellsOf 4)) = some y2 := hfs 2 _ rfl
      rw [cell1B] at f2
      obtain ⟨a2, e2, g2⟩ := DataW.trod_bool Tryd.underlying4 (show DataW.trod enc Tryd.prog w base sp held n 4 [c2] = some y2 from f2)
      have f3 : DataW.trod enc Tryd.prog w base sp held n 4 (([c0, c1, c2, c3, c4].drop 3).take (Tryd.prog.cellsOf 4)) = some y3 := hfs 3 _ rfl
      rw [cell1B] at f3
      obtain ⟨a3, e3, g3⟩ := DataW.trod_bool Tryd.underlying4 (show DataW.trod enc Tryd.prog w base sp held n 4 [c3] = some y3 from f3)
      have f4 : DataW.trod enc Tryd.prog w base sp held n 4 (([c0, c1, c2, c3, c4].drop 4).take (Tryd.prog.cellsOf 4)) = some y4 := hfs 4 _ rfl
      rw [cell1B] at f4
      obtain ⟨a4, e4, g4⟩ := DataW.trod_bool Tryd.underlying4 (show DataW.trod enc Tryd.prog w base sp held n 4 [c4] = some y4 from f4)
      simp only [List.cons.injEq, and_true] at e0 e1 e2 e3 e4
      subst e0 e1 e2 e3 e4 g0 g1 g2 g3 g4
      simp only [List.map_cons, List.map_nil, Prod.mk.injEq, DataW.agg.injEq, List.cons.injEq, DataW.lit.injEq, Lit.bool.injEq, and_true] at hx
      obtain ⟨⟨rfl, rfl, rfl, rfl, rfl⟩, -⟩ := hx
      rfl
end
set_option maxRecDepth 100000 in
/-- the condition gives the table -/
theorem kd_of {W : World} (h : laidMetH Tryd.prog kindsD W) : Kd W := by
  rw [MakeChecks.laidMetH_plain _ _ _ (by kernel_rfl)] at h
  obtain ⟨ps, ⟨g0, t0, cs0, f0, p0, q0, hg0, ht0, hv0, hd0, -, -⟩, -, -⟩ := h
  obtain rfl := Option.some.inj (gKinds.symm.trans hg0)
  obtain rfl := Option.some.inj (tKinds.symm.trans ht0)
  obtain ⟨xs, m, -, hx, hl, hxl, hel⟩ := DataW.trod_array Tryd.underlying46 hd0
  rw [show Tryd.prog.cellsOf 46 = 30 by kernel_rfl] at hl
  rw [cellPt] at hel
  match xs, hxl with
  | [y0, y1, y2, y3, y4, y5], _ =>
    simp only [Rows.laid_shardlog_cmd_kinds, List.map_cons, List.map_nil, Prod.mk.injEq, DataW.agg.injEq, List.cons.injEq, and_true] at hx
    obtain ⟨⟨g0, g1, g2, g3, g4, g5⟩, -⟩ := hx
    have hall : ∀ k, k < 6 → (cs0.toList.drop (k * 5)).take 5 = (ptOf k).cs.toList := by
      intro k hk
      have hk' : k = 0 ∨ k = 1 ∨ k = 2 ∨ k = 3 ∨ k = 4 ∨ k = 5 := by omega
      rcases hk' with rfl | rfl | rfl | rfl | rfl | rfl
      · have e := hel 0 (by omega)
        rw [show ([y0, y1, y2, y3, y4, y5] : List _)[0]? = some (y0.1, y0.2) from rfl, ← g0] at e
        exact openPt _ e
      · have e := hel 1 (by omega)
        rw [show ([y0, y1, y2, y3, y4, y5] : List _)[1]? = some (y1.1, y1.2) from rfl, ← g1] at e
        exact openPt _ e
      · have e := hel 2 (by omega)
        rw [show ([y0, y1, y2, y3, y4, y5] : List _)[2]? = some (y2.1, y2.2) from rfl, ← g2] at e
        exact openPt _ e
      · have e := hel 3 (by omega)
        rw [show ([y0, y1, y2, y3, y4, y5] : List _)[3]? = some (y3.1, y3.2) from rfl, ← g3] at e
        exact openPt _ e
      · have e := hel 4 (by omega)
        rw [show ([y0, y1, y2, y3, y4, y5] : List _)[4]? = some (y4.1, y4.2) from rfl, ← g4] at e
        exact openPt _ e
      · have e := hel 5 (by omega)
        rw [show ([y0, y1, y2, y3, y4, y5] : List _)[5]? = some (y5.1, y5.2) from rfl, ← g5] at e
        exact openPt _ e
    have hcell : ∀ k, k < 6 → ∀ (i : Nat) (u : Value), (ptOf k).cs[i]? = some u → W.cell? ⟨0, k * 5 + i, none⟩ = some u := by
      intro k hk i u hu
      have hi : i < 5 := (Array.getElem?_eq_some_iff.1 hu).1
      rw [World.var?_cell hg0 hv0, ← Array.getElem?_toList]
      have e := congrArg (fun l => l[i]?) (hall k hk)
      simp only [List.getElem?_take, List.getElem?_drop, hi, if_true] at e
      rw [e, Array.getElem?_toList]
      exact hu
    exact ⟨World.block_lt_of_cell? W _ (hcell 0 (by omega) 0 _ rfl), hcell⟩
theorem own15 : ownKnob Tryd.prog.godebug = none := by kernel_rfl
set_option maxRecDepth 100000 in
/-- the heap that the door's own run leaves meets the condition -/
theorem door_met (os : Os) (args : Array Value) : laidMetH Tryd.prog kindsD ((World.doorLaid Tryd.prog 400 os).forCall (fun _ _ => 0) ⟨#[], args, []⟩).memory :=
  laidMetH_of_parts3 (fuel := 8) (laidMet_of_run' 8 (by kernel_rfl) (by kernel_rfl)) (by kernel_rfl) (by kernel_rfl)
end Go.Proofs.YtkpdadnmbjmfpaaDoor.Ce
