/- A vote that came in, opened. -/
import Derived.Test.YtpmlfhgdhnofbaaRowX
import Derived.Test.YtpmlfhgdhnofbaaVoG
import Derived.Test.YtpmlfhgdhnofbaaRows
set_option maxHeartbeats 8000000
set_option maxRecDepth 100000
namespace Go.Proofs.Ytpmlfhgdhnofbaa.Ce
open Go.ChangeShapes Go.WideShapes Go.ChangeAt Go.RowKit
section
variable {H : Type} {enc : TypeId × Value → H} {w : World}
theorem cellVt : Try.prog.cellsOf 23 = 5 := by kernel_rfl
theorem cellV1I : Try.prog.cellsOf 3 = 1 := by kernel_rfl
theorem cellV1S : Try.prog.cellsOf 9 = 1 := by kernel_rfl
theorem cellV1B : Try.prog.cellsOf 4 = 1 := by kernel_rfl
theorem openVtC {fuel : Nat} {cs : List Value} {y : DataW H × List MemPlace} (hf : DataW.trod enc Try.prog w 0 (fun _ => true) true fuel 23 cs = some y) : ∃ c : Vt, cs = c.cs.toList := by
 obtain ⟨xs, n, _, rfl, hl, hxl, hfs⟩ := DataW.trod_struct Try.underlying23 hf
 rw [cellVt] at hl
 have hxl : xs.length = 5 := hxl
 match cs, hl with
 | [c0, c1, c2, c3, c4], _ =>
  match xs, hxl with
  | [y0, y1, y2, y3, y4], _ =>
   have f0 : DataW.trod enc Try.prog w 0 (fun _ => true) true n 3 (([c0, c1, c2, c3, c4].drop 0).take (Try.prog.cellsOf 3)) = some y0 := hfs 0 _ rfl
   rw [cellV1I] at f0
   have f1 : DataW.trod enc Try.prog w 0 (fun _ => true) true n 3 (([c0, c1, c2, c3, c4].drop 1).take (Try.prog.cellsOf 3)) = some y1 := hfs 1 _ rfl
   rw [cellV1I] at f1
   have f2 : DataW.trod enc Try.prog w 0 (fun _ => true) true n 3 (([c0, c1, c2, c3, c4].drop 2).take (Try.prog.cellsOf 3)) = some y2 := hfs 2 _ rfl
   rw [cellV1I] at f2
   have f3 : DataW.trod enc Try.prog w 0 (fun _ => true) true n 4 (([c0, c1, c2, c3, c4].drop 3).take (Try.prog.cellsOf 4)) = some y3 := hfs 3 _ rfl
   rw [cellV1B] at f3
   have f4 : DataW.trod enc Try.prog w 0 (fun _ => true) true n 9 (([c0, c1, c2, c3, c4].drop 4).take (Try.prog.cellsOf 9)) = some y4 := hfs 4 _ rfl
   rw [cellV1S] at f4
   obtain ⟨a0, e0, -, -⟩ := DataW.trod_int Try.underlying3 (show DataW.trod enc Try.prog w 0 (fun _ => true) true n 3 [c0] = some y0 from f0)
   obtain ⟨a1, e1, -, -⟩ := DataW.trod_int Try.underlying3 (show DataW.trod enc Try.prog w 0 (fun _ => true) true n 3 [c1] = some y1 from f1)
   obtain ⟨a2, e2, -, -⟩ := DataW.trod_int Try.underlying3 (show DataW.trod enc Try.prog w 0 (fun _ => true) true n 3 [c2] = some y2 from f2)
   obtain ⟨a3, e3, -⟩ := DataW.trod_bool Try.underlying4 (show DataW.trod enc Try.prog w 0 (fun _ => true) true n 4 [c3] = some y3 from f3)
   obtain ⟨a4, e4, -⟩ := DataW.trod_string Try.underlying9 (show DataW.trod enc Try.prog w 0 (fun _ => true) true n 9 [c4] = some y4 from f4)
   simp only [List.cons.injEq, and_true] at e0 e1 e2 e3 e4
   subst e0 e1 e2 e3 e4
   exact ⟨⟨a0, a1, a2, a3, a4⟩, rfl⟩
end
end Go.Proofs.Ytpmlfhgdhnofbaa.Ce
