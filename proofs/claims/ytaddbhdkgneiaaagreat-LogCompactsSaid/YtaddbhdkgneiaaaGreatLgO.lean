/- How layer 18's acts are opened that come in as an argument. -/
import Derived.Test.YtaddbhdkgneiaaaGreatLgG
import Derived.Test.YtaddbhdkgneiaaaGreatVoO
import Derived.Test.YtaddbhdkgneiaaaGreatRowX
import Derived.Test.YtaddbhdkgneiaaaGreatActO
set_option maxHeartbeats 8000000
set_option maxRecDepth 100000
namespace Go.Proofs.YtaddbhdkgneiaaaGreat.Ce
open Go.ChangeShapes Go.WideShapes Go.ChangeAt Go.RowKit Go.Deep
section
variable {H : Type} {enc : TypeId × Value → H} {w : World}
theorem cellA18 : Tryz.prog.cellsOf 36 = 8 := by kernel_rfl
theorem cellV1K : Tryz.prog.cellsOf 34 = 1 := by kernel_rfl
theorem byteV1I : Tryz.prog.bytesOf 3 = 8 := by kernel_rfl
theorem openA18C (fuel : Nat) (cs : List Value) (y : DataW H × List MemPlace) (hf : DataW.trod enc Tryz.prog w 0 (fun _ => true) true fuel 36 cs = some y) : ∃ a : A18, cs = (a8D.f a).toList ∧ a.In w := by
 obtain ⟨xs, n, _, rfl, hl, hxl, hfs⟩ := DataW.trod_struct Tryz.underlying36 hf
 rw [cellA18] at hl
 have hxl : xs.length = 4 := hxl
 match cs, hl with
 | [c0, c1, c2, c3, c4, c5, c6, c7], _ =>
  match xs, hxl with
  | [y0, y1, y2, y3], _ =>
   have f0 : DataW.trod enc Tryz.prog w 0 (fun _ => true) true n 3 (([c0, c1, c2, c3, c4, c5, c6, c7].drop 0).take (Tryz.prog.cellsOf 3)) = some y0 := hfs 0 _ rfl
   rw [cellV1I] at f0
   have f1 : DataW.trod enc Tryz.prog w 0 (fun _ => true) true n 3 (([c0, c1, c2, c3, c4, c5, c6, c7].drop 1).take (Tryz.prog.cellsOf 3)) = some y1 := hfs 1 _ rfl
   rw [cellV1I] at f1
   have f2 : DataW.trod enc Tryz.prog w 0 (fun _ => true) true n 33 (([c0, c1, c2, c3, c4, c5, c6, c7].drop 2).take (Tryz.prog.cellsOf 33)) = some y2 := hfs 2 _ rfl
   rw [cellVt] at f2
   have f3 : DataW.trod enc Tryz.prog w 0 (fun _ => true) true n 34 (([c0, c1, c2, c3, c4, c5, c6, c7].drop 7).take (Tryz.prog.cellsOf 34)) = some y3 := hfs 3 _ rfl
   rw [cellV1K] at f3
   obtain ⟨a0, e0, -, -⟩ := DataW.trod_int Tryz.underlying3 (show DataW.trod enc Tryz.prog w 0 (fun _ => true) true n 3 [c0] = some y0 from f0)
   obtain ⟨a1, e1, -, -⟩ := DataW.trod_int Tryz.underlying3 (show DataW.trod enc Tryz.prog w 0 (fun _ => true) true n 3 [c1] = some y1 from f1)
   obtain ⟨c, hc⟩ := openVtC (show DataW.trod enc Tryz.prog w 0 (fun _ => true) true n 33 [c2, c3, c4, c5, c6] = some y2 from f2)
   obtain ⟨l, hr, hi, -⟩ := rdI_of Tryz.underlying34 Tryz.underlying3 cellV1I byteV1I (show DataW.trod enc Tryz.prog w 0 (fun _ => true) true n 34 [c7] = some y3 from f3)
   simp only [List.cons.injEq, and_true] at e0 e1
   subst e0 e1
   have hsh : ∃ A cp, c7 = .slice A l.length cp := by
    obtain ⟨A, cp, e, -, -⟩ := hr.shapeM
    exact ⟨A, cp, e⟩
   obtain ⟨A, cp, rfl⟩ := hsh
   refine ⟨⟨a0, a1, c, .slice A l.length cp, l⟩, ?_, ⟨rfl, hr, fun q hq => hi q hq⟩⟩
   show Value.int .i64 a0 :: Value.int .i64 a1 :: ([c2, c3, c4, c5, c6] ++ [Value.slice A l.length cp]) = Value.int .i64 a0 :: Value.int .i64 a1 :: (c.cs.toList ++ [Value.slice A l.length cp])
   rw [hc]
theorem openA18 {a : Option Addr} {len cap fuel : Nat} {d : DataW H} {p : List MemPlace}
  (hf : DataW.trod enc Tryz.prog w 0 (fun _ => true) true fuel 22 (Value.slice a len cap).cells.toList = some (d, p)) : ∃ L : List A18, RdA18 w (.slice a len cap) L := by
 obtain ⟨L, h1, h2⟩ := St.openSl a8Ok Tryz.underlying22 cellA18 openA18C hf
 exact ⟨L, h1, h2⟩
end
end Go.Proofs.YtaddbhdkgneiaaaGreat.Ce
