/- A message that came in, opened. -/
import Derived.Test.YtpmlfhgdhnofbaaVoO
import Derived.Test.YtpmlfhgdhnofbaaMsP
import Derived.Test.YtpmlfhgdhnofbaaRowX
set_option maxHeartbeats 8000000
set_option maxRecDepth 100000
namespace Go.Proofs.Ytpmlfhgdhnofbaa.Ce
open Go.ChangeShapes Go.WideShapes Go.ChangeAt Go.RowKit Go.Deep
section
variable {H : Type} {enc : TypeId × Value → H} {w : World}
theorem cellMs : Try.prog.cellsOf 26 = 11 := by kernel_rfl
theorem cellVs : Try.prog.cellsOf 24 = 1 := by kernel_rfl
theorem openVsC {fuel : Nat} {c : Value} {y : DataW H × List MemPlace} (hf : DataW.trod enc Try.prog w 0 (fun _ => true) true fuel 24 [c] = some y) : ∃ (a : Option Addr) (V : List Vt) (cp : Nat), c = .slice a V.length cp ∧ St.RdS vtL w [] (.slice a V.length cp) V := by
 have hsl : ∃ a n cp, c = .slice a n cp := by
  rcases open_slice Try.underlying24 hf with ⟨hcs, _⟩ | ⟨x, n, cp, m, fu, Dd, Pl, hcs, _⟩
  ·injection hcs with hcs _
   exact ⟨_, _, _, hcs⟩
  ·injection hcs with hcs _
   exact ⟨_, _, _, hcs⟩
 obtain ⟨a, n, cp, rfl⟩ := hsl
 obtain ⟨V, hV, -⟩ := St.openSl (Q := fun _ => True) vlOk vlS cellVt (fun fuel cs y h => by obtain ⟨c, hc⟩ := openVtC h; exact ⟨c, hc, trivial⟩) (d := y.1) (p := y.2) (show DataW.trod enc Try.prog w 0 (fun _ => true) true fuel 24 (Value.slice a n cp).cells.toList = some (y.1, y.2) from hf)
 obtain ⟨A', c', e, -, -⟩ := hV.shape
 injection e with _ e _
 subst e
 exact ⟨a, V, cp, rfl, hV⟩
theorem openMsC {fuel : Nat} {cs : List Value} {y : DataW H × List MemPlace} (hf : DataW.trod enc Try.prog w 0 (fun _ => true) true fuel 26 cs = some y) : ∃ (x : Mx) (m : Ms), cs = x.cs.toList ∧ MsIs w [] x m := by
 obtain ⟨xs, n, _, rfl, hl, hxl, hfs⟩ := DataW.trod_struct Try.underlying26 hf
 rw [cellMs] at hl
 have hxl : xs.length = 7 := hxl
 match cs, hl with
 | [c0, c1, c2, c3, c4, c5, c6, c7, c8, c9, cA], _ =>
  match xs, hxl with
  | [y0, y1, y2, y3, y4, y5, y6], _ =>
   have f0 : DataW.trod enc Try.prog w 0 (fun _ => true) true n 3 (([c0, c1, c2, c3, c4, c5, c6, c7, c8, c9, cA].drop 0).take (Try.prog.cellsOf 3)) = some y0 := hfs 0 _ rfl
   rw [cellV1I] at f0
   have f1 : DataW.trod enc Try.prog w 0 (fun _ => true) true n 3 (([c0, c1, c2, c3, c4, c5, c6, c7, c8, c9, cA].drop 1).take (Try.prog.cellsOf 3)) = some y1 := hfs 1 _ rfl
   rw [cellV1I] at f1
   have f2 : DataW.trod enc Try.prog w 0 (fun _ => true) true n 3 (([c0, c1, c2, c3, c4, c5, c6, c7, c8, c9, cA].drop 2).take (Try.prog.cellsOf 3)) = some y2 := hfs 2 _ rfl
   rw [cellV1I] at f2
   have f3 : DataW.trod enc Try.prog w 0 (fun _ => true) true n 3 (([c0, c1, c2, c3, c4, c5, c6, c7, c8, c9, cA].drop 3).take (Try.prog.cellsOf 3)) = some y3 := hfs 3 _ rfl
   rw [cellV1I] at f3
   have f4 : DataW.trod enc Try.prog w 0 (fun _ => true) true n 3 (([c0, c1, c2, c3, c4, c5, c6, c7, c8, c9, cA].drop 4).take (Try.prog.cellsOf 3)) = some y4 := hfs 4 _ rfl
   rw [cellV1I] at f4
   have f5 : DataW.trod enc Try.prog w 0 (fun _ => true) true n 23 (([c0, c1, c2, c3, c4, c5, c6, c7, c8, c9, cA].drop 5).take (Try.prog.cellsOf 23)) = some y5 := hfs 5 _ rfl
   rw [cellVt] at f5
   have f6 : DataW.trod enc Try.prog w 0 (fun _ => true) true n 24 (([c0, c1, c2, c3, c4, c5, c6, c7, c8, c9, cA].drop 10).take (Try.prog.cellsOf 24)) = some y6 := hfs 6 _ rfl
   rw [cellVs] at f6
   obtain ⟨a0, e0, -, -⟩ := DataW.trod_int Try.underlying3 (show DataW.trod enc Try.prog w 0 (fun _ => true) true n 3 [c0] = some y0 from f0)
   obtain ⟨a1, e1, -, -⟩ := DataW.trod_int Try.underlying3 (show DataW.trod enc Try.prog w 0 (fun _ => true) true n 3 [c1] = some y1 from f1)
   obtain ⟨a2, e2, -, -⟩ := DataW.trod_int Try.underlying3 (show DataW.trod enc Try.prog w 0 (fun _ => true) true n 3 [c2] = some y2 from f2)
   obtain ⟨a3, e3, -, -⟩ := DataW.trod_int Try.underlying3 (show DataW.trod enc Try.prog w 0 (fun _ => true) true n 3 [c3] = some y3 from f3)
   obtain ⟨a4, e4, -, -⟩ := DataW.trod_int Try.underlying3 (show DataW.trod enc Try.prog w 0 (fun _ => true) true n 3 [c4] = some y4 from f4)
   obtain ⟨v, hv⟩ := openVtC (show DataW.trod enc Try.prog w 0 (fun _ => true) true n 23 [c5, c6, c7, c8, c9] = some y5 from f5)
   obtain ⟨a, V, cp, rfl, hV⟩ := openVsC (show DataW.trod enc Try.prog w 0 (fun _ => true) true n 24 [cA] = some y6 from f6)
   simp only [List.cons.injEq, and_true] at e0 e1 e2 e3 e4
   subst e0 e1 e2 e3 e4
   refine ⟨⟨⟨a0, a1, a2, a3, a4, v⟩, a, V.length, cp⟩, ⟨⟨a0, a1, a2, a3, a4, v⟩, V⟩, ?_, ⟨rfl, hV⟩⟩
   show Value.int .i64 a0 :: Value.int .i64 a1 :: Value.int .i64 a2 :: Value.int .i64 a3 :: Value.int .i64 a4 :: ([c5, c6, c7, c8, c9] ++ [Value.slice a V.length cp]) = Value.int .i64 a0 :: Value.int .i64 a1 :: Value.int .i64 a2 :: Value.int .i64 a3 :: Value.int .i64 a4 :: (v.cs.toList ++ [Value.slice a V.length cp])
   rw [hv]
theorem openMs {r : Reach} {b0 : Nat} {v : Value} {d : DataW H} {p : List MemPlace} (hv : Value.okWide Try.prog w r b0 26 v) (h : DataW.Trod enc Try.prog w 0 (fun _ => true) true 26 v d p) : ∃ (x : Mx) (m : Ms), v = x.v ∧ MsIs w [] x m := by
 obtain ⟨cs, rfl, _⟩ := okWide_struct Try.underlying26 hv
 obtain ⟨fuel, hf⟩ := h
 obtain ⟨x, m, hs, hm⟩ := openMsC hf
 refine ⟨x, m, ?_, hm⟩
 unfold Mx.v
 have hs' : cs.toList = x.cs.toList := hs
 rw [Array.toList_inj.1 hs']
end
end Go.Proofs.Ytpmlfhgdhnofbaa.Ce
