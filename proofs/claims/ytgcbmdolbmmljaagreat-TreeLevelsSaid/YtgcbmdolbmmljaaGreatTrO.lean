/- How shelves and acts are opened that come in as arguments. -/
import Derived.Test.YtgcbmdolbmmljaaGreatTrL
import Derived.Test.YtgcbmdolbmmljaaGreatSr
import Derived.Test.YtgcbmdolbmmljaaGreatRowsC
namespace Go.Proofs.YtgcbmdolbmmljaaGreat.Ce
open Go.ChangeShapes Go.WideShapes Go.ChangeAt Go.RowKit Go.Deep

section
variable {H : Type} {enc : TypeId × Value → H} {w : World}
theorem cellSf : Tryz.prog.cellsOf 23 = 3 := by kernel_rfl
set_option maxRecDepth 100000 in
theorem openSfC {fuel : Nat} {cs : List Value} {y : DataW H × List MemPlace} (hf : DataW.trod enc Tryz.prog w 0 (fun _ => true) true fuel 23 cs = some y) : ∃ s : Sf, cs = s.cs.toList := by
  obtain ⟨xs, n, _, rfl, hl, hxl, hfs⟩ := DataW.trod_struct Tryz.underlying23 hf
  rw [cellSf] at hl
  have hxl : xs.length = 3 := hxl
  have ci := cellI
  match cs, hl with
  | [c0, c1, c2], _ =>
    match xs, hxl with
    | [y0, y1, y2], _ =>
      have f0 : DataW.trod enc Tryz.prog w 0 (fun _ => true) true n 3 (([c0, c1, c2].drop 0).take (Tryz.prog.cellsOf 3)) = some y0 := hfs 0 _ rfl
      rw [ci] at f0
      have f1 : DataW.trod enc Tryz.prog w 0 (fun _ => true) true n 3 (([c0, c1, c2].drop 1).take (Tryz.prog.cellsOf 3)) = some y1 := hfs 1 _ rfl
      rw [ci] at f1
      have f2 : DataW.trod enc Tryz.prog w 0 (fun _ => true) true n 3 (([c0, c1, c2].drop 2).take (Tryz.prog.cellsOf 3)) = some y2 := hfs 2 _ rfl
      rw [ci] at f2
      obtain ⟨a0, e0, -, -⟩ := DataW.trod_int Tryz.underlying3 (show DataW.trod enc Tryz.prog w 0 (fun _ => true) true n 3 [c0] = some y0 from f0)
      obtain ⟨a1, e1, -, -⟩ := DataW.trod_int Tryz.underlying3 (show DataW.trod enc Tryz.prog w 0 (fun _ => true) true n 3 [c1] = some y1 from f1)
      obtain ⟨a2, e2, -, -⟩ := DataW.trod_int Tryz.underlying3 (show DataW.trod enc Tryz.prog w 0 (fun _ => true) true n 3 [c2] = some y2 from f2)
      simp only [List.cons.injEq, and_true] at e0 e1 e2
      subst e0 e1 e2
      exact ⟨⟨a0, a1, a2⟩, rfl⟩
set_option maxRecDepth 100000 in
theorem openSf {r : Reach} {b0 : Nat} {v : Value} {d : DataW H} {p : List MemPlace} (hv : Value.okWide Tryz.prog w r b0 23 v) (h : DataW.Trod enc Tryz.prog w 0 (fun _ => true) true 23 v d p) : ∃ s : Sf, v = s.v := by
  obtain ⟨cs, rfl, _⟩ := okWide_struct Tryz.underlying23 hv
  obtain ⟨fuel, hf⟩ := h
  obtain ⟨s, hs⟩ := openSfC hf
  refine ⟨s, ?_⟩
  unfold Sf.v
  have hs' : cs.toList = s.cs.toList := hs
  rw [Array.toList_inj.1 hs']
theorem cellAc : Tryz.prog.cellsOf 36 = 6 := by kernel_rfl
set_option maxRecDepth 100000 in
theorem openAcC (fuel : Nat) (cs : List Value) (y : DataW H × List MemPlace) (hf : DataW.trod enc Tryz.prog w 0 (fun _ => true) true fuel 36 cs = some y) : ∃ a : Ac, cs = (acD.f a).toList ∧ (Lit.int .i64 a.do_).wf = true := by
  obtain ⟨xs, n, _, rfl, hl, hxl, hfs⟩ := DataW.trod_struct Tryz.underlying36 hf
  rw [cellAc] at hl
  have hxl : xs.length = 2 := hxl
  have ci := cellI
  have cc := cellN
  match cs, hl with
  | [c0, c1, c2, c3, c4, c5], _ =>
    match xs, hxl with
    | [y0, y1], _ =>
      have f0 : DataW.trod enc Tryz.prog w 0 (fun _ => true) true n 3 (([c0, c1, c2, c3, c4, c5].drop 0).take (Tryz.prog.cellsOf 3)) = some y0 := hfs 0 _ rfl
      rw [ci] at f0
      have f1 : DataW.trod enc Tryz.prog w 0 (fun _ => true) true n 34 (([c0, c1, c2, c3, c4, c5].drop 1).take (Tryz.prog.cellsOf 34)) = some y1 := hfs 1 _ rfl
      rw [cc] at f1
      obtain ⟨a0, e0, -, hw0⟩ := DataW.trod_int Tryz.underlying3 (show DataW.trod enc Tryz.prog w 0 (fun _ => true) true n 3 [c0] = some y0 from f0)
      obtain ⟨c, hc⟩ := openCell cellC cellN (show DataW.trod enc Tryz.prog w 0 (fun _ => true) true n 34 [c1, c2, c3, c4, c5] = some y1 from f1)
      simp only [List.cons.injEq, and_true] at e0
      subst e0
      refine ⟨⟨a0, c⟩, ?_, hw0⟩
      show Value.int .i64 a0 :: [c1, c2, c3, c4, c5] = Value.int .i64 a0 :: c.cs.toList
      rw [hc]
theorem openAc {a : Option Addr} {len cap fuel : Nat} {d : DataW H} {p : List MemPlace}
    (hf : DataW.trod enc Tryz.prog w 0 (fun _ => true) true fuel 24 (Value.slice a len cap).cells.toList = some (d, p)) : ∃ L : List Ac, St.RdS acD w [] (.slice a len cap) L ∧ ∀ x ∈ L, (Lit.int .i64 x.do_).wf = true :=
  St.openSl acOk Tryz.underlying24 cellAc openAcC hf
end
end Go.Proofs.YtgcbmdolbmmljaaGreat.Ce
