/- How an argument is opened that is a cell, or a slice of cells. -/
import Derived.Test.YtknkdehjgkjljaaRow
import Derived.Test.YtknkdehjgkjljaaCsA
import Derived.Deep.Slices
namespace Go.Proofs.Ytknkdehjgkjljaa.Ce
open Go.ChangeShapes Go.WideShapes Go.ChangeAt Go.RowKit Go.Deep

section
variable {H : Type} {enc : TypeId × Value → H} {w : World}
set_option maxRecDepth 100000 in
theorem openCell {fuel : Nat} {cs : List Value} {y : DataW H × List MemPlace} (hcells : ∀ t ∈ [3, 9, 4], Try.prog.cellsOf t = 1) (hce : Try.prog.cellsOf 35 = 5)
    (hf : DataW.trod enc Try.prog w 0 (fun _ => true) true fuel 35 cs = some y) : ∃ c : Cl, cs = c.cs.toList := by
  obtain ⟨xs, n, _, rfl, hl, hxl, hfs⟩ := DataW.trod_struct Try.underlying35 hf
  rw [hce] at hl
  have hxl : xs.length = 5 := hxl
  have ci := hcells 3 (by simp)
  have cst := hcells 9 (by simp)
  have cb := hcells 4 (by simp)
  match cs, hl with
  | [c0, c1, c2, c3, c4], _ =>
    match xs, hxl with
    | [y0, y1, y2, y3, y4], _ =>
      have f0 : DataW.trod enc Try.prog w 0 (fun _ => true) true n 9 (([c0, c1, c2, c3, c4].drop 0).take (Try.prog.cellsOf 9)) = some y0 := hfs 0 _ rfl
      rw [cst] at f0
      have f1 : DataW.trod enc Try.prog w 0 (fun _ => true) true n 9 (([c0, c1, c2, c3, c4].drop 1).take (Try.prog.cellsOf 9)) = some y1 := hfs 1 _ rfl
      rw [cst] at f1
      have f2 : DataW.trod enc Try.prog w 0 (fun _ => true) true n 3 (([c0, c1, c2, c3, c4].drop 2).take (Try.prog.cellsOf 3)) = some y2 := hfs 2 _ rfl
      rw [ci] at f2
      have f3 : DataW.trod enc Try.prog w 0 (fun _ => true) true n 9 (([c0, c1, c2, c3, c4].drop 3).take (Try.prog.cellsOf 9)) = some y3 := hfs 3 _ rfl
      rw [cst] at f3
      have f4 : DataW.trod enc Try.prog w 0 (fun _ => true) true n 4 (([c0, c1, c2, c3, c4].drop 4).take (Try.prog.cellsOf 4)) = some y4 := hfs 4 _ rfl
      rw [cb] at f4
      obtain ⟨a0, e0, -, -⟩ := DataW.trod_string Try.underlying9 (show DataW.trod enc Try.prog w 0 (fun _ => true) true n 9 [c0] = some y0 from f0)
      obtain ⟨a1, e1, -, -⟩ := DataW.trod_string Try.underlying9 (show DataW.trod enc Try.prog w 0 (fun _ => true) true n 9 [c1] = some y1 from f1)
      obtain ⟨a2, e2, -, -⟩ := DataW.trod_int Try.underlying3 (show DataW.trod enc Try.prog w 0 (fun _ => true) true n 3 [c2] = some y2 from f2)
      obtain ⟨a3, e3, -, -⟩ := DataW.trod_string Try.underlying9 (show DataW.trod enc Try.prog w 0 (fun _ => true) true n 9 [c3] = some y3 from f3)
      obtain ⟨a4, e4, -⟩ := DataW.trod_bool Try.underlying4 (show DataW.trod enc Try.prog w 0 (fun _ => true) true n 4 [c4] = some y4 from f4)
      simp only [List.cons.injEq, and_true] at e0 e1 e2 e3 e4
      subst e0 e1 e2 e3 e4
      exact ⟨⟨a0, a1, a2, a3, a4⟩, rfl⟩
theorem cellI : Try.prog.cellsOf 3 = 1 := by kernel_rfl
theorem cellS : Try.prog.cellsOf 9 = 1 := by kernel_rfl
theorem cellB1 : Try.prog.cellsOf 4 = 1 := by kernel_rfl
theorem cellC : ∀ t ∈ [3, 9, 4], Try.prog.cellsOf t = 1 := by
  intro t ht
  rcases List.mem_cons.1 ht with h | ht
  · exact h ▸ cellI
  · rcases List.mem_cons.1 ht with h | ht
    · exact h ▸ cellS
    · rcases List.mem_cons.1 ht with h | ht
      · exact h ▸ cellB1
      · cases ht
theorem cellN : Try.prog.cellsOf 35 = 5 := by kernel_rfl
set_option maxRecDepth 100000 in
theorem openC {r : Reach} {b0 : Nat} {v : Value} {d : DataW H} {p : List MemPlace} (hv : Value.okWide Try.prog w r b0 35 v) (h : DataW.Trod enc Try.prog w 0 (fun _ => true) true 35 v d p) : ∃ c : Cl, v = c.v := by
  obtain ⟨cs, rfl, _⟩ := okWide_struct Try.underlying35 hv
  obtain ⟨fuel, hf⟩ := h
  obtain ⟨c, hc⟩ := openCell cellC cellN hf
  refine ⟨c, ?_⟩
  unfold Cl.v
  have hc' : cs.toList = c.cs.toList := hc
  rw [Array.toList_inj.1 hc']
set_option maxRecDepth 100000 in
theorem openL {a : Option Addr} {len cap fuel : Nat} {d : DataW H} {p : List MemPlace}
    (hf : DataW.trod enc Try.prog w 0 (fun _ => true) true fuel 27 (Value.slice a len cap).cells.toList = some (d, p)) : ∃ L : List Cl, RdL w [] (.slice a len cap) L := by
  rcases open_slice Try.underlying27 hf with ⟨hcs, _⟩ | ⟨x, n, c, m, fu, D, Pl, hcs, _, hl, hm, hmm, hx, hall⟩
  · simp [Value.cells] at hcs
    obtain ⟨rfl, rfl, rfl⟩ := hcs
    exact ⟨[], RdL.nil _ _⟩
  · simp [Value.cells] at hcs
    obtain ⟨rfl, rfl, rfl⟩ := hcs
    simp only [if_true] at hmm
    subst hmm
    have hone : ∀ i, i < len → ∃ y : Cl, ∀ k u, y.cs.toList[k]? = some u → w.cell? (x.add (i * 5 + k)) = some u := by
      intro i hi
      obtain ⟨cs', hcc, htr⟩ := hall i (by omega)
      rw [cellN] at hcc
      obtain ⟨_, hcl, hat⟩ := World.cells?_some hcc
      obtain ⟨y, rfl⟩ := openCell cellC cellN htr
      refine ⟨y, fun k u hu => ?_⟩
      have hk : k < 5 := (List.getElem?_eq_some_iff.1 hu).1
      have := hat k hk
      rw [Go.Deep.add_add] at this
      rw [this]
      exact hu
    have hex : ∃ L : List Cl, L.length = len ∧ ∀ i y, L[i]? = some y → ∀ k u, y.cs.toList[k]? = some u → w.cell? (x.add (i * 5 + k)) = some u := by
      refine ⟨(List.range len).map fun i => if h : i < len then Classical.choose (hone i h) else Cl.zero, by simp, fun i y hy => ?_⟩
      rw [List.getElem?_map] at hy
      by_cases hi : i < len
      · rw [List.getElem?_range hi, Option.map_some, dif_pos hi] at hy
        injection hy with hy
        rw [← hy]
        exact Classical.choose_spec (hone i hi)
      · rw [List.getElem?_eq_none (by simpa using hi)] at hy
        cases hy
    obtain ⟨L, hL, hat⟩ := hex
    refine ⟨L, some x, _, by rw [hL], by rw [hL]; exact hl, hm, fun hp => ?_⟩
    obtain ⟨y0, hy0⟩ : ∃ y, L[0]? = some y := ⟨_, List.getElem?_eq_getElem hp⟩
    have h0 := hat 0 y0 hy0 0 _ rfl
    have hxn := spot_none h0
    refine ⟨x.block, x.off, by rw [← hxn], ?_, by simp, fun i u hu => ?_⟩
    · have := World.block_lt_of_cell? w _ h0
      rw [hxn, Addr.add_lit] at this
      exact this
    · have hi : i < L.length * 5 := by
        have := (List.getElem?_eq_some_iff.1 hu).1
        rw [flat5_len] at this
        exact this
      obtain ⟨y, hy⟩ : ∃ y, L[i / 5]? = some y := ⟨_, List.getElem?_eq_getElem (by omega)⟩
      have h5 := flat5_at hy (i % 5)
      have hlt : i % 5 < y.cs.toList.length := by show i % 5 < 5; omega
      have h6 := h5 _ (List.getElem?_eq_getElem hlt)
      rw [show i / 5 * 5 + i % 5 = i by omega] at h6
      rw [hu] at h6
      injection h6 with h6
      subst h6
      have := hat _ y hy (i % 5) _ (List.getElem?_eq_getElem hlt)
      rw [show i / 5 * 5 + i % 5 = i by omega, hxn, Addr.add_lit] at this
      exact this
end
end Go.Proofs.Ytknkdehjgkjljaa.Ce
