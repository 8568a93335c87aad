/- How an argument is opened that is a cell, or a slice of cells. How an argument is opened that is a slice of cells, with how many there are at most. How an argument is opened that is a slice of slices of cells; parts of such slices. -/
import Derived.Test.YtgcbmdolbmmljaaGreatRow
import Derived.Test.YtgcbmdolbmmljaaGreatCsA
import Derived.Deep.Slices
namespace Go.Proofs.YtgcbmdolbmmljaaGreat.Ce
open Go.ChangeShapes Go.WideShapes Go.ChangeAt Go.RowKit Go.Deep

section
variable {H : Type} {enc : TypeId × Value → H} {w : World}
set_option maxRecDepth 100000 in
theorem openCell {fuel : Nat} {cs : List Value} {y : DataW H × List MemPlace} (hcells : ∀ t ∈ [3, 9, 4], Tryz.prog.cellsOf t = 1) (hce : Tryz.prog.cellsOf 34 = 5)
    (hf : DataW.trod enc Tryz.prog w 0 (fun _ => true) true fuel 34 cs = some y) : ∃ c : Cl, cs = c.cs.toList := by
  obtain ⟨xs, n, _, rfl, hl, hxl, hfs⟩ := DataW.trod_struct Tryz.underlying34 hf
  rw [hce] at hl
  have hxl : xs.length = 5 := hxl
  have ci := hcells 3 (by simp)
  have cst := hcells 9 (by simp)
  have cb := hcells 4 (by simp)
  match cs, hl with
  | [c0, c1, c2, c3, c4], _ =>
    match xs, hxl with
    | [y0, y1, y2, y3, y4], _ =>
      have f0 : DataW.trod enc Tryz.prog w 0 (fun _ => true) true n 9 (([c0, c1, c2, c3, c4].drop 0).take (Tryz.prog.cellsOf 9)) = some y0 := hfs 0 _ rfl
      rw [cst] at f0
      have f1 : DataW.trod enc Tryz.prog w 0 (fun _ => true) true n 9 (([c0, c1, c2, c3, c4].drop 1).take (Tryz.prog.cellsOf 9)) = some y1 := hfs 1 _ rfl
      rw [cst] at f1
      have f2 : DataW.trod enc Tryz.prog w 0 (fun _ => true) true n 3 (([c0, c1, c2, c3, c4].drop 2).take (Tryz.prog.cellsOf 3)) = some y2 := hfs 2 _ rfl
      rw [ci] at f2
      have f3 : DataW.trod enc Tryz.prog w 0 (fun _ => true) true n 9 (([c0, c1, c2, c3, c4].drop 3).take (Tryz.prog.cellsOf 9)) = some y3 := hfs 3 _ rfl
      rw [cst] at f3
      have f4 : DataW.trod enc Tryz.prog w 0 (fun _ => true) true n 4 (([c0, c1, c2, c3, c4].drop 4).take (Tryz.prog.cellsOf 4)) = some y4 := hfs 4 _ rfl
      rw [cb] at f4
      obtain ⟨a0, e0, -, -⟩ := DataW.trod_string Tryz.underlying9 (show DataW.trod enc Tryz.prog w 0 (fun _ => true) true n 9 [c0] = some y0 from f0)
      obtain ⟨a1, e1, -, -⟩ := DataW.trod_string Tryz.underlying9 (show DataW.trod enc Tryz.prog w 0 (fun _ => true) true n 9 [c1] = some y1 from f1)
      obtain ⟨a2, e2, -, -⟩ := DataW.trod_int Tryz.underlying3 (show DataW.trod enc Tryz.prog w 0 (fun _ => true) true n 3 [c2] = some y2 from f2)
      obtain ⟨a3, e3, -, -⟩ := DataW.trod_string Tryz.underlying9 (show DataW.trod enc Tryz.prog w 0 (fun _ => true) true n 9 [c3] = some y3 from f3)
      obtain ⟨a4, e4, -⟩ := DataW.trod_bool Tryz.underlying4 (show DataW.trod enc Tryz.prog w 0 (fun _ => true) true n 4 [c4] = some y4 from f4)
      simp only [List.cons.injEq, and_true] at e0 e1 e2 e3 e4
      subst e0 e1 e2 e3 e4
      exact ⟨⟨a0, a1, a2, a3, a4⟩, rfl⟩
theorem cellI : Tryz.prog.cellsOf 3 = 1 := by kernel_rfl
theorem cellS : Tryz.prog.cellsOf 9 = 1 := by kernel_rfl
theorem cellB1 : Tryz.prog.cellsOf 4 = 1 := by kernel_rfl
theorem cellC : ∀ t ∈ [3, 9, 4], Tryz.prog.cellsOf t = 1 := by
  intro t ht
  rcases List.mem_cons.1 ht with h | ht
  · exact h ▸ cellI
  · rcases List.mem_cons.1 ht with h | ht
    · exact h ▸ cellS
    · rcases List.mem_cons.1 ht with h | ht
      · exact h ▸ cellB1
      · cases ht
theorem cellN : Tryz.prog.cellsOf 34 = 5 := by kernel_rfl
set_option maxRecDepth 100000 in
theorem openC {r : Reach} {b0 : Nat} {v : Value} {d : DataW H} {p : List MemPlace} (hv : Value.okWide Tryz.prog w r b0 34 v) (h : DataW.Trod enc Tryz.prog w 0 (fun _ => true) true 34 v d p) : ∃ c : Cl, v = c.v := by
  obtain ⟨cs, rfl, _⟩ := okWide_struct Tryz.underlying34 hv
  obtain ⟨fuel, hf⟩ := h
  obtain ⟨c, hc⟩ := openCell cellC cellN hf
  refine ⟨c, ?_⟩
  unfold Cl.v
  have hc' : cs.toList = c.cs.toList := hc
  rw [Array.toList_inj.1 hc']
set_option maxRecDepth 100000 in
theorem openL {a : Option Addr} {len cap fuel : Nat} {d : DataW H} {p : List MemPlace}
    (hf : DataW.trod enc Tryz.prog w 0 (fun _ => true) true fuel 32 (Value.slice a len cap).cells.toList = some (d, p)) : ∃ L : List Cl, RdL w [] (.slice a len cap) L := by
  rcases open_slice Tryz.underlying32 hf with ⟨hcs, _⟩ | ⟨x, n, c, m, fu, D, Pl, hcs, _, hl, hm, hmm, hx, hall⟩
  · simp [Value.cells] at hcs
    obtain ⟨rfl, rfl, rfl⟩ := hcs
    exact ⟨[], RdL.nil _ _⟩
  · simp [Value.cells] at hcs
    obtain ⟨rfl, rfl, rfl⟩ := hcs
    simp only [if_true] at hmm
    subst hmm
    have hone : ∀ i, i < len → ∃ y : Cl, ∀ k u, y.cs.toList[k]? = some u → w.cell? (x.add (i * 5 + k)) = some u := by
      intro i hi
      obtain ⟨cs', hcc, htr⟩ := hall i (by omega)
      rw [cellN] at hcc
      obtain ⟨_, hcl, hat⟩ := World.cells?_some hcc
      obtain ⟨y, rfl⟩ := openCell cellC cellN htr
      refine ⟨y, fun k u hu => ?_⟩
      have hk : k < 5 := (List.getElem?_eq_some_iff.1 hu).1
      have := hat k hk
      rw [Go.Deep.add_add] at this
      rw [this]
      exact hu
    have hex : ∃ L : List Cl, L.length = len ∧ ∀ i y, L[i]? = some y → ∀ k u, y.cs.toList[k]? = some u → w.cell? (x.add (i * 5 + k)) = some u := by
      refine ⟨(List.range len).map fun i => if h : i < len then Classical.choose (hone i h) else Cl.zero, by simp, fun i y hy => ?_⟩
      rw [List.getElem?_map] at hy
      by_cases hi : i < len
      · rw [List.getElem?_range hi, Option.map_some, dif_pos hi] at hy
        injection hy with hy
        rw [← hy]
        exact Classical.choose_spec (hone i hi)
      · rw [List.getElem?_eq_none (by simpa using hi)] at hy
        cases hy
    obtain ⟨L, hL, hat⟩ := hex
    refine ⟨L, some x, _, by rw [hL], by rw [hL]; exact hl, hm, fun hp => ?_⟩
    obtain ⟨y0, hy0⟩ : ∃ y, L[0]? = some y := ⟨_, List.getElem?_eq_getElem hp⟩
    have h0 := hat 0 y0 hy0 0 _ rfl
    have hxn := spot_none h0
    refine ⟨x.block, x.off, by rw [← hxn], ?_, by simp, fun i u hu => ?_⟩
    · have := World.block_lt_of_cell? w _ h0
      rw [hxn, Addr.add_lit] at this
      exact this
    · have hi : i < L.length * 5 := by
        have := (List.getElem?_eq_some_iff.1 hu).1
        rw [flat5_len] at this
        exact this
      obtain ⟨y, hy⟩ : ∃ y, L[i / 5]? = some y := ⟨_, List.getElem?_eq_getElem (by omega)⟩
      have h5 := flat5_at hy (i % 5)
      have hlt : i % 5 < y.cs.toList.length := by show i % 5 < 5; omega
      have h6 := h5 _ (List.getElem?_eq_getElem hlt)
      rw [show i / 5 * 5 + i % 5 = i by omega] at h6
      rw [hu] at h6
      injection h6 with h6
      subst h6
      have := hat _ y hy (i % 5) _ (List.getElem?_eq_getElem hlt)
      rw [show i / 5 * 5 + i % 5 = i by omega, hxn, Addr.add_lit] at this
      exact this
end
end Go.Proofs.YtgcbmdolbmmljaaGreat.Ce

namespace Go.Proofs.YtgcbmdolbmmljaaGreat.Ce
open Go.ChangeShapes Go.WideShapes Go.ChangeAt Go.RowKit Go.Deep

section
variable {H : Type} {enc : TypeId × Value → H} {w : World}
theorem bytesC : Tryz.prog.bytesOf 34 = 64 := by kernel_rfl
set_option maxRecDepth 100000 in
theorem openLz {ts : List TypeId} {ds : List (DataW H)} {j : Nat} {a : Option Addr} {len cap fuel : Nat} {d : DataW H} {p : List MemPlace}
    (hsz : (DataW.weightsEach Tryz.prog ts ds).all (· ≤ reachBytes) = true) (hj : ts[j]? = some 32) (hd : ds[j]? = some d)
    (hf : DataW.trod enc Tryz.prog w 0 (fun _ => true) true fuel 32 (Value.slice a len cap).cells.toList = some (d, p)) : ∃ L : List Cl, RdL w [] (.slice a len cap) L ∧ L.length < 2199023255552 := by
  obtain ⟨L, hL⟩ := openL hf
  refine ⟨L, hL, ?_⟩
  obtain ⟨A', c', e, -, -⟩ := hL.shape
  injection e with _ e _
  rcases open_slice Tryz.underlying32 hf with ⟨hcs, _⟩ | ⟨x, n, c, m, fu, D, Pl, hcs, _, hl, hm, hmm, hx, hall⟩
  · simp [Value.cells] at hcs
    omega
  · simp [Value.cells] at hcs
    obtain ⟨rfl, rfl, rfl⟩ := hcs
    simp only [if_true] at hmm
    subst hmm
    injection hx with hx _
    subst hx
    have hs := sized_slice hsz hj hd Tryz.underlying32
    rw [bytesC] at hs
    simp only [List.length_map, List.length_range, reachBytes] at hs
    omega
end
end Go.Proofs.YtgcbmdolbmmljaaGreat.Ce

namespace Go.Proofs.YtgcbmdolbmmljaaGreat.Ce
open Go.ChangeShapes Go.WideShapes Go.ChangeAt Go.RowKit Go.Deep

section
variable {w : World} {LL : List (List Cl)}
/-- v[:k] -/
theorem RdB.cutTo {A : Option Addr} {n c k : Nat} (h : RdB w (.slice A n c) LL) (hk : k ≤ n) : RdB w (.slice A k c) (LL.take k) := by
  obtain ⟨vs, h1, h2, h3⟩ := h
  refine ⟨vs.take k, h1.cutTo hk, by rw [List.length_take, List.length_take, h2], fun j u L hu hL => ?_⟩
  rw [List.getElem?_take] at hu hL
  split at hu
  · rename_i hj
    rw [if_pos hj] at hL
    exact h3 j u L hu hL
  · cases hu
/-- v[k:], its address where it is written out -/
theorem RdB.fromC {b off n c k : Nat} (h : RdB w (.slice (some ⟨b, off, none⟩) n c) LL) (hk : k ≤ n) (hne : ¬ c = k) : RdB w (.slice (some ⟨b, off + k, none⟩) (n - k) (c - k)) (LL.drop k) := by
  obtain ⟨vs, h1, h2, h3⟩ := h
  refine ⟨vs.drop k, h1.fromC hk hne, by rw [List.length_drop, List.length_drop, h2], fun j u L hu hL => ?_⟩
  rw [List.getElem?_drop] at hu hL
  exact h3 (k + j) u L hu hL
/-- v[lo:hi] -/
theorem RdB.midC {b off n c lo hi : Nat} (h : RdB w (.slice (some ⟨b, off, none⟩) n c) LL) (h1 : lo ≤ hi) (h2 : hi ≤ n) (hne : ¬ c = lo) : RdB w (.slice (some ⟨b, off + lo, none⟩) (hi - lo) (c - lo)) ((LL.take hi).drop lo) := by
  have h3 := (h.cutTo h2).fromC (k := lo) h1 hne
  exact h3
theorem RdB.none_ {A : Option Addr} {c : Nat} (hc : c ≤ maxLen) : RdB w (.slice A 0 c) [] := ⟨[], ⟨A, c, rfl, Nat.zero_le _, hc, fun h => absurd h (by simp)⟩, rfl, fun j u L h => by simp at h⟩
end
section
variable {H : Type} {enc : TypeId × Value → H} {w : World}
/-- a slice of cells, in a cell of its own -/
theorem rdL_of {fuel : Nat} {c0 : Value} {y : DataW H × List MemPlace} (hf : DataW.trod enc Tryz.prog w 0 (fun _ => true) true fuel 32 [c0] = some y) : ∃ L : List Cl, RdL w [] c0 L ∧ (L.length = 0 ∨ ∃ n ∈ y.1.weights Tryz.prog 32, L.length * 64 ≤ n) := by
  have hf0 := hf
  rcases open_slice Tryz.underlying32 hf with ⟨hcs, _⟩ | ⟨x, n, c, m, fu, D, Pl, hcs, _, hl, hm, hmm, hx, hall⟩
  · injection hcs with hcs _
    subst hcs
    exact ⟨[], RdL.nil _ _, .inl rfl⟩
  · injection hcs with hcs _
    subst hcs
    obtain ⟨d, p⟩ := y
    obtain ⟨L, hL⟩ := openL (a := some x) (len := n) (cap := c) hf0
    refine ⟨L, hL, .inr ?_⟩
    obtain ⟨A', c', e, -, -⟩ := hL.shape
    injection e with _ e _
    simp only [if_true] at hmm
    subst hmm
    have hdx := congrArg Prod.fst hx
    simp only at hdx
    subst hdx
    refine ⟨((List.range n).length + (List.range (m - n)).length) * Tryz.prog.bytesOf 34, ?_, ?_⟩
    · simp [DataW.weights, Tryz.underlying32]
    · rw [bytesC, ← e, List.length_range]
      exact Nat.mul_le_mul_right _ (by omega)
theorem cellsL1 : Tryz.prog.cellsOf 32 = 1 := by kernel_rfl
theorem bytesL1 : Tryz.prog.bytesOf 32 = 24 := by kernel_rfl
/-- a slice of slices of cells, with each one's length -/
theorem openBz {ts : List TypeId} {ds : List (DataW H)} {j : Nat} {a : Option Addr} {len cap fuel : Nat} {d : DataW H} {p : List MemPlace}
    (hsz : (DataW.weightsEach Tryz.prog ts ds).all (· ≤ reachBytes) = true) (hj : ts[j]? = some 76) (hd : ds[j]? = some d)
    (hf : DataW.trod enc Tryz.prog w 0 (fun _ => true) true fuel 76 (Value.slice a len cap).cells.toList = some (d, p)) :
    ∃ LL : List (List Cl), RdB w (.slice a len cap) LL ∧ (∀ M ∈ LL, M.length < 2199023255552) ∧ LL.length ≤ 140737488351232 := by
  rcases open_slice Tryz.underlying76 hf with ⟨hcs, _⟩ | ⟨x, n, c, m, f, D, Pl, hcs, _, hl, hm, hmm, hx, hall⟩
  · simp [Value.cells] at hcs
    obtain ⟨rfl, rfl, rfl⟩ := hcs
    exact ⟨[], RdB.none_ (by simp [maxLen]), by simp, by simp⟩
  · simp [Value.cells] at hcs
    obtain ⟨rfl, rfl, rfl⟩ := hcs
    simp only [if_true] at hmm
    subst hmm
    have hdx : d = .slice ((List.range len).map D) ((List.range (m - len)).map fun j => D (len + j)) := congrArg Prod.fst hx
    have hone : ∀ i, i < len → ∃ y : Value × List Cl, w.cell? (x.add i) = some y.1 ∧ RdL w [] y.1 y.2 ∧ y.2.length < 2199023255552 := by
      intro i hi
      obtain ⟨cs', hcc, htr⟩ := hall i (by omega)
      rw [cellsL1] at hcc
      obtain ⟨_, hcl, hat⟩ := World.cells?_some hcc
      match cs', hcl with
      | [c0], _ =>
        obtain ⟨L, hrd, hw⟩ := rdL_of htr
        have k0 := hat 0 (by omega)
        rw [Go.Deep.add_add, Nat.mul_one, Nat.add_zero] at k0
        refine ⟨(c0, L), k0, hrd, ?_⟩
        rcases hw with hw | ⟨q, hq, hlq⟩
        · show L.length < _
          omega
        · have hm1 : D i ∈ (List.range len).map D := List.mem_map.2 ⟨i, List.mem_range.2 hi, rfl⟩
          have hm2 := weightsAll_mem (P := Tryz.prog) (e := 32) hm1 hq
          have := List.all_eq_true.1 hsz _ (DataW.weights_mem_each hj hd q (by rw [hdx]; simp only [DataW.weights, Tryz.underlying76]; exact List.mem_cons_of_mem _ (List.mem_append_left _ hm2)))
          have h2 : q ≤ 140737488351232 := of_decide_eq_true this
          show L.length < _
          omega
    have hex : ∃ F : Nat → Value × List Cl, ∀ i, i < len → w.cell? (x.add i) = some (F i).1 ∧ RdL w [] (F i).1 (F i).2 ∧ (F i).2.length < 2199023255552 :=
      ⟨fun i => if h : i < len then Classical.choose (hone i h) else (undef, []), fun i hi => by
        simp only [dif_pos hi]
        exact Classical.choose_spec (hone i hi)⟩
    obtain ⟨F, hF⟩ := hex
    have hlen : len ≤ 140737488351232 := by
      have hs := sized_slice hsz hj (show ds[j]? = some (.slice ((List.range len).map D) ((List.range (m - len)).map fun j => D (len + j))) by rw [hd, hdx]) Tryz.underlying76
      rw [bytesL1] at hs
      simp only [List.length_map, List.length_range, reachBytes] at hs
      omega
    refine ⟨(List.range len).map fun i => (F i).2, ⟨(List.range len).map fun i => (F i).1, ⟨some x, _, by simp, by simpa using hl, hm, fun hp => ?_⟩, by simp, fun j u L hu hL => ?_⟩, fun M hM => ?_, by simpa using hlen⟩
    · have hp' : 0 < len := by simpa using hp
      have h0 := (hF 0 hp').1
      have hx := spot_none h0
      refine ⟨x.block, x.off, by rw [← hx], ?_, fun j u hu => ?_⟩
      · have := World.block_lt_of_cell? w _ h0
        rw [hx, Addr.add_lit] at this
        exact this
      · have hj : j < len := by
          have := (List.getElem?_eq_some_iff.1 hu).1
          simpa using this
        have := (hF j hj).1
        rw [hx, Addr.add_lit] at this
        rw [this, ← hu]
        simp [hj]
    · have hj : j < len := by
        have := (List.getElem?_eq_some_iff.1 hu).1
        simpa using this
      rw [List.getElem?_map, List.getElem?_range hj, Option.map_some, Option.some.injEq] at hu hL
      rw [← hu, ← hL]
      exact (hF j hj).2.1
    · obtain ⟨i, hi, rfl⟩ := List.mem_map.1 hM
      exact (hF i (List.mem_range.1 hi)).2.2
end
end Go.Proofs.YtgcbmdolbmmljaaGreat.Ce
