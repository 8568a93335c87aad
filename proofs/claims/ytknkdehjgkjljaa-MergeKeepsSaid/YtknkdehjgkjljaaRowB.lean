/- How an argument is opened that is a slice of slices of cells; parts of such slices. -/
import Derived.Test.YtknkdehjgkjljaaRowC
import Derived.Test.YtknkdehjgkjljaaRowZ
import Derived.Test.YtknkdehjgkjljaaCsA
namespace Go.Proofs.Ytknkdehjgkjljaa.Ce
open Go.ChangeShapes Go.WideShapes Go.ChangeAt Go.RowKit Go.Deep

section
variable {w : World} {LL : List (List Cl)}
/-- v[:k] -/
theorem RdB.cutTo {A : Option Addr} {n c k : Nat} (h : RdB w (.slice A n c) LL) (hk : k ≤ n) : RdB w (.slice A k c) (LL.take k) := by
  obtain ⟨vs, h1, h2, h3⟩ := h
  refine ⟨vs.take k, h1.cutTo hk, by rw [List.length_take, List.length_take, h2], fun j u L hu hL => ?_⟩
  rw [List.getElem?_take] at hu hL
  split at hu
  · rename_i hj
    rw [if_pos hj] at hL
    exact h3 j u L hu hL
  · cases hu
/-- v[k:], its address where it is written out -/
theorem RdB.fromC {b off n c k : Nat} (h : RdB w (.slice (some ⟨b, off, none⟩) n c) LL) (hk : k ≤ n) (hne : ¬ c = k) : RdB w (.slice (some ⟨b, off + k, none⟩) (n - k) (c - k)) (LL.drop k) := by
  obtain ⟨vs, h1, h2, h3⟩ := h
  refine ⟨vs.drop k, h1.fromC hk hne, by rw [List.length_drop, List.length_drop, h2], fun j u L hu hL => ?_⟩
  rw [List.getElem?_drop] at hu hL
  exact h3 (k + j) u L hu hL
/-- v[lo:hi] -/
theorem RdB.midC {b off n c lo hi : Nat} (h : RdB w (.slice (some ⟨b, off, none⟩) n c) LL) (h1 : lo ≤ hi) (h2 : hi ≤ n) (hne : ¬ c = lo) : RdB w (.slice (some ⟨b, off + lo, none⟩) (hi - lo) (c - lo)) ((LL.take hi).drop lo) := by
  have h3 := (h.cutTo h2).fromC (k := lo) h1 hne
  exact h3
theorem RdB.none_ {A : Option Addr} {c : Nat} (hc : c ≤ maxLen) : RdB w (.slice A 0 c) [] := ⟨[], ⟨A, c, rfl, Nat.zero_le _, hc, fun h => absurd h (by simp)⟩, rfl, fun j u L h => by simp at h⟩
end
section
variable {H : Type} {enc : TypeId × Value → H} {w : World}
/-- a slice of cells, in a cell of its own -/
theorem rdL_of {fuel : Nat} {c0 : Value} {y : DataW H × List MemPlace} (hf : DataW.trod enc Try.prog w 0 (fun _ => true) true fuel 27 [c0] = some y) : ∃ L : List Cl, RdL w [] c0 L ∧ (L.length = 0 ∨ ∃ n ∈ y.1.weights Try.prog 27, L.length * 64 ≤ n) := by
  have hf0 := hf
  rcases open_slice Try.underlying27 hf with ⟨hcs, _⟩ | ⟨x, n, c, m, fu, D, Pl, hcs, _, hl, hm, hmm, hx, hall⟩
  · injection hcs with hcs _
    subst hcs
    exact ⟨[], RdL.nil _ _, .inl rfl⟩
  · injection hcs with hcs _
    subst hcs
    obtain ⟨d, p⟩ := y
    obtain ⟨L, hL⟩ := openL (a := some x) (len := n) (cap := c) hf0
    refine ⟨L, hL, .inr ?_⟩
    obtain ⟨A', c', e, -, -⟩ := hL.shape
    injection e with _ e _
    simp only [if_true] at hmm
    subst hmm
    have hdx := congrArg Prod.fst hx
    simp only at hdx
    subst hdx
    refine ⟨((List.range n).length + (List.range (m - n)).length) * Try.prog.bytesOf 35, ?_, ?_⟩
    · simp [DataW.weights, Try.underlying27]
    · rw [bytesC, ← e, List.length_range]
      exact Nat.mul_le_mul_right _ (by omega)
theorem cellsL1 : Try.prog.cellsOf 27 = 1 := by kernel_rfl
theorem bytesL1 : Try.prog.bytesOf 27 = 24 := by kernel_rfl
/-- a slice of slices of cells, with each one's length -/
theorem openBz {ts : List TypeId} {ds : List (DataW H)} {j : Nat} {a : Option Addr} {len cap fuel : Nat} {d : DataW H} {p : List MemPlace}
    (hsz : (DataW.weightsEach Try.prog ts ds).all (· ≤ reachBytes) = true) (hj : ts[j]? = some 22) (hd : ds[j]? = some d)
    (hf : DataW.trod enc Try.prog w 0 (fun _ => true) true fuel 22 (Value.slice a len cap).cells.toList = some (d, p)) :
    ∃ LL : List (List Cl), RdB w (.slice a len cap) LL ∧ (∀ M ∈ LL, M.length < 2199023255552) ∧ LL.length ≤ 140737488351232 := by
  rcases open_slice Try.underlying22 hf with ⟨hcs, _⟩ | ⟨x, n, c, m, f, D, Pl, hcs, _, hl, hm, hmm, hx, hall⟩
  · simp [Value.cells] at hcs
    obtain ⟨rfl, rfl, rfl⟩ := hcs
    exact ⟨[], RdB.none_ (by simp [maxLen]), by simp, by simp⟩
  · simp [Value.cells] at hcs
    obtain ⟨rfl, rfl, rfl⟩ := hcs
    simp only [if_true] at hmm
    subst hmm
    have hdx : d = .slice ((List.range len).map D) ((List.range (m - len)).map fun j => D (len + j)) := congrArg Prod.fst hx
    have hone : ∀ i, i < len → ∃ y : Value × List Cl, w.cell? (x.add i) = some y.1 ∧ RdL w [] y.1 y.2 ∧ y.2.length < 2199023255552 := by
      intro i hi
      obtain ⟨cs', hcc, htr⟩ := hall i (by omega)
      rw [cellsL1] at hcc
      obtain ⟨_, hcl, hat⟩ := World.cells?_some hcc
      match cs', hcl with
      | [c0], _ =>
        obtain ⟨L, hrd, hw⟩ := rdL_of htr
        have k0 := hat 0 (by omega)
        rw [Go.Deep.add_add, Nat.mul_one, Nat.add_zero] at k0
        refine ⟨(c0, L), k0, hrd, ?_⟩
        rcases hw with hw | ⟨q, hq, hlq⟩
        · show L.length < _
          omega
        · have hm1 : D i ∈ (List.range len).map D := List.mem_map.2 ⟨i, List.mem_range.2 hi, rfl⟩
          have hm2 := weightsAll_mem (P := Try.prog) (e := 27) hm1 hq
          have := List.all_eq_true.1 hsz _ (DataW.weights_mem_each hj hd q (by rw [hdx]; simp only [DataW.weights, Try.underlying22]; exact List.mem_cons_of_mem _ (List.mem_append_left _ hm2)))
          have h2 : q ≤ 140737488351232 := of_decide_eq_true this
          show L.length < _
          omega
    have hex : ∃ F : Nat → Value × List Cl, ∀ i, i < len → w.cell? (x.add i) = some (F i).1 ∧ RdL w [] (F i).1 (F i).2 ∧ (F i).2.length < 2199023255552 :=
      ⟨fun i => if h : i < len then Classical.choose (hone i h) else (undef, []), fun i hi => by
        simp only [dif_pos hi]
        exact Classical.choose_spec (hone i hi)⟩
    obtain ⟨F, hF⟩ := hex
    have hlen : len ≤ 140737488351232 := by
      have hs := sized_slice hsz hj (show ds[j]? = some (.slice ((List.range len).map D) ((List.range (m - len)).map fun j => D (len + j))) by rw [hd, hdx]) Try.underlying22
      rw [bytesL1] at hs
      simp only [List.length_map, List.length_range, reachBytes] at hs
      omega
    refine ⟨(List.range len).map fun i => (F i).2, ⟨(List.range len).map fun i => (F i).1, ⟨some x, _, by simp, by simpa using hl, hm, fun hp => ?_⟩, by simp, fun j u L hu hL => ?_⟩, fun M hM => ?_, by simpa using hlen⟩
    · have hp' : 0 < len := by simpa using hp
      have h0 := (hF 0 hp').1
      have hx := spot_none h0
      refine ⟨x.block, x.off, by rw [← hx], ?_, fun j u hu => ?_⟩
      · have := World.block_lt_of_cell? w _ h0
        rw [hx, Addr.add_lit] at this
        exact this
      · have hj : j < len := by
          have := (List.getElem?_eq_some_iff.1 hu).1
          simpa using this
        have := (hF j hj).1
        rw [hx, Addr.add_lit] at this
        rw [this, ← hu]
        simp [hj]
    · have hj : j < len := by
        have := (List.getElem?_eq_some_iff.1 hu).1
        simpa using this
      rw [List.getElem?_map, List.getElem?_range hj, Option.map_some, Option.some.injEq] at hu hL
      rw [← hu, ← hL]
      exact (hF j hj).2.1
    · obtain ⟨i, hi, rfl⟩ := List.mem_map.1 hM
      exact (hF i (List.mem_range.1 hi)).2.2
end
end Go.Proofs.Ytknkdehjgkjljaa.Ce
