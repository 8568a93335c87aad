/- How an argument is opened that is a slice of structs of one-cell parts, whatever the type. -/
import Derived.Test.YtgcbmdolbmmljaaGreatRow
import Derived.Test.YtgcbmdolbmmljaaGreatStA
import Derived.Deep.Slices
namespace Go.Proofs.YtgcbmdolbmmljaaGreat.St
open Go.ChangeShapes Go.WideShapes Go.ChangeAt Go.RowKit Go.Deep

section
variable {H : Type} {enc : TypeId × Value → H} {w : World} {α : Type} {P : Program} {D : Sp α} {Q : α → Prop}
/-- a slice, where it is known how an element is opened (and what else holds of one) -/
theorem openSl (hD : D.Ok P) (hts : P.underlying D.ts = some (.slice D.t)) (hce : P.cellsOf D.t = D.k)
    (hel : ∀ (fuel : Nat) (cs : List Value) (y : DataW H × List MemPlace), DataW.trod enc P w 0 (fun _ => true) true fuel D.t cs = some y → ∃ x : α, cs = (D.f x).toList ∧ Q x)
    {a : Option Addr} {len cap fuel : Nat} {d : DataW H} {p : List MemPlace}
    (hf : DataW.trod enc P w 0 (fun _ => true) true fuel D.ts (Value.slice a len cap).cells.toList = some (d, p)) : ∃ L : List α, RdS D w [] (.slice a len cap) L ∧ ∀ x ∈ L, Q x := by
  rcases open_slice hts hf with ⟨hcs, _⟩ | ⟨x, n, c, m, fu, Dd, Pl, hcs, _, hl, hm, hmm, hx, hall⟩
  · simp [Value.cells] at hcs
    obtain ⟨rfl, rfl, rfl⟩ := hcs
    exact ⟨[], RdS.nil _ _ _, by simp⟩
  · simp [Value.cells] at hcs
    obtain ⟨rfl, rfl, rfl⟩ := hcs
    simp only [if_true] at hmm
    subst hmm
    have hone : ∀ i, i < len → ∃ y : α, (∀ k u, (D.f y)[k]? = some u → w.cell? (x.add (i * D.k + k)) = some u) ∧ Q y := by
      intro i hi
      obtain ⟨cs', hcc, htr⟩ := hall i (by omega)
      rw [hce] at hcc
      obtain ⟨_, hcl, hat⟩ := World.cells?_some hcc
      obtain ⟨y, rfl, hq⟩ := hel _ _ _ htr
      refine ⟨y, fun k u hu => ?_, hq⟩
      have hk : k < D.k := by
        have := (Array.getElem?_eq_some_iff.1 hu).1
        rwa [hD.size] at this
      have := hat k hk
      rw [Go.Deep.add_add] at this
      rw [this]
      simpa using hu
    have hex : ∃ L : List α, L.length = len ∧ ∀ (i : Nat) (y : α), L[i]? = some y → (∀ k u, (D.f y)[k]? = some u → w.cell? (x.add (i * D.k + k)) = some u) ∧ Q y := by
      refine ⟨(List.range len).map fun i => if h : i < len then Classical.choose (hone i h) else D.z, by simp, fun i y hy => ?_⟩
      rw [List.getElem?_map] at hy
      by_cases hi : i < len
      · rw [List.getElem?_range hi, Option.map_some, dif_pos hi] at hy
        injection hy with hy
        rw [← hy]
        exact Classical.choose_spec (hone i hi)
      · rw [List.getElem?_eq_none (by simpa using hi)] at hy
        cases hy
    obtain ⟨L, hL, hat⟩ := hex
    have hpos := hD.pos
    refine ⟨L, ⟨some x, _, by rw [hL], by rw [hL]; exact hl, hm, fun hp => ?_⟩, fun y hy => ?_⟩
    · obtain ⟨y0, hy0⟩ : ∃ y, L[0]? = some y := ⟨_, List.getElem?_eq_getElem hp⟩
      have h0 := (hat 0 y0 hy0).1 0 _ (Array.getElem?_eq_getElem (show 0 < (D.f y0).size by rw [hD.size]; exact hpos))
      rw [Nat.zero_mul] at h0
      have hxn := spot_none h0
      refine ⟨x.block, x.off, by rw [← hxn], ?_, by simp, fun i u hu => ?_⟩
      · have := World.block_lt_of_cell? w _ h0
        rw [hxn, Addr.add_lit] at this
        exact this
      · have hi : i < L.length * D.k := by
          have := (List.getElem?_eq_some_iff.1 hu).1
          rw [flat_len hD] at this
          exact this
        have hdiv : i / D.k < L.length := Nat.div_lt_of_lt_mul (by rw [Nat.mul_comm]; exact hi)
        obtain ⟨y, hy⟩ : ∃ y, L[i / D.k]? = some y := ⟨_, List.getElem?_eq_getElem hdiv⟩
        have hlt : i % D.k < (D.f y).size := by rw [hD.size]; exact Nat.mod_lt _ hpos
        have h6 := flat_at hD hy (i % D.k) _ (Array.getElem?_eq_getElem hlt)
        rw [Nat.div_add_mod' i D.k] at h6
        rw [hu] at h6
        injection h6 with h6
        subst h6
        have := (hat _ y hy).1 (i % D.k) _ (Array.getElem?_eq_getElem hlt)
        rw [Nat.div_add_mod' i D.k, hxn, Addr.add_lit] at this
        exact this
    · obtain ⟨i, hi⟩ := List.getElem?_of_mem hy
      exact (hat i y hi).2
/-- the same, with how many there are at most -/
theorem openSlz (hD : D.Ok P) (hts : P.underlying D.ts = some (.slice D.t)) (hce : P.cellsOf D.t = D.k) (hby : P.bytesOf D.t = D.bytes)
    (hel : ∀ (fuel : Nat) (cs : List Value) (y : DataW H × List MemPlace), DataW.trod enc P w 0 (fun _ => true) true fuel D.t cs = some y → ∃ x : α, cs = (D.f x).toList ∧ Q x)
    {ts : List TypeId} {ds : List (DataW H)} {j : Nat} {a : Option Addr} {len cap fuel : Nat} {d : DataW H} {p : List MemPlace}
    (hsz : (DataW.weightsEach P ts ds).all (· ≤ reachBytes) = true) (hj : ts[j]? = some D.ts) (hd : ds[j]? = some d)
    (hf : DataW.trod enc P w 0 (fun _ => true) true fuel D.ts (Value.slice a len cap).cells.toList = some (d, p)) : ∃ L : List α, RdS D w [] (.slice a len cap) L ∧ (∀ x ∈ L, Q x) ∧ L.length * D.bytes ≤ 140737488351232 := by
  obtain ⟨L, hL, hQ⟩ := openSl hD hts hce hel hf
  refine ⟨L, hL, hQ, ?_⟩
  obtain ⟨A', c', e, -, -⟩ := hL.shape
  injection e with _ e _
  rcases open_slice hts hf with ⟨hcs, _⟩ | ⟨x, n, c, m, fu, Dd, Pl, hcs, _, hl, hm, hmm, hx, hall⟩
  · simp [Value.cells] at hcs
    rw [← e, hcs.2.1, Nat.zero_mul]
    omega
  · simp [Value.cells] at hcs
    obtain ⟨rfl, rfl, rfl⟩ := hcs
    simp only [if_true] at hmm
    subst hmm
    injection hx with hx _
    subst hx
    have hs := sized_slice hsz hj hd hts
    rw [hby] at hs
    simp only [List.length_map, List.length_range, reachBytes] at hs
    rw [← e]
    exact Nat.le_trans (Nat.mul_le_mul_right _ (by omega)) hs
end
end Go.Proofs.YtgcbmdolbmmljaaGreat.St
