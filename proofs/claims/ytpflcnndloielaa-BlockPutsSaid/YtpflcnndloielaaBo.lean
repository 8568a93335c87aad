/- Slices of slices of cells: read ('RdB'), and owned with all their rows ('OwB'). -/
import Derived.Test.YtpflcnndloielaaCll
namespace Go.Proofs.Ytpflcnndloielaa.Ce
open Go.RowKit

theorem rowsC_T : ET Try.prog 26 22 (.slice none 0 0) 24 := ⟨Try.underlying26, by kernel_rfl⟩
/-- v is a slice of slices of cells, one for each list of LL -/
def RdB (w : World) (v : Value) (LL : List (List Cl)) : Prop :=
  ∃ vs : List Value, Rd w w.heap.size v vs ∧ vs.length = LL.length ∧ ∀ (j : Nat) (u : Value) (L : List Cl), vs[j]? = some u → LL[j]? = some L → RdL w [] u L
section
variable {w w' : World} {v : Value} {LL : List (List Cl)}
theorem RdB.bel (h : RdB w v LL) (hb : Below w.heap.size w w') : RdB w' v LL := by
  obtain ⟨vs, h1, h2, h3⟩ := h
  exact ⟨vs, h1.up hb, h2, fun j u L hu hL => (h3 j u L hu hL).bel hb⟩
theorem RdB.shape (h : RdB w v LL) : ∃ A c, v = .slice A LL.length c ∧ LL.length ≤ c ∧ c ≤ maxLen := by
  obtain ⟨vs, h1, h2, -⟩ := h
  rw [← h2]
  exact h1.shape
theorem RdB.open_ {A : Option Addr} {n c : Nat} (h : RdB w (.slice A n c) LL) (hp : 0 < LL.length) : ∃ b off, A = some ⟨b, off, none⟩ ∧ b < w.heap.size := by
  obtain ⟨vs, h1, h2, -⟩ := h
  obtain ⟨b, off, c', e, -, -, hb, -⟩ := h1.at_ (by omega)
  injection e with e1 _ _
  exact ⟨b, off, e1, hb⟩
theorem RdB.row {b off n c j : Nat} {L : List Cl} (h : RdB w (.slice (some ⟨b, off, none⟩) n c) LL) (hj : LL[j]? = some L) :
    ∃ A' c', w.cell? ⟨b, off + j, none⟩ = some (.slice A' L.length c') ∧ L.length ≤ c' ∧ c' ≤ maxLen ∧ RdL w [] (.slice A' L.length c') L := by
  obtain ⟨vs, h1, h2, h3⟩ := h
  have hjl := (List.getElem?_eq_some_iff.1 hj).1
  obtain ⟨b', off', c', e, -, -, hb, hc⟩ := h1.at_ (by omega)
  injection e with e1 _ _
  simp only [Option.some.injEq, Addr.mk.injEq, and_true] at e1
  obtain ⟨rfl, rfl⟩ := e1
  have hu : vs[j]? = some (vs[j]'(by omega)) := List.getElem?_eq_getElem _
  have hr := h3 j _ L hu hj
  have hcj := hc j _ hu
  obtain ⟨A', c', e', k1, k2⟩ := hr.shape
  rw [e'] at hcj hr
  exact ⟨A', c', hcj, k1, k2, hr⟩
end
/-- the call owns v, a slice of the slices vs, which read LL, all of them the call's own -/
structure OwB (w : World) (B : Nat) (v : Value) (vs : List Value) (LL : List (List Cl)) : Prop where
  out : Ow w B 22 v vs
  len : vs.length = LL.length
  row : ∀ (j : Nat) (u : Value) (L : List Cl), vs[j]? = some u → LL[j]? = some L → OwL w B u L
section
variable {w w' : World} {B : Nat} {v u : Value} {vs : List Value} {LL : List (List Cl)} {L : List Cl}
theorem OwB.nil (w : World) (B : Nat) : OwB w B (.slice none 0 0) [] [] := ⟨Ow.nil _ _ _, rfl, fun j u L h => by simp at h⟩
theorem OwB.below (h : OwB w B v vs LL) (hb : Below w.heap.size w w') : OwB w' B v vs LL := ⟨h.out.below hb, h.len, fun j u L hu hL => (h.row j u L hu hL).below hb⟩
theorem OwB.mono {B' : Nat} (h : OwB w B v vs LL) (hB : B' ≤ B) : OwB w B' v vs LL := ⟨h.out.mono hB, h.len, fun j u L hu hL => (h.row j u L hu hL).mono hB⟩
theorem OwB.rd (h : OwB w B v vs LL) : RdB w v LL := ⟨vs, h.out.rd, h.len, fun j u L hu hL => (h.row j u L hu hL).rd (fun _ h => by cases h)⟩
/-- a row's block and the outer slice's block hold unlike things -/
theorem ow_apart {xs : List Value} (h : Ow w B 22 v xs) (hr : OwL w B u L) : ∀ k, u.ownBlock = some k → v.ownBlock ≠ some k := fun k hk hv => by
  rcases h.2 with ⟨rfl, -⟩ | ⟨g, cap, cur, rfl, -, hg, -⟩
  · cases hv
  · rcases hr.2 with ⟨rfl, -⟩ | ⟨g', cap', cur', rfl, -, hg', -⟩
    · cases hk
    · have e1 : g' = k := by injection hk
      have e2 : g = k := by injection hv
      subst e1 e2
      rw [hg] at hg'
      injection hg' with hg'
      injection hg' with _ ht _
      exact absurd ht (by decide)
theorem OwL.keptR (h : OwL w B u L) {row : Option Nat} (hg : w.grownBy w' row) (ho : ∀ k, u.ownBlock = some k → row ≠ some k) : OwL w' B u L := by
  obtain ⟨h1, h2⟩ := h
  refine ⟨h1, ?_⟩
  rcases h2 with h2 | ⟨g, cap, cur, rfl, hgB, hh, r⟩
  · exact .inl h2
  · have hl := (Array.getElem?_eq_some_iff.1 hh).1
    exact .inr ⟨g, cap, cur, rfl, hgB, by rw [hg.block g hl fun e => ho g rfl e.symm]; exact hh, r⟩
/-- a row more -/
theorem OwB.push {v' : Value} (h : OwB w B v vs LL) (hu : OwL w B u L) (ho : Ow w' B 22 v' (vs ++ [u])) (hg : w.grownBy w' v.ownBlock) : OwB w' B v' (vs ++ [u]) (LL ++ [L]) := by
  refine ⟨ho, by simp [h.len], fun j x M hx hM => ?_⟩
  by_cases hj : j < vs.length
  · rw [List.getElem?_append_left hj] at hx
    rw [List.getElem?_append_left (by rw [← h.len]; exact hj)] at hM
    have hr := h.row j x M hx hM
    exact hr.keptR hg (ow_apart h.out hr)
  · rw [List.getElem?_append_right (by omega)] at hx
    rw [List.getElem?_append_right (by rw [← h.len]; omega)] at hM
    have h0 : j - vs.length = 0 := by
      have := (List.getElem?_eq_some_iff.1 hx).1
      simp at this
      omega
    rw [h0] at hx
    rw [show j - LL.length = 0 by rw [← h.len]; exact h0] at hM
    obtain rfl : u = x := by simpa using hx
    obtain rfl : L = M := by simpa using hM
    exact hu.keptR hg (ow_apart h.out hu)
theorem OwL.oneV (hu : OwL w B u L) : u.oneCell' = true := by
  obtain ⟨A, c, rfl, -, -⟩ := (hu.rd (S := []) (fun _ h => by cases h)).shape
  rfl
theorem OwL.oneR (hu : OwL w B u L) : One [u] := fun x hx => by rw [List.mem_singleton.1 hx]; exact hu.oneV
/-- 'append(v, u)', the slice that holds u alone made ahead -/
theorem run_pushB (ty : TypeId) {g D : Nat} (h : OwB w B v vs LL) (hu : OwL w B u L) (hr : Rd w D (.slice (some ⟨g, 0, none⟩) 1 1) [u]) (hl : LL.length ≤ 1000000000) (hB : B ≤ w.heap.size) :
    ∃ v' w', (Builtin.append_ #[26, 26] ty #[v, .slice (some ⟨g, 0, none⟩) 1 1]).run Try.prog w = .ok v' w' ∧ OwB w' B v' (vs ++ [u]) (LL ++ [L]) ∧ w.grownBy w' v.ownBlock ∧ (v'.ownBlock = v.ownBlock ∨ v'.ownBlock = some w.heap.size) := by
  have hvl := h.len
  obtain ⟨v', w', hrun, h2, h3, h4⟩ := run_app (P := Try.prog) rowsC_T rfl ty h.out hr hu.oneR (by simp [maxLen]; omega) (by simp; omega) hB
  exact ⟨v', w', hrun, h.push hu h2 h3, h3, h4⟩
theorem step_pushB {ops : Array Oper} {o : Oper} {a : Act} {K : Act → World → Prop} {Q : Exit → Act → World → Prop} {E : Prop} (hgd : o.guard = none) (s y : Operand)
    (ho : o.op = .call { callee := .builtin .append, args := #[s, y], argTypes := #[26, 26] })
    (hs : a.eval s = v) (h : OwB w B v vs LL) (hu : OwL w B u L) {g D : Nat} (hy : a.eval y = .slice (some ⟨g, 0, none⟩) 1 1) (hr : Rd w D (.slice (some ⟨g, 0, none⟩) 1 1) [u]) (hl : LL.length ≤ 1000000000) (hB : B ≤ w.heap.size)
    (hK : ∀ v' w', OwB w' B v' (vs ++ [u]) (LL ++ [L]) → w.grownBy w' v.ownBlock → K (a.put o.dst v') w') :
    if Region.wanted o (yielded ops a.tmps) = true then Oper.wp Try.prog o a w K Q else E := by
  have hw : Region.wanted o (yielded ops a.tmps) = true := by simp [Region.wanted, hgd]
  rw [if_pos hw]
  obtain ⟨v', w', hrun, h2, h3, -⟩ := run_pushB o.type h hu hr hl hB
  unfold Oper.wp
  simp [execOp, ho, resolve, invoke, builtin, hs, hy, hrun, Result.andThen]
  exact hK v' w' h2 h3
theorem wpList_pushB {ops : Array Oper} {rest : List Oper} {o : Oper} {a : Act} {Q : Exit → Act → World → Prop} (hgd : o.guard = none) (s y : Operand)
    (ho : o.op = .call { callee := .builtin .append, args := #[s, y], argTypes := #[26, 26] })
    (hs : a.eval s = v) (h : OwB w B v vs LL) (hu : OwL w B u L) {g D : Nat} (hy : a.eval y = .slice (some ⟨g, 0, none⟩) 1 1) (hr : Rd w D (.slice (some ⟨g, 0, none⟩) 1 1) [u]) (hl : LL.length ≤ 1000000000) (hB : B ≤ w.heap.size)
    (hK : ∀ v' w', OwB w' B v' (vs ++ [u]) (LL ++ [L]) → w.grownBy w' v.ownBlock → wpList Try.prog ops Q rest (a.put o.dst v') w') : wpList Try.prog ops Q (o :: rest) a w := by
  obtain ⟨v', w', hrun, h2, h3, -⟩ := run_pushB o.type h hu hr hl hB
  refine wpList_plain hgd fun K hKK => ?_
  unfold Oper.wp execOp
  simp only [ho, resolve, invoke, builtin, Sem.run_bind, Sem.run_pure, Result.andThen_ok, List.map_toArray, List.map_cons, List.map_nil, hs, hy, hrun]
  exact hKK _ _ (hK v' w' h2 h3)
end
end Go.Proofs.Ytpflcnndloielaa.Ce
