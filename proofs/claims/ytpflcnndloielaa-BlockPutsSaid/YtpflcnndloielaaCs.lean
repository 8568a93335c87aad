/- Slices of cells: how one reads ('RdL': in none of S's blocks), how the call's own ('OwL') grows by appends. -/
import Derived.Test.YtpflcnndloielaaCcut
import Derived.Test.YtpflcnndloielaaKp
namespace Go.Proofs.Ytpflcnndloielaa.Ce
open Go.RowKit

def flat5 : List Cl → List Value
  | [] => []
  | f :: L => .string f.row :: .string f.col :: .int .i64 f.at_ :: .string f.val :: .bool f.gone :: flat5 L
theorem flat5_len : ∀ L : List Cl, (flat5 L).length = L.length * 5
  | [] => rfl
  | f :: L => by simp only [flat5, List.length_cons, flat5_len L]; omega
theorem flat5_app : ∀ A C : List Cl, flat5 (A ++ C) = flat5 A ++ flat5 C
  | [], _ => rfl
  | f :: A, C => by simp only [List.cons_append, flat5, flat5_app A C]
theorem flat5_at : ∀ {L : List Cl} {j : Nat} {f : Cl}, L[j]? = some f → ∀ (k : Nat) (v : Value), f.cs.toList[k]? = some v → (flat5 L)[j * 5 + k]? = some v
  | [], j, f, h => by simp at h
  | g :: L, 0, f, h => by
    simp only [List.getElem?_cons_zero, Option.some.injEq] at h
    subst h
    intro k v hv
    have hk : k < 5 := by
      have := (List.getElem?_eq_some_iff.1 hv).1
      simpa [Cl.cs] using this
    match k, hk with
    | 0, _ => exact hv
    | 1, _ => exact hv
    | 2, _ => exact hv
    | 3, _ => exact hv
    | 4, _ => exact hv
  | g :: L, j + 1, f, h => by
    rw [List.getElem?_cons_succ] at h
    intro k v hv
    have := flat5_at h k v hv
    rw [show (j + 1) * 5 + k = j * 5 + k + 5 by omega]
    exact this
theorem flat5_take : ∀ (L : List Cl) (k : Nat), flat5 (L.take k) = (flat5 L).take (k * 5)
  | [], k => by simp [flat5]
  | f :: L, 0 => by simp [flat5]
  | f :: L, k + 1 => by
    rw [List.take_succ_cons, flat5, flat5, flat5_take L k, show (k + 1) * 5 = k * 5 + 1 + 1 + 1 + 1 + 1 by omega]
    simp only [List.take_succ_cons]
theorem flat5_drop : ∀ (L : List Cl) (k : Nat), flat5 (L.drop k) = (flat5 L).drop (k * 5)
  | [], k => by simp [flat5]
  | f :: L, 0 => by simp
  | f :: L, k + 1 => by
    rw [List.drop_succ_cons, flat5, flat5_drop L k, show (k + 1) * 5 = k * 5 + 1 + 1 + 1 + 1 + 1 by omega]
    simp only [List.drop_succ_cons]
theorem flat5_one : ∀ (L : List Cl), One (flat5 L)
  | [] => fun u hu => by simp [flat5] at hu
  | f :: L => fun u hu => by
    simp only [flat5, List.mem_cons] at hu
    rcases hu with rfl | rfl | rfl | rfl | rfl | hu
    · rfl
    · rfl
    · rfl
    · rfl
    · rfl
    · exact flat5_one L u hu

/-- v is a slice whose elements' cells are those of L, none of S's blocks -/
def RdL (w : World) (S : List Nat) (v : Value) (L : List Cl) : Prop :=
  ∃ A c, v = .slice A L.length c ∧ L.length ≤ c ∧ c ≤ maxLen ∧ (0 < L.length → ∃ b off, A = some ⟨b, off, none⟩ ∧ b < w.heap.size ∧ b ∉ S ∧ ∀ i u, (flat5 L)[i]? = some u → w.cell? ⟨b, off + i, none⟩ = some u)
section
variable {w w' : World} {S S' : List Nat} {v : Value} {L : List Cl}
theorem RdL.up (h : RdL w S v L) (hk : Kp S w w') (hS : ∀ k ∈ S', k ∈ S ∨ w.heap.size ≤ k) : RdL w' S' v L := by
  obtain ⟨A, c, e, h1, h2, h3⟩ := h
  refine ⟨A, c, e, h1, h2, fun hp => ?_⟩
  obtain ⟨b, off, ea, hb, hn, hc⟩ := h3 hp
  refine ⟨b, off, ea, Nat.lt_of_lt_of_le hb hk.size, fun hm => ?_, fun i u hu => (World.cell?_of_block (w := w) (a := ⟨b, off + i, none⟩) (hk.block b hb hn)).trans (hc i u hu)⟩
  rcases hS b hm with h | h
  · exact hn h
  · omega
theorem RdL.bel (h : RdL w S v L) (hb : Below w.heap.size w w') : RdL w' S v L := h.up (Kp.of_below hb _) fun _ hk => .inl hk
theorem RdL.nil (w : World) (S : List Nat) : RdL w S (.slice none 0 0) [] := ⟨none, 0, rfl, Nat.le_refl _, by simp [maxLen], fun h => absurd h (by simp)⟩
theorem RdL.shape (h : RdL w S v L) : ∃ A c, v = .slice A L.length c ∧ L.length ≤ c ∧ c ≤ maxLen := by
  obtain ⟨A, c, e, h1, h2, _⟩ := h
  exact ⟨A, c, e, h1, h2⟩
theorem RdL.open_ {A : Option Addr} {n c : Nat} (h : RdL w S (.slice A n c) L) (hp : 0 < L.length) : ∃ b off, A = some ⟨b, off, none⟩ ∧ b < w.heap.size ∧ b ∉ S ∧ ∀ i u, (flat5 L)[i]? = some u → w.cell? ⟨b, off + i, none⟩ = some u := by
  obtain ⟨A', c', e, h1, h2, h3⟩ := h
  injection e with e1 e2 e3
  subst e1
  exact h3 hp
/-- cell k's parts at an address -/
def FiveAt (b o : Nat) (f : Cl) (w : World) : Prop := w.cell? ⟨b, o, none⟩ = some (.string f.row) ∧ w.cell? ⟨b, o + 1, none⟩ = some (.string f.col) ∧ w.cell? ⟨b, o + 2, none⟩ = some (.int .i64 f.at_) ∧ w.cell? ⟨b, o + 3, none⟩ = some (.string f.val) ∧ w.cell? ⟨b, o + 4, none⟩ = some (.bool f.gone)
theorem RdL.at_ {b off n c k : Nat} {f : Cl} (h : RdL w S (.slice (some ⟨b, off, none⟩) n c) L) (hk : L[k]? = some f) : FiveAt b (off + k * 5) f w ∧ b < w.heap.size := by
  have hlt := (List.getElem?_eq_some_iff.1 hk).1
  obtain ⟨b', off', e, hb, _, hc⟩ := h.open_ (by omega)
  simp only [Option.some.injEq, Addr.mk.injEq, and_true] at e
  obtain ⟨rfl, rfl⟩ := e
  have h5 := flat5_at hk
  exact ⟨⟨hc _ _ (h5 0 _ rfl), hc _ _ (h5 1 _ rfl), hc _ _ (h5 2 _ rfl), hc _ _ (h5 3 _ rfl), hc _ _ (h5 4 _ rfl)⟩, hb⟩
theorem FiveAt.up {b o : Nat} {f : Cl} (h : FiveAt b o f w) (hb : b < w.heap.size) (hw : Below w.heap.size w w') : FiveAt b o f w' := by
  obtain ⟨h0, h1, h2, h3, h4⟩ := h
  exact ⟨(hw.cell (p := ⟨b, o, none⟩) hb).trans h0, (hw.cell (p := ⟨b, o + 1, none⟩) hb).trans h1, (hw.cell (p := ⟨b, o + 2, none⟩) hb).trans h2, (hw.cell (p := ⟨b, o + 3, none⟩) hb).trans h3, (hw.cell (p := ⟨b, o + 4, none⟩) hb).trans h4⟩
/-- for a load of it whole -/
theorem FiveAt.all {b o : Nat} {f : Cl} (h : FiveAt b o f w) : ∀ (k : Nat) (v : Value), f.cs.toList[k]? = some v → w.cell? ((⟨b, o, none⟩ : Addr).add k) = some v := fun k v hv => by
  obtain ⟨h0, h1, h2, h3, h4⟩ := h
  rw [Addr.add_lit]
  have hk : k < 5 := by
    have := (List.getElem?_eq_some_iff.1 hv).1
    simpa [Cl.cs] using this
  match k, hk with
  | 0, _ => simp only [Cl.cs, List.getElem?_cons_zero, Option.some.injEq] at hv; rw [← hv]; exact h0
  | 1, _ => simp only [Cl.cs, List.getElem?_cons_zero, List.getElem?_cons_succ, Option.some.injEq] at hv; rw [← hv]; exact h1
  | 2, _ => simp only [Cl.cs, List.getElem?_cons_zero, List.getElem?_cons_succ, Option.some.injEq] at hv; rw [← hv]; exact h2
  | 3, _ => simp only [Cl.cs, List.getElem?_cons_zero, List.getElem?_cons_succ, Option.some.injEq] at hv; rw [← hv]; exact h3
  | 4, _ => simp only [Cl.cs, List.getElem?_cons_zero, List.getElem?_cons_succ, Option.some.injEq] at hv; rw [← hv]; exact h4
/-- l[:k] -/
theorem RdL.to_ {A : Option Addr} {n c k : Nat} (h : RdL w S (.slice A n c) L) (hk : k ≤ L.length) : RdL w S (.slice A k c) (L.take k) := by
  obtain ⟨A', c', e, h1, h2, h3⟩ := h
  injection e with e1 e2 e3
  subst e1 e3
  have hl : (L.take k).length = k := by simp; omega
  refine ⟨A, c, by rw [hl], by omega, h2, fun hp => ?_⟩
  obtain ⟨b, off, ea, hb, hn, hc⟩ := h3 (by omega)
  refine ⟨b, off, ea, hb, hn, fun i u hu => hc i u ?_⟩
  rw [flat5_take, List.getElem?_take] at hu
  split at hu
  · exact hu
  · cases hu
/-- l[k:], its address where it is written out -/
theorem RdL.from_ {b off n c k : Nat} (h : RdL w S (.slice (some ⟨b, off, none⟩) n c) L) (hk : k ≤ L.length) : RdL w S (.slice (some ⟨b, off + k * 5, none⟩) (n - k) (c - k)) (L.drop k) := by
  obtain ⟨A', c', e, h1, h2, h3⟩ := h
  injection e with e1 e2 e3
  subst e1 e2 e3
  have hl : (L.drop k).length = L.length - k := by simp
  refine ⟨_, _, by rw [hl], by omega, by omega, fun hp => ?_⟩
  obtain ⟨b', off', ea, hb, hn, hc⟩ := h3 (by omega)
  simp only [Option.some.injEq, Addr.mk.injEq, and_true] at ea
  obtain ⟨rfl, rfl⟩ := ea
  refine ⟨b, off + k * 5, rfl, hb, hn, fun i u hu => ?_⟩
  rw [flat5_drop, List.getElem?_drop] at hu
  rw [Nat.add_assoc]
  exact hc _ _ hu
theorem RdL.none_ {A : Option Addr} {c : Nat} (hc : c ≤ maxLen) : RdL w S (.slice A 0 c) [] := ⟨A, c, rfl, by simp, hc, fun h => absurd h (by simp)⟩
/-- a new block that holds one cell -/
theorem RdL.one (w : World) (S : List Nat) (f : Cl) (hS : w.heap.size ∉ S) (t : Nat) : RdL (w.alloc (.cells #[.string f.row, .string f.col, .int .i64 f.at_, .string f.val, .bool f.gone] t)) S (.slice (some ⟨w.heap.size, 0, none⟩) 1 1) [f] := by
  refine ⟨_, _, rfl, Nat.le_refl _, by simp [maxLen], fun _ => ⟨w.heap.size, 0, rfl, by simp, hS, fun i u hu => ?_⟩⟩
  rw [Nat.zero_add, cell_of_row _ w.heap.size i _ t (0, 0) (heap_alloc_new w _)]
  have : (#[Value.string f.row, .string f.col, .int .i64 f.at_, .string f.val, .bool f.gone] : Array Value).toList = flat5 [f] := rfl
  rw [← this] at hu
  simpa using hu
theorem RdL.two (w : World) (S : List Nat) (f g : Cl) (hS : w.heap.size ∉ S) (t : Nat) : RdL (w.alloc (.cells #[.string f.row, .string f.col, .int .i64 f.at_, .string f.val, .bool f.gone, .string g.row, .string g.col, .int .i64 g.at_, .string g.val, .bool g.gone] t)) S (.slice (some ⟨w.heap.size, 0, none⟩) 2 2) [f, g] := by
  refine ⟨_, _, rfl, Nat.le_refl _, by simp [maxLen], fun _ => ⟨w.heap.size, 0, rfl, by simp, hS, fun i u hu => ?_⟩⟩
  rw [Nat.zero_add, cell_of_row _ w.heap.size i _ t (0, 0) (heap_alloc_new w _)]
  have : (#[Value.string f.row, .string f.col, .int .i64 f.at_, .string f.val, .bool f.gone, .string g.row, .string g.col, .int .i64 g.at_, .string g.val, .bool g.gone] : Array Value).toList = flat5 [f, g] := rfl
  rw [← this] at hu
  simpa using hu
end

/-- the call owns v, a slice of cells -/
def OwL (w : World) (B : Nat) (v : Value) (L : List Cl) : Prop := w.ownsRow B 46 5 v L.length (flat5 L)
theorem cellInfo : (Try.prog.info? 46).map (fun i => (i.zero, i.size, i.bytes)) = some (some (.agg Cl.zero.cs), 5, 64) := by kernel_rfl
section
variable {w w' : World} {B : Nat} {v x : Value} {L M : List Cl} {S : List Nat}
theorem OwL.lt (h : OwL w B v L) : ∀ k, v.ownBlock = some k → B ≤ k ∧ k < w.heap.size := World.ownsRow.lt h
theorem OwL.empty (w : World) (hB : B ≤ w.heap.size) (t : Nat) (ht : t = 46) : OwL (w.alloc (.cells #[] t)) B (.slice (some ⟨w.heap.size, 0, none⟩) 0 0) [] := by
  subst ht
  exact ⟨rfl, .inr ⟨w.heap.size, 0, #[], rfl, hB, heap_alloc_new _ _, Nat.le_refl _, by simp [maxLen], rfl, rfl⟩⟩
theorem OwL.nil (w : World) (B : Nat) : OwL w B (.slice none 0 0) [] := ⟨rfl, .inl ⟨rfl, rfl⟩⟩
theorem OwL.below (h : OwL w B v L) (hb : Below w.heap.size w w') : OwL w' B v L := by
  obtain ⟨h1, h2⟩ := h
  refine ⟨h1, ?_⟩
  rcases h2 with h2 | ⟨g, cap, cur, hv, hg, hh, r⟩
  · exact .inl h2
  · exact .inr ⟨g, cap, cur, hv, hg, by rw [hb.block g (Array.getElem?_eq_some_iff.1 hh).1]; exact hh, r⟩
theorem OwL.mono {B' : Nat} (h : OwL w B v L) (hB : B' ≤ B) : OwL w B' v L := by
  obtain ⟨h1, h2⟩ := h
  refine ⟨h1, ?_⟩
  rcases h2 with h2 | ⟨g, cap, cur, hv, hg, r⟩
  · exact .inl h2
  · exact .inr ⟨g, cap, cur, hv, Nat.le_trans hB hg, r⟩
theorem OwL.rd (h : OwL w B v L) (hS : ∀ k ∈ S, k < B) : RdL w S v L := by
  obtain ⟨hl, h2⟩ := h
  rcases h2 with ⟨rfl, hn⟩ | ⟨g, cap, cur, rfl, hbg, hg, hnc, hcm, hcs, htake⟩
  · have : L = [] := List.eq_nil_of_length_eq_zero hn
    subst this
    exact RdL.nil w S
  · refine ⟨some ⟨g, 0, none⟩, cap, rfl, hnc, hcm, fun _ => ⟨g, 0, rfl, (Array.getElem?_eq_some_iff.1 hg).1, fun hm => by have := hS g hm; omega, fun i u hu => ?_⟩⟩
    rw [Nat.zero_add, cell_of_row w g i cur _ (0, 0) hg]
    rw [← htake, List.getElem?_take] at hu
    split at hu
    · simpa using hu
    · cases hu
theorem run_appW (ty : TypeId) (ho : OwL w B v L) (hr : RdL w S x M) (hlen : L.length + M.length ≤ 2199023255552) (hB : B ≤ w.heap.size) :
    ∃ v' w', (Builtin.append_ #[22, 22] ty #[v, x]).run Try.prog w = .ok v' w' ∧ OwL w' B v' (L ++ M) ∧ w.grownBy w' v.ownBlock ∧ (v'.ownBlock = v.ownBlock ∨ v'.ownBlock = some w.heap.size) := by
  obtain ⟨i, hi, hi0, hi1, hi2⟩ := info_parts cellInfo
  have ht := Try.underlying22
  obtain ⟨A, c, rfl, hc, hm, hcell⟩ := hr
  rcases Nat.eq_zero_or_pos M.length with h0 | hp
  · have hy : M = [] := List.eq_nil_of_length_eq_zero h0
    subst hy
    have hrun : (Builtin.append_ #[22, 22] ty #[v, .slice A 0 c]).run Try.prog w = .ok v w := by
      rcases ho.2 with ⟨rfl, hn⟩ | ⟨g, cap, cur, rfl, _, _, hnc, _⟩
      · cases A with
        | none => simp [Builtin.append_, run_underlying ht, sizeOf, typeInfo, hi, Builtin.lenOf, Builtin.firstCells]
        | some a => simp [Builtin.append_, run_underlying ht, sizeOf, typeInfo, hi, Builtin.lenOf, Builtin.firstCells, loadCells, loadCellsFrom]
      · cases A with
        | none => simp [Builtin.append_, run_underlying ht, sizeOf, typeInfo, hi, Builtin.lenOf, Builtin.firstCells, hnc, storeCells]
        | some a => simp [Builtin.append_, run_underlying ht, sizeOf, typeInfo, hi, Builtin.lenOf, Builtin.firstCells, hnc, storeCells, loadCells, loadCellsFrom]
    exact ⟨v, w, hrun, by rw [List.append_nil]; exact ho, World.grownBy.refl w _, .inl rfl⟩
  · obtain ⟨b, off, rfl, hb, _, hcc⟩ := hcell hp
    obtain ⟨v', w', hrun, h2, h3, _, h5⟩ := run_append_own_at (P := Try.prog) w B 22 ty 46 i _ 5 64 ht hi hi0 hi1 hi2 rfl (by omega) v L.length (flat5 L) ho ⟨b, off, none⟩ M.length c (flat5 M) (flat5_len M)
      (fun j u hj => by rw [Addr.add_lit]; exact hcc j u hj) (flat5_one M) (by unfold maxLen; omega) (by omega) hB
    exact ⟨v', w', hrun, by unfold OwL; rw [List.length_append, flat5_app]; exact h2, h3, h5⟩
theorem run_appL (ty : TypeId) (ho : OwL w B v L) (hr : RdL w S x M) (hlen : L.length + M.length ≤ 1000000000) (hB : B ≤ w.heap.size) :
    ∃ v' w', (Builtin.append_ #[22, 22] ty #[v, x]).run Try.prog w = .ok v' w' ∧ OwL w' B v' (L ++ M) ∧ w.grownBy w' v.ownBlock ∧ (v'.ownBlock = v.ownBlock ∨ v'.ownBlock = some w.heap.size) :=
  run_appW ty ho hr (by omega) hB
/-- append, as one step of a region that draws its order -/
theorem step_appL {ops : Array Oper} {o : Oper} {a : Act} {K : Act → World → Prop} {Q : Exit → Act → World → Prop} {E : Prop} (hgd : o.guard = none) (s y : Operand)
    (ho : o.op = .call { callee := .builtin .append, args := #[s, y], argTypes := #[22, 22] })
    (hs : a.eval s = v) (hown : OwL w B v L) (hy : a.eval y = x) (hr : RdL w S x M) (hlen : L.length + M.length ≤ 1000000000) (hB : B ≤ w.heap.size)
    (hK : ∀ v' w', OwL w' B v' (L ++ M) → w.grownBy w' v.ownBlock → (v'.ownBlock = v.ownBlock ∨ v'.ownBlock = some w.heap.size) → K (a.put o.dst v') w') :
    if Region.wanted o (yielded ops a.tmps) = true then Oper.wp Try.prog o a w K Q else E := by
  have hw : Region.wanted o (yielded ops a.tmps) = true := by simp [Region.wanted, hgd]
  rw [if_pos hw]
  obtain ⟨v', w', hrun, h2, h3, h4⟩ := run_appL o.type hown hr hlen hB
  unfold Oper.wp
  simp [execOp, ho, resolve, invoke, builtin, hs, hy, hrun, Result.andThen]
  exact hK v' w' h2 h3 h4
end
/-- the box's cells, in whatever later world -/
theorem boxCells {W X : World} {b : Nat} {f : Cl} (h : InC b f W) (hk : X.heap[b]? = W.heap[b]?) : Five b f X := (InC.mk (hk.trans h.h)).five
end Go.Proofs.Ytpflcnndloielaa.Ce
