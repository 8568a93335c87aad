/- The reference's files: how a slice of them reads, how one is built by appends. -/
import Derived.Test.YtblejjjifokmgaaDoP
namespace Go.Proofs.Ytblejjjifokmgaa
open Go.RowKit Go.Maps Dk

structure Rf where
  fl : Fl
  v : Value
def rk (f : Rf) : List UInt8 := key f.fl
def cells3 (f : Rf) : List Value := [.string f.fl.nm, f.v, .int .i64 (f.fl.s : Int)]
def flat3 : List Rf → List Value
  | [] => []
  | f :: L => .string f.fl.nm :: f.v :: .int .i64 (f.fl.s : Int) :: flat3 L
theorem flat3_len : ∀ L : List Rf, (flat3 L).length = L.length * 3
  | [] => rfl
  | f :: L => by simp only [flat3, List.length_cons, flat3_len L]; omega
theorem flat3_app : ∀ A C : List Rf, flat3 (A ++ C) = flat3 A ++ flat3 C
  | [], _ => rfl
  | f :: A, C => by simp only [List.cons_append, flat3, flat3_app A C]
theorem flat3_at : ∀ {L : List Rf} {j : Nat} {f : Rf}, L[j]? = some f → (flat3 L)[j * 3]? = some (.string f.fl.nm) ∧ (flat3 L)[j * 3 + 1]? = some f.v ∧ (flat3 L)[j * 3 + 2]? = some (.int .i64 (f.fl.s : Int))
  | [], j, f, h => by simp at h
  | g :: L, 0, f, h => by
    simp only [List.getElem?_cons_zero, Option.some.injEq] at h
    subst h
    exact ⟨rfl, rfl, rfl⟩
  | g :: L, j + 1, f, h => by
    rw [List.getElem?_cons_succ] at h
    have := flat3_at h
    rw [show (j + 1) * 3 = j * 3 + 3 by omega]
    exact this
theorem flat3_take : ∀ (L : List Rf) (k : Nat), flat3 (L.take k) = (flat3 L).take (k * 3)
  | [], k => by simp [flat3]
  | f :: L, 0 => by simp [flat3]
  | f :: L, k + 1 => by
    rw [List.take_succ_cons, flat3, flat3, flat3_take L k, show (k + 1) * 3 = k * 3 + 1 + 1 + 1 by omega]
    simp only [List.take_succ_cons]
theorem flat3_drop : ∀ (L : List Rf) (k : Nat), flat3 (L.drop k) = (flat3 L).drop (k * 3)
  | [], k => by simp [flat3]
  | f :: L, 0 => by simp
  | f :: L, k + 1 => by
    rw [List.drop_succ_cons, flat3, flat3_drop L k, show (k + 1) * 3 = k * 3 + 1 + 1 + 1 by omega]
    simp only [List.drop_succ_cons]
theorem flat3_one : ∀ (L : List Rf), (∀ f ∈ L, f.v.oneCell' = true) → One (flat3 L)
  | [], _ => fun u hu => by simp [flat3] at hu
  | f :: L, h => fun u hu => by
    simp only [flat3, List.mem_cons] at hu
    rcases hu with rfl | rfl | rfl | hu
    · rfl
    · exact h f (by simp)
    · rfl
    · exact flat3_one L (fun g hg => h g (by simp [hg])) u hu

/-- v is a slice whose elements' cells are those of L, none of S's blocks -/
def RdC (w : World) (S : List Nat) (v : Value) (L : List Rf) : Prop :=
  ∃ A c, v = .slice A L.length c ∧ L.length ≤ c ∧ c ≤ maxLen ∧ (0 < L.length → ∃ b off, A = some ⟨b, off, none⟩ ∧ b < w.heap.size ∧ b ∉ S ∧ ∀ i u, (flat3 L)[i]? = some u → w.cell? ⟨b, off + i, none⟩ = some u)
/-- the same, with each file's bytes -/
structure RdF (w : World) (S : List Nat) (v : Value) (L : List Rf) : Prop where
  c : RdC w S v L
  b : ∀ f ∈ L, RdS w S f.v f.fl.l
section
variable {w w' : World} {S S' : List Nat} {v : Value} {L : List Rf}
theorem RdC.up (h : RdC w S v L) (hk : Kp S w w') (hS : ∀ k ∈ S', k ∈ S ∨ w.heap.size ≤ k) : RdC w' S' v L := by
  obtain ⟨A, c, e, h1, h2, h3⟩ := h
  refine ⟨A, c, e, h1, h2, fun hp => ?_⟩
  obtain ⟨b, off, ea, hb, hn, hc⟩ := h3 hp
  refine ⟨b, off, ea, Nat.lt_of_lt_of_le hb hk.size, fun hm => ?_, fun i u hu => (World.cell?_of_block (w := w) (a := ⟨b, off + i, none⟩) (hk.block b hb hn)).trans (hc i u hu)⟩
  rcases hS b hm with h | h
  · exact hn h
  · omega
theorem RdF.up (h : RdF w S v L) (hk : Kp S w w') (hS : ∀ k ∈ S', k ∈ S ∨ w.heap.size ≤ k) : RdF w' S' v L := ⟨h.c.up hk hS, fun f hf => (h.b f hf).up hk hS⟩
theorem RdF.bel (h : RdF w S v L) (hb : Below w.heap.size w w') : RdF w' S v L := h.up (Kp.of_below hb _) fun _ hk => .inl hk
theorem RdC.bel (h : RdC w S v L) (hb : Below w.heap.size w w') : RdC w' S v L := h.up (Kp.of_below hb _) fun _ hk => .inl hk
theorem RdF.nil (w : World) (S : List Nat) : RdF w S (.slice none 0 0) [] := ⟨⟨none, 0, rfl, Nat.le_refl _, by simp [maxLen], fun h => absurd h (by simp)⟩, fun f hf => by cases hf⟩
theorem RdC.shape (h : RdC w S v L) : ∃ A c, v = .slice A L.length c ∧ L.length ≤ c ∧ c ≤ maxLen := by
  obtain ⟨A, c, e, h1, h2, _⟩ := h
  exact ⟨A, c, e, h1, h2⟩
theorem RdC.open_ {A : Option Addr} {n c : Nat} (h : RdC w S (.slice A n c) L) (hp : 0 < L.length) : ∃ b off, A = some ⟨b, off, none⟩ ∧ b < w.heap.size ∧ b ∉ S ∧ ∀ i u, (flat3 L)[i]? = some u → w.cell? ⟨b, off + i, none⟩ = some u := by
  obtain ⟨A', c', e, h1, h2, h3⟩ := h
  injection e with e1 e2 e3
  subst e1
  exact h3 hp
/-- file k's cells -/
theorem RdC.at_ {b off n c k : Nat} {f : Rf} (h : RdC w S (.slice (some ⟨b, off, none⟩) n c) L) (hk : L[k]? = some f) :
    w.cell? ⟨b, off + k * 3, none⟩ = some (.string f.fl.nm) ∧ w.cell? ⟨b, off + k * 3 + 1, none⟩ = some f.v ∧ w.cell? ⟨b, off + k * 3 + 2, none⟩ = some (.int .i64 (f.fl.s : Int)) := by
  have hlt := (List.getElem?_eq_some_iff.1 hk).1
  obtain ⟨b', off', e, _, _, hc⟩ := h.open_ (by omega)
  simp only [Option.some.injEq, Addr.mk.injEq, and_true] at e
  obtain ⟨rfl, rfl⟩ := e
  obtain ⟨h0, h1, h2⟩ := flat3_at hk
  exact ⟨hc _ _ h0, hc _ _ h1, hc _ _ h2⟩
/-- l[:k] -/
theorem RdC.to_ {A : Option Addr} {n c k : Nat} (h : RdC w S (.slice A n c) L) (hk : k ≤ L.length) : RdC w S (.slice A k c) (L.take k) := by
  obtain ⟨A', c', e, h1, h2, h3⟩ := h
  injection e with e1 e2 e3
  subst e1 e3
  have hl : (L.take k).length = k := by simp; omega
  refine ⟨A, c, by rw [hl], by omega, h2, fun hp => ?_⟩
  obtain ⟨b, off, ea, hb, hn, hc⟩ := h3 (by omega)
  refine ⟨b, off, ea, hb, hn, fun i u hu => hc i u ?_⟩
  rw [flat3_take, List.getElem?_take] at hu
  split at hu
  · exact hu
  · cases hu
/-- l[k:], its address where it is written out -/
theorem RdC.from_ {b off n c k : Nat} (h : RdC w S (.slice (some ⟨b, off, none⟩) n c) L) (hk : k ≤ L.length) : RdC w S (.slice (some ⟨b, off + k * 3, none⟩) (n - k) (c - k)) (L.drop k) := by
  obtain ⟨A', c', e, h1, h2, h3⟩ := h
  injection e with e1 e2 e3
  subst e1 e2 e3
  have hl : (L.drop k).length = L.length - k := by simp
  refine ⟨_, _, by rw [hl], by omega, by omega, fun hp => ?_⟩
  obtain ⟨b', off', ea, hb, hn, hc⟩ := h3 (by omega)
  simp only [Option.some.injEq, Addr.mk.injEq, and_true] at ea
  obtain ⟨rfl, rfl⟩ := ea
  refine ⟨b, off + k * 3, rfl, hb, hn, fun i u hu => ?_⟩
  rw [flat3_drop, List.getElem?_drop] at hu
  rw [Nat.add_assoc]
  exact hc _ _ hu
theorem RdC.none_ {A : Option Addr} {c : Nat} (hc : c ≤ maxLen) : RdC w S (.slice A 0 c) [] := ⟨A, c, rfl, by simp, hc, fun h => absurd h (by simp)⟩
/-- a new block that holds one file -/
theorem RdC.one (w : World) (S : List Nat) (f : Rf) (hS : w.heap.size ∉ S) (t : Nat) : RdC (w.alloc (.cells #[.string f.fl.nm, f.v, .int .i64 (f.fl.s : Int)] t)) S (.slice (some ⟨w.heap.size, 0, none⟩) 1 1) [f] := by
  refine ⟨_, _, rfl, Nat.le_refl _, by simp [maxLen], fun _ => ⟨w.heap.size, 0, rfl, by simp, hS, fun i u hu => ?_⟩⟩
  rw [Nat.zero_add, cell_of_row _ w.heap.size i _ t (0, 0) (heap_alloc_new w _)]
  have : (#[Value.string f.fl.nm, f.v, .int .i64 (f.fl.s : Int)] : Array Value).toList = flat3 [f] := rfl
  rw [← this] at hu
  simpa using hu
end

/-- the call owns v, a slice of files -/
def OwF (w : World) (B : Nat) (v : Value) (L : List Rf) : Prop := w.ownsRow B 58 3 v L.length (flat3 L)
theorem fileInfo : (Try.prog.info? 58).map (fun i => (i.zero, i.size, i.bytes)) = some (some (.agg #[.string ⟨#[]⟩, .slice none 0 0, .int .i64 0]), 3, 48) := by kernel_rfl
section
variable {w w' : World} {B : Nat} {v x : Value} {L M : List Rf} {S : List Nat}
theorem OwF.lt (h : OwF w B v L) : ∀ k, v.ownBlock = some k → B ≤ k ∧ k < w.heap.size := World.ownsRow.lt h
theorem OwF.empty (w : World) (hB : B ≤ w.heap.size) (t : Nat) (ht : t = 58) : OwF (w.alloc (.cells #[] t)) B (.slice (some ⟨w.heap.size, 0, none⟩) 0 0) [] := by
  subst ht
  exact ⟨rfl, .inr ⟨w.heap.size, 0, #[], rfl, hB, heap_alloc_new _ _, Nat.le_refl _, by simp [maxLen], rfl, rfl⟩⟩
theorem OwF.nil (w : World) (B : Nat) : OwF w B (.slice none 0 0) [] := ⟨rfl, .inl ⟨rfl, rfl⟩⟩
theorem OwF.below (h : OwF w B v L) (hb : Below w.heap.size w w') : OwF w' B v L := by
  obtain ⟨h1, h2⟩ := h
  refine ⟨h1, ?_⟩
  rcases h2 with h2 | ⟨g, cap, cur, hv, hg, hh, r⟩
  · exact .inl h2
  · exact .inr ⟨g, cap, cur, hv, hg, by rw [hb.block g (Array.getElem?_eq_some_iff.1 hh).1]; exact hh, r⟩
theorem OwF.mono {B' : Nat} (h : OwF w B v L) (hB : B' ≤ B) : OwF w B' v L := by
  obtain ⟨h1, h2⟩ := h
  refine ⟨h1, ?_⟩
  rcases h2 with h2 | ⟨g, cap, cur, hv, hg, r⟩
  · exact .inl h2
  · exact .inr ⟨g, cap, cur, hv, Nat.le_trans hB hg, r⟩
theorem OwF.rdC (h : OwF w B v L) (hS : ∀ k ∈ S, k < B) : RdC w S v L := by
  obtain ⟨hl, h2⟩ := h
  rcases h2 with ⟨rfl, hn⟩ | ⟨g, cap, cur, rfl, hbg, hg, hnc, hcm, hcs, htake⟩
  · have : L = [] := List.eq_nil_of_length_eq_zero hn
    subst this
    exact (RdF.nil w S).c
  · refine ⟨some ⟨g, 0, none⟩, cap, rfl, hnc, hcm, fun _ => ⟨g, 0, rfl, (Array.getElem?_eq_some_iff.1 hg).1, fun hm => by have := hS g hm; omega, fun i u hu => ?_⟩⟩
    rw [Nat.zero_add, cell_of_row w g i cur _ (0, 0) hg]
    rw [← htake, List.getElem?_take] at hu
    split at hu
    · simpa using hu
    · cases hu
theorem run_appF (ty : TypeId) (ho : OwF w B v L) (hr : RdC w S x M) (h1 : ∀ f ∈ M, f.v.oneCell' = true) (hlen : L.length + M.length ≤ 1000000000) (hB : B ≤ w.heap.size) :
    ∃ v' w', (Builtin.append_ #[27, 27] ty #[v, x]).run Try.prog w = .ok v' w' ∧ OwF w' B v' (L ++ M) ∧ w.grownBy w' v.ownBlock ∧ (v'.ownBlock = v.ownBlock ∨ v'.ownBlock = some w.heap.size) := by
  obtain ⟨i, hi, hi0, hi1, hi2⟩ := info_parts fileInfo
  have ht := Try.underlying27
  obtain ⟨A, c, rfl, hc, hm, hcell⟩ := hr
  rcases Nat.eq_zero_or_pos M.length with h0 | hp
  · have hy : M = [] := List.eq_nil_of_length_eq_zero h0
    subst hy
    have hrun : (Builtin.append_ #[27, 27] ty #[v, .slice A 0 c]).run Try.prog w = .ok v w := by
      rcases ho.2 with ⟨rfl, hn⟩ | ⟨g, cap, cur, rfl, _, _, hnc, _⟩
      · cases A with
        | none => simp [Builtin.append_, run_underlying ht, sizeOf, typeInfo, hi, Builtin.lenOf, Builtin.firstCells]
        | some a => simp [Builtin.append_, run_underlying ht, sizeOf, typeInfo, hi, Builtin.lenOf, Builtin.firstCells, loadCells, loadCellsFrom]
      · cases A with
        | none => simp [Builtin.append_, run_underlying ht, sizeOf, typeInfo, hi, Builtin.lenOf, Builtin.firstCells, hnc, storeCells]
        | some a => simp [Builtin.append_, run_underlying ht, sizeOf, typeInfo, hi, Builtin.lenOf, Builtin.firstCells, hnc, storeCells, loadCells, loadCellsFrom]
    exact ⟨v, w, hrun, by rw [List.append_nil]; exact ho, World.grownBy.refl w _, .inl rfl⟩
  · obtain ⟨b, off, rfl, hb, _, hcc⟩ := hcell hp
    obtain ⟨v', w', hrun, h2, h3, _, h5⟩ := run_append_own_at (P := Try.prog) w B 27 ty 58 i _ 3 48 ht hi hi0 hi1 hi2 rfl (by omega) v L.length (flat3 L) ho ⟨b, off, none⟩ M.length c (flat3 M) (flat3_len M)
      (fun j u hj => by rw [Addr.add_lit]; exact hcc j u hj) (flat3_one M h1) (by unfold maxLen; omega) (by omega) hB
    exact ⟨v', w', hrun, by unfold OwF; rw [List.length_append, flat3_app]; exact h2, h3, h5⟩
/-- append, as one step of a region that draws its order -/
theorem step_appF {ops : Array Oper} {o : Oper} {a : Act} {K : Act → World → Prop} {Q : Exit → Act → World → Prop} {E : Prop} (hgd : o.guard = none) (s y : Operand)
    (ho : o.op = .call { callee := .builtin .append, args := #[s, y], argTypes := #[27, 27] })
    (hs : a.eval s = v) (hown : OwF w B v L) (hy : a.eval y = x) (hr : RdC w S x M) (h1 : ∀ f ∈ M, f.v.oneCell' = true) (hlen : L.length + M.length ≤ 1000000000) (hB : B ≤ w.heap.size)
    (hK : ∀ v' w', OwF w' B v' (L ++ M) → w.grownBy w' v.ownBlock → (v'.ownBlock = v.ownBlock ∨ v'.ownBlock = some w.heap.size) → K (a.put o.dst v') w') :
    if Region.wanted o (yielded ops a.tmps) = true then Oper.wp Try.prog o a w K Q else E := by
  have hw : Region.wanted o (yielded ops a.tmps) = true := by simp [Region.wanted, hgd]
  rw [if_pos hw]
  obtain ⟨v', w', hrun, h2, h3, h4⟩ := run_appF o.type hown hr h1 hlen hB
  unfold Oper.wp
  simp [execOp, ho, resolve, invoke, builtin, hs, hy, hrun, Result.andThen]
  exact hK v' w' h2 h3 h4
/-- append, in a walk -/
theorem wpList_appF {ops : Array Oper} {rest : List Oper} {o : Oper} {a : Act} {Q : Exit → Act → World → Prop} (hgd : o.guard = none) (s y : Operand)
    (ho : o.op = .call { callee := .builtin .append, args := #[s, y], argTypes := #[27, 27] })
    (hs : a.eval s = v) (hown : OwF w B v L) (hy : a.eval y = x) (hr : RdC w S x M) (h1 : ∀ f ∈ M, f.v.oneCell' = true) (hlen : L.length + M.length ≤ 1000000000) (hB : B ≤ w.heap.size)
    (h : ∀ v' w', OwF w' B v' (L ++ M) → w.grownBy w' v.ownBlock → (v'.ownBlock = v.ownBlock ∨ v'.ownBlock = some w.heap.size) → wpList Try.prog ops Q rest (a.put o.dst v') w') : wpList Try.prog ops Q (o :: rest) a w := by
  obtain ⟨v', w', hrun, h2, h3, h4⟩ := run_appF o.type hown hr h1 hlen hB
  refine wpList_plain hgd fun K hK => ?_
  unfold Oper.wp execOp
  simp only [ho, resolve, invoke, builtin, Sem.run_bind, Sem.run_pure, Result.andThen_ok, List.map_toArray, List.map_cons, List.map_nil, hs, hy, hrun]
  exact hK _ _ (h v' w' h2 h3 h4)
end
end Go.Proofs.Ytblejjjifokmgaa
