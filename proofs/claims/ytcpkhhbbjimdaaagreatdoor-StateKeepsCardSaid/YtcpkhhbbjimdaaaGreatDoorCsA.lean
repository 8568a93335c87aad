/- Slices of cells: how one reads ('RdL': in none of S's blocks), how the call's own ('OwL') grows by appends. copy, slices.Insert and slices.Clone of cells. The contract of slices.Clone of cells. Slices of slices of cells: read ('RdB'), and owned with all their rows ('OwB'). -/
import Derived.Test.YtcpkhhbbjimdaaaGreatDoorCpA
import Derived.Test.YtcpkhhbbjimdaaaGreatDoorBase
import Derived.Lib.Overlaps
import Derived.Lib.AppendZerosOnto
import Derived.Laws.CopyRow
set_option maxHeartbeats 8000000
set_option maxRecDepth 100000
namespace Go.Proofs.YtcpkhhbbjimdaaaGreatDoor.Ce
open Go.RowKit
def flat5 : List Cl → List Value
 | [] => []
 | f :: L => .string f.row :: .string f.col :: .int .i64 f.at_ :: .string f.val :: .bool f.gone :: flat5 L
theorem flat5_len : ∀ L : List Cl, (flat5 L).length = L.length * 5
 | [] => rfl
 | f :: L => by simp only [flat5, List.length_cons, flat5_len L]; omega
theorem flat5_app : ∀ A C : List Cl, flat5 (A ++ C) = flat5 A ++ flat5 C
 | [], _ => rfl
 | f :: A, C => by simp only [List.cons_append, flat5, flat5_app A C]
theorem flat5_at : ∀ {L : List Cl} {j : Nat} {f : Cl}, L[j]? = some f → ∀ (k : Nat) (v : Value), f.cs.toList[k]? = some v → (flat5 L)[j * 5 + k]? = some v
 | [], j, f, h => by simp at h
 | g :: L, 0, f, h => by
  simp only [List.getElem?_cons_zero, Option.some.injEq] at h
  subst h
  intro k v hv
  have hk : k < 5 := by
   have := (List.getElem?_eq_some_iff.1 hv).1
   simpa [Cl.cs] using this
  match k, hk with
  | 0, _ => exact hv
  | 1, _ => exact hv
  | 2, _ => exact hv
  | 3, _ => exact hv
  | 4, _ => exact hv
 | g :: L, j + 1, f, h => by
  rw [List.getElem?_cons_succ] at h
  intro k v hv
  have := flat5_at h k v hv
  rw [show (j + 1) * 5 + k = j * 5 + k + 5 by omega]
  exact this
theorem flat5_take : ∀ (L : List Cl) (k : Nat), flat5 (L.take k) = (flat5 L).take (k * 5)
 | [], k => by simp [flat5]
 | f :: L, 0 => by simp [flat5]
 | f :: L, k + 1 => by
  rw [List.take_succ_cons, flat5, flat5, flat5_take L k, show (k + 1) * 5 = k * 5 + 1 + 1 + 1 + 1 + 1 by omega]
  simp only [List.take_succ_cons]
theorem flat5_drop : ∀ (L : List Cl) (k : Nat), flat5 (L.drop k) = (flat5 L).drop (k * 5)
 | [], k => by simp [flat5]
 | f :: L, 0 => by simp
 | f :: L, k + 1 => by
  rw [List.drop_succ_cons, flat5, flat5_drop L k, show (k + 1) * 5 = k * 5 + 1 + 1 + 1 + 1 + 1 by omega]
  simp only [List.drop_succ_cons]
theorem flat5_one : ∀ (L : List Cl), One (flat5 L)
 | [] => fun u hu => by simp [flat5] at hu
 | f :: L => fun u hu => by
  simp only [flat5, List.mem_cons] at hu
  rcases hu with rfl | rfl | rfl | rfl | rfl | hu
  ·rfl
  ·rfl
  ·rfl
  ·rfl
  ·rfl
  ·exact flat5_one L u hu
def RdL (w : World) (S : List Nat) (v : Value) (L : List Cl) : Prop :=
 ∃ A c, v = .slice A L.length c ∧ L.length ≤ c ∧ c ≤ maxLen ∧ (0 < L.length → ∃ b off, A = some ⟨b, off, none⟩ ∧ b < w.heap.size ∧ b ∉ S ∧ ∀ i u, (flat5 L)[i]? = some u → w.cell? ⟨b, off + i, none⟩ = some u)
section
variable {w w' : World} {S S' : List Nat} {v : Value} {L : List Cl}
theorem RdL.up (h : RdL w S v L) (hk : Kp S w w') (hS : ∀ k ∈ S', k ∈ S ∨ w.heap.size ≤ k) : RdL w' S' v L := by
 obtain ⟨A, c, e, h1, h2, h3⟩ := h
 refine ⟨A, c, e, h1, h2, fun hp => ?_⟩
 obtain ⟨b, off, ea, hb, hn, hc⟩ := h3 hp
 refine ⟨b, off, ea, Nat.lt_of_lt_of_le hb hk.size, fun hm => ?_, fun i u hu => (World.cell?_of_block (w := w) (a := ⟨b, off + i, none⟩) (hk.block b hb hn)).trans (hc i u hu)⟩
 rcases hS b hm with h | h
 ·exact hn h
 ·omega
theorem RdL.bel (h : RdL w S v L) (hb : Below w.heap.size w w') : RdL w' S v L := h.up (Kp.of_below hb _) fun _ hk => .inl hk
theorem RdL.nil (w : World) (S : List Nat) : RdL w S (.slice none 0 0) [] := ⟨none, 0, rfl, Nat.le_refl _, by simp [maxLen], fun h => absurd h (by simp)⟩
theorem RdL.shape (h : RdL w S v L) : ∃ A c, v = .slice A L.length c ∧ L.length ≤ c ∧ c ≤ maxLen := by
 obtain ⟨A, c, e, h1, h2, _⟩ := h
 exact ⟨A, c, e, h1, h2⟩
theorem RdL.open_ {A : Option Addr} {n c : Nat} (h : RdL w S (.slice A n c) L) (hp : 0 < L.length) : ∃ b off, A = some ⟨b, off, none⟩ ∧ b < w.heap.size ∧ b ∉ S ∧ ∀ i u, (flat5 L)[i]? = some u → w.cell? ⟨b, off + i, none⟩ = some u := by
 obtain ⟨A', c', e, h1, h2, h3⟩ := h
 injection e with e1 e2 e3
 subst e1
 exact h3 hp
def FiveAt (b o : Nat) (f : Cl) (w : World) : Prop := w.cell? ⟨b, o, none⟩ = some (.string f.row) ∧ w.cell? ⟨b, o + 1, none⟩ = some (.string f.col) ∧ w.cell? ⟨b, o + 2, none⟩ = some (.int .i64 f.at_) ∧ w.cell? ⟨b, o + 3, none⟩ = some (.string f.val) ∧ w.cell? ⟨b, o + 4, none⟩ = some (.bool f.gone)
theorem RdL.at_ {b off n c k : Nat} {f : Cl} (h : RdL w S (.slice (some ⟨b, off, none⟩) n c) L) (hk : L[k]? = some f) : FiveAt b (off + k * 5) f w ∧ b < w.heap.size := by
 have hlt := (List.getElem?_eq_some_iff.1 hk).1
 obtain ⟨b', off', e, hb, _, hc⟩ := h.open_ (by omega)
 simp only [Option.some.injEq, Addr.mk.injEq, and_true] at e
 obtain ⟨rfl, rfl⟩ := e
 have h5 := flat5_at hk
 exact ⟨⟨hc _ _ (h5 0 _ rfl), hc _ _ (h5 1 _ rfl), hc _ _ (h5 2 _ rfl), hc _ _ (h5 3 _ rfl), hc _ _ (h5 4 _ rfl)⟩, hb⟩
theorem FiveAt.up {b o : Nat} {f : Cl} (h : FiveAt b o f w) (hb : b < w.heap.size) (hw : Below w.heap.size w w') : FiveAt b o f w' := by
 obtain ⟨h0, h1, h2, h3, h4⟩ := h
 exact ⟨(hw.cell (p := ⟨b, o, none⟩) hb).trans h0, (hw.cell (p := ⟨b, o + 1, none⟩) hb).trans h1, (hw.cell (p := ⟨b, o + 2, none⟩) hb).trans h2, (hw.cell (p := ⟨b, o + 3, none⟩) hb).trans h3, (hw.cell (p := ⟨b, o + 4, none⟩) hb).trans h4⟩
theorem FiveAt.all {b o : Nat} {f : Cl} (h : FiveAt b o f w) : ∀ (k : Nat) (v : Value), f.cs.toList[k]? = some v → w.cell? ((⟨b, o, none⟩ : Addr).add k) = some v := fun k v hv => by
 obtain ⟨h0, h1, h2, h3, h4⟩ := h
 rw [Addr.add_lit]
 have hk : k < 5 := by
  have := (List.getElem?_eq_some_iff.1 hv).1
  simpa [Cl.cs] using this
 match k, hk with
 | 0, _ => simp only [Cl.cs, List.getElem?_cons_zero, Option.some.injEq] at hv; rw [← hv]; exact h0
 | 1, _ => simp only [Cl.cs, List.getElem?_cons_zero, List.getElem?_cons_succ, Option.some.injEq] at hv; rw [← hv]; exact h1
 | 2, _ => simp only [Cl.cs, List.getElem?_cons_zero, List.getElem?_cons_succ, Option.some.injEq] at hv; rw [← hv]; exact h2
 | 3, _ => simp only [Cl.cs, List.getElem?_cons_zero, List.getElem?_cons_succ, Option.some.injEq] at hv; rw [← hv]; exact h3
 | 4, _ => simp only [Cl.cs, List.getElem?_cons_zero, List.getElem?_cons_succ, Option.some.injEq] at hv; rw [← hv]; exact h4
theorem RdL.to_ {A : Option Addr} {n c k : Nat} (h : RdL w S (.slice A n c) L) (hk : k ≤ L.length) : RdL w S (.slice A k c) (L.take k) := by
 obtain ⟨A', c', e, h1, h2, h3⟩ := h
 injection e with e1 e2 e3
 subst e1 e3
 have hl : (L.take k).length = k := by simp; omega
 refine ⟨A, c, by rw [hl], by omega, h2, fun hp => ?_⟩
 obtain ⟨b, off, ea, hb, hn, hc⟩ := h3 (by omega)
 refine ⟨b, off, ea, hb, hn, fun i u hu => hc i u ?_⟩
 rw [flat5_take, List.getElem?_take] at hu
 split at hu
 ·exact hu
 ·cases hu
theorem RdL.from_ {b off n c k : Nat} (h : RdL w S (.slice (some ⟨b, off, none⟩) n c) L) (hk : k ≤ L.length) : RdL w S (.slice (some ⟨b, off + k * 5, none⟩) (n - k) (c - k)) (L.drop k) := by
 obtain ⟨A', c', e, h1, h2, h3⟩ := h
 injection e with e1 e2 e3
 subst e1 e2 e3
 have hl : (L.drop k).length = L.length - k := by simp
 refine ⟨_, _, by rw [hl], by omega, by omega, fun hp => ?_⟩
 obtain ⟨b', off', ea, hb, hn, hc⟩ := h3 (by omega)
 simp only [Option.some.injEq, Addr.mk.injEq, and_true] at ea
 obtain ⟨rfl, rfl⟩ := ea
 refine ⟨b, off + k * 5, rfl, hb, hn, fun i u hu => ?_⟩
 rw [flat5_drop, List.getElem?_drop] at hu
 rw [Nat.add_assoc]
 exact hc _ _ hu
theorem RdL.none_ {A : Option Addr} {c : Nat} (hc : c ≤ maxLen) : RdL w S (.slice A 0 c) [] := ⟨A, c, rfl, by simp, hc, fun h => absurd h (by simp)⟩
theorem RdL.one (w : World) (S : List Nat) (f : Cl) (hS : w.heap.size ∉ S) (t : Nat) : RdL (w.alloc (.cells #[.string f.row, .string f.col, .int .i64 f.at_, .string f.val, .bool f.gone] t)) S (.slice (some ⟨w.heap.size, 0, none⟩) 1 1) [f] := by
 refine ⟨_, _, rfl, Nat.le_refl _, by simp [maxLen], fun _ => ⟨w.heap.size, 0, rfl, by simp, hS, fun i u hu => ?_⟩⟩
 rw [Nat.zero_add, cell_of_row _ w.heap.size i _ t (0, 0) (heap_alloc_new w _)]
 have : (#[Value.string f.row, .string f.col, .int .i64 f.at_, .string f.val, .bool f.gone] : Array Value).toList = flat5 [f] := rfl
 rw [← this] at hu
 simpa using hu
end
def OwL (w : World) (B : Nat) (v : Value) (L : List Cl) : Prop := w.ownsRow B 47 5 v L.length (flat5 L)
theorem cellInfo : (Tryz.prog.info? 47).map (fun i => (i.zero, i.size, i.bytes)) = some (some (.agg Cl.zero.cs), 5, 64) := by kernel_rfl
section
variable {w w' : World} {B : Nat} {v x : Value} {L M : List Cl} {S : List Nat}
theorem OwL.lt (h : OwL w B v L) : ∀ k, v.ownBlock = some k → B ≤ k ∧ k < w.heap.size := World.ownsRow.lt h
theorem OwL.empty (w : World) (hB : B ≤ w.heap.size) (t : Nat) (ht : t = 47) : OwL (w.alloc (.cells #[] t)) B (.slice (some ⟨w.heap.size, 0, none⟩) 0 0) [] := by
 subst ht
 exact ⟨rfl, .inr ⟨w.heap.size, 0, #[], rfl, hB, heap_alloc_new _ _, Nat.le_refl _, by simp [maxLen], rfl, rfl⟩⟩
theorem OwL.nil (w : World) (B : Nat) : OwL w B (.slice none 0 0) [] := ⟨rfl, .inl ⟨rfl, rfl⟩⟩
theorem OwL.below (h : OwL w B v L) (hb : Below w.heap.size w w') : OwL w' B v L := by
 obtain ⟨h1, h2⟩ := h
 refine ⟨h1, ?_⟩
 rcases h2 with h2 | ⟨g, cap, cur, hv, hg, hh, r⟩
 ·exact .inl h2
 ·exact .inr ⟨g, cap, cur, hv, hg, by rw [hb.block g (Array.getElem?_eq_some_iff.1 hh).1]; exact hh, r⟩
theorem OwL.mono {B' : Nat} (h : OwL w B v L) (hB : B' ≤ B) : OwL w B' v L := by
 obtain ⟨h1, h2⟩ := h
 refine ⟨h1, ?_⟩
 rcases h2 with h2 | ⟨g, cap, cur, hv, hg, r⟩
 ·exact .inl h2
 ·exact .inr ⟨g, cap, cur, hv, Nat.le_trans hB hg, r⟩
theorem OwL.rd (h : OwL w B v L) (hS : ∀ k ∈ S, k < B) : RdL w S v L := by
 obtain ⟨hl, h2⟩ := h
 rcases h2 with ⟨rfl, hn⟩ | ⟨g, cap, cur, rfl, hbg, hg, hnc, hcm, hcs, htake⟩
 ·have : L = [] := List.eq_nil_of_length_eq_zero hn
  subst this
  exact RdL.nil w S
 ·refine ⟨some ⟨g, 0, none⟩, cap, rfl, hnc, hcm, fun _ => ⟨g, 0, rfl, (Array.getElem?_eq_some_iff.1 hg).1, fun hm => by have := hS g hm; omega, fun i u hu => ?_⟩⟩
  rw [Nat.zero_add, cell_of_row w g i cur _ (0, 0) hg]
  rw [← htake, List.getElem?_take] at hu
  split at hu
  ·simpa using hu
  ·cases hu
theorem run_appW (ty : TypeId) (ho : OwL w B v L) (hr : RdL w S x M) (hlen : L.length + M.length ≤ 2199023255552) (hB : B ≤ w.heap.size) :
  ∃ v' w', (Builtin.append_ #[27, 27] ty #[v, x]).run Tryz.prog w = .ok v' w' ∧ OwL w' B v' (L ++ M) ∧ w.grownBy w' v.ownBlock ∧ (v'.ownBlock = v.ownBlock ∨ v'.ownBlock = some w.heap.size) := by
 obtain ⟨i, hi, hi0, hi1, hi2⟩ := info_parts cellInfo
 have ht := Tryz.underlying27
 obtain ⟨A, c, rfl, hc, hm, hcell⟩ := hr
 rcases Nat.eq_zero_or_pos M.length with h0 | hp
 ·have hy : M = [] := List.eq_nil_of_length_eq_zero h0
  subst hy
  have hrun : (Builtin.append_ #[27, 27] ty #[v, .slice A 0 c]).run Tryz.prog w = .ok v w := by
   rcases ho.2 with ⟨rfl, hn⟩ | ⟨g, cap, cur, rfl, _, _, hnc, _⟩
   ·cases A with
    | none => simp [Builtin.append_, run_underlying ht, sizeOf, typeInfo, hi, Builtin.lenOf, Builtin.firstCells]
    | some a => simp [Builtin.append_, run_underlying ht, sizeOf, typeInfo, hi, Builtin.lenOf, Builtin.firstCells, loadCells, loadCellsFrom]
   ·cases A with
    | none => simp [Builtin.append_, run_underlying ht, sizeOf, typeInfo, hi, Builtin.lenOf, Builtin.firstCells, hnc, storeCells]
    | some a => simp [Builtin.append_, run_underlying ht, sizeOf, typeInfo, hi, Builtin.lenOf, Builtin.firstCells, hnc, storeCells, loadCells, loadCellsFrom]
  exact ⟨v, w, hrun, by rw [List.append_nil]; exact ho, World.grownBy.refl w _, .inl rfl⟩
 ·obtain ⟨b, off, rfl, hb, _, hcc⟩ := hcell hp
  obtain ⟨v', w', hrun, h2, h3, _, h5⟩ := run_append_own_at (P := Tryz.prog) w B 27 ty 47 i _ 5 64 ht hi hi0 hi1 hi2 rfl (by omega) v L.length (flat5 L) ho ⟨b, off, none⟩ M.length c (flat5 M) (flat5_len M)
   (fun j u hj => by rw [Addr.add_lit]; exact hcc j u hj) (flat5_one M) (by unfold maxLen; omega) (by omega) hB
  exact ⟨v', w', hrun, by unfold OwL; rw [List.length_append, flat5_app]; exact h2, h3, h5⟩
theorem run_appL (ty : TypeId) (ho : OwL w B v L) (hr : RdL w S x M) (hlen : L.length + M.length ≤ 1000000000) (hB : B ≤ w.heap.size) :
  ∃ v' w', (Builtin.append_ #[27, 27] ty #[v, x]).run Tryz.prog w = .ok v' w' ∧ OwL w' B v' (L ++ M) ∧ w.grownBy w' v.ownBlock ∧ (v'.ownBlock = v.ownBlock ∨ v'.ownBlock = some w.heap.size) :=
 run_appW ty ho hr (by omega) hB
theorem step_appL {ops : Array Oper} {o : Oper} {a : Act} {K : Act → World → Prop} {Q : Exit → Act → World → Prop} {E : Prop} (hgd : o.guard = none) (s y : Operand)
  (ho : o.op = .call { callee := .builtin .append, args := #[s, y], argTypes := #[27, 27] })
  (hs : a.eval s = v) (hown : OwL w B v L) (hy : a.eval y = x) (hr : RdL w S x M) (hlen : L.length + M.length ≤ 1000000000) (hB : B ≤ w.heap.size)
  (hK : ∀ v' w', OwL w' B v' (L ++ M) → w.grownBy w' v.ownBlock → (v'.ownBlock = v.ownBlock ∨ v'.ownBlock = some w.heap.size) → K (a.put o.dst v') w') :
  if Region.wanted o (yielded ops a.tmps) = true then Oper.wp Tryz.prog o a w K Q else E := by
 have hw : Region.wanted o (yielded ops a.tmps) = true := by simp [Region.wanted, hgd]
 rw [if_pos hw]
 obtain ⟨v', w', hrun, h2, h3, h4⟩ := run_appL o.type hown hr hlen hB
 unfold Oper.wp
 simp [execOp, ho, resolve, invoke, builtin, hs, hy, hrun, Result.andThen]
 exact hK v' w' h2 h3 h4
end
theorem boxCells {W X : World} {b : Nat} {f : Cl} (h : InC b f W) (hk : X.heap[b]? = W.heap[b]?) : Five b f X := (InC.mk (hk.trans h.h)).five
end Go.Proofs.YtcpkhhbbjimdaaaGreatDoor.Ce
namespace Go.Proofs.YtcpkhhbbjimdaaaGreatDoor.Ce
open Go.RowKit
structure Turned (g : Nat) (cur : Array Value) (w w' : World) : Prop where
 i : w'.heap[g]? = some (.cells cur 47 (0, 0))
 b : Below g w w'
 z : w'.heap.size = w.heap.size
 o : ∀ k, k ≠ g → w'.heap[k]? = w.heap[k]?
theorem Turned.of {g : Nat} {cur0 : Array Value} {w : World} (cur : Array Value) (hg : w.heap[g]? = some (.cells cur0 47 (0, 0))) : Turned g cur w (w.setRow g cur) :=
 ⟨setRow_heap w g cur0 cur _ _ hg, below_setRow (Below.refl _ _) (Nat.le_refl _) _, by simp, fun k hk => setRow_other _ _ _ _ hk⟩
theorem Turned.grown {g : Nat} {cur : Array Value} {w w' : World} (h : Turned g cur w w') : w.grownBy w' (some g) :=
 ⟨h.b.os, h.b.tape, h.b.output, by rw [h.z]; exact Nat.le_refl _, fun k _ hk => h.o k fun e => hk (by rw [e])⟩
theorem Turned.grown2 {g : Nat} {cur cur2 : Array Value} {w w' w2 : World} (h : Turned g cur w.drew w') (h2 : Turned g cur2 w' w2) : w.grownBy w2 (some g) :=
 ⟨h2.b.os.trans h.b.os, h2.b.tape.trans h.b.tape, h2.b.output.trans h.b.output, by rw [h2.z, h.z]; exact Nat.le_refl _, fun k _ hk => (h2.o k fun e => hk (by rw [e])).trans (h.o k fun e => hk (by rw [e]))⟩
theorem Turned.other {g k : Nat} {c : Cl} {cur : Array Value} {w w' : World} (h : Turned g cur w w') (h0 : InC k c w) (hk : k ≠ g) : InC k c w' := ⟨(h.o k hk).trans h0.h⟩
section
variable {w : World} {g o dLen dCap sLen sCap : Nat} {ad : Addr} {cur : Array Value} {M : List Cl}
def cpd (cur : Array Value) (o : Nat) (M : List Cl) : Array Value := (cur.toList.take o ++ flat5 M ++ cur.toList.drop (o + M.length * 5)).toArray
theorem cpd_size (hfit : o + M.length * 5 ≤ cur.size) : (cpd cur o M).size = cur.size := by
 unfold cpd
 simp [flat5_len]
 omega
theorem run_copyL (ty : TypeId) (hg : w.heap[g]? = some (.cells cur 47 (0, 0))) (hn : M.length = Nat.min sLen dLen)
  (hsrc : ∀ j v, (flat5 M)[j]? = some v → w.cell? (ad.add j) = some v) (hfit : o + M.length * 5 ≤ cur.size) :
  (Builtin.copy_ #[27, 27] ty #[.slice (some ⟨g, o, none⟩) dLen dCap, .slice (some ad) sLen sCap]).run Tryz.prog w = .ok (goInt M.length) (w.setRow g (cpd cur o M)) := by
 obtain ⟨i, hi, hi0, hi1, hi2⟩ := info_parts cellInfo
 have hl := run_loadCells_list (P := Tryz.prog) w ad (flat5 M) hsrc
 have hst := run_storeCells_at Tryz.prog g o 47 (flat5 M) 0 cur w hg (by rw [flat5_len]; simpa using hfit) (flat5_one M)
 rw [flat5_len] at hl hst
 simp [Builtin.copy_, run_underlying Tryz.underlying27, Builtin.lenOf, Builtin.firstCells, sizeOf, typeInfo, hi, hi1, ← hn, hl, hst, cpd]
theorem wpList_copyL {ops : Array Oper} {rest : List Oper} {p : Oper} {a : Act} {Q : Exit → Act → World → Prop} (hgd : p.guard = none) (d s : Operand)
  (ho : p.op = .call { callee := .builtin .copy, args := #[d, s], argTypes := #[27, 27] }) (hd : a.eval d = .slice (some ⟨g, o, none⟩) dLen dCap) (hs : a.eval s = .slice (some ad) sLen sCap)
  (hg : w.heap[g]? = some (.cells cur 47 (0, 0))) (hn : M.length = Nat.min sLen dLen) (hsrc : ∀ j v, (flat5 M)[j]? = some v → w.cell? (ad.add j) = some v) (hfit : o + M.length * 5 ≤ cur.size)
  (h : ∀ w', Turned g (cpd cur o M) w w' → wpList Tryz.prog ops Q rest (a.put p.dst (goInt M.length)) w') : wpList Tryz.prog ops Q (p :: rest) a w := by
 have hrun := run_copyL (dCap := dCap) (sCap := sCap) p.type hg hn hsrc hfit
 refine wpList_plain hgd fun K hK => ?_
 unfold Oper.wp execOp
 simp only [ho, resolve, invoke, builtin, Sem.run_bind, Sem.run_pure, Result.andThen_ok, List.map_toArray, List.map_cons, List.map_nil, hd, hs, hrun]
 exact hK _ _ (h _ (Turned.of _ hg))
theorem step_copyL {ops : Array Oper} {p : Oper} {a : Act} {K : Act → World → Prop} {Q : Exit → Act → World → Prop} {E : Prop} (hgd : p.guard = none) (d s : Operand)
  (ho : p.op = .call { callee := .builtin .copy, args := #[d, s], argTypes := #[27, 27] }) (hd : a.eval d = .slice (some ⟨g, o, none⟩) dLen dCap) (hs : a.eval s = .slice (some ad) sLen sCap)
  (hg : w.heap[g]? = some (.cells cur 47 (0, 0))) (hn : M.length = Nat.min sLen dLen) (hsrc : ∀ j v, (flat5 M)[j]? = some v → w.cell? (ad.add j) = some v) (hfit : o + M.length * 5 ≤ cur.size)
  (h : ∀ w', Turned g (cpd cur o M) w w' → K (a.put p.dst (goInt M.length)) w') : if Region.wanted p (yielded ops a.tmps) = true then Oper.wp Tryz.prog p a w K Q else E := by
 have hw : Region.wanted p (yielded ops a.tmps) = true := by simp [Region.wanted, hgd]
 rw [if_pos hw]
 have hrun := run_copyL (dCap := dCap) (sCap := sCap) p.type hg hn hsrc hfit
 unfold Oper.wp
 simp [execOp, ho, resolve, invoke, builtin, hd, hs, hrun, Result.andThen]
 exact h _ (Turned.of _ hg)
theorem wpList_appL {v x : Value} {L M : List Cl} {B : Nat} {S : List Nat} {ops : Array Oper} {rest : List Oper} {p : Oper} {a : Act} {Q : Exit → Act → World → Prop} (hgd : p.guard = none) (s y : Operand)
  (ho : p.op = .call { callee := .builtin .append, args := #[s, y], argTypes := #[27, 27] })
  (hs : a.eval s = v) (hown : OwL w B v L) (hy : a.eval y = x) (hr : RdL w S x M) (hlen : L.length + M.length ≤ 2199023255552) (hB : B ≤ w.heap.size)
  (h : ∀ v' w', OwL w' B v' (L ++ M) → w.grownBy w' v.ownBlock → (v'.ownBlock = v.ownBlock ∨ v'.ownBlock = some w.heap.size) → wpList Tryz.prog ops Q rest (a.put p.dst v') w') : wpList Tryz.prog ops Q (p :: rest) a w := by
 obtain ⟨v', w', hrun, h2, h3, h4⟩ := run_appW p.type hown hr hlen hB
 refine wpList_plain hgd fun K hK => ?_
 unfold Oper.wp execOp
 simp only [ho, resolve, invoke, builtin, Sem.run_bind, Sem.run_pure, Result.andThen_ok, List.map_toArray, List.map_cons, List.map_nil, hs, hy, hrun]
 exact hK _ _ (h v' w' h2 h3 h4)
end
def ins (i : Nat) (f : Cl) (L : List Cl) : List Cl := L.take i ++ f :: L.drop i
theorem ins_len {i : Nat} {f : Cl} {L : List Cl} (h : i ≤ L.length) : (ins i f L).length = L.length + 1 := by unfold ins; simp; omega
theorem flat5_ins (i : Nat) (f : Cl) (L : List Cl) : flat5 (ins i f L) = flat5 (L.take i) ++ (flat5 [f] ++ flat5 (L.drop i)) := by
 unfold ins
 rw [flat5_app, show f :: L.drop i = [f] ++ L.drop i from rfl, flat5_app]
theorem cpd_room {cur : Array Value} {L : List Cl} {f : Cl} {i cap : Nat} (hi : i ≤ L.length) (hc : L.length + 1 ≤ cap) (hcs : cur.size = cap * 5) (ht : cur.toList.take (L.length * 5) = flat5 L) :
  (cpd (cpd cur ((i + 1) * 5) (L.drop i)) (i * 5) [f]).size = cap * 5 ∧ (cpd (cpd cur ((i + 1) * 5) (L.drop i)) (i * 5) [f]).toList.take ((L.length + 1) * 5) = flat5 (ins i f L) := by
 have hl : cur.toList.length = cap * 5 := by simpa using hcs
 generalize hxs : cur.toList = xs at *
 have hd : (flat5 (L.drop i)).length = (L.length - i) * 5 := by rw [flat5_len]; simp
 have h5 : (flat5 [f]).length = 5 := rfl
 have ha : xs.take (i * 5) = flat5 (L.take i) := by
  rw [flat5_take, ← ht, List.take_take, Nat.min_eq_left (by omega)]
 have e1 : (cpd cur ((i + 1) * 5) (L.drop i)).toList = xs.take ((i + 1) * 5) ++ flat5 (L.drop i) ++ xs.drop ((i + 1) * 5 + (L.drop i).length * 5) := by unfold cpd; rw [hxs]
 have e2 : (cpd (cpd cur ((i + 1) * 5) (L.drop i)) (i * 5) [f]).toList = flat5 (L.take i) ++ flat5 [f] ++ (flat5 (L.drop i) ++ xs.drop ((i + 1) * 5 + (L.drop i).length * 5)) := by
  unfold cpd
  rw [show (cur.toList.take ((i + 1) * 5) ++ flat5 (L.drop i) ++ cur.toList.drop ((i + 1) * 5 + (L.drop i).length * 5)).toArray.toList = xs.take ((i + 1) * 5) ++ flat5 (L.drop i) ++ xs.drop ((i + 1) * 5 + (L.drop i).length * 5) by rw [hxs]]
  have t1 : (xs.take ((i + 1) * 5) ++ flat5 (L.drop i) ++ xs.drop ((i + 1) * 5 + (L.drop i).length * 5)).take (i * 5) = flat5 (L.take i) := by
   rw [List.append_assoc, List.take_append_of_le_length (by simp; omega), List.take_take, Nat.min_eq_left (by omega), ha]
  have t2 : (xs.take ((i + 1) * 5) ++ flat5 (L.drop i) ++ xs.drop ((i + 1) * 5 + (L.drop i).length * 5)).drop (i * 5 + [f].length * 5) = flat5 (L.drop i) ++ xs.drop ((i + 1) * 5 + (L.drop i).length * 5) := by
   rw [List.append_assoc, List.drop_append, List.drop_of_length_le (by simp; omega), List.nil_append, show i * 5 + [f].length * 5 - (xs.take ((i + 1) * 5)).length = 0 by simp; omega, List.drop_zero]
  rw [t1, t2]
 refine ⟨?_, ?_⟩
 ·have := congrArg List.length e2
  rw [Array.length_toList] at this
  rw [this]
  simp only [List.length_append, hd, h5, List.length_drop, flat5_len, List.length_take]
  omega
 ·rw [e2, flat5_ins, List.append_assoc, ← List.append_assoc (flat5 [f]), ← List.append_assoc, List.take_append_of_le_length, List.take_of_length_le]
  ·simp only [List.length_append, hd, h5, flat5_len, List.length_take]
   omega
  ·simp only [List.length_append, hd, h5, flat5_len, List.length_take]
   omega
end Go.Proofs.YtcpkhhbbjimdaaaGreatDoor.Ce
namespace Go.Proofs.YtcpkhhbbjimdaaaGreatDoor.Ce
open Go.RowKit
theorem cloneL_any (v : Value) (L : List Cl) (w : World) (S : List Nat) (hr : RdL w S v L) (hl : L.length ≤ 1000000) :
  Calls Tryz.prog 60 #[v] w fun e w' => (∃ x, e = .returned x ∧ OwL w' w.heap.size x L) ∧ Below w.heap.size w w' := by
 obtain ⟨A, c, rfl, hc, hm⟩ := hr.shape
 have qT : ∀ (w : World) (a : Option Addr) (n c n' c' : Nat), (binOp .eql 27 (.slice a n c) (.slice none n' c')).run Tryz.prog w = .ok (.bool a.isNone) w := fun w a n c n' c' => Lib.run_eql_slice_nil w _ _ a n c n' c' Tryz.underlying27
 cases A with
 | none =>
  have h0 : L = [] := by
   rcases Nat.eq_zero_or_pos L.length with h | h
   ·exact List.eq_nil_of_length_eq_zero h
   ·obtain ⟨b, off, e, -⟩ := hr.open_ h
    cases e
  subst h0
  go_enter Tryz.func60, Tryz.ntmps60
  go_wp2_with fail
  go_ret
  exact ⟨⟨_, rfl, OwL.nil _ _⟩, Below.refl _ _⟩
 | some a =>
  have hr1 := hr.bel (bwalloc (bwrefl w) (.cells #[] 47))
  have hl1 : ([] : List Cl).length + L.length ≤ 2199023255552 := by simp; omega
  go_enter Tryz.func60, Tryz.ntmps60
  go_wp2_with (at_builtin; refine wpList_appL rfl (.tmp 5) (.tmp 6) rfl rfl (OwL.empty w (Nat.le_refl _) _ rfl) rfl hr1 hl1 (by simp) ?_; intro v2 w2 ho2 hg2 _; have hB2 : Below w.heap.size w w2 := (bwalloc (Below.refl _ _) _).grown hg2 (by simp) (fun k hk => ((OwL.empty w (Nat.le_refl _) _ rfl).lt k hk).1))
  go_ret
  exact ⟨⟨_, rfl, ho2⟩, hB2⟩
end Go.Proofs.YtcpkhhbbjimdaaaGreatDoor.Ce
namespace Go.Proofs.YtcpkhhbbjimdaaaGreatDoor.Ce
open Go.RowKit
theorem rowsC_T : ET Tryz.prog 92 27 (.slice none 0 0) 24 := ⟨Tryz.underlying92, by kernel_rfl⟩
def RdB (w : World) (v : Value) (LL : List (List Cl)) : Prop :=
 ∃ vs : List Value, Rd w w.heap.size v vs ∧ vs.length = LL.length ∧ ∀ (j : Nat) (u : Value) (L : List Cl), vs[j]? = some u → LL[j]? = some L → RdL w [] u L
section
variable {w w' : World} {v : Value} {LL : List (List Cl)}
theorem RdB.bel (h : RdB w v LL) (hb : Below w.heap.size w w') : RdB w' v LL := by
 obtain ⟨vs, h1, h2, h3⟩ := h
 exact ⟨vs, h1.up hb, h2, fun j u L hu hL => (h3 j u L hu hL).bel hb⟩
theorem RdB.shape (h : RdB w v LL) : ∃ A c, v = .slice A LL.length c ∧ LL.length ≤ c ∧ c ≤ maxLen := by
 obtain ⟨vs, h1, h2, -⟩ := h
 rw [← h2]
 exact h1.shape
theorem RdB.open_ {A : Option Addr} {n c : Nat} (h : RdB w (.slice A n c) LL) (hp : 0 < LL.length) : ∃ b off, A = some ⟨b, off, none⟩ ∧ b < w.heap.size := by
 obtain ⟨vs, h1, h2, -⟩ := h
 obtain ⟨b, off, c', e, -, -, hb, -⟩ := h1.at_ (by omega)
 injection e with e1 _ _
 exact ⟨b, off, e1, hb⟩
theorem RdB.row {b off n c j : Nat} {L : List Cl} (h : RdB w (.slice (some ⟨b, off, none⟩) n c) LL) (hj : LL[j]? = some L) :
  ∃ A' c', w.cell? ⟨b, off + j, none⟩ = some (.slice A' L.length c') ∧ L.length ≤ c' ∧ c' ≤ maxLen ∧ RdL w [] (.slice A' L.length c') L := by
 obtain ⟨vs, h1, h2, h3⟩ := h
 have hjl := (List.getElem?_eq_some_iff.1 hj).1
 obtain ⟨b', off', c', e, -, -, hb, hc⟩ := h1.at_ (by omega)
 injection e with e1 _ _
 simp only [Option.some.injEq, Addr.mk.injEq, and_true] at e1
 obtain ⟨rfl, rfl⟩ := e1
 have hu : vs[j]? = some (vs[j]'(by omega)) := List.getElem?_eq_getElem _
 have hr := h3 j _ L hu hj
 have hcj := hc j _ hu
 obtain ⟨A', c', e', k1, k2⟩ := hr.shape
 rw [e'] at hcj hr
 exact ⟨A', c', hcj, k1, k2, hr⟩
end
structure OwB (w : World) (B : Nat) (v : Value) (vs : List Value) (LL : List (List Cl)) : Prop where
 out : Ow w B 27 v vs
 len : vs.length = LL.length
 row : ∀ (j : Nat) (u : Value) (L : List Cl), vs[j]? = some u → LL[j]? = some L → OwL w B u L
section
variable {w w' : World} {B : Nat} {v u : Value} {vs : List Value} {LL : List (List Cl)} {L : List Cl}
theorem OwB.nil (w : World) (B : Nat) : OwB w B (.slice none 0 0) [] [] := ⟨Ow.nil _ _ _, rfl, fun j u L h => by simp at h⟩
theorem OwB.below (h : OwB w B v vs LL) (hb : Below w.heap.size w w') : OwB w' B v vs LL := ⟨h.out.below hb, h.len, fun j u L hu hL => (h.row j u L hu hL).below hb⟩
theorem OwB.mono {B' : Nat} (h : OwB w B v vs LL) (hB : B' ≤ B) : OwB w B' v vs LL := ⟨h.out.mono hB, h.len, fun j u L hu hL => (h.row j u L hu hL).mono hB⟩
theorem OwB.rd (h : OwB w B v vs LL) : RdB w v LL := ⟨vs, h.out.rd, h.len, fun j u L hu hL => (h.row j u L hu hL).rd (fun _ h => by cases h)⟩
theorem ow_apart {xs : List Value} (h : Ow w B 27 v xs) (hr : OwL w B u L) : ∀ k, u.ownBlock = some k → v.ownBlock ≠ some k := fun k hk hv => by
 rcases h.2 with ⟨rfl, -⟩ | ⟨g, cap, cur, rfl, -, hg, -⟩
 ·cases hv
 ·rcases hr.2 with ⟨rfl, -⟩ | ⟨g', cap', cur', rfl, -, hg', -⟩
  ·cases hk
  ·have e1 : g' = k := by injection hk
   have e2 : g = k := by injection hv
   subst e1 e2
   rw [hg] at hg'
   injection hg' with hg'
   injection hg' with _ ht _
   exact absurd ht (by decide)
theorem OwL.keptR (h : OwL w B u L) {row : Option Nat} (hg : w.grownBy w' row) (ho : ∀ k, u.ownBlock = some k → row ≠ some k) : OwL w' B u L := by
 obtain ⟨h1, h2⟩ := h
 refine ⟨h1, ?_⟩
 rcases h2 with h2 | ⟨g, cap, cur, rfl, hgB, hh, r⟩
 ·exact .inl h2
 ·have hl := (Array.getElem?_eq_some_iff.1 hh).1
  exact .inr ⟨g, cap, cur, rfl, hgB, by rw [hg.block g hl fun e => ho g rfl e.symm]; exact hh, r⟩
theorem OwB.push {v' : Value} (h : OwB w B v vs LL) (hu : OwL w B u L) (ho : Ow w' B 27 v' (vs ++ [u])) (hg : w.grownBy w' v.ownBlock) : OwB w' B v' (vs ++ [u]) (LL ++ [L]) := by
 refine ⟨ho, by simp [h.len], fun j x M hx hM => ?_⟩
 by_cases hj : j < vs.length
 ·rw [List.getElem?_append_left hj] at hx
  rw [List.getElem?_append_left (by rw [← h.len]; exact hj)] at hM
  have hr := h.row j x M hx hM
  exact hr.keptR hg (ow_apart h.out hr)
 ·rw [List.getElem?_append_right (by omega)] at hx
  rw [List.getElem?_append_right (by rw [← h.len]; omega)] at hM
  have h0 : j - vs.length = 0 := by
   have := (List.getElem?_eq_some_iff.1 hx).1
   simp at this
   omega
  rw [h0] at hx
  rw [show j - LL.length = 0 by rw [← h.len]; exact h0] at hM
  obtain rfl : u = x := by simpa using hx
  obtain rfl : L = M := by simpa using hM
  exact hu.keptR hg (ow_apart h.out hu)
theorem OwL.oneV (hu : OwL w B u L) : u.oneCell' = true := by
 obtain ⟨A, c, rfl, -, -⟩ := (hu.rd (S := []) (fun _ h => by cases h)).shape
 rfl
theorem OwL.oneR (hu : OwL w B u L) : One [u] := fun x hx => by rw [List.mem_singleton.1 hx]; exact hu.oneV
theorem run_pushB (ty : TypeId) {g D : Nat} (h : OwB w B v vs LL) (hu : OwL w B u L) (hr : Rd w D (.slice (some ⟨g, 0, none⟩) 1 1) [u]) (hl : LL.length ≤ 1000000000) (hB : B ≤ w.heap.size) :
  ∃ v' w', (Builtin.append_ #[92, 92] ty #[v, .slice (some ⟨g, 0, none⟩) 1 1]).run Tryz.prog w = .ok v' w' ∧ OwB w' B v' (vs ++ [u]) (LL ++ [L]) ∧ w.grownBy w' v.ownBlock ∧ (v'.ownBlock = v.ownBlock ∨ v'.ownBlock = some w.heap.size) := by
 have hvl := h.len
 obtain ⟨v', w', hrun, h2, h3, h4⟩ := run_app (P := Tryz.prog) rowsC_T rfl ty h.out hr hu.oneR (by simp [maxLen]; omega) (by simp; omega) hB
 exact ⟨v', w', hrun, h.push hu h2 h3, h3, h4⟩
theorem step_pushB {ops : Array Oper} {o : Oper} {a : Act} {K : Act → World → Prop} {Q : Exit → Act → World → Prop} {E : Prop} (hgd : o.guard = none) (s y : Operand)
  (ho : o.op = .call { callee := .builtin .append, args := #[s, y], argTypes := #[92, 92] })
  (hs : a.eval s = v) (h : OwB w B v vs LL) (hu : OwL w B u L) {g D : Nat} (hy : a.eval y = .slice (some ⟨g, 0, none⟩) 1 1) (hr : Rd w D (.slice (some ⟨g, 0, none⟩) 1 1) [u]) (hl : LL.length ≤ 1000000000) (hB : B ≤ w.heap.size)
  (hK : ∀ v' w', OwB w' B v' (vs ++ [u]) (LL ++ [L]) → w.grownBy w' v.ownBlock → K (a.put o.dst v') w') :
  if Region.wanted o (yielded ops a.tmps) = true then Oper.wp Tryz.prog o a w K Q else E := by
 have hw : Region.wanted o (yielded ops a.tmps) = true := by simp [Region.wanted, hgd]
 rw [if_pos hw]
 obtain ⟨v', w', hrun, h2, h3, -⟩ := run_pushB o.type h hu hr hl hB
 unfold Oper.wp
 simp [execOp, ho, resolve, invoke, builtin, hs, hy, hrun, Result.andThen]
 exact hK v' w' h2 h3
theorem wpList_pushB {ops : Array Oper} {rest : List Oper} {o : Oper} {a : Act} {Q : Exit → Act → World → Prop} (hgd : o.guard = none) (s y : Operand)
  (ho : o.op = .call { callee := .builtin .append, args := #[s, y], argTypes := #[92, 92] })
  (hs : a.eval s = v) (h : OwB w B v vs LL) (hu : OwL w B u L) {g D : Nat} (hy : a.eval y = .slice (some ⟨g, 0, none⟩) 1 1) (hr : Rd w D (.slice (some ⟨g, 0, none⟩) 1 1) [u]) (hl : LL.length ≤ 1000000000) (hB : B ≤ w.heap.size)
  (hK : ∀ v' w', OwB w' B v' (vs ++ [u]) (LL ++ [L]) → w.grownBy w' v.ownBlock → wpList Tryz.prog ops Q rest (a.put o.dst v') w') : wpList Tryz.prog ops Q (o :: rest) a w := by
 obtain ⟨v', w', hrun, h2, h3, -⟩ := run_pushB o.type h hu hr hl hB
 refine wpList_plain hgd fun K hKK => ?_
 unfold Oper.wp execOp
 simp only [ho, resolve, invoke, builtin, Sem.run_bind, Sem.run_pure, Result.andThen_ok, List.map_toArray, List.map_cons, List.map_nil, hs, hy, hrun]
 exact hKK _ _ (hK v' w' h2 h3)
end
end Go.Proofs.YtcpkhhbbjimdaaaGreatDoor.Ce
