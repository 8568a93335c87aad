/- Slices of cells: how one reads ('RdL': in none of S's blocks), how the call's own ('OwL') grows by appends. copy, slices.Insert and slices.Clone of cells. The contract of slices.Clone of cells. Slices of slices of cells: read ('RdB'), and owned with all their rows ('OwB'). -/
import Derived.Test.YtpmlfhgdhnofbaaCpA
import Derived.Test.YtpmlfhgdhnofbaaBase
import Derived.Lib.Overlaps
import Derived.Lib.AppendZerosOnto
import Derived.Laws.CopyRow
namespace Go.Proofs.Ytpmlfhgdhnofbaa.Ce
open Go.RowKit
def flat5 : List Cl → List Value
 | [] => []
 | f :: L => .string f.row :: .string f.col :: .int .i64 f.at_ :: .string f.val :: .bool f.gone :: flat5 L
theorem flat5_len : ∀ L : List Cl, (flat5 L).length = L.length * 5
 | [] => rfl
 | f :: L => by simp only [flat5, List.length_cons, flat5_len L]; omega
theorem flat5_at : ∀ {L : List Cl} {j : Nat} {f : Cl}, L[j]? = some f → ∀ (k : Nat) (v : Value), f.cs.toList[k]? = some v → (flat5 L)[j * 5 + k]? = some v
 | [], j, f, h => by simp at h
 | g :: L, 0, f, h => by
  simp only [List.getElem?_cons_zero, Option.some.injEq] at h
  subst h
  intro k v hv
  have hk : k < 5 := by
   have := (List.getElem?_eq_some_iff.1 hv).1
   simpa [Cl.cs] using this
  match k, hk with
  | 0, _ => exact hv
  | 1, _ => exact hv
  | 2, _ => exact hv
  | 3, _ => exact hv
  | 4, _ => exact hv
 | g :: L, j + 1, f, h => by
  rw [List.getElem?_cons_succ] at h
  intro k v hv
  have := flat5_at h k v hv
  rw [show (j + 1) * 5 + k = j * 5 + k + 5 by omega]
  exact this
theorem flat5_take : ∀ (L : List Cl) (k : Nat), flat5 (L.take k) = (flat5 L).take (k * 5)
 | [], k => by simp [flat5]
 | f :: L, 0 => by simp [flat5]
 | f :: L, k + 1 => by
  rw [List.take_succ_cons, flat5, flat5, flat5_take L k, show (k + 1) * 5 = k * 5 + 1 + 1 + 1 + 1 + 1 by omega]
  simp only [List.take_succ_cons]
theorem flat5_drop : ∀ (L : List Cl) (k : Nat), flat5 (L.drop k) = (flat5 L).drop (k * 5)
 | [], k => by simp [flat5]
 | f :: L, 0 => by simp
 | f :: L, k + 1 => by
  rw [List.drop_succ_cons, flat5, flat5_drop L k, show (k + 1) * 5 = k * 5 + 1 + 1 + 1 + 1 + 1 by omega]
  simp only [List.drop_succ_cons]
def RdL (w : World) (S : List Nat) (v : Value) (L : List Cl) : Prop :=
 ∃ A c, v = .slice A L.length c ∧ L.length ≤ c ∧ c ≤ maxLen ∧ (0 < L.length → ∃ b off, A = some ⟨b, off, none⟩ ∧ b < w.heap.size ∧ b ∉ S ∧ ∀ i u, (flat5 L)[i]? = some u → w.cell? ⟨b, off + i, none⟩ = some u)
section
variable {w w' : World} {S S' : List Nat} {v : Value} {L : List Cl}
theorem RdL.up (h : RdL w S v L) (hk : Kp S w w') (hS : ∀ k ∈ S', k ∈ S ∨ w.heap.size ≤ k) : RdL w' S' v L := by
 obtain ⟨A, c, e, h1, h2, h3⟩ := h
 refine ⟨A, c, e, h1, h2, fun hp => ?_⟩
 obtain ⟨b, off, ea, hb, hn, hc⟩ := h3 hp
 refine ⟨b, off, ea, Nat.lt_of_lt_of_le hb hk.size, fun hm => ?_, fun i u hu => (World.cell?_of_block (w := w) (a := ⟨b, off + i, none⟩) (hk.block b hb hn)).trans (hc i u hu)⟩
 rcases hS b hm with h | h
 ·exact hn h
 ·omega
theorem RdL.bel (h : RdL w S v L) (hb : Below w.heap.size w w') : RdL w' S v L := h.up (Kp.of_below hb _) fun _ hk => .inl hk
theorem RdL.nil (w : World) (S : List Nat) : RdL w S (.slice none 0 0) [] := ⟨none, 0, rfl, Nat.le_refl _, by simp [maxLen], fun h => absurd h (by simp)⟩
theorem RdL.shape (h : RdL w S v L) : ∃ A c, v = .slice A L.length c ∧ L.length ≤ c ∧ c ≤ maxLen := by
 obtain ⟨A, c, e, h1, h2, _⟩ := h
 exact ⟨A, c, e, h1, h2⟩
theorem RdL.open_ {A : Option Addr} {n c : Nat} (h : RdL w S (.slice A n c) L) (hp : 0 < L.length) : ∃ b off, A = some ⟨b, off, none⟩ ∧ b < w.heap.size ∧ b ∉ S ∧ ∀ i u, (flat5 L)[i]? = some u → w.cell? ⟨b, off + i, none⟩ = some u := by
 obtain ⟨A', c', e, h1, h2, h3⟩ := h
 injection e with e1 e2 e3
 subst e1
 exact h3 hp
def FiveAt (b o : Nat) (f : Cl) (w : World) : Prop := w.cell? ⟨b, o, none⟩ = some (.string f.row) ∧ w.cell? ⟨b, o + 1, none⟩ = some (.string f.col) ∧ w.cell? ⟨b, o + 2, none⟩ = some (.int .i64 f.at_) ∧ w.cell? ⟨b, o + 3, none⟩ = some (.string f.val) ∧ w.cell? ⟨b, o + 4, none⟩ = some (.bool f.gone)
theorem RdL.at_ {b off n c k : Nat} {f : Cl} (h : RdL w S (.slice (some ⟨b, off, none⟩) n c) L) (hk : L[k]? = some f) : FiveAt b (off + k * 5) f w ∧ b < w.heap.size := by
 have hlt := (List.getElem?_eq_some_iff.1 hk).1
 obtain ⟨b', off', e, hb, _, hc⟩ := h.open_ (by omega)
 simp only [Option.some.injEq, Addr.mk.injEq, and_true] at e
 obtain ⟨rfl, rfl⟩ := e
 have h5 := flat5_at hk
 exact ⟨⟨hc _ _ (h5 0 _ rfl), hc _ _ (h5 1 _ rfl), hc _ _ (h5 2 _ rfl), hc _ _ (h5 3 _ rfl), hc _ _ (h5 4 _ rfl)⟩, hb⟩
theorem FiveAt.up {b o : Nat} {f : Cl} (h : FiveAt b o f w) (hb : b < w.heap.size) (hw : Below w.heap.size w w') : FiveAt b o f w' := by
 obtain ⟨h0, h1, h2, h3, h4⟩ := h
 exact ⟨(hw.cell (p := ⟨b, o, none⟩) hb).trans h0, (hw.cell (p := ⟨b, o + 1, none⟩) hb).trans h1, (hw.cell (p := ⟨b, o + 2, none⟩) hb).trans h2, (hw.cell (p := ⟨b, o + 3, none⟩) hb).trans h3, (hw.cell (p := ⟨b, o + 4, none⟩) hb).trans h4⟩
theorem FiveAt.all {b o : Nat} {f : Cl} (h : FiveAt b o f w) : ∀ (k : Nat) (v : Value), f.cs.toList[k]? = some v → w.cell? ((⟨b, o, none⟩ : Addr).add k) = some v := fun k v hv => by
 obtain ⟨h0, h1, h2, h3, h4⟩ := h
 rw [Addr.add_lit]
 have hk : k < 5 := by
  have := (List.getElem?_eq_some_iff.1 hv).1
  simpa [Cl.cs] using this
 match k, hk with
 | 0, _ => simp only [Cl.cs, List.getElem?_cons_zero, Option.some.injEq] at hv; rw [← hv]; exact h0
 | 1, _ => simp only [Cl.cs, List.getElem?_cons_zero, List.getElem?_cons_succ, Option.some.injEq] at hv; rw [← hv]; exact h1
 | 2, _ => simp only [Cl.cs, List.getElem?_cons_zero, List.getElem?_cons_succ, Option.some.injEq] at hv; rw [← hv]; exact h2
 | 3, _ => simp only [Cl.cs, List.getElem?_cons_zero, List.getElem?_cons_succ, Option.some.injEq] at hv; rw [← hv]; exact h3
 | 4, _ => simp only [Cl.cs, List.getElem?_cons_zero, List.getElem?_cons_succ, Option.some.injEq] at hv; rw [← hv]; exact h4
theorem RdL.to_ {A : Option Addr} {n c k : Nat} (h : RdL w S (.slice A n c) L) (hk : k ≤ L.length) : RdL w S (.slice A k c) (L.take k) := by
 obtain ⟨A', c', e, h1, h2, h3⟩ := h
 injection e with e1 e2 e3
 subst e1 e3
 have hl : (L.take k).length = k := by simp; omega
 refine ⟨A, c, by rw [hl], by omega, h2, fun hp => ?_⟩
 obtain ⟨b, off, ea, hb, hn, hc⟩ := h3 (by omega)
 refine ⟨b, off, ea, hb, hn, fun i u hu => hc i u ?_⟩
 rw [flat5_take, List.getElem?_take] at hu
 split at hu
 ·exact hu
 ·cases hu
theorem RdL.from_ {b off n c k : Nat} (h : RdL w S (.slice (some ⟨b, off, none⟩) n c) L) (hk : k ≤ L.length) : RdL w S (.slice (some ⟨b, off + k * 5, none⟩) (n - k) (c - k)) (L.drop k) := by
 obtain ⟨A', c', e, h1, h2, h3⟩ := h
 injection e with e1 e2 e3
 subst e1 e2 e3
 have hl : (L.drop k).length = L.length - k := by simp
 refine ⟨_, _, by rw [hl], by omega, by omega, fun hp => ?_⟩
 obtain ⟨b', off', ea, hb, hn, hc⟩ := h3 (by omega)
 simp only [Option.some.injEq, Addr.mk.injEq, and_true] at ea
 obtain ⟨rfl, rfl⟩ := ea
 refine ⟨b, off + k * 5, rfl, hb, hn, fun i u hu => ?_⟩
 rw [flat5_drop, List.getElem?_drop] at hu
 rw [Nat.add_assoc]
 exact hc _ _ hu
theorem RdL.one (w : World) (S : List Nat) (f : Cl) (hS : w.heap.size ∉ S) (t : Nat) : RdL (w.alloc (.cells #[.string f.row, .string f.col, .int .i64 f.at_, .string f.val, .bool f.gone] t)) S (.slice (some ⟨w.heap.size, 0, none⟩) 1 1) [f] := by
 refine ⟨_, _, rfl, Nat.le_refl _, by simp [maxLen], fun _ => ⟨w.heap.size, 0, rfl, by simp, hS, fun i u hu => ?_⟩⟩
 rw [Nat.zero_add, cell_of_row _ w.heap.size i _ t (0, 0) (heap_alloc_new w _)]
 have : (#[Value.string f.row, .string f.col, .int .i64 f.at_, .string f.val, .bool f.gone] : Array Value).toList = flat5 [f] := rfl
 rw [← this] at hu
 simpa using hu
end
section
variable {w w' : World} {B : Nat} {v x : Value} {L M : List Cl} {S : List Nat}
end
end Go.Proofs.Ytpmlfhgdhnofbaa.Ce
namespace Go.Proofs.Ytpmlfhgdhnofbaa.Ce
open Go.RowKit
section
variable {w : World} {g o dLen dCap sLen sCap : Nat} {ad : Addr} {cur : Array Value} {M : List Cl}
def cpd (cur : Array Value) (o : Nat) (M : List Cl) : Array Value := (cur.toList.take o ++ flat5 M ++ cur.toList.drop (o + M.length * 5)).toArray
theorem cpd_size (hfit : o + M.length * 5 ≤ cur.size) : (cpd cur o M).size = cur.size := by
 unfold cpd
 simp [flat5_len]
 omega
end
end Go.Proofs.Ytpmlfhgdhnofbaa.Ce
namespace Go.Proofs.Ytpmlfhgdhnofbaa.Ce
open Go.RowKit
end Go.Proofs.Ytpmlfhgdhnofbaa.Ce
namespace Go.Proofs.Ytpmlfhgdhnofbaa.Ce
open Go.RowKit
def RdB (w : World) (v : Value) (LL : List (List Cl)) : Prop :=
 ∃ vs : List Value, Rd w w.heap.size v vs ∧ vs.length = LL.length ∧ ∀ (j : Nat) (u : Value) (L : List Cl), vs[j]? = some u → LL[j]? = some L → RdL w [] u L
section
variable {w w' : World} {v : Value} {LL : List (List Cl)}
theorem RdB.bel (h : RdB w v LL) (hb : Below w.heap.size w w') : RdB w' v LL := by
 obtain ⟨vs, h1, h2, h3⟩ := h
 exact ⟨vs, h1.up hb, h2, fun j u L hu hL => (h3 j u L hu hL).bel hb⟩
theorem RdB.shape (h : RdB w v LL) : ∃ A c, v = .slice A LL.length c ∧ LL.length ≤ c ∧ c ≤ maxLen := by
 obtain ⟨vs, h1, h2, -⟩ := h
 rw [← h2]
 exact h1.shape
theorem RdB.open_ {A : Option Addr} {n c : Nat} (h : RdB w (.slice A n c) LL) (hp : 0 < LL.length) : ∃ b off, A = some ⟨b, off, none⟩ ∧ b < w.heap.size := by
 obtain ⟨vs, h1, h2, -⟩ := h
 obtain ⟨b, off, c', e, -, -, hb, -⟩ := h1.at_ (by omega)
 injection e with e1 _ _
 exact ⟨b, off, e1, hb⟩
theorem RdB.row {b off n c j : Nat} {L : List Cl} (h : RdB w (.slice (some ⟨b, off, none⟩) n c) LL) (hj : LL[j]? = some L) :
  ∃ A' c', w.cell? ⟨b, off + j, none⟩ = some (.slice A' L.length c') ∧ L.length ≤ c' ∧ c' ≤ maxLen ∧ RdL w [] (.slice A' L.length c') L := by
 obtain ⟨vs, h1, h2, h3⟩ := h
 have hjl := (List.getElem?_eq_some_iff.1 hj).1
 obtain ⟨b', off', c', e, -, -, hb, hc⟩ := h1.at_ (by omega)
 injection e with e1 _ _
 simp only [Option.some.injEq, Addr.mk.injEq, and_true] at e1
 obtain ⟨rfl, rfl⟩ := e1
 have hu : vs[j]? = some (vs[j]'(by omega)) := List.getElem?_eq_getElem _
 have hr := h3 j _ L hu hj
 have hcj := hc j _ hu
 obtain ⟨A', c', e', k1, k2⟩ := hr.shape
 rw [e'] at hcj hr
 exact ⟨A', c', hcj, k1, k2, hr⟩
end
section
variable {w w' : World} {B : Nat} {v u : Value} {vs : List Value} {LL : List (List Cl)} {L : List Cl}
end
end Go.Proofs.Ytpmlfhgdhnofbaa.Ce
