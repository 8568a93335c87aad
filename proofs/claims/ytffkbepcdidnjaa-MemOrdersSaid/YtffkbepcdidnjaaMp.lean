/- A table in memory: the contract of Put. -/
import Derived.Test.YtffkbepcdidnjaaMg
import Derived.StillTailTactics
namespace Go.Proofs.Ytffkbepcdidnjaa.Ce
open Go.RowKit

/-! plain -/
theorem cellB_pos {c : Cl} (h : c.ok) : (cellB c).length ≤ 401 := by
  rw [cellB_len]
  have := h.r2
  have := h.c2
  have := h.v
  omega
theorem szs_bound : ∀ {L : List Cl}, (∀ c ∈ L, c.ok) → 0 ≤ szs L ∧ szs L ≤ 401 * (L.length : Int)
  | [], _ => by simp [szs]
  | c :: L, h => by
    have ih := szs_bound (L := L) fun x hx => h x (by simp [hx])
    have := cellB_pos (h c (by simp))
    simp only [szs, List.length_cons]
    omega
theorem szs_ins {L : List Cl} {k : Nat} {c : Cl} : szs (ins k c L) = szs L + ((cellB c).length : Int) := by
  have : szs L = szs (L.take k) + szs (L.drop k) := by rw [← szs_app, List.take_append_drop]
  unfold ins
  rw [szs_app, szs, this]
  omega
theorem szs_set {L : List Cl} {k : Nat} {c d : Cl} (h : L[k]? = some d) : szs (L.set k c) = szs L - ((cellB d).length : Int) + ((cellB c).length : Int) := by
  obtain ⟨hk, hd⟩ := List.getElem?_eq_some_iff.1 h
  have h1 : szs L = szs (L.take k) + szs (L.drop k) := by rw [← szs_app, List.take_append_drop]
  rw [List.drop_eq_getElem_cons hk, hd, szs] at h1
  rw [List.set_eq_take_append_cons_drop, if_pos hk, szs_app, szs, h1]
  omega
theorem szs_ge {L : List Cl} (hok : ∀ c ∈ L, c.ok) {k : Nat} {d : Cl} (h : L[k]? = some d) : ((cellB d).length : Int) ≤ szs L := by
  obtain ⟨hk, hd⟩ := List.getElem?_eq_some_iff.1 h
  have h1 : szs L = szs (L.take k) + szs (L.drop k) := by rw [← szs_app, List.take_append_drop]
  rw [List.drop_eq_getElem_cons hk, hd, szs] at h1
  have h2 := (szs_bound (L := L.take k) fun x hx => hok x (List.mem_of_mem_take hx)).1
  have h3 := (szs_bound (L := L.drop (k + 1)) fun x hx => hok x (List.mem_of_mem_drop hx)).1
  omega
theorem put1_set {L : List Cl} {c d : Cl} {k : Nat} (hk : Place L c k) (hd : L[k]? = some d) (h0 : ccmp d c = 0) : put1 c L = L.set k c := by
  have hlt := (List.getElem?_eq_some_iff.1 hd).1
  rw [put1_at hk.le (fun j e hj he => ccmp_lt.2 (hk.lt j e hj he)) (fun e he hq => hk.ge k e (Nat.le_refl _) he (ccmp_lt.1 hq)), if_pos (by rw [hd, Option.map_some, h0]), List.set_eq_take_append_cons_drop, if_pos hlt]
theorem put1_ins {L : List Cl} {c : Cl} {k : Nat} (hk : Place L c k) (hf : fnd L c k = false) : put1 c L = ins k c L := by
  rw [put1_at hk.le (fun j e hj he => ccmp_lt.2 (hk.lt j e hj he)) (fun e he hq => hk.ge k e (Nat.le_refl _) he (ccmp_lt.1 hq)), if_neg ?_]
  · rfl
  · intro h
    unfold fnd at hf
    cases hd : L[k]? with
    | none => rw [hd] at h; cases h
    | some d =>
      rw [hd] at h hf
      simp only [Option.map_some, Option.some.injEq] at h
      simp [h] at hf
theorem fnd_true {L : List Cl} {c : Cl} {k : Nat} (hf : fnd L c k = true) : ∃ d, L[k]? = some d ∧ ccmp d c = 0 := by
  unfold fnd at hf
  cases hd : L[k]? with
  | none => rw [hd] at hf; cases hf
  | some d => rw [hd] at hf; exact ⟨d, rfl, by simpa using hf⟩

/-! a cell is stored into a slice that the call owns -/
theorem run_storeL (w : World) (g o : Nat) (cur : Array Value) (c : Cl) (hg : w.heap[g]? = some (.cells cur 29 (0, 0))) (hfit : o + [c].length * 5 ≤ cur.size) :
    (storeVar 29 ⟨g, o, none⟩ c.v).run Try.prog w = .ok () (w.setRow g (cpd cur o [c])) := by
  obtain ⟨i, hi, hi0, hi1, hi2⟩ := info_parts cellInfo
  have hst := run_storeCells_at Try.prog g o 29 c.cs.toList 0 cur w hg (by rw [show c.cs.toList.length = 5 from rfl]; simpa using hfit) (fun v hv => (Array.all_eq_true_iff_forall_mem.1 (cs_one c)) v (by simpa using hv))
  have h5 : c.v.cells.size = i.size := by rw [hi1]; rfl
  have h6 : c.v.cells.toList = c.cs.toList := rfl
  simp [storeVar, sizeOf, typeInfo, hi, h5, h6, hst, cpd]
  rfl
section
variable {ops : Array Oper} {o : Oper} {a : Act} {w : World} {K0 : Act → World → Prop} {Q : Exit → Act → World → Prop} {g n : Nat} {cur : Array Value} {c : Cl}
theorem wp_storeAt (x y : Operand) (ho : o.op = .store 29 x y) (hx : a.eval x = .pointer (some ⟨g, n, none⟩)) (hy : a.eval y = c.v) (hg : w.heap[g]? = some (.cells cur 29 (0, 0))) (hfit : n + [c].length * 5 ≤ cur.size)
    (h : ∀ w', Turned g (cpd cur n [c]) w w' → K0 (a.put o.dst undef) w') : o.wp Try.prog a w K0 Q := by
  unfold Oper.wp execOp
  simp only [ho, hx, hy, Instr.storeAt, Instr.sureAddr, Sem.run_bind, Sem.run_pure, Result.andThen_ok, run_storeL w g n cur c hg hfit]
  exact h _ (Turned.of _ hg)
theorem wpList_storeAt {rest : List Oper} (hgd : o.guard = none) (x y : Operand) (ho : o.op = .store 29 x y) (hx : a.eval x = .pointer (some ⟨g, n, none⟩)) (hy : a.eval y = c.v) (hg : w.heap[g]? = some (.cells cur 29 (0, 0))) (hfit : n + [c].length * 5 ≤ cur.size)
    (h : Held (∀ w', Turned g (cpd cur n [c]) w w' → wpList Try.prog ops Q rest (a.put o.dst undef) w')) : wpList Try.prog ops Q (o :: rest) a w :=
  wpList_plain hgd fun _ hK => wp_storeAt x y ho hx hy hg hfit fun w' ht => hK _ _ (h.out w' ht)
end
theorem OwL.open_ {w : World} {B : Nat} {v : Value} {L : List Cl} (h : OwL w B v L) (hp : 0 < L.length) : ∃ g cap cur, v = .slice (some ⟨g, 0, none⟩) L.length cap ∧ B ≤ g ∧ w.heap[g]? = some (.cells cur 29 (0, 0)) ∧ L.length ≤ cap ∧ cap ≤ maxLen ∧ cur.size = cap * 5 ∧ cur.toList.take (L.length * 5) = flat5 L := by
  rcases h.2 with ⟨_, h2⟩ | h2
  · omega
  · exact h2
theorem cpd_set {cur : Array Value} {L : List Cl} {c : Cl} {k cap : Nat} (hk : k < L.length) (hc : L.length ≤ cap) (hcs : cur.size = cap * 5) (ht : cur.toList.take (L.length * 5) = flat5 L) :
    (cpd cur (k * 5) [c]).size = cap * 5 ∧ (cpd cur (k * 5) [c]).toList.take (L.length * 5) = flat5 (L.set k c) := by
  refine ⟨by rw [cpd_size (by rw [hcs]; simp; omega), hcs], ?_⟩
  have hl : cur.toList.length = cap * 5 := by simpa using hcs
  have e1 : (cpd cur (k * 5) [c]).toList = cur.toList.take (k * 5) ++ (flat5 [c] ++ cur.toList.drop (k * 5 + [c].length * 5)) := by unfold cpd; simp
  have h5 : (flat5 [c]).length = 5 := rfl
  have ht1 : cur.toList.take (k * 5) = flat5 (L.take k) := by rw [flat5_take, ← ht, List.take_take, Nat.min_eq_left (by omega)]
  have htl : (flat5 (L.take k)).length = k * 5 := by rw [flat5_len]; simp; omega
  have ht2 : (cur.toList.drop (k * 5 + [c].length * 5)).take (L.length * 5 - (k + 1) * 5) = flat5 (L.drop (k + 1)) := by
    rw [flat5_drop, ← ht, List.drop_take, show (k + 1) * 5 = k * 5 + [c].length * 5 by simp; omega]
  rw [e1, ht1, List.set_eq_take_append_cons_drop, if_pos hk, flat5_app, show c :: L.drop (k + 1) = [c] ++ L.drop (k + 1) from rfl, flat5_app, ← ht2, List.take_append, htl, List.take_append, h5, show (flat5 (L.take k)).take (L.length * 5) = flat5 (L.take k) from List.take_of_length_le (by rw [htl]; omega), show (flat5 [c]).take (L.length * 5 - k * 5) = flat5 [c] from List.take_of_length_le (by rw [h5]; omega), show L.length * 5 - k * 5 - 5 = L.length * 5 - (k + 1) * 5 by omega]
theorem OwL.stored {w w' : World} {B g cap k : Nat} {cur : Array Value} {L : List Cl} {c : Cl} (hB : B ≤ g) (hk : k < L.length) (hc : L.length ≤ cap) (hm : cap ≤ maxLen) (hcs : cur.size = cap * 5) (ht : cur.toList.take (L.length * 5) = flat5 L) (h : Turned g (cpd cur (k * 5) [c]) w w') :
    OwL w' B (.slice (some ⟨g, 0, none⟩) L.length cap) (L.set k c) := by
  obtain ⟨h1, h2⟩ := cpd_set (c := c) hk hc hcs ht
  refine ⟨by rw [flat5_len], .inr ⟨g, cap, _, by rw [List.length_set], hB, h.i, by rw [List.length_set]; exact hc, hm, h1, by rw [List.length_set]; exact h2⟩⟩

/-! a table in the course of Put -/
/-- block b is a table whose cells stand in the slice v, z the size that it tells -/
structure MemZ (w : World) (b : Nat) (v : Value) (L : List Cl) (z : Int) : Prop where
  h : w.heap[b]? = some (.cells #[v, .int .i64 z] 46 (0, 0))
  own : OwL w 0 v L
  ne : v.ownBlock ≠ some b
section
variable {w w' : World} {b : Nat} {v : Value} {L : List Cl} {z : Int}
theorem MemV.toZ (h : MemV w b v L) : MemZ w b v L (szs L) := ⟨h.h, h.own, h.ne⟩
theorem MemZ.toV (h : MemZ w b v L z) (e : z = szs L) : MemV w b v L := ⟨e ▸ h.h, h.own, h.ne⟩
theorem MemZ.c0 (h : MemZ w b v L z) : w.cell? ⟨b, 0, none⟩ = some v := cell_of_row _ _ 0 _ _ _ h.h
theorem MemZ.c1 (h : MemZ w b v L z) : w.cell? ⟨b, 1, none⟩ = some (.int .i64 z) := cell_of_row _ _ 1 _ _ _ h.h
theorem MemZ.f0 (h : MemZ w b v L z) : w.frozen? ⟨b, 0, none⟩ = false := frozen_of_row _ _ _ _ _ h.h
theorem MemZ.f1 (h : MemZ w b v L z) : w.frozen? ⟨b, 1, none⟩ = false := frozen_of_row _ _ _ _ _ h.h
theorem MemZ.lt (h : MemZ w b v L z) : b < w.heap.size := (Array.getElem?_eq_some_iff.1 h.h).1
theorem MemZ.up (h : MemZ w b v L z) (hb : Below w.heap.size w w') : MemZ w' b v L z := ⟨(hb.block b h.lt).trans h.h, h.own.below hb, h.ne⟩
theorem grown_set (w : World) (b k : Nat) (u : Value) : w.grownBy (w.setCell ⟨b, k, none⟩ u) (some b) :=
  ⟨rfl, rfl, rfl, by simp [World.setCell], fun i _ hn => Below.heap_setCell _ _ _ _ fun e => hn (by rw [e])⟩
theorem OwL.kept {B : Nat} {row : Option Nat} (h : OwL w B v L) (hg : w.grownBy w' row) (hne : v.ownBlock ≠ none → v.ownBlock ≠ row) : OwL w' B v L :=
  World.ownsRow.kept h hg (by
    cases e : v.ownBlock with
    | none => exact .inl rfl
    | some k => exact .inr (by rw [← e]; exact hne (by rw [e]; simp)))
theorem MemZ.set1 (h : MemZ w b v L z) (y : Int) : MemZ (w.setCell ⟨b, 1, none⟩ (.int .i64 y)) b v L y :=
  ⟨(heap_setCell_same w b 1 _ _ (.int .i64 y) h.h).trans rfl, h.own.kept (grown_set _ _ _ _) fun _ => h.ne, h.ne⟩
end
/-- the table b in the course of Put: c stands in block g, S0 its blocks ahead of it -/
structure PutM (w : World) (S0 : List Nat) (b g : Nat) (c : Cl) (v : Value) (L : List Cl) (z : Int) (w' : World) : Prop where
  m : MemZ w' b v L z
  i : InC g c w'
  kp : Kp S0 w w'
  bS : b ∈ S0
  gb : g ≠ b
  gv : v.ownBlock ≠ some g
  all : ∀ k ∈ blks b v, k ∈ S0 ∨ w.heap.size ≤ k
section
variable {w x y : World} {S0 : List Nat} {b g : Nat} {c : Cl} {v : Value} {L : List Cl} {z : Int}
theorem PutM.up (h : PutM w S0 b g c v L z x) (hb : Below x.heap.size x y) : PutM w S0 b g c v L z y := ⟨h.m.up hb, h.i.up hb, h.kp.bel hb, h.bS, h.gb, h.gv, h.all⟩
theorem PutM.drew (h : PutM w S0 b g c v L z x) : PutM w S0 b g c v L z x.drew := h.up (Below.refl _ _).drew
theorem PutM.set1 (h : PutM w S0 b g c v L z x) (t : Int) : PutM w S0 b g c v L t (x.setCell ⟨b, 1, none⟩ (.int .i64 t)) :=
  ⟨h.m.set1 t, ⟨(Below.heap_setCell x ⟨b, 1, none⟩ _ g (by simpa using h.gb)).trans h.i.h⟩, h.kp.trans (Kp.set x (S := S0) (p := ⟨b, 1, none⟩) h.bS _) (fun _ h => .inl h), h.bS, h.gb, h.gv, h.all⟩
/-- the table's size, the cell in block g -/
def ZC (b : Nat) (z : Int) (g : Nat) (c : Cl) (w0 w' : World) : Prop :=
  w'.cell? ⟨b, 1, none⟩ = some (.int .i64 z) ∧ w'.frozen? ⟨b, 1, none⟩ = false ∧ w'.cell? ⟨g, 0, none⟩ = some (.string c.row) ∧ w'.cell? ⟨g, 1, none⟩ = some (.string c.col) ∧ w'.cell? ⟨g, 2, none⟩ = some (.int .i64 c.at_) ∧ w'.cell? ⟨g, 3, none⟩ = some (.string c.val) ∧ w'.cell? ⟨g, 4, none⟩ = some (.bool c.gone) ∧ Below w0.heap.size w0 w'
theorem ZC.of (h : PutM w S0 b g c v L z x) (hb : Below x.heap.size x y) : ZC b z g c x y :=
  let q := h.up hb; let p := q.i; ⟨q.m.c1, q.m.f1, p.c0, p.c1, p.c2, p.c3, p.c4, hb⟩
end
end Go.Proofs.Ytffkbepcdidnjaa.Ce
