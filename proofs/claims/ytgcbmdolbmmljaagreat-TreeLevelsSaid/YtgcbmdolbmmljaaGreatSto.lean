/- A cell is stored into a slice that the call owns. -/
import Derived.Test.YtgcbmdolbmmljaaGreatCsA
namespace Go.Proofs.YtgcbmdolbmmljaaGreat.Ce
open Go.RowKit

/-! a cell is stored into a slice that the call owns -/
theorem run_storeL (w : World) (g o : Nat) (cur : Array Value) (c : Cl) (hg : w.heap[g]? = some (.cells cur 34 (0, 0))) (hfit : o + [c].length * 5 ≤ cur.size) :
    (storeVar 34 ⟨g, o, none⟩ c.v).run Tryz.prog w = .ok () (w.setRow g (cpd cur o [c])) := by
  obtain ⟨i, hi, hi0, hi1, hi2⟩ := info_parts cellInfo
  have hst := run_storeCells_at Tryz.prog g o 34 c.cs.toList 0 cur w hg (by rw [show c.cs.toList.length = 5 from rfl]; simpa using hfit) (fun v hv => (Array.all_eq_true_iff_forall_mem.1 (cs_one c)) v (by simpa using hv))
  have h5 : c.v.cells.size = i.size := by rw [hi1]; rfl
  have h6 : c.v.cells.toList = c.cs.toList := rfl
  simp [storeVar, sizeOf, typeInfo, hi, h5, h6, hst, cpd]
  rfl
section
variable {ops : Array Oper} {o : Oper} {a : Act} {w : World} {K0 : Act → World → Prop} {Q : Exit → Act → World → Prop} {g n : Nat} {cur : Array Value} {c : Cl}
theorem wp_storeAt (x y : Operand) (ho : o.op = .store 34 x y) (hx : a.eval x = .pointer (some ⟨g, n, none⟩)) (hy : a.eval y = c.v) (hg : w.heap[g]? = some (.cells cur 34 (0, 0))) (hfit : n + [c].length * 5 ≤ cur.size)
    (h : ∀ w', Turned g (cpd cur n [c]) w w' → K0 (a.put o.dst undef) w') : o.wp Tryz.prog a w K0 Q := by
  unfold Oper.wp execOp
  simp only [ho, hx, hy, Instr.storeAt, Instr.sureAddr, Sem.run_bind, Sem.run_pure, Result.andThen_ok, run_storeL w g n cur c hg hfit]
  exact h _ (Turned.of _ hg)
theorem wpList_storeAt {rest : List Oper} (hgd : o.guard = none) (x y : Operand) (ho : o.op = .store 34 x y) (hx : a.eval x = .pointer (some ⟨g, n, none⟩)) (hy : a.eval y = c.v) (hg : w.heap[g]? = some (.cells cur 34 (0, 0))) (hfit : n + [c].length * 5 ≤ cur.size)
    (h : Held (∀ w', Turned g (cpd cur n [c]) w w' → wpList Tryz.prog ops Q rest (a.put o.dst undef) w')) : wpList Tryz.prog ops Q (o :: rest) a w :=
  wpList_plain hgd fun _ hK => wp_storeAt x y ho hx hy hg hfit fun w' ht => hK _ _ (h.out w' ht)
end
theorem OwL.open_ {w : World} {B : Nat} {v : Value} {L : List Cl} (h : OwL w B v L) (hp : 0 < L.length) : ∃ g cap cur, v = .slice (some ⟨g, 0, none⟩) L.length cap ∧ B ≤ g ∧ w.heap[g]? = some (.cells cur 34 (0, 0)) ∧ L.length ≤ cap ∧ cap ≤ maxLen ∧ cur.size = cap * 5 ∧ cur.toList.take (L.length * 5) = flat5 L := by
  rcases h.2 with ⟨_, h2⟩ | h2
  · omega
  · exact h2
theorem cpd_set {cur : Array Value} {L : List Cl} {c : Cl} {k cap : Nat} (hk : k < L.length) (hc : L.length ≤ cap) (hcs : cur.size = cap * 5) (ht : cur.toList.take (L.length * 5) = flat5 L) :
    (cpd cur (k * 5) [c]).size = cap * 5 ∧ (cpd cur (k * 5) [c]).toList.take (L.length * 5) = flat5 (L.set k c) := by
  refine ⟨by rw [cpd_size (by rw [hcs]; simp; omega), hcs], ?_⟩
  have hl : cur.toList.length = cap * 5 := by simpa using hcs
  have e1 : (cpd cur (k * 5) [c]).toList = cur.toList.take (k * 5) ++ (flat5 [c] ++ cur.toList.drop (k * 5 + [c].length * 5)) := by unfold cpd; simp
  have h5 : (flat5 [c]).length = 5 := rfl
  have ht1 : cur.toList.take (k * 5) = flat5 (L.take k) := by rw [flat5_take, ← ht, List.take_take, Nat.min_eq_left (by omega)]
  have htl : (flat5 (L.take k)).length = k * 5 := by rw [flat5_len]; simp; omega
  have ht2 : (cur.toList.drop (k * 5 + [c].length * 5)).take (L.length * 5 - (k + 1) * 5) = flat5 (L.drop (k + 1)) := by
    rw [flat5_drop, ← ht, List.drop_take, show (k + 1) * 5 = k * 5 + [c].length * 5 by simp; omega]
  rw [e1, ht1, List.set_eq_take_append_cons_drop, if_pos hk, flat5_app, show c :: L.drop (k + 1) = [c] ++ L.drop (k + 1) from rfl, flat5_app, ← ht2, List.take_append, htl, List.take_append, h5, show (flat5 (L.take k)).take (L.length * 5) = flat5 (L.take k) from List.take_of_length_le (by rw [htl]; omega), show (flat5 [c]).take (L.length * 5 - k * 5) = flat5 [c] from List.take_of_length_le (by rw [h5]; omega), show L.length * 5 - k * 5 - 5 = L.length * 5 - (k + 1) * 5 by omega]
theorem OwL.stored {w w' : World} {B g cap k : Nat} {cur : Array Value} {L : List Cl} {c : Cl} (hB : B ≤ g) (hk : k < L.length) (hc : L.length ≤ cap) (hm : cap ≤ maxLen) (hcs : cur.size = cap * 5) (ht : cur.toList.take (L.length * 5) = flat5 L) (h : Turned g (cpd cur (k * 5) [c]) w w') :
    OwL w' B (.slice (some ⟨g, 0, none⟩) L.length cap) (L.set k c) := by
  obtain ⟨h1, h2⟩ := cpd_set (c := c) hk hc hcs ht
  refine ⟨by rw [flat5_len], .inr ⟨g, cap, _, by rw [List.length_set], hB, h.i, by rw [List.length_set]; exact hc, hm, h1, by rw [List.length_set]; exact h2⟩⟩
end Go.Proofs.YtgcbmdolbmmljaaGreat.Ce
