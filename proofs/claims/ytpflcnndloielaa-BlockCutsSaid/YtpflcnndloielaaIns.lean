/- copy, slices.Insert and slices.Clone of cells. -/
import Derived.Test.YtpflcnndloielaaCs
import Derived.Lib.Overlaps
import Derived.Lib.AppendZerosOnto
import Derived.Laws.CopyRow
namespace Go.Proofs.Ytpflcnndloielaa.Ce
open Go.RowKit

/-- block g's row has become cur -/
structure Turned (g : Nat) (cur : Array Value) (w w' : World) : Prop where
  i : w'.heap[g]? = some (.cells cur 46 (0, 0))
  b : Below g w w'
  z : w'.heap.size = w.heap.size
  o : ∀ k, k ≠ g → w'.heap[k]? = w.heap[k]?
theorem Turned.of {g : Nat} {cur0 : Array Value} {w : World} (cur : Array Value) (hg : w.heap[g]? = some (.cells cur0 46 (0, 0))) : Turned g cur w (w.setRow g cur) :=
  ⟨setRow_heap w g cur0 cur _ _ hg, below_setRow (Below.refl _ _) (Nat.le_refl _) _, by simp, fun k hk => setRow_other _ _ _ _ hk⟩
theorem Turned.grown {g : Nat} {cur : Array Value} {w w' : World} (h : Turned g cur w w') : w.grownBy w' (some g) :=
  ⟨h.b.os, h.b.tape, h.b.output, by rw [h.z]; exact Nat.le_refl _, fun k _ hk => h.o k fun e => hk (by rw [e])⟩
theorem Turned.grown2 {g : Nat} {cur cur2 : Array Value} {w w' w2 : World} (h : Turned g cur w.drew w') (h2 : Turned g cur2 w' w2) : w.grownBy w2 (some g) :=
  ⟨h2.b.os.trans h.b.os, h2.b.tape.trans h.b.tape, h2.b.output.trans h.b.output, by rw [h2.z, h.z]; exact Nat.le_refl _, fun k _ hk => (h2.o k fun e => hk (by rw [e])).trans (h.o k fun e => hk (by rw [e]))⟩
theorem Turned.other {g k : Nat} {c : Cl} {cur : Array Value} {w w' : World} (h : Turned g cur w w') (h0 : InC k c w) (hk : k ≠ g) : InC k c w' := ⟨(h.o k hk).trans h0.h⟩
section
variable {w : World} {g o dLen dCap sLen sCap : Nat} {ad : Addr} {cur : Array Value} {M : List Cl}
/-- what copy leaves -/
def cpd (cur : Array Value) (o : Nat) (M : List Cl) : Array Value := (cur.toList.take o ++ flat5 M ++ cur.toList.drop (o + M.length * 5)).toArray
theorem cpd_size (hfit : o + M.length * 5 ≤ cur.size) : (cpd cur o M).size = cur.size := by
  unfold cpd
  simp [flat5_len]
  omega
theorem run_copyL (ty : TypeId) (hg : w.heap[g]? = some (.cells cur 46 (0, 0))) (hn : M.length = Nat.min sLen dLen)
    (hsrc : ∀ j v, (flat5 M)[j]? = some v → w.cell? (ad.add j) = some v) (hfit : o + M.length * 5 ≤ cur.size) :
    (Builtin.copy_ #[22, 22] ty #[.slice (some ⟨g, o, none⟩) dLen dCap, .slice (some ad) sLen sCap]).run Try.prog w = .ok (goInt M.length) (w.setRow g (cpd cur o M)) := by
  obtain ⟨i, hi, hi0, hi1, hi2⟩ := info_parts cellInfo
  have hl := run_loadCells_list (P := Try.prog) w ad (flat5 M) hsrc
  have hst := run_storeCells_at Try.prog g o 46 (flat5 M) 0 cur w hg (by rw [flat5_len]; simpa using hfit) (flat5_one M)
  rw [flat5_len] at hl hst
  simp [Builtin.copy_, run_underlying Try.underlying22, Builtin.lenOf, Builtin.firstCells, sizeOf, typeInfo, hi, hi1, ← hn, hl, hst, cpd]
theorem wpList_copyL {ops : Array Oper} {rest : List Oper} {p : Oper} {a : Act} {Q : Exit → Act → World → Prop} (hgd : p.guard = none) (d s : Operand)
    (ho : p.op = .call { callee := .builtin .copy, args := #[d, s], argTypes := #[22, 22] }) (hd : a.eval d = .slice (some ⟨g, o, none⟩) dLen dCap) (hs : a.eval s = .slice (some ad) sLen sCap)
    (hg : w.heap[g]? = some (.cells cur 46 (0, 0))) (hn : M.length = Nat.min sLen dLen) (hsrc : ∀ j v, (flat5 M)[j]? = some v → w.cell? (ad.add j) = some v) (hfit : o + M.length * 5 ≤ cur.size)
    (h : ∀ w', Turned g (cpd cur o M) w w' → wpList Try.prog ops Q rest (a.put p.dst (goInt M.length)) w') : wpList Try.prog ops Q (p :: rest) a w := by
  have hrun := run_copyL (dCap := dCap) (sCap := sCap) p.type hg hn hsrc hfit
  refine wpList_plain hgd fun K hK => ?_
  unfold Oper.wp execOp
  simp only [ho, resolve, invoke, builtin, Sem.run_bind, Sem.run_pure, Result.andThen_ok, List.map_toArray, List.map_cons, List.map_nil, hd, hs, hrun]
  exact hK _ _ (h _ (Turned.of _ hg))
theorem step_copyL {ops : Array Oper} {p : Oper} {a : Act} {K : Act → World → Prop} {Q : Exit → Act → World → Prop} {E : Prop} (hgd : p.guard = none) (d s : Operand)
    (ho : p.op = .call { callee := .builtin .copy, args := #[d, s], argTypes := #[22, 22] }) (hd : a.eval d = .slice (some ⟨g, o, none⟩) dLen dCap) (hs : a.eval s = .slice (some ad) sLen sCap)
    (hg : w.heap[g]? = some (.cells cur 46 (0, 0))) (hn : M.length = Nat.min sLen dLen) (hsrc : ∀ j v, (flat5 M)[j]? = some v → w.cell? (ad.add j) = some v) (hfit : o + M.length * 5 ≤ cur.size)
    (h : ∀ w', Turned g (cpd cur o M) w w' → K (a.put p.dst (goInt M.length)) w') : if Region.wanted p (yielded ops a.tmps) = true then Oper.wp Try.prog p a w K Q else E := by
  have hw : Region.wanted p (yielded ops a.tmps) = true := by simp [Region.wanted, hgd]
  rw [if_pos hw]
  have hrun := run_copyL (dCap := dCap) (sCap := sCap) p.type hg hn hsrc hfit
  unfold Oper.wp
  simp [execOp, ho, resolve, invoke, builtin, hd, hs, hrun, Result.andThen]
  exact h _ (Turned.of _ hg)
/-- append -/
theorem wpList_appL {v x : Value} {L M : List Cl} {B : Nat} {S : List Nat} {ops : Array Oper} {rest : List Oper} {p : Oper} {a : Act} {Q : Exit → Act → World → Prop} (hgd : p.guard = none) (s y : Operand)
    (ho : p.op = .call { callee := .builtin .append, args := #[s, y], argTypes := #[22, 22] })
    (hs : a.eval s = v) (hown : OwL w B v L) (hy : a.eval y = x) (hr : RdL w S x M) (hlen : L.length + M.length ≤ 2199023255552) (hB : B ≤ w.heap.size)
    (h : ∀ v' w', OwL w' B v' (L ++ M) → w.grownBy w' v.ownBlock → (v'.ownBlock = v.ownBlock ∨ v'.ownBlock = some w.heap.size) → wpList Try.prog ops Q rest (a.put p.dst v') w') : wpList Try.prog ops Q (p :: rest) a w := by
  obtain ⟨v', w', hrun, h2, h3, h4⟩ := run_appW p.type hown hr hlen hB
  refine wpList_plain hgd fun K hK => ?_
  unfold Oper.wp execOp
  simp only [ho, resolve, invoke, builtin, Sem.run_bind, Sem.run_pure, Result.andThen_ok, List.map_toArray, List.map_cons, List.map_nil, hs, hy, hrun]
  exact hK _ _ (h v' w' h2 h3 h4)
end
/-- f stands at place i, those from there on behind it -/
def ins (i : Nat) (f : Cl) (L : List Cl) : List Cl := L.take i ++ f :: L.drop i
theorem ins_len {i : Nat} {f : Cl} {L : List Cl} (h : i ≤ L.length) : (ins i f L).length = L.length + 1 := by unfold ins; simp; omega
theorem flat5_ins (i : Nat) (f : Cl) (L : List Cl) : flat5 (ins i f L) = flat5 (L.take i) ++ (flat5 [f] ++ flat5 (L.drop i)) := by
  unfold ins
  rw [flat5_app, show f :: L.drop i = [f] ++ L.drop i from rfl, flat5_app]
/-- what the two copies leave in the old row -/
theorem cpd_room {cur : Array Value} {L : List Cl} {f : Cl} {i cap : Nat} (hi : i ≤ L.length) (hc : L.length + 1 ≤ cap) (hcs : cur.size = cap * 5) (ht : cur.toList.take (L.length * 5) = flat5 L) :
    (cpd (cpd cur ((i + 1) * 5) (L.drop i)) (i * 5) [f]).size = cap * 5 ∧ (cpd (cpd cur ((i + 1) * 5) (L.drop i)) (i * 5) [f]).toList.take ((L.length + 1) * 5) = flat5 (ins i f L) := by
  have hl : cur.toList.length = cap * 5 := by simpa using hcs
  generalize hxs : cur.toList = xs at *
  have hd : (flat5 (L.drop i)).length = (L.length - i) * 5 := by rw [flat5_len]; simp
  have h5 : (flat5 [f]).length = 5 := rfl
  have ha : xs.take (i * 5) = flat5 (L.take i) := by
    rw [flat5_take, ← ht, List.take_take, Nat.min_eq_left (by omega)]
  have e1 : (cpd cur ((i + 1) * 5) (L.drop i)).toList = xs.take ((i + 1) * 5) ++ flat5 (L.drop i) ++ xs.drop ((i + 1) * 5 + (L.drop i).length * 5) := by unfold cpd; rw [hxs]
  have e2 : (cpd (cpd cur ((i + 1) * 5) (L.drop i)) (i * 5) [f]).toList = flat5 (L.take i) ++ flat5 [f] ++ (flat5 (L.drop i) ++ xs.drop ((i + 1) * 5 + (L.drop i).length * 5)) := by
    unfold cpd
    rw [show (cur.toList.take ((i + 1) * 5) ++ flat5 (L.drop i) ++ cur.toList.drop ((i + 1) * 5 + (L.drop i).length * 5)).toArray.toList = xs.take ((i + 1) * 5) ++ flat5 (L.drop i) ++ xs.drop ((i + 1) * 5 + (L.drop i).length * 5) by rw [hxs]]
    have t1 : (xs.take ((i + 1) * 5) ++ flat5 (L.drop i) ++ xs.drop ((i + 1) * 5 + (L.drop i).length * 5)).take (i * 5) = flat5 (L.take i) := by
      rw [List.append_assoc, List.take_append_of_le_length (by simp; omega), List.take_take, Nat.min_eq_left (by omega), ha]
    have t2 : (xs.take ((i + 1) * 5) ++ flat5 (L.drop i) ++ xs.drop ((i + 1) * 5 + (L.drop i).length * 5)).drop (i * 5 + [f].length * 5) = flat5 (L.drop i) ++ xs.drop ((i + 1) * 5 + (L.drop i).length * 5) := by
      rw [List.append_assoc, List.drop_append, List.drop_of_length_le (by simp; omega), List.nil_append, show i * 5 + [f].length * 5 - (xs.take ((i + 1) * 5)).length = 0 by simp; omega, List.drop_zero]
    rw [t1, t2]
  refine ⟨?_, ?_⟩
  · have := congrArg List.length e2
    rw [Array.length_toList] at this
    rw [this]
    simp only [List.length_append, hd, h5, List.length_drop, flat5_len, List.length_take]
    omega
  · rw [e2, flat5_ins, List.append_assoc, ← List.append_assoc (flat5 [f]), ← List.append_assoc, List.take_append_of_le_length, List.take_of_length_le]
    · simp only [List.length_append, hd, h5, flat5_len, List.length_take]
      omega
    · simp only [List.length_append, hd, h5, flat5_len, List.length_take]
      omega
end Go.Proofs.Ytpflcnndloielaa.Ce
