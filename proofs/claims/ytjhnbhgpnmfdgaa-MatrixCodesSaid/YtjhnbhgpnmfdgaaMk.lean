/- 'make([]byte, n)', n whatever number. Of no function in particular. -/
import Derived.Test.YtjhnbhgpnmfdgaaGen
namespace Go.Proofs.Ytjhnbhgpnmfdgaa
open Go.RowKit

theorem madeCells_one (z : Value) (n : Nat) : (madeCells #[z] (n * 1)).toList = List.replicate n z := by
  apply List.ext_getElem?
  intro k
  by_cases hk : k < n <;> simp [madeCells, hk, Nat.mod_one]
theorem wpList_makeB {P : Program} {ops : Array Oper} {rest : List Oper} {o : Oper} {a : Act} {w : World} {e t : Nat} {Q : Exit → Act → World → Prop} (T : ET P t e (.int .u8 0) 1) (hgd : o.guard = none) (l c : Operand)
    (ho : o.op = .makeSlice t l c) (n : Nat) {kl kc : IntKind} (hl : a.eval l = .int kl (n : Int)) (hc : a.eval c = .int kc (n : Int)) (hn : n ≤ 140737488355328)
    (h : ∀ w', Ow w' w.heap.size e (.slice (some ⟨w.heap.size, 0, none⟩) n n) ((List.replicate n (0 : UInt8)).map bv) → Below w.heap.size w w' → wpList P ops Q rest (a.put o.dst (.slice (some ⟨w.heap.size, 0, none⟩) n n)) w') :
    wpList P ops Q (o :: rest) a w := by
  obtain ⟨i, hi, hi0, hi1, hi2⟩ := info_parts T.info
  refine wpList_make_full w hgd l c t ho w.heap.size e i (.int .u8 0) 1 T.ht hi hi0 hi1 kl kc _ _ n hl hc rfl rfl (by rw [hi2]; omega) (by simp [maxLen]; omega) (Nat.le_refl _) ?_
  intro w' hown hgr
  refine h w' ?_ ((Below.refl _ _).grown hgr (Nat.le_refl _) (by simp))
  have e1 : (madeCells (Value.int .u8 0).cells (n * 1)).toList = (List.replicate n (0 : UInt8)).map bv := by
    show (madeCells #[.int .u8 0] (n * 1)).toList = _
    rw [madeCells_one, List.map_replicate]
    rfl
  unfold Ow
  rw [e1] at hown
  simpa using hown
end Go.Proofs.Ytjhnbhgpnmfdgaa
