/- Blocks read from the last one to the first, plain. -/
import Derived.Test.YtdemdmingelamaaTcp
namespace Go.Proofs.Ytdemdmingelamaa.Ce
open Go.RowKit Frm

/-- blocks whose bytes these are, and their places -/
structure Blks (l : List UInt8) (ss : List Nat) (LL : List (List Cl)) : Prop where
  e : l = flatB LL
  s : ss = starts LL 0
  ok : ∀ M ∈ LL, Sorted M ∧ M ≠ [] ∧ (recB M).length ≤ 65535
theorem Blks.n {l : List UInt8} {ss : List Nat} {LL : List (List Cl)} (h : Blks l ss LL) : LL.length = ss.length := by rw [h.s, starts_len]
/-- the last k blocks are read, what stands ahead of them has E bytes -/
structure ReadTo (l : List UInt8) (ss : List Nat) (k : Nat) (LL : List (List Cl)) (E : Nat) : Prop where
  ok : ∀ M ∈ LL.drop (ss.length - k), Sorted M ∧ M ≠ []
  le : (flatC (LL.drop (ss.length - k)).flatten).length + E ≤ l.length
  ex : ∀ L0, Blks l ss L0 → LL.drop (ss.length - k) = L0.drop (ss.length - k) ∧ E = (flatB (L0.take (ss.length - k))).length
section
variable {l : List UInt8} {ss : List Nat} {k E : Nat} {LL : List (List Cl)} {M : List Cl} {m : List UInt8}
theorem readTo_zero (hn : LL.length = ss.length) : ReadTo l ss 0 LL l.length := by
  have h0 : LL.drop (ss.length - 0) = [] := by rw [Nat.sub_zero, ← hn, List.drop_length]
  refine ⟨fun M hM => (by rw [h0] at hM; cases hM), (by rw [h0]; simp [flatC]), fun L0 h => ⟨?_, ?_⟩⟩
  · rw [h0, Nat.sub_zero, ← h.n, List.drop_length]
  · rw [Nat.sub_zero, ← h.n, List.take_length, h.e]
/-- the block at its place -/
theorem blk_there {L0 : List (List Cl)} (h : Blks l ss L0) {i : Nat} (hi : i < ss.length) (hE : E = (flatB (L0.take (i + 1))).length) :
    ∃ M, L0[i]? = some M ∧ ss[i] = (flatB (L0.take i)).length ∧ ss[i] ≤ E ∧ (l.take E).drop ss[i] = blkB M ++ [] ∧ Sorted M ∧ M ≠ [] ∧ (recB M).length ≤ 65535 := by
  have hil : i < L0.length := by rw [h.n]; exact hi
  have hf : L0[i]? = some L0[i] := List.getElem?_eq_getElem hil
  generalize L0[i] = M at hf
  obtain ⟨h1, h2, h3⟩ := h.ok M (List.mem_of_getElem? hf)
  have hs : ss[i] = (flatB (L0.take i)).length := by
    have := starts_at (a := 0) hil
    rw [← h.s, List.getElem?_eq_getElem hi, Nat.zero_add] at this
    simpa using this
  have hsn := flatB_snoc hf
  refine ⟨M, hf, hs, ?_, ?_, h1, h2, h3⟩
  · rw [hE, hs, hsn, List.length_append]
    omega
  · have e1 : l.take E = flatB (L0.take (i + 1)) := by
      have e2 : l = flatB (L0.take (i + 1)) ++ flatB (L0.drop (i + 1)) := by rw [← flatB_app, List.take_append_drop]; exact h.e
      rw [hE]
      conv => lhs; rw [e2]
      rw [List.take_left]
    rw [e1, hsn, hs, List.drop_left, List.append_nil]
theorem ReadTo.step (h : ReadTo l ss k LL E) (hn : LL.length = ss.length) {i : Nat} (hk : k < ss.length) (hi : i = ss.length - 1 - k) (hil : i < ss.length) (hEl : E ≤ l.length) (hB : BlkAt ((l.take E).drop ss[i]) M m) : ReadTo l ss (k + 1) (LL.set i M) ss[i] := by
  have e1 : ss.length - (k + 1) = i := by omega
  have e2 : ss.length - k = i + 1 := by omega
  have hd : (LL.set i M).drop i = M :: LL.drop (i + 1) := by
    rw [List.drop_eq_getElem_cons (by rw [List.length_set]; omega), List.getElem_set_self, List.drop_set, if_pos (by omega)]
  have hle := h.le
  rw [e2] at hle
  refine ⟨fun A hA => ?_, ?_, fun L0 h0 => ?_⟩
  · rw [e1, hd] at hA
    rcases List.mem_cons.1 hA with rfl | hA
    · exact ⟨hB.s, hB.ne⟩
    · exact h.ok A (by rw [e2]; exact hA)
  · have hl := congrArg List.length hB.e
    rw [List.length_append, blkB_len, List.length_drop, List.length_take] at hl
    rw [e1, hd, List.flatten_cons, flatC_app, List.length_append]
    omega
  · obtain ⟨x1, x2⟩ := h.ex L0 h0
    rw [e2] at x1 x2
    obtain ⟨M', hM', b1, -, b3, b4, b5, b6⟩ := blk_there h0 hil x2
    obtain ⟨rfl, -⟩ := hB.one ⟨b3, b4, b5, b6⟩
    rw [e1, hd, x1]
    obtain ⟨hl, he⟩ := List.getElem?_eq_some_iff.1 hM'
    exact ⟨by rw [List.drop_eq_getElem_cons hl, he], b1⟩
theorem ReadTo.none (h : ReadTo l ss k LL E) {i : Nat} (hk : k < ss.length) (hi : i = ss.length - 1 - k) (hil : i < ss.length) (hno : ¬ (ss[i] ≤ E ∧ ∃ M m, BlkAt ((l.take E).drop ss[i]) M m)) : ¬ ∃ L0, Blks l ss L0 := fun ⟨L0, h0⟩ => by
  obtain ⟨-, x2⟩ := h.ex L0 h0
  rw [show ss.length - k = i + 1 by omega] at x2
  obtain ⟨M', -, -, b2, b3, b4, b5, b6⟩ := blk_there h0 hil x2
  exact hno ⟨b2, M', [], ⟨b3, b4, b5, b6⟩⟩
theorem ReadTo.all (h : ReadTo l ss ss.length LL E) : (∀ M ∈ LL, Sorted M ∧ M ≠ []) ∧ (flatC LL.flatten).length ≤ l.length ∧ ∀ L0, Blks l ss L0 → LL = L0 := by
  obtain ⟨h1, h2, h3⟩ := h
  rw [Nat.sub_self, List.drop_zero] at h1 h2 h3
  refine ⟨h1, by omega, fun L0 h0 => ?_⟩
  have := (h3 L0 h0).1
  rwa [List.drop_zero] at this
end
end Go.Proofs.Ytdemdmingelamaa.Ce
