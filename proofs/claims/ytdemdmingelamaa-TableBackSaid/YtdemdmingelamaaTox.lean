/- What Open tells of a table's bytes, plain: its cells cut at the least size are its blocks. -/
import Derived.Test.YtdemdmingelamaaTcp
import Derived.Test.YtdemdmingelamaaTrp
import Derived.Test.YtdemdmingelamaaTle
import Derived.Test.YtdemdmingelamaaTce
import Derived.Test.YtdemdmingelamaaRef1
namespace Go.Proofs.Ytdemdmingelamaa.Ce
open Go.RowKit Frm

theorem flatC_take_le (A : List Cl) {j k : Nat} (h : j ≤ k) : (flatC (A.take j)).length ≤ (flatC (A.take k)).length := by
  have : A.take j = (A.take k).take j := by rw [List.take_take, Nat.min_eq_left h]
  rw [this]
  conv => rhs; rw [← List.take_append_drop j (A.take k), flatC_app, List.length_append]
  omega
/-- cells whose beginnings have too few bytes are run over -/
theorem cutG_run {size : Int} : ∀ (A R now : List Cl) (n : Nat), n = (flatC now).length → (∀ k, k < A.length → ((n + (flatC (A.take k)).length : Nat) : Int) < size) → A ≠ [] →
    cutG size (A ++ R) n now = if size ≤ ((n + (flatC A).length : Nat) : Int) then (now ++ A) :: cutG size R 0 [] else cutG size R (n + (flatC A).length) (now ++ A)
  | [], R, now, n, _, _, h => absurd rfl h
  | [c], R, now, n, hn, hk, _ => by
    rw [List.singleton_append, cutG, flatC_one]
  | c :: d :: A, R, now, n, hn, hk, _ => by
    have h1 := hk 1 (by simp)
    rw [List.take_succ_cons, List.take_zero, flatC_one] at h1
    rw [List.cons_append, cutG, if_neg (by omega)]
    have ih := cutG_run (size := size) (d :: A) R (now ++ [c]) (n + (cellB c).length) (by rw [flatC_app, flatC_one, List.length_append, hn]) (fun k hk' => by
      have := hk (k + 1) (by simpa using hk')
      rw [List.take_succ_cons, flatC, List.length_append] at this
      omega) (by simp)
    rw [ih, flatC.eq_2 c (d :: A), List.length_append, ← Nat.add_assoc, List.append_assoc]
    rfl
/-- blocks that are cut at a size are what their cells are cut to -/
theorem cut_uniq {size : Int} (h1 : 1 ≤ size) : ∀ (LL : List (List Cl)), (∀ j A, LL[j]? = some A → BlkOk size A (decide (j + 1 = LL.length))) → cutB size LL.flatten = LL
  | [], _ => rfl
  | A :: LL, h => by
    have h0 := h 0 A rfl
    have ih := cut_uniq h1 LL fun j B hB => by
      have := h (j + 1) B (by simpa using hB)
      rwa [List.length_cons, show decide (j + 1 + 1 = LL.length + 1) = decide (j + 1 = LL.length) by simp] at this
    unfold cutB at ih ⊢
    rw [List.flatten_cons, cutG_run A LL.flatten [] 0 rfl (fun k hk => by have := h0.lt k hk; omega) h0.ne]
    split
    · rw [ih]; rfl
    · next hs =>
      cases LL with
      | nil => rw [List.flatten_nil, cutG, if_neg (by simpa using h0.ne)]; rfl
      | cons B LL =>
        have := h0.ge (by simp)
        omega
theorem cut_least {size : Int} {S : List Cl} (h1 : 1 ≤ size) : cutB (leastQ (cutB size S) (cutB size S).length : Int) S = cutB size S := by
  obtain ⟨LL, hLL⟩ : ∃ LL, cutB size S = LL := ⟨_, rfl⟩
  have hok : ∀ j A, LL[j]? = some A → BlkOk size A (decide (j + 1 = LL.length)) := fun j A hA => by
    subst hLL
    exact cutB_ok h1 hA
  have hS : LL.flatten = S := by rw [← hLL, cutB_flat]
  rw [hLL]
  have hle : leastQ LL LL.length ≤ size.toNat := leastQ_le (by omega) (fun M hM => by
    obtain ⟨j, hj⟩ := List.getElem?_of_mem hM
    have hb := hok j M hj
    have hp := List.length_pos_iff.2 hb.ne
    have := hb.lt (M.length - 1) (by omega)
    unfold most1
    omega) _
  have hge := leastQ_ge LL LL.length
  have := cut_uniq (size := (leastQ LL LL.length : Int)) (by omega) LL fun j A hA => by
    have hb := hok j A hA
    have hm := leastQ_mem (k := LL.length) hA (List.getElem?_eq_some_iff.1 hA).1
    have hp := List.length_pos_iff.2 hb.ne
    refine ⟨hb.ne, fun k hk => ?_, fun hl => ?_⟩
    · have := flatC_take_le A (show k ≤ A.length - 1 by omega)
      unfold most1 at hm
      omega
    · have := hb.ge hl
      omega
  rwa [hS] at this
theorem text_ct {s : ByteArray} (h : s.size ≤ 4294967295) : ctOk (textB s) = true ∧ ctS (textB s) = s := by
  have h1 := textOk_textB s h []
  have h2 := textOf_textB s h []
  rw [List.append_nil] at h1 h2
  refine ⟨ctOk_iff.2 h1, ?_⟩
  unfold ctS
  rw [if_pos (ctOk_iff.2 h1), h2]
/-- a table's bytes have its parts -/
theorem tab_exact {l bd ft lf : List UInt8} {ss : List Nat} {S : List Cl} {L0 : List (List Cl)} (h : TabAt l S L0) (hl : l.length ≤ 1000000) (hE : EndOk l bd ft) (hF : ∀ LL t, FootAt ft LL t → ss = starts LL 0 ∧ lf = t) : lf = textB ⟨(filt S).toArray⟩ ∧ Blks bd ss L0 := by
  obtain ⟨rfl, rfl⟩ := hE _ _ h.foot h.e
  have hlen := congrArg List.length h.e
  unfold tabB at hlen
  rw [List.length_append] at hlen
  have hfl : (flatB L0).length ≤ 1000000 := by omega
  have hn : L0.length ≤ 1000000 := by
    have := flatB_len L0
    omega
  obtain ⟨h1, h2⟩ := hF L0 _ ⟨rfl, fun M hM => h.row hM, by omega, by omega⟩
  exact ⟨h2, ⟨rfl, h1, fun M hM => ⟨(h.row hM).1, (h.row hM).2, h.fit M hM⟩⟩⟩
end Go.Proofs.Ytdemdmingelamaa.Ce
