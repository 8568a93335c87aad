/- A command out of bytes: plain. -/
import Derived.Test.YtkpdadnmbjmfpaaDoorCmT
import Derived.Test.YtkpdadnmbjmfpaaDoorCrA
namespace Go.Proofs.YtkpdadnmbjmfpaaDoor.Ce
open Go.RowKit

theorem allB_cons (t : ByteArray) (T : List ByteArray) : allB (t :: T) = textB t ++ allB T := rfl
theorem allB_snoc1 (T : List ByteArray) (t : ByteArray) : allB (T ++ [t]) = allB T ++ textB t := by
  unfold allB
  rw [List.flatMap_append]
  simp
theorem allB_split : ∀ (T C : List ByteArray) (R : List UInt8), (∀ s ∈ T, s.size ≤ 4294967295) → (∀ s ∈ C, s.size ≤ 4294967295) → T.length ≤ C.length → allB T ++ R = allB C → T = C.take T.length ∧ R = allB (C.drop T.length)
  | [], C, R, _, _, _, h => ⟨rfl, h⟩
  | t :: T, [], R, _, _, hl, _ => by simp at hl
  | t :: T, c :: C, R, hT, hC, hl, h => by
    rw [allB_cons, allB_cons, List.append_assoc] at h
    obtain ⟨-, a1, a2⟩ := ct_of t (hT t (by simp)) (allB T ++ R)
    obtain ⟨-, b1, b2⟩ := ct_of c (hC c (by simp)) (allB C)
    rw [h, b1] at a1
    rw [h, b2] at a2
    subst a1
    obtain ⟨h1, h2⟩ := allB_split T C R (fun s hs => hT s (by simp [hs])) (fun s hs => hC s (by simp [hs])) (by simpa using hl) a2.symm
    exact ⟨by rw [List.length_cons, List.take_succ_cons, ← h1], by rw [List.length_cons, List.drop_succ_cons]; exact h2⟩
/-- a command's bytes, and no others -/
def IsCmd (s : List UInt8) (c : Cm) : Prop := c.Sound ∧ (cmdB c).length ≤ 512 ∧ s = cmdB c
theorem cmd_drop (c : Cm) : (cmdB c).drop 20 = allB (cmT c) := by
  unfold cmdB
  rw [List.drop_left' (by rw [numsB_len]; rfl)]
/-- texts that were read -/
structure Rdg (s : List UInt8) (T : List ByteArray) (a : Nat) : Prop where
  e : s.drop 20 = allB T ++ s.drop a
  le : a ≤ s.length
  z : ∀ t ∈ T, t.size ≤ 4294967295
theorem Rdg.start {s : List UInt8} (h : 20 ≤ s.length) : Rdg s [] 20 := ⟨rfl, h, by simp⟩
theorem Rdg.no {s : List UInt8} {T : List ByteArray} {a : Nat} (h : Rdg s T a) (hT : T.length < 5) (hn : ¬ textOk (s.drop a)) : ∀ c, ¬ IsCmd s c := by
  rintro c ⟨hs, -, rfl⟩
  have he := h.e
  rw [cmd_drop] at he
  obtain ⟨-, h2⟩ := allB_split T (cmT c) _ h.z hs.texts (by simp [cmT]; omega) he.symm
  apply hn
  have hl : T.length < (cmT c).length := by simp [cmT]; omega
  rw [h2, List.drop_eq_getElem_cons hl, allB_cons]
  exact textOk_textB _ (hs.texts _ (List.getElem_mem hl)) _
theorem no_short {s : List UInt8} (h : s.length < 20) : ∀ c, ¬ IsCmd s c := by
  rintro c ⟨-, -, rfl⟩
  have := cmdB_len c
  omega
theorem Rdg.next {s : List UInt8} {T : List ByteArray} {a : Nat} (h : Rdg s T a) (hk : textOk (s.drop a)) : Rdg s (T ++ [textThere (s.drop a)]) (a + textSize (s.drop a)) := by
  obtain ⟨a1, a2, a3, a4, a5, a6, a7, a8, a9⟩ := ok_size hk
  rw [List.length_drop] at a5
  have hle := h.le
  refine ⟨?_, by omega, ?_⟩
  · rw [h.e, allB_snoc1, List.append_assoc]
    congr 1
    rw [← List.drop_drop, a3, ← a7, ← a8]
    exact ct_inv a6
  · intro t ht
    rcases List.mem_append.1 ht with h1 | h1
    · exact h.z t h1
    · rw [List.mem_singleton.1 h1]
      have := numOf_lt (s.drop a)
      omega
theorem num_head {l : List UInt8} (h : 4 ≤ l.length) : l = numB (numOf l) ++ l.drop 4 := by
  have e := Frm.numOf_take4 l h
  rw [← e, Frm.numB_numOf _ (by simp; omega), List.take_append_drop]
/-- what the numbers and the texts make -/
def gotC (s : List UInt8) (t0 t1 t2 t3 t4 : ByteArray) : Cm := ⟨numOf (s.drop 0), numOf (s.drop 4), numOf (s.drop 8), t0, t1, t2, numOf (s.drop 12), t3, t4, (numOf (s.drop 16) : Int) == 1⟩
theorem numsB5 (c : Cm) : numsB (cmN c) = numB c.client.toNat ++ (numB c.seq.toNat ++ (numB c.kind.toNat ++ (numB c.at_.toNat ++ numB (if c.has = true then 1 else 0 : Int).toNat))) := by
  simp [numsB, cmN]
theorem cmd_nums {c : Cm} (hs : c.Sound) : (numOf ((cmdB c).drop 0) : Int) = c.client ∧ (numOf ((cmdB c).drop 4) : Int) = c.seq ∧ (numOf ((cmdB c).drop 8) : Int) = c.kind ∧ (numOf ((cmdB c).drop 12) : Int) = c.at_ ∧ (numOf ((cmdB c).drop 16) : Int) = if c.has = true then 1 else 0 := by
  have e : cmdB c = numB c.client.toNat ++ (numB c.seq.toNat ++ (numB c.kind.toNat ++ (numB c.at_.toNat ++ (numB (if c.has = true then 1 else 0 : Int).toNat ++ allB (cmT c))))) := by
    unfold cmdB
    rw [numsB5]
    simp [List.append_assoc]
  have H := hs.nums
  have h0 := H c.client (by simp [cmN])
  have h1 := H c.seq (by simp [cmN])
  have h2 := H c.kind (by simp [cmN])
  have h3 := H c.at_ (by simp [cmN])
  have hd : ∀ (n : Nat) (m : List UInt8) (k : Nat), (numB n ++ m).drop (4 + k) = m.drop k := fun n m k => by rw [← List.drop_drop, List.drop_left' (numB_len n)]
  rw [e]
  refine ⟨?_, ?_, ?_, ?_, ?_⟩
  · rw [List.drop_zero, Frm.numOf_numB _ (by omega)]; omega
  · rw [hd _ _ 0, List.drop_zero, Frm.numOf_numB _ (by omega)]; omega
  · rw [hd _ _ 4, hd _ _ 0, List.drop_zero, Frm.numOf_numB _ (by omega)]; omega
  · rw [hd _ _ 8, hd _ _ 4, hd _ _ 0, List.drop_zero, Frm.numOf_numB _ (by omega)]; omega
  · rw [hd _ _ 12, hd _ _ 8, hd _ _ 4, hd _ _ 0, List.drop_zero, Frm.numOf_numB _ (by split <;> simp)]; split <;> simp
theorem got_iff {s : List UInt8} {t0 t1 t2 t3 t4 : ByteArray} {a : Nat} (h : Rdg s [t0, t1, t2, t3, t4] a) (hl : 20 ≤ s.length) (c : Cm) :
    IsCmd s c ↔ c = gotC s t0 t1 t2 t3 t4 ∧ a = s.length ∧ numOf (s.drop 16) ≤ 1 ∧ (gotC s t0 t1 t2 t3 t4).Sound ∧ (cmdB (gotC s t0 t1 t2 t3 t4)).length ≤ 512 := by
  constructor
  · rintro ⟨hs, hz, rfl⟩
    obtain ⟨n0, n1, n2, n3, n4⟩ := cmd_nums hs
    have he := h.e
    rw [cmd_drop] at he
    obtain ⟨h1, h2⟩ := allB_split _ (cmT c) _ h.z hs.texts (by simp [cmT]) he.symm
    have hla : a = (cmdB c).length := by
      have := congrArg List.length h2
      rw [List.length_drop] at this
      simp [cmT, allB] at this
      have := h.le
      omega
    simp only [cmT, List.length_cons, List.length_nil, List.take_succ_cons, List.take_zero, List.cons.injEq, and_true] at h1
    obtain ⟨rfl, rfl, rfl, rfl, rfl⟩ := h1
    have hc : c = gotC (cmdB c) c.row c.col c.to_ c.value c.expect := by
      apply Cm.ext' <;> simp only [gotC]
      · exact n0.symm
      · exact n1.symm
      · exact n2.symm
      · exact n3.symm
      · rw [n4]
        cases c.has <;> rfl
    refine ⟨hc, hla, ?_, by rw [← hc]; exact hs, by rw [← hc]; exact hz⟩
    have : (numOf ((cmdB c).drop 16) : Int) ≤ 1 := by rw [n4]; split <;> omega
    omega
  · rintro ⟨rfl, rfl, h1, hs, hz⟩
    refine ⟨hs, hz, ?_⟩
    have he := h.e
    rw [List.drop_length, List.append_nil] at he
    have e0 : s = numB (numOf (s.drop 0)) ++ s.drop 4 := by have := num_head (l := s) (by omega); rwa [List.drop_zero]
    have e1 := num_head (l := s.drop 4) (by rw [List.length_drop]; omega)
    have e2 := num_head (l := s.drop 8) (by rw [List.length_drop]; omega)
    have e3 := num_head (l := s.drop 12) (by rw [List.length_drop]; omega)
    have e4 := num_head (l := s.drop 16) (by rw [List.length_drop]; omega)
    rw [List.drop_drop] at e1 e2 e3 e4
    unfold cmdB
    rw [numsB5]
    have hh : (if (gotC s t0 t1 t2 t3 t4).has = true then 1 else 0 : Int).toNat = numOf (s.drop 16) := by
      show (if ((numOf (s.drop 16) : Int) == 1) = true then 1 else 0 : Int).toNat = _
      split
      · rename_i q
        have := eq_of_beq q
        omega
      · rename_i q
        have : ¬ (numOf (s.drop 16) : Int) = 1 := fun e => q (by rw [e]; rfl)
        simp
        omega
    rw [hh]
    simp only [gotC, Int.toNat_natCast, cmT, List.append_assoc]
    rw [← he, ← e4, ← e3, ← e2, ← e1, ← e0]
end Go.Proofs.YtkpdadnmbjmfpaaDoor.Ce
