/- Blocks as plain lists: a block's bytes, how cells are cut into blocks, which block stands at the beginning of bytes. Plain. -/
import Derived.Test.YtgcbmdolbmmljaaGreatCpA
import Derived.Test.YtgcbmdolbmmljaaGreatFrmA
namespace Go.Proofs.YtgcbmdolbmmljaaGreat.Ce
open Go.RowKit Frm

/-- the bytes of all cells, one behind the other -/
def flatC : List Cl → List UInt8
  | [] => []
  | c :: L => cellB c ++ flatC L
/-- a block's record -/
def recB (L : List Cl) : List UInt8 := numB L.length ++ flatC L
/-- a block's bytes -/
def blkB (L : List Cl) : List UInt8 := frm (recB L)
theorem flatC_app : ∀ A C : List Cl, flatC (A ++ C) = flatC A ++ flatC C
  | [], C => rfl
  | c :: A, C => by rw [List.cons_append, flatC, flatC, flatC_app A C, List.append_assoc]
theorem flatC_one (c : Cl) : flatC [c] = cellB c := by simp [flatC]
theorem flatC_snoc {L : List Cl} {k : Nat} {c : Cl} (h : L[k]? = some c) : flatC (L.take (k + 1)) = flatC (L.take k) ++ cellB c := by
  obtain ⟨hl, rfl⟩ := List.getElem?_eq_some_iff.1 h
  rw [List.take_succ_eq_append_getElem hl, flatC_app, flatC_one]
theorem flatC_drop {L : List Cl} {k : Nat} {c : Cl} (h : L[k]? = some c) : flatC (L.drop k) = cellB c ++ flatC (L.drop (k + 1)) := by
  obtain ⟨hl, rfl⟩ := List.getElem?_eq_some_iff.1 h
  rw [List.drop_eq_getElem_cons hl, flatC]
theorem flatC_le : ∀ {L : List Cl}, (∀ c ∈ L, c.ok) → (flatC L).length ≤ 401 * L.length
  | [], _ => by simp [flatC]
  | c :: L, h => by
    have h1 := cellB_le (h c (by simp))
    have h2 := flatC_le (L := L) fun x hx => h x (by simp [hx])
    rw [flatC, List.length_append, List.length_cons]
    omega
theorem cellB_ge {c : Cl} (h : c.ok) : 19 ≤ (cellB c).length := by
  rw [cellB_len]
  have := h.r1
  have := h.c1
  omega
theorem flatC_ge : ∀ {L : List Cl}, (∀ c ∈ L, c.ok) → 19 * L.length ≤ (flatC L).length
  | [], _ => by simp
  | c :: L, h => by
    have h1 := cellB_ge (h c (by simp))
    have h2 := flatC_ge (L := L) fun x hx => h x (by simp [hx])
    rw [flatC, List.length_append, List.length_cons]
    omega
theorem recB_len (L : List Cl) : (recB L).length = 4 + (flatC L).length := by unfold recB; rw [List.length_append, numB_len]
theorem blkB_len (L : List Cl) : (blkB L).length = 16 + (flatC L).length := by unfold blkB; rw [frm_len, recB_len]; omega
/-- cells' bytes part in one way only -/
theorem flatC_uniq : ∀ {A L : List Cl} {m m' : List UInt8}, (∀ c ∈ A, c.ok) → (∀ c ∈ L, c.ok) → A.length ≤ L.length → flatC A ++ m = flatC L ++ m' → A = L.take A.length ∧ m = flatC (L.drop A.length) ++ m'
  | [], L, m, m', _, _, _, e => by simpa [flatC] using e
  | a :: A, [], m, m', _, _, hl, _ => by simp at hl
  | a :: A, c :: L, m, m', hA, hL, hl, e => by
    rw [flatC, flatC, List.append_assoc, List.append_assoc] at e
    obtain ⟨rfl, e2⟩ := Stands.one (l := cellB a ++ (flatC A ++ m)) ⟨hA a (by simp), rfl⟩ ⟨hL c (by simp), e⟩
    obtain ⟨h1, h2⟩ := flatC_uniq (fun x hx => hA x (by simp [hx])) (fun x hx => hL x (by simp [hx])) (by simpa using hl) e2
    refine ⟨?_, ?_⟩
    · rw [List.length_cons, List.take_succ_cons, ← h1]
    · rw [List.length_cons, List.drop_succ_cons]
      exact h2

/-! how cells are cut into blocks -/
/-- L is left, now is what the block that is being made has, its bytes' number n -/
def cutG (size : Int) : List Cl → Nat → List Cl → List (List Cl)
  | [], _, now => if now = [] then [] else [now]
  | c :: L, n, now => if size ≤ ((n + (cellB c).length : Nat) : Int) then (now ++ [c]) :: cutG size L 0 [] else cutG size L (n + (cellB c).length) (now ++ [c])
def cutB (size : Int) (L : List Cl) : List (List Cl) := cutG size L 0 []
theorem cutG_end {size : Int} {L : List Cl} {k n : Nat} {now : List Cl} (hk : L.length ≤ k) (hn : now ≠ []) : cutG size (L.drop k) n now = [now] := by
  rw [List.drop_of_length_le hk, cutG, if_neg hn]
theorem cutG_nil {size : Int} {L : List Cl} {k n : Nat} (hk : L.length ≤ k) : cutG size (L.drop k) n [] = [] := by
  rw [List.drop_of_length_le hk, cutG, if_pos rfl]
theorem cutG_full {size : Int} {L : List Cl} {k n : Nat} {now : List Cl} {c : Cl} (h : L[k]? = some c) (hs : size ≤ ((n + (cellB c).length : Nat) : Int)) : cutG size (L.drop k) n now = (now ++ [c]) :: cutG size (L.drop (k + 1)) 0 [] := by
  obtain ⟨hl, rfl⟩ := List.getElem?_eq_some_iff.1 h
  rw [List.drop_eq_getElem_cons hl, cutG, if_pos hs]
theorem cutG_more {size : Int} {L : List Cl} {k n : Nat} {now : List Cl} {c : Cl} (h : L[k]? = some c) (hs : ¬ size ≤ ((n + (cellB c).length : Nat) : Int)) : cutG size (L.drop k) n now = cutG size (L.drop (k + 1)) (n + (cellB c).length) (now ++ [c]) := by
  obtain ⟨hl, rfl⟩ := List.getElem?_eq_some_iff.1 h
  rw [List.drop_eq_getElem_cons hl, cutG, if_neg hs]
theorem cutG_flat (size : Int) : ∀ (L : List Cl) (n : Nat) (now : List Cl), (cutG size L n now).flatten = now ++ L
  | [], n, now => by
    rw [cutG]
    split
    · next h => rw [h]; rfl
    · simp
  | c :: L, n, now => by
    rw [cutG]
    split
    · rw [List.flatten_cons, cutG_flat size L 0 [], List.nil_append, List.append_assoc]; rfl
    · rw [cutG_flat size L _ _, List.append_assoc]; rfl
theorem cutB_flat (size : Int) (L : List Cl) : (cutB size L).flatten = L := by unfold cutB; rw [cutG_flat, List.nil_append]
/-- a block that was cut; whether it is the last one -/
structure BlkOk (size : Int) (A : List Cl) (last : Bool) : Prop where
  ne : A ≠ []
  lt : ∀ k, k < A.length → ((flatC (A.take k)).length : Int) < size
  ge : last = false → size ≤ ((flatC A).length : Int)
theorem cutG_ok {size : Int} (h1 : 1 ≤ size) : ∀ (L : List Cl) (n : Nat) (now : List Cl), n = (flatC now).length → (∀ k, k ≤ now.length → ((flatC (now.take k)).length : Int) < size) →
    ∀ j A, (cutG size L n now)[j]? = some A → BlkOk size A (decide (j + 1 = (cutG size L n now).length))
  | [], n, now, hn, hH, j, A, hA => by
    rw [cutG] at hA ⊢
    split at hA
    · simp at hA
    · next hne =>
      rw [if_neg hne]
      obtain ⟨rfl, rfl⟩ : j = 0 ∧ A = now := by
        cases j with
        | zero => exact ⟨rfl, by simpa using hA.symm⟩
        | succ j => simp at hA
      exact ⟨hne, fun k hk => hH k (by omega), fun h => by simp at h⟩
  | c :: L, n, now, hn, hH, j, A, hA => by
    have hsn : n + (cellB c).length = (flatC (now ++ [c])).length := by rw [flatC_app, flatC_one, List.length_append, hn]
    rw [cutG] at hA ⊢
    split at hA
    · next hs =>
      rw [if_pos hs]
      cases j with
      | zero =>
        obtain rfl : now ++ [c] = A := by simpa using hA
        refine ⟨by simp, fun k hk => ?_, fun _ => by rw [← hsn]; exact hs⟩
        rw [List.length_append, List.length_singleton] at hk
        rw [List.take_append_of_le_length (by omega)]
        exact hH k (by omega)
      | succ j =>
        rw [List.getElem?_cons_succ] at hA
        have := cutG_ok h1 L 0 [] rfl (fun k _ => by simp [flatC]; omega) j A hA
        rw [List.length_cons, show decide (j + 1 + 1 = (cutG size L 0 []).length + 1) = decide (j + 1 = (cutG size L 0 []).length) by simp]
        exact this
    · next hs =>
      rw [if_neg hs]
      refine cutG_ok h1 L _ _ hsn (fun k hk => ?_) j A hA
      rw [List.length_append, List.length_singleton] at hk
      by_cases hkn : k ≤ now.length
      · rw [List.take_append_of_le_length hkn]
        exact hH k hkn
      · rw [List.take_of_length_le (by rw [List.length_append, List.length_singleton]; omega), ← hsn]
        omega
theorem cutB_ok {size : Int} (h1 : 1 ≤ size) {L : List Cl} {j : Nat} {A : List Cl} (h : (cutB size L)[j]? = some A) : BlkOk size A (decide (j + 1 = (cutB size L).length)) :=
  cutG_ok h1 L 0 [] rfl (fun k _ => by simp [flatC]; omega) j A h
theorem cutB_sub {size : Int} {L : List Cl} {j : Nat} {A : List Cl} (h : (cutB size L)[j]? = some A) : A.Sublist L := by
  have := List.sublist_flatten_of_mem (List.mem_of_getElem? h)
  rwa [cutB_flat] at this
theorem cutB_sorted {size : Int} {L : List Cl} (hs : Sorted L) {j : Nat} {A : List Cl} (h : (cutB size L)[j]? = some A) : Sorted A := by
  obtain ⟨h1, h2⟩ := sorted_iff.1 hs
  have hsub := cutB_sub h
  exact sorted_iff.2 ⟨fun c hc => h1 c (hsub.subset hc), h2.sublist hsub⟩
theorem cutG_len (size : Int) : ∀ (L : List Cl) (n : Nat) (now : List Cl), (cutG size L n now).length ≤ L.length + 1
  | [], n, now => by rw [cutG]; split <;> simp
  | c :: L, n, now => by
    rw [cutG]
    split
    · have := cutG_len size L 0 []
      rw [List.length_cons, List.length_cons]
      omega
    · have := cutG_len size L (n + (cellB c).length) (now ++ [c])
      rw [List.length_cons]
      omega
theorem cutB_len (size : Int) (L : List Cl) : (cutB size L).length ≤ L.length + 1 := cutG_len size L 0 []

/-! blocks, one behind the other -/
def flatB : List (List Cl) → List UInt8
  | [] => []
  | M :: LL => blkB M ++ flatB LL
theorem flatB_app : ∀ A C : List (List Cl), flatB (A ++ C) = flatB A ++ flatB C
  | [], C => rfl
  | M :: A, C => by rw [List.cons_append, flatB, flatB, flatB_app A C, List.append_assoc]
theorem flatB_snoc {LL : List (List Cl)} {k : Nat} {M : List Cl} (h : LL[k]? = some M) : flatB (LL.take (k + 1)) = flatB (LL.take k) ++ blkB M := by
  obtain ⟨hl, rfl⟩ := List.getElem?_eq_some_iff.1 h
  rw [List.take_succ_eq_append_getElem hl, flatB_app, flatB, flatB, List.append_nil]
theorem flatB_drop {LL : List (List Cl)} {k : Nat} {M : List Cl} (h : LL[k]? = some M) : flatB (LL.drop k) = blkB M ++ flatB (LL.drop (k + 1)) := by
  obtain ⟨hl, rfl⟩ := List.getElem?_eq_some_iff.1 h
  rw [List.drop_eq_getElem_cons hl, flatB]
theorem flatB_len : ∀ LL : List (List Cl), (flatB LL).length = 16 * LL.length + (flatC LL.flatten).length
  | [] => rfl
  | M :: LL => by
    rw [flatB, List.length_append, blkB_len, flatB_len LL, List.flatten_cons, flatC_app, List.length_append, List.length_cons]
    omega
theorem flatB_take_le (LL : List (List Cl)) (k : Nat) : (flatB (LL.take k)).length ≤ (flatB LL).length := by
  conv => rhs; rw [← List.take_append_drop k LL, flatB_app, List.length_append]
  omega
theorem flatB_drop_le (LL : List (List Cl)) (k : Nat) : (flatB (LL.drop k)).length ≤ (flatB LL).length := by
  conv => rhs; rw [← List.take_append_drop k LL, flatB_app, List.length_append]
  omega
theorem flatten_snoc {LL : List (List Cl)} {k : Nat} {M : List Cl} (h : LL[k]? = some M) : (LL.take (k + 1)).flatten = (LL.take k).flatten ++ M := by
  obtain ⟨hl, rfl⟩ := List.getElem?_eq_some_iff.1 h
  rw [List.take_succ_eq_append_getElem hl, List.flatten_append, List.flatten_cons, List.flatten_nil, List.append_nil]
theorem flatten_take_le (LL : List (List Cl)) (k : Nat) : (LL.take k).flatten.length ≤ LL.flatten.length := by
  conv => rhs; rw [← List.take_append_drop k LL, List.flatten_append, List.length_append]
  omega

/-! which block stands at the beginning -/
/-- r is a block's record -/
structure IsRec (r : List UInt8) (L : List Cl) : Prop where
  e : r = recB L
  s : Sorted L
  ne : L ≠ []
/-- a block stands at the beginning of b -/
structure BlkAt (b : List UInt8) (L : List Cl) (m : List UInt8) : Prop where
  e : b = blkB L ++ m
  s : Sorted L
  ne : L ≠ []
  le : (recB L).length ≤ 65535
theorem Sorted.ok {L : List Cl} (h : Sorted L) : ∀ c ∈ L, c.ok := (sorted_iff.1 h).1
theorem rec_num {r : List UInt8} {L : List Cl} (h : IsRec r L) (hl : r.length ≤ 1000000) : 4 ≤ r.length ∧ numOf r = L.length ∧ r.drop 4 = flatC L := by
  have h1 := flatC_ge h.s.ok
  have h2 := recB_len L
  have he := h.e
  subst he
  refine ⟨by omega, ?_, rfl⟩
  unfold recB
  exact numOf_numB _ (by omega) _
theorem rec_one {r : List UInt8} {L L' : List Cl} (h : IsRec r L) (h' : IsRec r L') (hl : r.length ≤ 1000000) : L = L' := by
  obtain ⟨-, n1, d1⟩ := rec_num h hl
  obtain ⟨-, n2, d2⟩ := rec_num h' hl
  have hn : L.length = L'.length := by omega
  obtain ⟨e, -⟩ := flatC_uniq (m := []) (m' := []) h.s.ok h'.s.ok (by omega) (by rw [← d1, ← d2])
  rw [e, hn, List.take_length]
/-- the k-th cell isn't there: r is no block's record -/
theorem rec_stop {r left : List UInt8} {A : List Cl} (hl : r.length ≤ 1000000) (hA : ∀ c ∈ A, c.ok) (hlt : A.length < numOf r) (hr : r.drop 4 = flatC A ++ left) (hno : ¬ ∃ c m, Stands left c m) : ¬ ∃ L, IsRec r L := by
  rintro ⟨L, h⟩
  obtain ⟨-, n1, d1⟩ := rec_num h hl
  rw [d1] at hr
  obtain ⟨-, e2⟩ := flatC_uniq (m := left) (m' := []) hA h.s.ok (by omega) (by rw [List.append_nil, hr])
  have hg : L[A.length]? = some (L[A.length]'(by omega)) := List.getElem?_eq_getElem _
  rw [List.append_nil, flatC_drop hg] at e2
  exact hno ⟨_, _, h.s.ok _ (List.getElem_mem _), e2⟩
/-- all cells are there: what r must be -/
theorem rec_end {r left : List UInt8} {A L : List Cl} (hl : r.length ≤ 1000000) (hA : ∀ c ∈ A, c.ok) (hlt : A.length = numOf r) (hr : r.drop 4 = flatC A ++ left) (h : IsRec r L) : L = A ∧ left = [] := by
  obtain ⟨-, n1, d1⟩ := rec_num h hl
  rw [d1] at hr
  obtain ⟨e1, e2⟩ := flatC_uniq (m := left) (m' := []) hA h.s.ok (by omega) (by rw [List.append_nil, hr])
  rw [show A.length = L.length by omega, List.take_length] at e1
  rw [show A.length = L.length by omega, List.drop_length] at e2
  exact ⟨e1.symm, by simpa [flatC] using e2⟩
theorem rec_yes {r : List UInt8} {A : List Cl} (h4 : 4 ≤ r.length) (hlt : A.length = numOf r) (hr : r.drop 4 = flatC A ++ []) (hs : Sorted A) (hne : A ≠ []) : IsRec r A := by
  refine ⟨?_, hs, hne⟩
  unfold recB
  rw [hlt, show numB (numOf r) = r.take 4 by rw [← numOf_take4 r h4]; exact numB_numOf _ (by rw [List.length_take]; omega), ← List.append_nil (flatC A), ← hr, List.take_append_drop]
theorem BlkAt.one {b m m' : List UInt8} {L L' : List Cl} (h : BlkAt b L m) (h' : BlkAt b L' m') : L = L' ∧ m = m' := by
  obtain ⟨e1, e2⟩ := frm_inj (h.e.symm.trans h'.e) h.le h'.le
  exact ⟨rec_one (r := recB L) ⟨rfl, h.s, h.ne⟩ ⟨e1, h'.s, h'.ne⟩ (by have := h.le; omega), e2⟩
/-- a frame's record is a block's: so the frame is a block -/
theorem blkAt_of {b r m : List UInt8} {L : List Cl} (hb : b = frm r ++ m) (hr : r.length ≤ 65535) (h : IsRec r L) : BlkAt b L m := by
  have he := h.e
  subst he
  exact ⟨hb, h.s, h.ne, hr⟩
theorem blkAt_no {b r m : List UInt8} (hb : b = frm r ++ m) (hr : r.length ≤ 65535) (h : ¬ ∃ L, IsRec r L) : ¬ ∃ L m, BlkAt b L m := by
  rintro ⟨L, m', h'⟩
  obtain ⟨e, -⟩ := frm_inj (hb.symm.trans h'.e) hr h'.le
  exact h ⟨L, e, h'.s, h'.ne⟩
theorem blkAt_whole {b m : List UInt8} {L : List Cl} (h : BlkAt b L m) : Whole b := whole_iff.2 ⟨_, _, h.e, h.le⟩
end Go.Proofs.YtgcbmdolbmmljaaGreat.Ce
