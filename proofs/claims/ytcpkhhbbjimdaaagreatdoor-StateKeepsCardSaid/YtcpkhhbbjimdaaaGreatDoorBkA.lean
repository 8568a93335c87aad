/- Blocks as plain lists: a block's bytes, how cells are cut into blocks, which block stands at the beginning of bytes. Plain. The contract of the reference's Put of layer 8. The contract of the reference's Cut of layer 8. The contract of the reference's Cut of layer 10. The contract of the reference's Put of layer 10. The contract of block.first: the cell at the beginning. The contracts of block.cells and block.Get. The contract of block.Put. The contract of block.Cut. -/
import Derived.Test.YtcpkhhbbjimdaaaGreatDoorCpA
import Derived.Test.YtcpkhhbbjimdaaaGreatDoorFrmA
import Derived.Test.YtcpkhhbbjimdaaaGreatDoorLow
import Derived.Test.YtcpkhhbbjimdaaaGreatDoorCsA
import Derived.Deep.QuietTactic
import Derived.BigQuiet
import Derived.IntWalk
import Derived.Test.YtcpkhhbbjimdaaaGreatDoorCso
import Derived.Deep.RegionLaw
set_option maxHeartbeats 8000000
set_option maxRecDepth 100000
namespace Go.Proofs.YtcpkhhbbjimdaaaGreatDoor.Ce
open Go.RowKit Frm
def flatC : List Cl → List UInt8
 | [] => []
 | c :: L => cellB c ++ flatC L
def recB (L : List Cl) : List UInt8 := numB L.length ++ flatC L
def blkB (L : List Cl) : List UInt8 := frm (recB L)
theorem flatC_app : ∀ A C : List Cl, flatC (A ++ C) = flatC A ++ flatC C
 | [], C => rfl
 | c :: A, C => by rw [List.cons_append, flatC, flatC, flatC_app A C, List.append_assoc]
theorem flatC_one (c : Cl) : flatC [c] = cellB c := by simp [flatC]
theorem flatC_snoc {L : List Cl} {k : Nat} {c : Cl} (h : L[k]? = some c) : flatC (L.take (k + 1)) = flatC (L.take k) ++ cellB c := by
 obtain ⟨hl, rfl⟩ := List.getElem?_eq_some_iff.1 h
 rw [List.take_succ_eq_append_getElem hl, flatC_app, flatC_one]
theorem flatC_drop {L : List Cl} {k : Nat} {c : Cl} (h : L[k]? = some c) : flatC (L.drop k) = cellB c ++ flatC (L.drop (k + 1)) := by
 obtain ⟨hl, rfl⟩ := List.getElem?_eq_some_iff.1 h
 rw [List.drop_eq_getElem_cons hl, flatC]
theorem flatC_le : ∀ {L : List Cl}, (∀ c ∈ L, c.ok) → (flatC L).length ≤ 401 * L.length
 | [], _ => by simp [flatC]
 | c :: L, h => by
  have h1 := cellB_le (h c (by simp))
  have h2 := flatC_le (L := L) fun x hx => h x (by simp [hx])
  rw [flatC, List.length_append, List.length_cons]
  omega
theorem cellB_ge {c : Cl} (h : c.ok) : 19 ≤ (cellB c).length := by
 rw [cellB_len]
 have := h.r1
 have := h.c1
 omega
theorem flatC_ge : ∀ {L : List Cl}, (∀ c ∈ L, c.ok) → 19 * L.length ≤ (flatC L).length
 | [], _ => by simp
 | c :: L, h => by
  have h1 := cellB_ge (h c (by simp))
  have h2 := flatC_ge (L := L) fun x hx => h x (by simp [hx])
  rw [flatC, List.length_append, List.length_cons]
  omega
theorem recB_len (L : List Cl) : (recB L).length = 4 + (flatC L).length := by unfold recB; rw [List.length_append, numB_len]
theorem blkB_len (L : List Cl) : (blkB L).length = 16 + (flatC L).length := by unfold blkB; rw [frm_len, recB_len]; omega
theorem flatC_uniq : ∀ {A L : List Cl} {m m' : List UInt8}, (∀ c ∈ A, c.ok) → (∀ c ∈ L, c.ok) → A.length ≤ L.length → flatC A ++ m = flatC L ++ m' → A = L.take A.length ∧ m = flatC (L.drop A.length) ++ m'
 | [], L, m, m', _, _, _, e => by simpa [flatC] using e
 | a :: A, [], m, m', _, _, hl, _ => by simp at hl
 | a :: A, c :: L, m, m', hA, hL, hl, e => by
  rw [flatC, flatC, List.append_assoc, List.append_assoc] at e
  obtain ⟨rfl, e2⟩ := Stands.one (l := cellB a ++ (flatC A ++ m)) ⟨hA a (by simp), rfl⟩ ⟨hL c (by simp), e⟩
  obtain ⟨h1, h2⟩ := flatC_uniq (fun x hx => hA x (by simp [hx])) (fun x hx => hL x (by simp [hx])) (by simpa using hl) e2
  refine ⟨?_, ?_⟩
  ·rw [List.length_cons, List.take_succ_cons, ← h1]
  ·rw [List.length_cons, List.drop_succ_cons]
   exact h2
def cutG (size : Int) : List Cl → Nat → List Cl → List (List Cl)
 | [], _, now => if now = [] then [] else [now]
 | c :: L, n, now => if size ≤ ((n + (cellB c).length : Nat) : Int) then (now ++ [c]) :: cutG size L 0 [] else cutG size L (n + (cellB c).length) (now ++ [c])
def cutB (size : Int) (L : List Cl) : List (List Cl) := cutG size L 0 []
theorem cutG_end {size : Int} {L : List Cl} {k n : Nat} {now : List Cl} (hk : L.length ≤ k) (hn : now ≠ []) : cutG size (L.drop k) n now = [now] := by
 rw [List.drop_of_length_le hk, cutG, if_neg hn]
theorem cutG_nil {size : Int} {L : List Cl} {k n : Nat} (hk : L.length ≤ k) : cutG size (L.drop k) n [] = [] := by
 rw [List.drop_of_length_le hk, cutG, if_pos rfl]
theorem cutG_full {size : Int} {L : List Cl} {k n : Nat} {now : List Cl} {c : Cl} (h : L[k]? = some c) (hs : size ≤ ((n + (cellB c).length : Nat) : Int)) : cutG size (L.drop k) n now = (now ++ [c]) :: cutG size (L.drop (k + 1)) 0 [] := by
 obtain ⟨hl, rfl⟩ := List.getElem?_eq_some_iff.1 h
 rw [List.drop_eq_getElem_cons hl, cutG, if_pos hs]
theorem cutG_more {size : Int} {L : List Cl} {k n : Nat} {now : List Cl} {c : Cl} (h : L[k]? = some c) (hs : ¬ size ≤ ((n + (cellB c).length : Nat) : Int)) : cutG size (L.drop k) n now = cutG size (L.drop (k + 1)) (n + (cellB c).length) (now ++ [c]) := by
 obtain ⟨hl, rfl⟩ := List.getElem?_eq_some_iff.1 h
 rw [List.drop_eq_getElem_cons hl, cutG, if_neg hs]
theorem cutG_flat (size : Int) : ∀ (L : List Cl) (n : Nat) (now : List Cl), (cutG size L n now).flatten = now ++ L
 | [], n, now => by
  rw [cutG]
  split
  ·next h => rw [h]; rfl
  ·simp
 | c :: L, n, now => by
  rw [cutG]
  split
  ·rw [List.flatten_cons, cutG_flat size L 0 [], List.nil_append, List.append_assoc]; rfl
  ·rw [cutG_flat size L _ _, List.append_assoc]; rfl
theorem cutB_flat (size : Int) (L : List Cl) : (cutB size L).flatten = L := by unfold cutB; rw [cutG_flat, List.nil_append]
structure BlkOk (size : Int) (A : List Cl) (last : Bool) : Prop where
 ne : A ≠ []
 lt : ∀ k, k < A.length → ((flatC (A.take k)).length : Int) < size
 ge : last = false → size ≤ ((flatC A).length : Int)
theorem cutG_ok {size : Int} (h1 : 1 ≤ size) : ∀ (L : List Cl) (n : Nat) (now : List Cl), n = (flatC now).length → (∀ k, k ≤ now.length → ((flatC (now.take k)).length : Int) < size) →
  ∀ j A, (cutG size L n now)[j]? = some A → BlkOk size A (decide (j + 1 = (cutG size L n now).length))
 | [], n, now, hn, hH, j, A, hA => by
  rw [cutG] at hA ⊢
  split at hA
  ·simp at hA
  ·next hne =>
   rw [if_neg hne]
   obtain ⟨rfl, rfl⟩ : j = 0 ∧ A = now := by
    cases j with
    | zero => exact ⟨rfl, by simpa using hA.symm⟩
    | succ j => simp at hA
   exact ⟨hne, fun k hk => hH k (by omega), fun h => by simp at h⟩
 | c :: L, n, now, hn, hH, j, A, hA => by
  have hsn : n + (cellB c).length = (flatC (now ++ [c])).length := by rw [flatC_app, flatC_one, List.length_append, hn]
  rw [cutG] at hA ⊢
  split at hA
  ·next hs =>
   rw [if_pos hs]
   cases j with
   | zero =>
    obtain rfl : now ++ [c] = A := by simpa using hA
    refine ⟨by simp, fun k hk => ?_, fun _ => by rw [← hsn]; exact hs⟩
    rw [List.length_append, List.length_singleton] at hk
    rw [List.take_append_of_le_length (by omega)]
    exact hH k (by omega)
   | succ j =>
    rw [List.getElem?_cons_succ] at hA
    have := cutG_ok h1 L 0 [] rfl (fun k _ => by simp [flatC]; omega) j A hA
    rw [List.length_cons, show decide (j + 1 + 1 = (cutG size L 0 []).length + 1) = decide (j + 1 = (cutG size L 0 []).length) by simp]
    exact this
  ·next hs =>
   rw [if_neg hs]
   refine cutG_ok h1 L _ _ hsn (fun k hk => ?_) j A hA
   rw [List.length_append, List.length_singleton] at hk
   by_cases hkn : k ≤ now.length
   ·rw [List.take_append_of_le_length hkn]
    exact hH k hkn
   ·rw [List.take_of_length_le (by rw [List.length_append, List.length_singleton]; omega), ← hsn]
    omega
theorem cutB_ok {size : Int} (h1 : 1 ≤ size) {L : List Cl} {j : Nat} {A : List Cl} (h : (cutB size L)[j]? = some A) : BlkOk size A (decide (j + 1 = (cutB size L).length)) :=
 cutG_ok h1 L 0 [] rfl (fun k _ => by simp [flatC]; omega) j A h
theorem cutB_sub {size : Int} {L : List Cl} {j : Nat} {A : List Cl} (h : (cutB size L)[j]? = some A) : A.Sublist L := by
 have := List.sublist_flatten_of_mem (List.mem_of_getElem? h)
 rwa [cutB_flat] at this
theorem cutB_sorted {size : Int} {L : List Cl} (hs : Sorted L) {j : Nat} {A : List Cl} (h : (cutB size L)[j]? = some A) : Sorted A := by
 obtain ⟨h1, h2⟩ := sorted_iff.1 hs
 have hsub := cutB_sub h
 exact sorted_iff.2 ⟨fun c hc => h1 c (hsub.subset hc), h2.sublist hsub⟩
def flatB : List (List Cl) → List UInt8
 | [] => []
 | M :: LL => blkB M ++ flatB LL
theorem flatB_app : ∀ A C : List (List Cl), flatB (A ++ C) = flatB A ++ flatB C
 | [], C => rfl
 | M :: A, C => by rw [List.cons_append, flatB, flatB, flatB_app A C, List.append_assoc]
theorem flatB_snoc {LL : List (List Cl)} {k : Nat} {M : List Cl} (h : LL[k]? = some M) : flatB (LL.take (k + 1)) = flatB (LL.take k) ++ blkB M := by
 obtain ⟨hl, rfl⟩ := List.getElem?_eq_some_iff.1 h
 rw [List.take_succ_eq_append_getElem hl, flatB_app, flatB, flatB, List.append_nil]
theorem flatB_len : ∀ LL : List (List Cl), (flatB LL).length = 16 * LL.length + (flatC LL.flatten).length
 | [] => rfl
 | M :: LL => by
  rw [flatB, List.length_append, blkB_len, flatB_len LL, List.flatten_cons, flatC_app, List.length_append, List.length_cons]
  omega
theorem flatB_take_le (LL : List (List Cl)) (k : Nat) : (flatB (LL.take k)).length ≤ (flatB LL).length := by
 conv => rhs; rw [← List.take_append_drop k LL, flatB_app, List.length_append]
 omega
theorem flatten_snoc {LL : List (List Cl)} {k : Nat} {M : List Cl} (h : LL[k]? = some M) : (LL.take (k + 1)).flatten = (LL.take k).flatten ++ M := by
 obtain ⟨hl, rfl⟩ := List.getElem?_eq_some_iff.1 h
 rw [List.take_succ_eq_append_getElem hl, List.flatten_append, List.flatten_cons, List.flatten_nil, List.append_nil]
theorem flatten_take_le (LL : List (List Cl)) (k : Nat) : (LL.take k).flatten.length ≤ LL.flatten.length := by
 conv => rhs; rw [← List.take_append_drop k LL, List.flatten_append, List.length_append]
 omega
structure IsRec (r : List UInt8) (L : List Cl) : Prop where
 e : r = recB L
 s : Sorted L
 ne : L ≠ []
structure BlkAt (b : List UInt8) (L : List Cl) (m : List UInt8) : Prop where
 e : b = blkB L ++ m
 s : Sorted L
 ne : L ≠ []
 le : (recB L).length ≤ 65535
theorem Sorted.ok {L : List Cl} (h : Sorted L) : ∀ c ∈ L, c.ok := (sorted_iff.1 h).1
theorem rec_num {r : List UInt8} {L : List Cl} (h : IsRec r L) (hl : r.length ≤ 1000000) : 4 ≤ r.length ∧ numOf r = L.length ∧ r.drop 4 = flatC L := by
 have h1 := flatC_ge h.s.ok
 have h2 := recB_len L
 have he := h.e
 subst he
 refine ⟨by omega, ?_, rfl⟩
 unfold recB
 exact numOf_numB _ (by omega) _
theorem rec_one {r : List UInt8} {L L' : List Cl} (h : IsRec r L) (h' : IsRec r L') (hl : r.length ≤ 1000000) : L = L' := by
 obtain ⟨-, n1, d1⟩ := rec_num h hl
 obtain ⟨-, n2, d2⟩ := rec_num h' hl
 have hn : L.length = L'.length := by omega
 obtain ⟨e, -⟩ := flatC_uniq (m := []) (m' := []) h.s.ok h'.s.ok (by omega) (by rw [← d1, ← d2])
 rw [e, hn, List.take_length]
theorem rec_stop {r left : List UInt8} {A : List Cl} (hl : r.length ≤ 1000000) (hA : ∀ c ∈ A, c.ok) (hlt : A.length < numOf r) (hr : r.drop 4 = flatC A ++ left) (hno : ¬ ∃ c m, Stands left c m) : ¬ ∃ L, IsRec r L := by
 rintro ⟨L, h⟩
 obtain ⟨-, n1, d1⟩ := rec_num h hl
 rw [d1] at hr
 obtain ⟨-, e2⟩ := flatC_uniq (m := left) (m' := []) hA h.s.ok (by omega) (by rw [List.append_nil, hr])
 have hg : L[A.length]? = some (L[A.length]'(by omega)) := List.getElem?_eq_getElem _
 rw [List.append_nil, flatC_drop hg] at e2
 exact hno ⟨_, _, h.s.ok _ (List.getElem_mem _), e2⟩
theorem rec_end {r left : List UInt8} {A L : List Cl} (hl : r.length ≤ 1000000) (hA : ∀ c ∈ A, c.ok) (hlt : A.length = numOf r) (hr : r.drop 4 = flatC A ++ left) (h : IsRec r L) : L = A ∧ left = [] := by
 obtain ⟨-, n1, d1⟩ := rec_num h hl
 rw [d1] at hr
 obtain ⟨e1, e2⟩ := flatC_uniq (m := left) (m' := []) hA h.s.ok (by omega) (by rw [List.append_nil, hr])
 rw [show A.length = L.length by omega, List.take_length] at e1
 rw [show A.length = L.length by omega, List.drop_length] at e2
 exact ⟨e1.symm, by simpa [flatC] using e2⟩
theorem rec_yes {r : List UInt8} {A : List Cl} (h4 : 4 ≤ r.length) (hlt : A.length = numOf r) (hr : r.drop 4 = flatC A ++ []) (hs : Sorted A) (hne : A ≠ []) : IsRec r A := by
 refine ⟨?_, hs, hne⟩
 unfold recB
 rw [hlt, show numB (numOf r) = r.take 4 by rw [← numOf_take4 r h4]; exact numB_numOf _ (by rw [List.length_take]; omega), ← List.append_nil (flatC A), ← hr, List.take_append_drop]
theorem BlkAt.one {b m m' : List UInt8} {L L' : List Cl} (h : BlkAt b L m) (h' : BlkAt b L' m') : L = L' ∧ m = m' := by
 obtain ⟨e1, e2⟩ := frm_inj (h.e.symm.trans h'.e) h.le h'.le
 exact ⟨rec_one (r := recB L) ⟨rfl, h.s, h.ne⟩ ⟨e1, h'.s, h'.ne⟩ (by have := h.le; omega), e2⟩
theorem blkAt_of {b r m : List UInt8} {L : List Cl} (hb : b = frm r ++ m) (hr : r.length ≤ 65535) (h : IsRec r L) : BlkAt b L m := by
 have he := h.e
 subst he
 exact ⟨hb, h.s, h.ne, hr⟩
theorem blkAt_no {b r m : List UInt8} (hb : b = frm r ++ m) (hr : r.length ≤ 65535) (h : ¬ ∃ L, IsRec r L) : ¬ ∃ L m, BlkAt b L m := by
 rintro ⟨L, m', h'⟩
 obtain ⟨e, -⟩ := frm_inj (hb.symm.trans h'.e) hr h'.le
 exact h ⟨L, e, h'.s, h'.ne⟩
theorem blkAt_whole {b m : List UInt8} {L : List Cl} (h : BlkAt b L m) : Whole b := whole_iff.2 ⟨_, _, h.e, h.le⟩
end Go.Proofs.YtcpkhhbbjimdaaaGreatDoor.Ce
namespace Go.Proofs.YtcpkhhbbjimdaaaGreatDoor.Ce
open Go.RowKit
theorem rnum_int (n : Int) (w : World) (h0 : 0 ≤ n) (h1 : n ≤ 4294967295) : Calls Tryz.prog 34 #[.int .i64 n] w fun e w' => ∃ v, e = .returned v ∧ Ow w' w.heap.size 5 v ((numB n.toNat).map bv) ∧ Below w.heap.size w w' := by
 have := rnum_ok n.toNat w (by omega)
 rw [Int.toNat_of_nonneg h0] at this
 exact this
end Go.Proofs.YtcpkhhbbjimdaaaGreatDoor.Ce
namespace Go.Proofs.YtcpkhhbbjimdaaaGreatDoor.Ce
open Go.RowKit
def Good (D : List UInt8) : Prop := spOk D = true ∧ (spC D).ok
theorem ok_size {D : List UInt8} (h : textOk D) : textSize D = 4 + numOf D ∧ textThere D = ⟨(textOf D).toArray⟩ ∧ D.drop (textSize D) = textRest D ∧ 4 ≤ textSize D ∧ textSize D ≤ D.length ∧ ctOk D = true ∧ ctS D = textThere D ∧ ctR D = textRest D ∧ (textThere D).size + 4 = textSize D := by
 have h1 := ctOk_iff.2 h
 have hlen : (textOf D).length = numOf D := by unfold textOf; have := h.2; simp; omega
 have hsz : (⟨(textOf D).toArray⟩ : ByteArray).size = numOf D := by rw [← hlen]; rfl
 unfold textSize textThere ctS ctR
 rw [if_pos h, if_pos h, if_pos h1, if_pos h1]
 have h4 := h.1
 have h5 := h.2
 refine ⟨rfl, rfl, ?_, by omega, by omega, h1, rfl, rfl, by omega⟩
 unfold textRest
 rw [List.drop_drop]
end Go.Proofs.YtcpkhhbbjimdaaaGreatDoor.Ce
namespace Go.Proofs.YtcpkhhbbjimdaaaGreatDoor.Ce
open Go.RowKit
structure CutR (w0 w : World) (v : Value) (vs : List Value) (LL : List (List Cl)) (u : Value) (now : List Cl) : Prop where
 b : OwB w w0.heap.size v vs LL
 n : OwL w w0.heap.size u now
 ap : ∀ (j : Nat) (x : Value), vs[j]? = some x → ∀ k, x.ownBlock = some k → u.ownBlock ≠ some k
 bel : Below w0.heap.size w0 w
section
variable {w0 w w' : World} {v u v' u' : Value} {vs : List Value} {LL : List (List Cl)} {now now' : List Cl}
theorem CutR.up (h : CutR w0 w v vs LL u now) (hb : Below w.heap.size w w') : CutR w0 w' v vs LL u now := ⟨h.b.below hb, h.n.below hb, h.ap, bwtrans h.bel hb (Nat.le_refl _)⟩
theorem OwB.rowAt (h : OwB w w0.heap.size v vs LL) {j : Nat} {x : Value} (hj : vs[j]? = some x) : ∃ L, LL[j]? = some L ∧ OwL w w0.heap.size x L := by
 have hl := (List.getElem?_eq_some_iff.1 hj).1
 have hL : LL[j]? = some (LL[j]'(by rw [← h.len]; exact hl)) := List.getElem?_eq_getElem _
 exact ⟨_, hL, h.row j x _ hj hL⟩
theorem CutR.app (h : CutR w0 w v vs LL u now) (ho : OwL w' w0.heap.size u' now') (hg : w.grownBy w' u.ownBlock) (h3 : u'.ownBlock = u.ownBlock ∨ u'.ownBlock = some w.heap.size) : CutR w0 w' v vs LL u' now' := by
 refine ⟨⟨h.b.out.kept hg (fun k hk e => ow_apart h.b.out h.n k e hk), h.b.len, fun j x L hx hL => (h.b.row j x L hx hL).keptR hg (h.ap j x hx)⟩, ho, fun j x hx k hk e => ?_, h.bel.grown hg h.bel.size fun k hk => (h.n.lt k hk).1⟩
 rcases h3 with h3 | h3
 ·exact h.ap j x hx k hk (h3 ▸ e)
 ·rw [h3] at e
  injection e with e
  obtain ⟨L, -, hr⟩ := h.b.rowAt hx
  have := (hr.lt k hk).2
  omega
theorem CutR.push (h : CutR w0 w v vs LL u now) (hb : OwB w' w0.heap.size v' (vs ++ [u]) (LL ++ [now])) (hg : w.grownBy w' v.ownBlock) : CutR w0 w' v' (vs ++ [u]) (LL ++ [now]) (.slice none 0 0) [] :=
 ⟨hb, OwL.nil _ _, (fun _ _ _ _ _ h => by cases h), h.bel.grown hg h.bel.size h.b.out.ge⟩
end
end Go.Proofs.YtcpkhhbbjimdaaaGreatDoor.Ce
namespace Go.Proofs.YtcpkhhbbjimdaaaGreatDoor.Ce
open Go.RowKit Frm
end Go.Proofs.YtcpkhhbbjimdaaaGreatDoor.Ce
namespace Go.Proofs.YtcpkhhbbjimdaaaGreatDoor.Ce
open Go.RowKit
theorem first_ok (x : Value) (l m : List UInt8) (c : Cl) (B : Nat) (w : World) (hr : Rd w B x (l.map bv)) (hB : B ≤ w.heap.size) (hl : l.length ≤ 1000000000) (hs : Stands l c m) :
  Calls Tryz.prog 150 #[x] w fun e w' => e = .returned (.tuple #[c.v, .int .i64 ((cellB c).length : Int), .bool true]) ∧ Below w.heap.size w w' := by
 obtain ⟨A, cp, rfl, hc, hm⟩ := hr.shapeM
 unfold maxLen at hm
 obtain ⟨k, hk⟩ : ∃ k, k = min l.length 401 := ⟨_, rfl⟩
 have hkl : (l.take 401).length = k := by rw [List.length_take]; omega
 have hk1 : k ≤ l.length := by omega
 have hk2 : min (l.length : Int) 401 = (k : Int) := by omega
 have htk : l.take 401 = l.take k := by
  rw [hk]
  by_cases h : l.length ≤ 401
  ·rw [List.take_of_length_le h, Nat.min_eq_left h, List.take_length]
  ·rw [Nat.min_eq_right (by omega)]
 have hrh := hr.cutTo (hi := k) hk1
 rw [← List.map_take, ← htk] at hrh
 have hsh := stands_head hs
 have hle := congrArg List.length hsh.2
 rw [List.length_append, hkl] at hle
 generalize m.take (401 - (cellB c).length) = mm at *
 generalize l.take 401 = hd at *
 have HR := Lib.hid hrh
 have HS := Lib.hid hsh
 have HK := Lib.hid (And.intro hkl hle)
 have hk3 : (0 : Int) ≤ (k : Int) := by omega
 have hk4 : (k : Int) ≤ (cp : Int) := by omega
 have hsub : (k : Int) - (mm.length : Int) = ((cellB c).length : Int) := by omega
 have hkc : k ≤ 401 := by omega
 clear hr hs hrh hsh htk hk hkl hle
 generalize (cellB c).length = z at *
 go_enter Tryz.func150, Tryz.ntmps150
 go_wp2_with (refine allocC rfl rfl ?_)
 constructor
 intro w0 hI0 hb0 hz0
 have HI0 := Lib.hid hI0
 have HB0 := Lib.hid hb0
 clear hI0 hb0 hz0
 go_wp2_with fail
 refine (cut_ok _ hd mm c B w0 (HR.out.below (HB0.out.mono hB)) (Nat.le_trans hB HB0.out.size) (by have := HK.out.1; omega) HS.out).mono ?_
 rintro e w1 ⟨⟨r, rfl, hx⟩, hb1⟩
 obtain ⟨A1, c1, rfl, -, -⟩ := hx.rd.shapeM
 have HI1 := Lib.hid (HI0.out.up hb1)
 have HB1 := Lib.hid (bwstep HB0.out hb1)
 clear hx hb1
 go_wp2_with (refine allocC rfl rfl ?_)
 constructor
 intro w2 hI2 hb2 hz2
 go_wp2_with (refine storeC (c := c) rfl (.tmp 6) (.tmp 17) rfl rfl rfl hI2 ?_)
 constructor
 intro w3 hs3
 have HI3 := Lib.hid hs3.i
 have HJ3 := Lib.hid (hs3.up (HI1.out.up hb2) (Nat.ne_of_lt HI1.out.lt))
 have HB3 := Lib.hid (bwstep HB1.out (hs3.bel hb2 (Nat.le_refl _)))
 have hne := Nat.le_of_lt HI1.out.lt
 clear hI2 hb2 hz2 hs3
 go_wp2_with (first | (refine loadC rfl (.tmp 6) rfl rfl HI3.out ?_) | (refine storeC (c := c) rfl (.tmp 2) (.tmp 20) rfl rfl rfl HJ3.out ?_))
 constructor
 intro w4 hs4
 have HI4 := Lib.hid hs4.i
 have HB4 := Lib.hid (hs4.bel HB3.out (Nat.le_refl _))
 clear hs4
 go_wp2_with fail
 exact bodyPost_ret (res3 Tryz.results150 rfl HI4.out) rfl ⟨rfl, HB4.out⟩
theorem first_no (x : Value) (l : List UInt8) (B : Nat) (w : World) (hr : Rd w B x (l.map bv)) (hB : B ≤ w.heap.size) (hl : l.length ≤ 1000000000) (hs : ¬ ∃ c m, Stands l c m) :
  Calls Tryz.prog 150 #[x] w fun e w' => (∃ n : Int, e = .returned (.tuple #[Cl.zero.v, .int .i64 n, .bool false])) ∧ Below w.heap.size w w' := by
 obtain ⟨A, cp, rfl, hc, hm⟩ := hr.shapeM
 unfold maxLen at hm
 obtain ⟨k, hk⟩ : ∃ k, k = min l.length 401 := ⟨_, rfl⟩
 have hkl : (l.take 401).length = k := by rw [List.length_take]; omega
 have hk1 : k ≤ l.length := by omega
 have hk2 : min (l.length : Int) 401 = (k : Int) := by omega
 have htk : l.take 401 = l.take k := by
  rw [hk]
  by_cases h : l.length ≤ 401
  ·rw [List.take_of_length_le h, Nat.min_eq_left h, List.take_length]
  ·rw [Nat.min_eq_right (by omega)]
 have hrh := hr.cutTo (hi := k) hk1
 rw [← List.map_take, ← htk] at hrh
 have hsh : ¬ ∃ c m, Stands (l.take 401) c m := fun ⟨c, m, h⟩ => hs ⟨c, _, head_stands h⟩
 generalize l.take 401 = hd at *
 have HR := Lib.hid hrh
 have HS := Lib.hid hsh
 have HK := Lib.hid hkl
 have hk3 : (0 : Int) ≤ (k : Int) := by omega
 have hk4 : (k : Int) ≤ (cp : Int) := by omega
 have hkc : k ≤ 401 := by omega
 clear hr hs hrh hsh htk hk hkl
 go_enter Tryz.func150, Tryz.ntmps150
 go_wp2_with (refine allocC rfl rfl ?_)
 constructor
 intro w0 hI0 hb0 hz0
 have HI0 := Lib.hid hI0
 have HB0 := Lib.hid hb0
 clear hI0 hb0 hz0
 go_wp2_with fail
 refine (cut_no _ hd B w0 (HR.out.below (HB0.out.mono hB)) (Nat.le_trans hB HB0.out.size) (by have := HK.out; omega) HS.out).mono ?_
 rintro e w1 ⟨rfl, hb1⟩
 have HI1 := Lib.hid (HI0.out.up hb1)
 have HB1 := Lib.hid (bwstep HB0.out hb1)
 clear hb1
 go_wp2_with (refine allocC rfl rfl ?_)
 constructor
 intro w2 hI2 hb2 hz2
 go_wp2_with (refine storeC (c := Cl.zero) rfl (.tmp 6) (.tmp 17) rfl rfl rfl hI2 ?_)
 constructor
 intro w3 hs3
 have HI3 := Lib.hid hs3.i
 have HJ3 := Lib.hid (hs3.up (HI1.out.up hb2) (Nat.ne_of_lt HI1.out.lt))
 have HB3 := Lib.hid (bwstep HB1.out (hs3.bel hb2 (Nat.le_refl _)))
 clear hI2 hb2 hz2 hs3
 go_wp2_with (first | (refine loadC rfl (.tmp 6) rfl rfl HI3.out ?_) | (refine storeC (c := Cl.zero) rfl (.tmp 2) (.tmp 20) rfl rfl rfl HJ3.out ?_))
 constructor
 intro w4 hs4
 have HI4 := Lib.hid hs4.i
 have HB4 := Lib.hid (hs4.bel HB3.out (Nat.le_refl _))
 clear hs4
 go_wp2_with fail
 exact bodyPost_ret (res3 Tryz.results150 rfl HI4.out) rfl ⟨⟨_, rfl⟩, HB4.out⟩
end Go.Proofs.YtcpkhhbbjimdaaaGreatDoor.Ce
namespace Go.Proofs.YtcpkhhbbjimdaaaGreatDoor.Ce
open Go.RowKit Frm
def CellsEnd (r : List UInt8) (w : World) (e : Ending) (w' : World) : Prop :=
 ((∃ L x, IsRec r L ∧ e = .returned (.tuple #[x, .bool true]) ∧ OwL w' w.heap.size x L) ∨ ((¬ ∃ L, IsRec r L) ∧ e = .returned (.tuple #[.slice none 0 0, .bool false]))) ∧ Below w.heap.size w w'
structure CellsS (r : List UInt8) (A : List Cl) (left : List UInt8) : Prop where
 e : r.drop 4 = flatC A ++ left
 ok : ∀ c ∈ A, c.ok
theorem CellsS.step {r left m : List UInt8} {A : List Cl} {c : Cl} (h : CellsS r A left) (hs : Stands left c m) : CellsS r (A ++ [c]) m := by
 refine ⟨?_, fun x hx => ?_⟩
 ·rw [h.e, hs.2, flatC_app, flatC_one, List.append_assoc]
 ·rcases List.mem_append.1 hx with hx | hx
  ·exact h.ok x hx
  ·rw [List.mem_singleton.1 hx]; exact hs.1
theorem CellsS.le {r left : List UInt8} {A : List Cl} (h : CellsS r A left) : 19 * A.length + left.length ≤ r.length := by
 have h1 := flatC_ge h.ok
 have h2 := congrArg List.length h.e
 rw [List.length_drop, List.length_append] at h2
 omega
theorem cells_any (x : Value) (r : List UInt8) (B : Nat) (w : World) (hr : Rd w B x (r.map bv)) (_hB : B ≤ w.heap.size) (hl : r.length ≤ 1000000) :
  Calls Tryz.prog 147 #[x] w (CellsEnd r w) := by
 by_cases h4 : 4 ≤ r.length
 ·obtain ⟨n, hn⟩ : ∃ n, n = numOf r := ⟨_, rfl⟩
  have hcn := cutNum_ok x r B w hr h4 (by omega)
  rw [← hn] at hcn
  have HN := Lib.hid hn
  have hnl : n ≤ 4294967295 := by have := numOf_lt r; omega
  clear hn hr
  go_enter Tryz.func147, Tryz.ntmps147
  go_wp2_with fail
  refine hcn.mono ?_
  rintro e w1 ⟨u, rfl, hu, hb1⟩
  have HU := Lib.hid hu
  have HB1 := Lib.hid hb1
  clear hcn hu hb1
  go_wp2_with fail
  go_loopw [5, 7, 18] (fun lf l i wr => ∃ (k : Nat) (A : List Cl) (left : List UInt8), k ≤ n ∧ i = .int .i64 (k : Int) ∧ Hid (A.length = k) ∧ OwL wr w1.heap.size l A ∧ Rd wr w1.heap.size lf (left.map bv) ∧ Hid (CellsS r A left) ∧ Below w1.heap.size w1 wr) (fun _ _ i _ => n - (intOf i).toNat)
  case atStart => exact ⟨0, [], r.drop 4, by simp, rfl, Lib.hid rfl, OwL.nil _ _, HU.out.rd, Lib.hid ⟨rfl, fun c hc => by cases hc⟩, Below.refl _ _⟩
  case round =>
   obtain ⟨k, A, left, hk, rfl, HKK, ho, hf, HS, hbw⟩ := hrel
   have hle := HS.out.le
   rw [HKK.out] at hle
   have HBW := Lib.hid hbw
   have HO := Lib.hid ho
   have HF := Lib.hid hf
   clear ho hf hbw
   by_cases hlt : k < n
   ·by_cases hst : ∃ c m, Stands left c m
    ·obtain ⟨c, m, hs⟩ := hst
     have HT := Lib.hid (HS.out.step hs)
     have hml : left.length = (cellB c).length + m.length := by rw [hs.2, List.length_append]
     have hmd : left.drop (cellB c).length = m := by rw [hs.2, List.drop_left]
     obtain ⟨Af, cf, rfl, hfc, hfm⟩ := HF.out.shapeM
     unfold maxLen at hfm
     have hfi := first_ok _ left m c _ wr HF.out HBW.out.size (by omega) hs
     have hzl : (cellB c).length ≤ left.length := by omega
     have hcE : cf = (cellB c).length → ∀ wz, Below w1.heap.size w1 wz → Rd wz w1.heap.size (.slice Af 0 0) (m.map bv) := fun e wz hb => by
      subst e
      have := (HF.out).fromEnd hzl
      rw [← List.map_drop, hmd] at this
      obtain ⟨A', c', e', p1, p2, p3⟩ := this
      injection e' with e1 e2 e3
      have : m = [] := List.eq_nil_of_length_eq_zero (by simpa using e2.symm)
      subst this
      exact ⟨Af, 0, rfl, Nat.le_refl _, by simp [maxLen], fun h => absurd h (by simp)⟩
     have hcN : ¬ cf = (cellB c).length → Rd wr w1.heap.size (.slice (Af.map fun x => x.add (cellB c).length) (left.length - (cellB c).length) (cf - (cellB c).length)) (m.map bv) := fun e => by
      have := HF.out.from_ hzl e
      rwa [← List.map_drop, hmd] at this
     have HCE := Lib.hid hcE
     have HCN := Lib.hid hcN
     have hz2 : (0 : Int) ≤ ((cellB c).length : Int) := by omega
     have hz3 : ((cellB c).length : Int) ≤ (left.length : Int) := by omega
     have hz4 : (left.length : Int) ≤ (cf : Int) := by omega
     have hz5 : left.length - (cellB c).length = m.length := by omega
     have hlA : A.length + [c].length ≤ 1000000000 := by rw [HKK.out]; simp; omega
     have HML := Lib.hid hml
     clear hs hmd hcE hcN hzl hml
     generalize (cellB c).length = z at *
     go_wp2_with fail
     refine hfi.mono ?_
     rintro e w2 ⟨rfl, hb2⟩
     have HB2 := Lib.hid hb2
     clear hb2 hfi
     go_wp2_with (refine allocC rfl rfl ?_)
     constructor
     intro w3 hI3 hb3 hz
     go_wp2_with (refine storeC (c := c) rfl (.tmp 8) (.tmp 23) rfl rfl rfl hI3 ?_)
     constructor
     intro w4 hs4
     have HI4 := Lib.hid hs4.i
     have HB4 := Lib.hid (bwstep HB2.out (hs4.bel hb3 (Nat.le_refl _)))
     have HO4 := Lib.hid (HO.out.below HB4.out)
     clear hI3 hb3 hz hs4
     obtain ⟨c0, c1, c2, c3, c4⟩ := HI4.out.five
     have bA := bwalloc (bwrefl w4) (.cells #[.string c.row, .string c.col, .int .i64 c.at_, .string c.val, .bool c.gone] 47)
     have hx0 := RdL.one w4 [] c (by simp) 47
     have hx1 := hx0.bel (bwrefl (w4.alloc (.cells #[.string c.row, .string c.col, .int .i64 c.at_, .string c.val, .bool c.gone] 47))).drew
     have ho1 := HO4.out.below bA.drew
     have hB1 := Nat.le_trans HBW.out.size (Nat.le_trans HB4.out.size bA.size)
     have hBA := (bwstep HB4.out bA.drew).mono HBW.out.size
     have HZ := Lib.hid (show n - (k + 1) < n - k by omega)
     clear hx0 bA
     by_cases hcc : cf = z
     ·have hCE := Lib.hid (HCE.out hcc)
      have HLL : Hid (left.length = z) := Lib.hid (by omega)
      clear HCE HCN
      subst hcc
      have hlc := HLL.out
      clear hfc hz3 hz4 hz5
      rw [hlc] at *
      clear hlc
      go_wp2_with fail
      go_region_law (refine step_appL rfl (.tmp 28) (.tmp 30) rfl (by simp [Act.eval]) ho1 (by simp [Act.eval]) hx1 hlA hB1 ?_; intro v5 w5 o5 g5 h5; have HO5 := Lib.hid o5; have HB5 := Lib.hid (hBA.grown g5 hB1 (fun k hk => (ho1.lt k hk).1)); clear o5 g5 h5 ho1 hx1)
      go_wp2_with fail
      go_roundw
      case rel => exact ⟨k + 1, A ++ [c], m, by omega, by go_num, Lib.hid (by rw [List.length_append, HKK.out]; rfl), HO5.out, hCE.out w5 (HBW.out.trans HB5.out), HT, HBW.out.trans HB5.out⟩
      case measure => have := HZ.out; simp [intOf]; omega
     ·have hcm := HCN.out hcc
      rw [hz5] at hcm
      have HCM := Lib.hid hcm
      clear HCE HCN hcm
      go_wp2_with fail
      go_region_law (refine step_appL rfl (.tmp 28) (.tmp 30) rfl (by simp [Act.eval]) ho1 (by simp [Act.eval]) hx1 hlA hB1 ?_; intro v5 w5 o5 g5 h5; have HO5 := Lib.hid o5; have HB5 := Lib.hid (hBA.grown g5 hB1 (fun k hk => (ho1.lt k hk).1)); clear o5 g5 h5 ho1 hx1)
      go_wp2_with fail
      go_roundw
      case rel => exact ⟨k + 1, A ++ [c], m, by omega, by go_num, Lib.hid (by rw [List.length_append, HKK.out]; rfl), HO5.out, HCM.out.below HB5.out, HT, HBW.out.trans HB5.out⟩
      case measure => have := HZ.out; simp [intOf]; omega
    ·have hfi := first_no _ left _ wr HF.out HBW.out.size (by omega) hst
     have HNO := Lib.hid (rec_stop hl HS.out.ok (by rw [HKK.out, ← HN.out]; exact hlt) HS.out.e hst)
     clear hst
     go_wp2_with fail
     refine hfi.mono ?_
     rintro e w2 ⟨⟨z, rfl⟩, hb2⟩
     have HB2 := Lib.hid (bwtrans HB1.out (HBW.out.trans (hb2.mono HBW.out.size)) (Nat.le_refl _))
     clear hb2 hfi
     go_wp2_with (refine allocC rfl rfl ?_)
     constructor
     intro w3 hI3 hb3 hz
     go_wp2_with (refine storeC (c := Cl.zero) rfl (.tmp 8) (.tmp 23) rfl rfl rfl hI3 ?_)
     constructor
     intro w4 hs4
     have HB4 := Lib.hid (bwstep HB2.out (hs4.bel hb3 (Nat.le_refl _)))
     clear hI3 hb3 hz hs4
     go_wp2_with fail
     go_ret2
     exact ⟨.inr ⟨HNO.out, rfl⟩, HB4.out⟩
   ·obtain rfl : k = n := by omega
    have HE := Lib.hid (bwtrans HB1.out HBW.out (Nat.le_refl _))
    have HR := Lib.hid (HO.out.rd (S := []) (fun _ h => by cases h))
    obtain ⟨Al, cl, rfl, -, -⟩ := HR.out.shape
    obtain ⟨Af, cf, rfl, -, -⟩ := HF.out.shapeM
    have hkk := HKK.out
    clear HKK
    subst hkk
    by_cases h0 : A.length = 0
    ·have HNO : Hid (¬ ∃ L, IsRec r L) := Lib.hid (by
      rintro ⟨L, h⟩
      obtain ⟨rfl, -⟩ := rec_end hl HS.out.ok HN.out HS.out.e h
      exact h.ne (List.eq_nil_of_length_eq_zero h0))
     rw [h0]
     clear h0
     go_wp2_with fail
     go_ret2
     exact ⟨.inr ⟨HNO.out, rfl⟩, HE.out⟩
    ·by_cases h1 : left.length = 0
     ·rw [h1]
      have hle0 := List.eq_nil_of_length_eq_zero h1
      clear h1
      have hso := sorted_any _ A wr HR.out (by omega)
      have hk1 : ((A.length : Int) == 0) = false := beq_false_of_ne (by omega)
      by_cases hsr : Sorted A
      ·have HY := Lib.hid (rec_yes h4 HN.out (by rw [HS.out.e, hle0]) hsr (fun e => h0 (by rw [e]; rfl)))
       rw [sortedB_true hsr] at hso
       have HO2 := Lib.hid HO.out
       clear hsr
       go_wp2_with fail
       refine hso.mono ?_
       rintro e w2 ⟨rfl, hb2⟩
       have HO3 := Lib.hid ((HO2.out.below hb2).mono HB1.out.size)
       have HE3 := Lib.hid (bwstep HE.out hb2)
       clear hb2 hso
       go_wp2_with fail
       go_ret2
       exact ⟨.inl ⟨A, _, HY.out, rfl, HO3.out⟩, HE3.out⟩
      ·have HNO : Hid (¬ ∃ L, IsRec r L) := Lib.hid (by
        rintro ⟨L, h⟩
        obtain ⟨rfl, -⟩ := rec_end hl HS.out.ok HN.out HS.out.e h
        exact hsr h.s)
       rw [sortedB_false hsr] at hso
       clear hsr
       go_wp2_with fail
       refine hso.mono ?_
       rintro e w2 ⟨rfl, hb2⟩
       have HE3 := Lib.hid (bwstep HE.out hb2)
       clear hb2 hso
       go_wp2_with fail
       go_ret2
       exact ⟨.inr ⟨HNO.out, rfl⟩, HE3.out⟩
     ·have HNO : Hid (¬ ∃ L, IsRec r L) := Lib.hid (by
       rintro ⟨L, h⟩
       obtain ⟨-, e⟩ := rec_end hl HS.out.ok HN.out HS.out.e h
       exact h1 (by rw [e]; rfl))
      have hk1 : ((A.length : Int) == 0) = false := beq_false_of_ne (by omega)
      have hk2 : decide (0 < left.length) = true := decide_eq_true (by omega)
      clear h1
      go_wp2_with fail
      go_ret2
      exact ⟨.inr ⟨HNO.out, rfl⟩, HE.out⟩
 ·have HNO : Hid (¬ ∃ L, IsRec r L) := Lib.hid (by
   rintro ⟨L, h⟩
   exact h4 (rec_num h hl).1)
  have hcn := cutNum_no x r B w hr (by omega)
  clear hr h4
  go_enter Tryz.func147, Tryz.ntmps147
  go_wp2_with fail
  refine hcn.mono ?_
  rintro e w1 ⟨u, rfl, -, hb1⟩
  have HB1 := Lib.hid hb1
  clear hcn hb1
  go_wp2_with fail
  go_loopw [7, 18] (fun l i wr => l = .slice none 0 0 ∧ i = .int .i64 0 ∧ w1 = wr) (fun _ _ _ => 0)
  case atStart => exact ⟨rfl, rfl, rfl⟩
  case round =>
   obtain ⟨rfl, rfl, rfl⟩ := hrel
   go_wp2_with fail
   go_ret2
   exact ⟨.inr ⟨HNO.out, rfl⟩, HB1.out⟩
def GetEnd (b : List UInt8) (w : World) (e : Ending) (w' : World) : Prop :=
 ((∃ L m x y, BlkAt b L m ∧ e = .returned (.tuple #[x, y, .int .i64 0]) ∧ OwL w' w.heap.size x L ∧ Ow w' w.heap.size 5 y (m.map bv)) ∨ ((¬ ∃ L m, BlkAt b L m) ∧ e = .returned (.tuple #[.slice none 0 0, .slice none 0 0, .int .i64 2]))) ∧ Below w.heap.size w w'
theorem bget_any (v : Value) (b : List UInt8) (w : World) (B : Nat) (hr : Rd w B v (b.map bv)) (hB : B ≤ w.heap.size) (hl : b.length ≤ 1000000000) :
  Calls Tryz.prog 136 #[v] w (GetEnd b w) := by
 by_cases hw : Whole b
 ·obtain ⟨r, m, hb, hr5⟩ := whole_iff.1 hw
  have hcu := Go.Proofs.YtcpkhhbbjimdaaaGreatDoor.cut_ok v b r m w B hr hB hb hr5 (by omega)
  have hyes := fun L => blkAt_of (L := L) hb hr5
  have hno := blkAt_no hb hr5
  have HY := Lib.hid hyes
  have HN := Lib.hid hno
  clear hw hr hb hyes hno
  go_enter Tryz.func136, Tryz.ntmps136
  go_wp2_with fail
  refine hcu.mono ?_
  rintro e w1 ⟨⟨x, y, rfl, hx, hy⟩, hb1⟩
  have HY1 := Lib.hid hy
  have HB1 := Lib.hid hb1
  have hce := cells_any x r _ w1 hx.rd (Nat.le_refl _) (by omega)
  clear hx hy hb1 hcu
  go_wp2_with fail
  refine hce.mono ?_
  rintro e w2 ⟨he, hb2⟩
  have HB2 := Lib.hid (bwstep HB1.out hb2)
  have HY2 := Lib.hid (HY1.out.below hb2)
  rcases he with ⟨L, z, hi, rfl, hz⟩ | ⟨hi, rfl⟩
  ·have HZ := Lib.hid (hz.mono HB1.out.size)
   have HI := Lib.hid hi
   clear hz hi hb2 hce
   go_wp2_with fail
   go_ret3
   exact ⟨.inl ⟨L, m, z, y, HY.out L HI.out, rfl, HZ.out, HY2.out⟩, HB2.out⟩
  ·have HI := Lib.hid hi
   clear hi hb2 hce
   go_wp2_with fail
   go_ret3
   exact ⟨.inr ⟨HN.out HI.out, rfl⟩, HB2.out⟩
 ·have hcu := Go.Proofs.YtcpkhhbbjimdaaaGreatDoor.cut_no v b w B hr hB hw (by omega)
  have HN : Hid (¬ ∃ L m, BlkAt b L m) := Lib.hid (by
   rintro ⟨L, m, h⟩
   exact hw (blkAt_whole h))
  clear hw hr
  go_enter Tryz.func136, Tryz.ntmps136
  go_wp2_with fail
  refine hcu.mono ?_
  rintro e w1 ⟨⟨x, y, rfl, -, -⟩, hb1⟩
  have HB1 := Lib.hid hb1
  clear hb1 hcu
  go_wp2_with fail
  go_ret3
  exact ⟨.inr ⟨HN.out, rfl⟩, HB1.out⟩
end Go.Proofs.YtcpkhhbbjimdaaaGreatDoor.Ce
namespace Go.Proofs.YtcpkhhbbjimdaaaGreatDoor.Ce
open Go.RowKit Frm
theorem bput_ok (v : Value) (L : List Cl) (w : World) (hv : RdL w [] v L) (hs : Sorted L) (hne : L ≠ []) (hl : (recB L).length ≤ 65535) :
  Calls Tryz.prog 112 #[v] w fun e w' => (∃ x, e = .returned (.tuple #[x, .int .i64 0]) ∧ Ow w' w.heap.size 5 x ((blkB L).map bv)) ∧ Below w.heap.size w w' := by
 obtain ⟨A, cp, rfl, hc, hm⟩ := hv.shape
 unfold maxLen at hm
 have hge := flatC_ge hs.ok
 have hrl := recB_len L
 have hln : L.length ≤ 65535 := by omega
 have hl0 : ((L.length : Int) == 0) = false := beq_false_of_ne (by
  intro e
  exact hne (List.eq_nil_of_length_eq_zero (by omega)))
 have hso := fun w hv => sorted_any (.slice A L.length cp) L w hv (by omega)
 rw [sortedB_true hs] at hso
 have HOK := Lib.hid hs.ok
 have HV := Lib.hid hv
 have HL := Lib.hid hl
 have HRL := Lib.hid hrl
 have HP : Hid (0 < L.length) := Lib.hid (List.length_pos_iff.2 hne)
 clear hv hs hne hl hge hrl
 go_enter Tryz.func112, Tryz.ntmps112
 go_wp2_with fail
 refine (hso _ HV.out).mono ?_
 rintro e w1 ⟨rfl, hb1⟩
 have HB1 := Lib.hid hb1
 clear hb1 hso
 go_wp2_with fail
 refine (num_ok _ _ (by omega)).mono ?_
 rintro e w2 ⟨q, rfl, hq, hb2⟩
 have HB2 := Lib.hid (bwstep HB1.out hb2)
 have HQ := Lib.hid (hq.mono HB1.out.size)
 clear hq hb2 HB1
 go_wp2_with fail
 go_loopw [4, 21] (fun p i wr => ∃ k : Nat, k ≤ L.length ∧ i = .int .i64 (k : Int) ∧ Ow wr w.heap.size 5 p ((numB L.length ++ flatC (L.take k)).map bv) ∧ Below w.heap.size w wr) (fun _ i _ => L.length - (intOf i).toNat)
 case atStart => exact ⟨0, by omega, rfl, by simpa [flatC] using HQ.out, HB2.out⟩
 case round =>
  obtain ⟨k, hk, rfl, ho, hbe⟩ := hrel
  have HBE := Lib.hid hbe
  have HO := Lib.hid ho
  clear ho
  by_cases hlt : k < L.length
  ·obtain ⟨b, off, rfl, -, -⟩ := HV.out.open_ HP.out
   have hh3 : (0 : Int) ≤ (k : Int) := by omega
   have hh4 : (k : Int) < (L.length : Int) := by omega
   have hfk : L[k]? = some (L[k]'hlt) := List.getElem?_eq_getElem _
   generalize L[k]'hlt = f at hfk
   obtain ⟨h5, hbl⟩ := (HV.out.bel hbe).at_ hfk
   have HSN := Lib.hid (flatC_snoc hfk)
   have hok := HOK.out f (List.mem_of_getElem? hfk)
   have hcl := cellB_le hok
   have hpu := fun w => put_ok f w hok
   have hft := flatC_le (L := L.take k) fun c hc => HOK.out c (List.mem_of_mem_take hc)
   rw [List.length_take] at hft
   have hsz : (numB L.length ++ flatC (L.take k)).length + (cellB f).length ≤ 140737488355328 := by
    rw [List.length_append, numB_len]
    have : min k L.length ≤ 65535 := by omega
    omega
   have HSZ := Lib.hid hsz
   obtain ⟨c0, c1, c2, c3, c4⟩ := h5
   clear hfk hbe hok hcl hft hsz hbl
   go_wp2_with (refine allocC rfl rfl ?_)
   constructor
   intro w3 hI3 hb3 hz3
   go_wp2_with (refine storeC (c := f) rfl (.tmp 6) (.tmp 24) rfl rfl rfl hI3 ?_)
   constructor
   intro w4 hs4
   have HI4 := Lib.hid hs4.i
   have HB4 := Lib.hid (hs4.bel hb3 (Nat.le_refl _))
   have HO4 := Lib.hid (HO.out.below HB4.out)
   clear hI3 hb3 hz3 hs4 c0 c1 c2 c3 c4
   go_wp2_with (refine loadC rfl (.tmp 6) rfl rfl HI4.out ?_)
   refine (hpu _).mono ?_
   rintro e w5 ⟨⟨x, rfl, hx⟩, hb5⟩
   have hB5 := bwstep HB4.out hb5
   have hbe := bwtrans HBE.out hB5 (Nat.le_refl _)
   have ho5 := HO4.out.below hb5
   have hxr := hx.rd
   have hsz := HSZ.out
   have hB5 := hbe.size
   clear hx hb5 hpu
   go_wp2_with (at_builtin; refine wpList_appB bytesT rfl (.tmp 25) (.tmp 27) rfl rfl ho5 rfl hxr hsz hB5 ?_; intro v6 w6 ho6 hg6 _; have HO6 := Lib.hid ho6; have HBE6 := Lib.hid (hbe.grown hg6 hB5 ho5.ge); clear ho6 hg6)
   go_roundw
   case rel => exact ⟨k + 1, by omega, by go_num, by rw [HSN.out, ← List.append_assoc]; exact HO6.out, HBE6.out⟩
   case measure => simp [intOf]; omega
  ·obtain rfl : k = L.length := by omega
   have ho9 := HO.out
   rw [List.take_length] at ho9
   have hfp := fput_ok _ (recB L) wr ho9.rd HL.out
   have hbn : (blkB L).length ≠ 0 := by rw [blkB_len]; omega
   have HBN := Lib.hid hbn
   clear ho9 hbe hbn
   go_wp2_with fail
   refine hfp.mono ?_
   rintro e w6 ⟨⟨z, rfl, hz⟩, hb6⟩
   have HZ := Lib.hid (hz.mono HBE.out.size)
   have HB6 := Lib.hid (bwstep HBE.out hb6)
   obtain ⟨Az, cz, rfl, -, -⟩ := hz.rd.shapeM
   have hz0 : (((blkB L).length : Int) == 0) = false := beq_false_of_ne (by have := HBN.out; omega)
   have hz1 := HBN.out
   clear hz hb6 hfp
   generalize (blkB L).length = nz at *
   go_wp2_with fail
   go_ret2
   exact ⟨⟨_, rfl, HZ.out⟩, HB6.out⟩
end Go.Proofs.YtcpkhhbbjimdaaaGreatDoor.Ce
namespace Go.Proofs.YtcpkhhbbjimdaaaGreatDoor.Ce
open Go.RowKit
theorem bcut_no (v : Value) (L : List Cl) (size : Int) (w : World) (hv : RdL w [] v L) (hs : ¬ (Sorted L ∧ 1 ≤ size)) (hl : L.length ≤ 1000000000) :
  Calls Tryz.prog 111 #[v, .int .i64 size] w fun e w' => e = .returned (.tuple #[.slice none 0 0, .int .i64 1]) ∧ Below w.heap.size w w' := by
 obtain ⟨A, cp, rfl, hc, hm⟩ := hv.shape
 unfold maxLen at hm
 by_cases h0 : size < 1
 ·clear hs hv hc
  go_enter Tryz.func111, Tryz.ntmps111
  go_wp2
  go_step3
  go_wp2
  rw [Exit.noGoto_ret]
  go_ret2
  exact ⟨rfl, Below.refl _ _⟩
 ·have hso := sorted_any (.slice A L.length cp) L w hv (by omega)
  rw [sortedB_false (fun h => hs ⟨h, by omega⟩)] at hso
  have hl0 : decide (size < 1) = false := decide_eq_false h0
  clear hs hv h0
  go_enter Tryz.func111, Tryz.ntmps111
  go_wp2
  go_step3
  go_wp2_with fail
  refine hso.mono ?_
  rintro e w1 ⟨rfl, hb1⟩
  have HB1 := Lib.hid hb1
  clear hb1 hso
  go_wp2_with fail
  rw [Exit.noGoto_ret]
  go_ret2
  exact ⟨rfl, HB1.out⟩
def slen0 : Value → Nat
 | .slice _ n _ => n
 | _ => 0
theorem bcut_ok (v : Value) (L : List Cl) (size : Int) (w : World) (hv : RdL w [] v L) (hs : Sorted L) (h1 : 1 ≤ size) (hl : L.length ≤ 1000000) :
  Calls Tryz.prog 111 #[v, .int .i64 size] w fun e w' => (∃ x vs, e = .returned (.tuple #[x, .int .i64 0]) ∧ OwB w' w.heap.size x vs (cutB size L)) ∧ Below w.heap.size w w' := by
 obtain ⟨A, cp, rfl, hc, hm⟩ := hv.shape
 unfold maxLen at hm
 have hso := sorted_any (.slice A L.length cp) L w hv (by omega)
 rw [sortedB_true hs] at hso
 have hl0 : decide (size < 1) = false := decide_eq_false (by omega)
 have HV := Lib.hid hv
 have HOK := Lib.hid hs.ok
 clear hs hv
 go_enter Tryz.func111, Tryz.ntmps111
 go_wp2
 go_step3
 go_wp2_with fail
 refine hso.mono ?_
 rintro e w1 ⟨rfl, hb1⟩
 have HB1 := Lib.hid hb1
 clear hb1 hso
 go_wp2_with fail
 go_step3
 go_wp2_with fail
 go_loopw [0, 6] (fun l p wr => ∃ (k : Nat) (LL : List (List Cl)) (vs : List Value), k ≤ L.length ∧ RdL w [] l (L.drop k) ∧ OwB wr w.heap.size p vs LL ∧ Hid (LL ++ cutG size (L.drop k) 0 [] = cutB size L ∧ LL.length ≤ k) ∧ Below w.heap.size w wr) (fun l _ _ => slen0 l)
 case atStart => exact ⟨0, [], [], by omega, HV.out, OwB.nil _ _, Lib.hid ⟨rfl, by simp⟩, HB1.out⟩
 case round =>
  obtain ⟨k, LL, vs, hk, hr, ho, HG, hbw⟩ := hrel
  obtain ⟨p0, hp0⟩ : ∃ p0, p0 = u6 := ⟨_, rfl⟩
  subst hp0
  obtain ⟨wo, hwo⟩ : ∃ wo, wo = wr := ⟨_, rfl⟩
  subst hwo
  have HR := Lib.hid hr
  have HO := Lib.hid ho
  have HBW := Lib.hid hbw
  clear hr ho hbw HB1
  obtain ⟨Al, cl, rfl, hcl, hml⟩ := HR.out.shape
  unfold maxLen at hml
  by_cases hlt : k < L.length
  ·obtain ⟨b, off, rfl, -, -⟩ := HR.out.open_ (by simp; omega)
   have hdl : (L.drop k).length = L.length - k := by simp
   obtain ⟨M, hM⟩ : ∃ M, M = L.drop k := ⟨_, rfl⟩
   rw [← hM] at hcl hdl
   have HRM : Hid (RdL w [] (.slice (some ⟨b, off, none⟩) M.length cl) M) := Lib.hid (by have := HR.out; rwa [← hM] at this)
   have hsl : (L.drop k).length = M.length := by rw [hM]
   rw [hsl]
   have HMM := Lib.hid hM
   have HOM : Hid (∀ c ∈ M, c.ok) := Lib.hid fun c hc => HOK.out c (List.mem_of_mem_drop (hM ▸ hc))
   have hmp : 0 < M.length := by omega
   have HDL := Lib.hid hdl
   have hML : M.length ≤ 1000000 := by omega
   have hmi : (0 : Int) < (M.length : Int) := by omega
   clear hsl hM HR hdl
   go_wp2_with fail
   go_loopw [0, 6, 7, 22] (fun l p n i wy => ∃ j : Nat, j ≤ M.length ∧ l = .slice (some ⟨b, off, none⟩) M.length cl ∧ p = p0 ∧ i = .int .i64 (j : Int) ∧ n = .int .i64 ((flatC (M.take j)).length : Int) ∧ Hid (cutG size (M.drop j) (flatC (M.take j)).length (M.take j) = cutG size M 0 []) ∧ Below wo.heap.size wo wy) (fun _ _ _ i _ => M.length - (intOf i).toNat)
   case atStart => exact ⟨0, by omega, rfl, rfl, rfl, by simp [flatC], Lib.hid (by simp [flatC]), Below.refl _ _⟩
   case round =>
    obtain ⟨j, hj, rfl, rfl, rfl, rfl, HJ, hbj⟩ := hrel
    have HBJ := Lib.hid hbj
    by_cases hlj : j < M.length
    ·have hh3 : (0 : Int) ≤ (j : Int) := by omega
     have hh4 : (j : Int) < (M.length : Int) := by omega
     have hfj : M[j]? = some (M[j]'hlj) := List.getElem?_eq_getElem _
     generalize M[j]'hlj = f at hfj
     obtain ⟨h5, hbl⟩ := (HRM.out.bel (bwtrans HBW.out hbj (Nat.le_refl _))).at_ hfj
     have HSN := Lib.hid (flatC_snoc hfj)
     have HFJ := Lib.hid hfj
     have hok := HOM.out f (List.mem_of_getElem? hfj)
     have hcle := cellB_le hok
     have hpu := fun w => put_ok f w hok
     have hft := flatC_le (L := M.take j) fun c hc => HOM.out c (List.mem_of_mem_take hc)
     rw [List.length_take] at hft
     have hz : (flatC (M.take j)).length ≤ 401 * M.length := by
      have : min j M.length ≤ M.length := Nat.min_le_right _ _
      omega
     obtain ⟨c0, c1, c2, c3, c4⟩ := h5
     clear hfj hbj hok hft hbl
     go_wp2_with (refine allocC rfl rfl ?_)
     constructor
     intro w3 hI3 hb3 hz3
     go_wp2_with (refine storeC (c := f) rfl (.tmp 9) (.tmp 26) rfl rfl rfl hI3 ?_)
     constructor
     intro w4 hs4
     have HI4 := Lib.hid hs4.i
     have HB4 := Lib.hid (bwstep HBJ.out (hs4.bel hb3 (Nat.le_refl _)))
     clear hI3 hb3 hz3 hs4 c0 c1 c2 c3 c4
     go_wp2_with (refine loadC rfl (.tmp 9) rfl rfl HI4.out ?_)
     refine (hpu _).mono ?_
     rintro e w5 ⟨⟨x, rfl, hx⟩, hb5⟩
     obtain ⟨Ax, cx, rfl, -, -⟩ := hx.rd.shapeM
     have HB5 := Lib.hid (bwstep HB4.out hb5)
     clear hx hb5 hpu HB4 HI4
     have HNN := Lib.hid (show (flatC (M.take (j + 1))).length = (flatC (M.take j)).length + (cellB f).length by rw [HSN.out, List.length_append])
     generalize hn0 : (flatC (M.take j)).length = n0 at *
     generalize hnf : (cellB f).length = nf at *
     have hz1 : (cellB f).length = nf := hnf
     have HNF := Lib.hid hnf
     have HN0 := Lib.hid hn0
     clear hn0 hnf hz1
     by_cases hge : size ≤ (n0 : Int) + (nf : Int)
     ·have hgb : decide (size ≤ (n0 : Int) + (nf : Int)) = true := decide_eq_true hge
      have HFU := Lib.hid (cutG_full (n := n0) (now := M.take j) HFJ.out (size := size) (by rw [HNF.out]; omega))
      have hw1 := IntWalk.i64_in ((j : Int) + 1) (by omega)
      have hk0 : (0 : Int) ≤ (j : Int) + 1 := by omega
      have hk1 : (j : Int) + 1 ≤ (M.length : Int) := by omega
      have hk2 : (M.length : Int) ≤ (cl : Int) := by omega
      have hk3 : (j : Int) + 1 ≤ (cl : Int) := by omega
      have hk4 : ((j : Int) + 1).toNat = j + 1 := by omega
      have hj1 : j + 1 ≤ M.length := by omega
      have HTO : Hid (∀ wz, Below w.heap.size w wz → RdL wz [] (.slice (some ⟨b, off, none⟩) (j + 1) cl) (M.take (j + 1))) := Lib.hid fun wz hz => (HRM.out.bel hz).to_ hj1
      have HTL : Hid ((M.take (j + 1)).length = j + 1 ∧ (M.take (j + 1)).length ≤ 1000000 ∧ LL.length ≤ 1000000000) := Lib.hid (by have := HG.out.2; rw [List.length_take]; omega)
      have HMD : Hid (M.drop (j + 1) = L.drop (k + (j + 1))) := Lib.hid (by rw [HMM.out, List.drop_drop])
      have HGG : Hid ((LL ++ [M.take (j + 1)]) ++ cutG size (L.drop (k + (j + 1))) 0 [] = cutB size L ∧ (LL ++ [M.take (j + 1)]).length ≤ k + (j + 1)) := Lib.hid (by
       refine ⟨?_, by have := HG.out.2; rw [List.length_append, List.length_singleton]; omega⟩
       obtain ⟨hl9, rfl⟩ := List.getElem?_eq_some_iff.1 HFJ.out
       rw [← HG.out.1, ← HMM.out, ← HJ.out, HFU.out, HMD.out, List.append_assoc, List.singleton_append, List.take_succ_eq_append_getElem hl9])
      have HKJ : Hid (k + (j + 1) ≤ L.length) := Lib.hid (by have := HDL.out; omega)
      have HME := Lib.hid (show M.length - (j + 1) < M.length by omega)
      clear hge HSN HNN
      by_cases hcj : cl = j + 1
      ·have HML : Hid (M.length = j + 1) := Lib.hid (by omega)
       have HFR : Hid (RdL w [] (.slice (some ⟨b, off, none⟩) 0 0) (L.drop (k + (j + 1)))) := Lib.hid (by
        rw [← HMD.out, List.drop_of_length_le (by rw [HML.out]; omega)]
        exact RdL.none_ (by simp [maxLen]))
       have hB5 := HB5.out.drew
       subst hcj
       go_wp2_with fail
       go_region_law (first
        | (go_simp; go_at_call 60; refine (cloneL_any _ (M.take (j + 1)) _ [] (HTO.out _ (bwtrans HBW.out hB5 (Nat.le_refl _))) HTL.out.2.1).mono ?_; rintro e wc ⟨⟨u, rfl, hu⟩, hbc⟩; have hul := HTL.out.1; obtain ⟨Au, cu, rfl, -, -⟩ := (hu.rd (S := []) (fun _ h => by cases h)).shape; rw [hul] at *; have hbA := bwalloc hbc (.cells #[.slice Au (j + 1) cu] 27); have hob := HO.out.below (bwstep hB5 hbA); have hou := (hu.below (bwalloc (bwrefl wc) (.cells #[.slice Au (j + 1) cu] 27))).mono (Nat.le_trans HBW.out.size hB5.size); have hrd : Rd (wc.alloc (.cells #[.slice Au (j + 1) cu] 27)) _ (.slice (some ⟨wc.heap.size, 0, none⟩) 1 1) [.slice Au (j + 1) cu] := Rd.newW wc 27 #[.slice Au (j + 1) cu] rfl (by simp [maxLen]) rfl; have hbw9 := bwtrans HBW.out (bwstep hB5 hbA) (Nat.le_refl _); have hsz9 := hbw9.size; clear hul hu hbc hbA)
        | (refine step_pushB rfl (.tmp 35) (.tmp 41) rfl (by simp [Act.eval]) hob hou (by simp [Act.eval]) hrd HTL.out.2.2 hsz9 ?_; intro v7 w7 ho7 hg7; have HO7 := Lib.hid ho7; have HB7 := Lib.hid (hbw9.grown hg7 hsz9 hob.out.ge); clear ho7 hg7 hob hou hrd hbw9 hsz9))
       go_simp
       go_wp2_with fail
       go_roundw
       case rel => exact ⟨k + (j + 1), LL ++ [M.take (j + 1)], _, HKJ.out, HFR.out, HO7.out, HGG, HB7.out⟩
       case measure => show 0 < M.length; exact hmp
      ·have HFR : Hid (RdL w [] (.slice (some ⟨b, off + (j + 1) * 5, none⟩) (M.length - (j + 1)) (cl - (j + 1))) (L.drop (k + (j + 1)))) := Lib.hid (by have := HRM.out.from_ hj1; rwa [HMD.out] at this)
       have hB5 := HB5.out.drew
       go_wp2_with fail
       go_region_law (first
        | (go_simp; go_at_call 60; refine (cloneL_any _ (M.take (j + 1)) _ [] (HTO.out _ (bwtrans HBW.out hB5 (Nat.le_refl _))) HTL.out.2.1).mono ?_; rintro e wc ⟨⟨u, rfl, hu⟩, hbc⟩; have hul := HTL.out.1; obtain ⟨Au, cu, rfl, -, -⟩ := (hu.rd (S := []) (fun _ h => by cases h)).shape; rw [hul] at *; have hbA := bwalloc hbc (.cells #[.slice Au (j + 1) cu] 27); have hob := HO.out.below (bwstep hB5 hbA); have hou := (hu.below (bwalloc (bwrefl wc) (.cells #[.slice Au (j + 1) cu] 27))).mono (Nat.le_trans HBW.out.size hB5.size); have hrd : Rd (wc.alloc (.cells #[.slice Au (j + 1) cu] 27)) _ (.slice (some ⟨wc.heap.size, 0, none⟩) 1 1) [.slice Au (j + 1) cu] := Rd.newW wc 27 #[.slice Au (j + 1) cu] rfl (by simp [maxLen]) rfl; have hbw9 := bwtrans HBW.out (bwstep hB5 hbA) (Nat.le_refl _); have hsz9 := hbw9.size; clear hul hu hbc hbA)
        | (refine step_pushB rfl (.tmp 35) (.tmp 41) rfl (by simp [Act.eval]) hob hou (by simp [Act.eval]) hrd HTL.out.2.2 hsz9 ?_; intro v7 w7 ho7 hg7; have HO7 := Lib.hid ho7; have HB7 := Lib.hid (hbw9.grown hg7 hsz9 hob.out.ge); clear ho7 hg7 hob hou hrd hbw9 hsz9))
       go_simp
       go_wp2_with fail
       go_roundw
       case rel => exact ⟨k + (j + 1), LL ++ [M.take (j + 1)], _, HKJ.out, HFR.out, HO7.out, HGG, HB7.out⟩
       case measure => exact HME.out
     ·have hgb : decide (size ≤ (n0 : Int) + (nf : Int)) = false := decide_eq_false hge
      have HFU := Lib.hid (cutG_more (n := n0) (now := M.take j) HFJ.out (size := size) (by rw [HNF.out]; omega))
      have HJ2 : Hid (cutG size (M.drop (j + 1)) (flatC (M.take (j + 1))).length (M.take (j + 1)) = cutG size M 0 []) := Lib.hid (by
       obtain ⟨hl9, rfl⟩ := List.getElem?_eq_some_iff.1 HFJ.out
       rw [← HJ.out, HFU.out, HNN.out, HNF.out, ← List.take_succ_eq_append_getElem hl9])
      have HNI : Hid (((flatC (M.take (j + 1))).length : Int) = (n0 : Int) + (nf : Int)) := Lib.hid (by rw [HNN.out]; omega)
      clear hge HSN
      go_wp2_with fail
      go_roundw
      case rel => exact ⟨j + 1, by omega, rfl, rfl, by go_num, by rw [HNI.out], HJ2, HB5.out⟩
      case measure => simp [intOf]; omega
    ·obtain rfl : j = M.length := by omega
     have hcl := fun wz (hz : Below w.heap.size w wz) => cloneL_any (.slice (some ⟨b, off, none⟩) M.length cl) M wz [] (HRM.out.bel hz) hML
     have HCL := Lib.hid hcl
     have HGG : Hid ((LL ++ [M]) ++ cutG size (L.drop L.length) 0 [] = cutB size L ∧ (LL ++ [M]).length ≤ L.length ∧ LL.length ≤ 1000000000) := Lib.hid (by
      refine ⟨?_, ?_, ?_⟩
      ·rw [cutG_nil (L := L) (Nat.le_refl _), List.append_nil, ← HG.out.1, ← HMM.out, ← HJ.out, List.take_length, cutG_end (Nat.le_refl _) (fun e => by rw [e] at hmp; simp at hmp)]
      ·have := HG.out.2; rw [List.length_append, List.length_singleton]; omega
      ·have := HG.out.2; omega)
     have HLD : Hid (RdL w [] (.slice none 0 0) (L.drop L.length)) := Lib.hid (by rw [List.drop_length]; exact RdL.nil _ _)
     clear hcl hbj HJ
     go_wp2_with fail
     refine (HCL.out _ (bwtrans HBW.out HBJ.out (Nat.le_refl _))).mono ?_
     rintro e wc ⟨⟨u, rfl, hu⟩, hbc⟩
     obtain ⟨Au, cu, rfl, -, -⟩ := (hu.rd (S := []) (fun _ h => by cases h)).shape
     have hbA := bwalloc hbc (.cells #[.slice Au M.length cu] 27)
     have hob := HO.out.below (bwstep HBJ.out hbA)
     have hou := (hu.below (bwalloc (bwrefl wc) (.cells #[.slice Au M.length cu] 27))).mono (Nat.le_trans HBW.out.size HBJ.out.size)
     have hrd : Rd (wc.alloc (.cells #[.slice Au M.length cu] 27)) _ (.slice (some ⟨wc.heap.size, 0, none⟩) 1 1) [.slice Au M.length cu] := Rd.newW wc 27 #[.slice Au M.length cu] rfl (by simp [maxLen]) rfl
     have hbw9 := bwtrans HBW.out (bwstep HBJ.out hbA) (Nat.le_refl _)
     have hsz9 := hbw9.size
     clear hu hbc hbA
     go_wp2_with (at_builtin; refine wpList_pushB rfl (.tmp 48) (.tmp 51) rfl rfl hob hou rfl hrd HGG.out.2.2 hsz9 ?_; intro v7 w7 ho7 hg7; have HO7 := Lib.hid ho7; have HB7 := Lib.hid (hbw9.grown hg7 hsz9 hob.out.ge); clear ho7 hg7 hob hou hrd hbw9 hsz9)
     go_roundw
     case rel => exact ⟨L.length, LL ++ [M], _, Nat.le_refl _, HLD.out, HO7.out, Lib.hid ⟨HGG.out.1, HGG.out.2.1⟩, HB7.out⟩
     case measure => show 0 < M.length; exact hmp
  ·obtain rfl : k = L.length := by omega
   rw [List.drop_length]
   have HF : Hid (LL = cutB size L) := Lib.hid (by
    have := HG.out.1
    rwa [cutG_nil (Nat.le_refl _), List.append_nil] at this)
   clear hcl
   go_wp2_with fail
   rw [Exit.noGoto_ret]
   go_ret2
   exact ⟨⟨_, vs, rfl, by rw [← HF.out]; exact HO.out⟩, HBW.out⟩
end Go.Proofs.YtcpkhhbbjimdaaaGreatDoor.Ce
