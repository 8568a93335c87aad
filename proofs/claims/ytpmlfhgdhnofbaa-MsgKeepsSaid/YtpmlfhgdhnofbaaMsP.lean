/- Messages: plain, and as values; their bytes. -/
import Derived.Test.YtpmlfhgdhnofbaaVlG
import Derived.Test.YtpmlfhgdhnofbaaFrmA
import Derived.Test.YtpmlfhgdhnofbaaLow
namespace Go.Proofs.Ytpmlfhgdhnofbaa.Ce
open Go.RowKit
structure Mh where
 kind : Int
 fr : Int
 to_ : Int
 ballot : Int
 slot : Int
 vote : Vt
def Mh.zero : Mh := ⟨0, 0, 0, 0, 0, Vt.zero⟩
theorem Mh.ext' {a b : Mh} (h0 : a.kind = b.kind) (h1 : a.fr = b.fr) (h2 : a.to_ = b.to_) (h3 : a.ballot = b.ballot) (h4 : a.slot = b.slot) (h5 : a.vote = b.vote) : a = b := by
 cases a; cases b; simp_all
structure Ms where
 h : Mh
 votes : List Vt
def Ms.zero : Ms := ⟨Mh.zero, []⟩
structure Mx where
 h : Mh
 a : Option Addr
 n : Nat
 c : Nat
def Mx.zero : Mx := ⟨Mh.zero, none, 0, 0⟩
def Mx.cs (x : Mx) : Array Value := #[.int .i64 x.h.kind, .int .i64 x.h.fr, .int .i64 x.h.to_, .int .i64 x.h.ballot, .int .i64 x.h.slot, .int .i64 x.h.vote.slot, .int .i64 x.h.vote.ballot, .int .i64 x.h.vote.origin, .bool x.h.vote.full, .string x.h.vote.bytes, .slice x.a x.n x.c]
abbrev msD : St.Sp Mx := ⟨26, 0, 11, 112, Mx.cs, Mx.zero⟩
theorem msOk : msD.Ok Try.prog := ⟨⟨_, Try.underlying26, rfl⟩, by kernel_rfl, by decide, fun _ => rfl, fun x => by simp [Mx.cs, Value.oneCell']⟩
def Mx.v (x : Mx) : Value := .agg x.cs
structure MsIs (w : World) (S : List Nat) (x : Mx) (m : Ms) : Prop where
 h : x.h = m.h
 votes : St.RdS vtL w S (.slice x.a x.n x.c) m.votes
structure MsOw (w : World) (B : Nat) (x : Mx) (m : Ms) : Prop where
 h : x.h = m.h
 votes : St.OwS vtL w B (.slice x.a x.n x.c) m.votes
theorem MsIs.bel {w w' : World} {S : List Nat} {x : Mx} {m : Ms} (h : MsIs w S x m) (hb : Below w.heap.size w w') : MsIs w' S x m := ⟨h.h, h.votes.bel hb⟩
theorem MsOw.below {w w' : World} {B : Nat} {x : Mx} {m : Ms} (h : MsOw w B x m) (hb : Below w.heap.size w w') : MsOw w' B x m := ⟨h.h, h.votes.below hb⟩
theorem MsOw.mono {w : World} {B B' : Nat} {x : Mx} {m : Ms} (h : MsOw w B x m) (hB : B' ≤ B) : MsOw w B' x m := ⟨h.h, h.votes.mono hB⟩
theorem MsOw.is {w : World} {B : Nat} {x : Mx} {m : Ms} (h : MsOw w B x m) : MsIs w [] x m := ⟨h.h, h.votes.rd (by simp)⟩
theorem MsOw.zero (w : World) (B : Nat) : MsOw w B Mx.zero Ms.zero := ⟨rfl, St.OwS.nil _ _ _⟩
theorem MsIs.len {w : World} {S : List Nat} {x : Mx} {m : Ms} (h : MsIs w S x m) : x.n = m.votes.length := by
 obtain ⟨A, c, e, -, -⟩ := h.votes.shape
 injection e
structure MxAt (g : Nat) (x : Mx) (w : World) : Prop where
 c0 : w.cell? ⟨g, 0, none⟩ = some (.int .i64 x.h.kind)
 c1 : w.cell? ⟨g, 1, none⟩ = some (.int .i64 x.h.fr)
 c2 : w.cell? ⟨g, 2, none⟩ = some (.int .i64 x.h.to_)
 c3 : w.cell? ⟨g, 3, none⟩ = some (.int .i64 x.h.ballot)
 c4 : w.cell? ⟨g, 4, none⟩ = some (.int .i64 x.h.slot)
 c5 : w.cell? ⟨g, 5, none⟩ = some (.int .i64 x.h.vote.slot)
 c6 : w.cell? ⟨g, 6, none⟩ = some (.int .i64 x.h.vote.ballot)
 c7 : w.cell? ⟨g, 7, none⟩ = some (.int .i64 x.h.vote.origin)
 c8 : w.cell? ⟨g, 8, none⟩ = some (.bool x.h.vote.full)
 c9 : w.cell? ⟨g, 9, none⟩ = some (.string x.h.vote.bytes)
 cA : w.cell? ⟨g, 10, none⟩ = some (.slice x.a x.n x.c)
theorem MxAt.of {g : Nat} {x : Mx} {w : World} (h : msD.In g x w) : MxAt g x w := ⟨h.at_ rfl, h.at_ rfl, h.at_ rfl, h.at_ rfl, h.at_ rfl, h.at_ rfl, h.at_ rfl, h.at_ rfl, h.at_ rfl, h.at_ rfl, h.at_ rfl⟩
theorem vt_in_msg (x : Mx) {i : Nat} {u : Value} (h : (vtD.f x.h.vote)[i]? = some u) : (msD.f x)[5 + i]? = some u := by
 have hi : i < 5 := (Array.getElem?_eq_some_iff.1 h).1
 have : i = 0 ∨ i = 1 ∨ i = 2 ∨ i = 3 ∨ i = 4 := by omega
 rcases this with rfl | rfl | rfl | rfl | rfl <;> exact h
theorem vote_at {g : Nat} {x : Mx} {w : World} (h : msD.In g x w) : ∀ (i : Nat) (u : Value), (vtD.f x.h.vote)[i]? = some u → w.cell? ((⟨g, 5, none⟩ : Addr).add i) = some u := fun i u hu => by
 rw [Addr.add_lit]
 exact h.at_ (vt_in_msg x hu)
def VotesOk (b : Int) (V : List Vt) : Prop := (∀ c ∈ V, c.Right ∧ c.ballot < b) ∧ SrtV V
structure Ms.Right (m : Ms) : Prop where
 kind : 1 ≤ m.h.kind ∧ m.h.kind ≤ 5
 fr : 0 ≤ m.h.fr ∧ m.h.fr ≤ 6
 to_ : 0 ≤ m.h.to_ ∧ m.h.to_ ≤ 6
 ballot : 1 ≤ m.h.ballot ∧ m.h.ballot ≤ 2147483647
 k2 : m.h.kind ≠ 2 → m.votes = []
 k3 : m.h.kind ≠ 3 → m.h.vote = Vt.zero
 k4 : m.h.kind ≠ 4 → m.h.slot = 0
 votes : VotesOk m.h.ballot m.votes
 vote : m.h.kind = 3 → m.h.vote.Right ∧ m.h.vote.ballot = m.h.ballot
 slot : 0 ≤ m.h.slot ∧ m.h.slot ≤ 63
noncomputable instance (m : Ms) : Decidable m.Right := Classical.propDecidable _
noncomputable instance (m n : Ms) : Decidable (m = n) := Classical.propDecidable _
theorem zero_right : ¬ Ms.zero.Right := fun h => by
 have := h.kind.1
 exact absurd this (by decide)
theorem srtV_len : ∀ {V : List Vt} (a : Int), SrtV V → (∀ c ∈ V, a ≤ c.slot ∧ c.slot ≤ 63) → (V.length : Int) ≤ max 0 (64 - a)
 | [], a, _, _ => by simp; omega
 | c :: V, a, h, hb => by
  obtain ⟨h1, h2⟩ := List.pairwise_cons.1 h
  have hc := hb c (by simp)
  have := srtV_len (V := V) (c.slot + 1) h2 fun d hd => ⟨by have := h1 d hd; omega, (hb d (by simp [hd])).2⟩
  rw [List.length_cons]
  omega
theorem VotesOk.len {b : Int} {V : List Vt} (h : VotesOk b V) : V.length ≤ 64 := by
 have := srtV_len (V := V) 0 h.2 fun c hc => ⟨(h.1 c hc).1.1, (h.1 c hc).1.2.1⟩
 omega
def vtT (c : Vt) : ByteArray := ⟨(vtB c).toArray⟩
theorem vtT_size (c : Vt) : (vtT c).size = 24 + c.bytes.size := by
 have := vtB_len c
 show (vtB c).toArray.size = _
 rw [List.size_toArray, this]
def voteT (h : Mh) : ByteArray := if h.kind = 3 then vtT h.vote else ⟨#[]⟩
def msN (h : Mh) : List Int := [h.kind, h.fr, h.to_, h.ballot, h.slot]
def msgR (m : Ms) : List UInt8 := numsB (msN m.h) ++ (textB (voteT m.h) ++ textsB (m.votes.map vtT))
def msB (m : Ms) : List UInt8 := Frm.frm (msgR m)
def IsMs (b : List UInt8) (m : Ms) : Prop := m.Right ∧ b = msB m
theorem Vt.Right.short {c : Vt} (h : c.Right) : (vtT c).size ≤ 544 := by
 have := h.2.2.2.2.2
 rw [vtT_size]
 omega
theorem Ms.Right.voteT_le {m : Ms} (h : m.Right) : (voteT m.h).size ≤ 544 := by
 unfold voteT
 split
 ·rename_i hk
  exact (h.vote hk).1.short
 ·exact Nat.zero_le _
theorem sumS_votes : ∀ {V : List Vt}, (∀ c ∈ V, c.Right) → sumS (V.map vtT) ≤ 544 * V.length
 | [], _ => by simp [sumS]
 | c :: V, h => by
  have h1 := (h c (by simp)).short
  have h2 := sumS_votes (V := V) fun d hd => h d (by simp [hd])
  have e : sumS ((c :: V).map vtT) = (vtT c).size + sumS (V.map vtT) := rfl
  rw [e, List.length_cons]
  omega
theorem textB_size (s : ByteArray) : (textB s).length = 4 + s.size := by
 unfold textB
 rw [List.length_append, numB_len]
 rfl
theorem Ms.Right.rec_le {m : Ms} (h : m.Right) : (msgR m).length ≤ 40000 := by
 have h1 := h.votes.len
 have h2 := sumS_votes (V := m.votes) fun c hc => (h.votes.1 c hc).1
 have h3 := h.voteT_le
 unfold msgR
 rw [List.length_append, List.length_append, numsB_len, textB_size, textsB_len, allB_len, List.length_map]
 simp only [msN, List.length_cons, List.length_nil]
 omega
theorem numB_inj {a b : Nat} (ha : a ≤ 4294967295) (hb : b ≤ 4294967295) {m m' : List UInt8} (h : numB a ++ m = numB b ++ m') : a = b ∧ m = m' := by
 have h1 := congrArg numOf h
 rw [numOf_numB _ ha, numOf_numB _ hb] at h1
 subst h1
 exact ⟨rfl, List.append_cancel_left h⟩
theorem numsB_inj : ∀ {N M : List Int} {m m' : List UInt8}, N.length = M.length → (∀ n ∈ N, 0 ≤ n ∧ n ≤ 4294967295) → (∀ n ∈ M, 0 ≤ n ∧ n ≤ 4294967295) → numsB N ++ m = numsB M ++ m' → N = M ∧ m = m'
 | [], [], _, _, _, _, _, h => ⟨rfl, h⟩
 | [], _ :: _, _, _, hl, _, _, _ => by cases hl
 | _ :: _, [], _, _, hl, _, _, _ => by cases hl
 | a :: N, b :: M, m, m', hl, hN, hM, h => by
  have ha := hN a (by simp)
  have hb := hM b (by simp)
  have e : ∀ (x : Int) (X : List Int) (y : List UInt8), numsB (x :: X) ++ y = numB x.toNat ++ (numsB X ++ y) := fun x X y => by simp [numsB, List.append_assoc]
  rw [e, e] at h
  obtain ⟨h1, h2⟩ := numB_inj (by omega) (by omega) h
  obtain ⟨h3, h4⟩ := numsB_inj (by simpa using hl) (fun n hn => hN n (by simp [hn])) (fun n hn => hM n (by simp [hn])) h2
  exact ⟨by rw [h3]; congr 1; omega, h4⟩
theorem textB_inj {s t : ByteArray} (hs : s.size ≤ 4294967295) (ht : t.size ≤ 4294967295) {m m' : List UInt8} (h : textB s ++ m = textB t ++ m') : s = t ∧ m = m' := by
 have h1 := congrArg textOf h
 have h2 := congrArg textRest h
 rw [textOf_textB _ hs, textOf_textB _ ht] at h1
 rw [textRest_textB _ hs, textRest_textB _ ht] at h2
 refine ⟨?_, h2⟩
 cases s; cases t
 congr 1
 exact Array.toList_inj.1 h1
theorem textsB_inj {l k : List ByteArray} (h0 : l.length ≤ 4294967295) (h0' : k.length ≤ 4294967295) (hl : ∀ s ∈ l, s.size ≤ 4294967295) (hk : ∀ s ∈ k, s.size ≤ 4294967295) (h : textsB l = textsB k) : l = k := by
 have h1 := takeTexts_textsB l h0 hl []
 have h2 := takeTexts_textsB k h0' hk []
 rw [List.append_nil] at h1 h2
 rw [h, h2] at h1
 injection h1 with h1
 injection h1 with h1 _
 exact h1.symm
theorem vtT_inj {c d : Vt} (hc : c.Right) (hd : d.Right) (h : vtT c = vtT d) : c = d := by
 have e : vtB c = vtB d := by
  have := congrArg (fun t : ByteArray => t.data.toList) h
  simpa [vtT] using this
 have h1 := Says.put hc
 have h2 := Says.put hd
 rw [e] at h1
 exact (h1.uniq h2).2.1
theorem vts_inj : ∀ {V W : List Vt}, (∀ c ∈ V, c.Right) → (∀ c ∈ W, c.Right) → V.map vtT = W.map vtT → V = W
 | [], [], _, _, _ => rfl
 | [], _ :: _, _, _, h => by cases h
 | _ :: _, [], _, _, h => by cases h
 | a :: V, b :: W, hV, hW, h => by
  rw [List.map_cons, List.map_cons, List.cons.injEq] at h
  rw [vtT_inj (hV a (by simp)) (hW b (by simp)) h.1, vts_inj (fun c hc => hV c (by simp [hc])) (fun c hc => hW c (by simp [hc])) h.2]
theorem Ms.Right.nums {m : Ms} (h : m.Right) : ∀ n ∈ msN m.h, 0 ≤ n ∧ n ≤ 4294967295 := by
 have h1 := h.kind
 have h2 := h.fr
 have h3 := h.to_
 have h4 := h.ballot
 have h5 := h.slot
 intro n hn
 simp only [msN, List.mem_cons, List.not_mem_nil, or_false] at hn
 rcases hn with rfl | rfl | rfl | rfl | rfl <;> omega
theorem msgR_inj {m n : Ms} (h : m.Right) (k : n.Right) (e : msgR m = msgR n) : m = n := by
 unfold msgR at e
 obtain ⟨e1, e2⟩ := numsB_inj (N := msN m.h) (M := msN n.h) rfl h.nums k.nums e
 obtain ⟨e3, e4⟩ := textB_inj (by have := h.voteT_le; omega) (by have := k.voteT_le; omega) e2
 have hV : ∀ c ∈ m.votes, c.Right := fun c hc => (h.votes.1 c hc).1
 have kV : ∀ c ∈ n.votes, c.Right := fun c hc => (k.votes.1 c hc).1
 have tle : ∀ {V : List Vt}, (∀ c ∈ V, c.Right) → ∀ s ∈ V.map vtT, s.size ≤ 4294967295 := fun hV s hs => by
  obtain ⟨c, hc, rfl⟩ := List.mem_map.1 hs
  have := (hV c hc).short
  omega
 have l1 := h.votes.len
 have l2 := k.votes.len
 have e5 := vts_inj hV kV (textsB_inj (by rw [List.length_map]; omega) (by rw [List.length_map]; omega) (tle hV) (tle kV) e4)
 simp only [msN, List.cons.injEq, and_true] at e1
 obtain ⟨q1, q2, q3, q4, q5⟩ := e1
 have e6 : m.h.vote = n.h.vote := by
  unfold voteT at e3
  by_cases hk : m.h.kind = 3
  ·rw [if_pos hk, if_pos (by omega)] at e3
   exact vtT_inj (h.vote hk).1 (k.vote (by omega)).1 e3
  ·rw [h.k3 hk, k.k3 (by omega)]
 cases m; cases n
 simp only at q1 q2 q3 q4 q5 e5 e6
 rw [e5, Mh.ext' q1 q2 q3 q4 q5 e6]
theorem IsMs.uniq {b : List UInt8} {m n : Ms} (h : IsMs b m) (k : IsMs b n) : m = n := by
 have hl := h.1.rec_le
 have kl := k.1.rec_le
 have e : Frm.frm (msgR m) ++ [] = Frm.frm (msgR n) ++ [] := by rw [List.append_nil, List.append_nil]; exact h.2.symm.trans k.2
 exact msgR_inj h.1 k.1 (Frm.frm_inj e (by omega) (by omega)).1
theorem IsMs.whole {b : List UInt8} {m : Ms} (h : IsMs b m) : Frm.Whole b := by
 have hl := h.1.rec_le
 have := (Frm.whole_frm (msgR m) [] (by omega)).1
 rw [List.append_nil] at this
 rw [h.2]
 exact this
theorem msB_len {m : Ms} : (msB m).length = 12 + (msgR m).length := Frm.frm_len _
theorem IsMs.turned {b : List UInt8} {m : Ms} (h : IsMs b m) {k : Nat} {t : UInt8} (hk : k < b.length) (ht : t ≠ 0) : ∀ n, ¬ IsMs (b.set k (b.getD k 0 ^^^ t)) n := fun n hn => by
 have hl := h.1.rec_le
 rw [h.2, msB_len] at hk
 exact Frm.not_whole_turn (msgR m) [] k t (by omega) hk ht _ (by rw [h.2, List.append_nil]; rfl) hn.whole
theorem IsMs.part {b : List UInt8} {m : Ms} (h : IsMs b m) {k : Nat} (hk : k < b.length) : ∀ n, ¬ IsMs (b.take k) n := fun n hn => by
 have hl := h.1.rec_le
 have nl := hn.1.rec_le
 have e : Frm.frm (msgR m) ++ [] = Frm.frm (msgR n) ++ b.drop k := by
  rw [List.append_nil, show Frm.frm (msgR n) = b.take k from hn.2.symm, List.take_append_drop]
  exact h.2.symm
 obtain ⟨-, e2⟩ := Frm.frm_inj e (by omega) (by omega)
 have := congrArg List.length e2
 rw [List.length_drop] at this
 simp only [List.length_nil] at this
 omega
end Go.Proofs.Ytpmlfhgdhnofbaa.Ce
