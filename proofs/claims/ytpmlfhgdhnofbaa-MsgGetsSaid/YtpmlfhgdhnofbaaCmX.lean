/- One operation of a drawn region taken ahead, or left out, in few words; the operation told by its place, laid out. Commands: plain, and as values. A command's bytes; the contracts of the reference's Put and Right of layer 15. A command out of bytes: plain. The contracts of the reference's Right and Get of layer 15. -/
import Derived.Test.YtpmlfhgdhnofbaaBase
import Derived.Test.YtpmlfhgdhnofbaaClA
import Derived.Test.YtpmlfhgdhnofbaaStA
import Derived.Test.YtpmlfhgdhnofbaaCpA
import Derived.Test.YtpmlfhgdhnofbaaLow
import Derived.Test.YtpmlfhgdhnofbaaBkA
import Derived.Deep.Cut
import Derived.Deep.CutRange
import Derived.Deep.DeepCutAuto
import Derived.Deep.RegionHeld3
namespace Go.Proofs.Ytpmlfhgdhnofbaa
theorem takeL {P : Program} {md : Region.Mode} {ops : Array Oper} {Q : Exit → Act → World → Prop} {S : World → Prop} (i : Nat) {oi : Oper} {v : Value} {fuel : Nat} {listed : Array Bool} {a a' : Act} {w : World} (hi : ops[i]? = some oi := by (try simp only [List.getElem?_toArray]); (try simp only [List.getElem?_cons_succ]); (try simp only [List.getElem?_cons_zero]); rfl)
  (hb : (Region.noSelect ops && Region.free md ops listed i && (Region.ready md ops listed).contains i) = true := by kernel_rfl) (hQ : ∀ c a w, Q (.panic c) (a.put oi.dst v) w → Q (.panic c) a w := by exact fun _ _ _ h => h) (hw : Region.wanted oi (yielded ops a.tmps) = true := by exact rfl)
  (hy : ∀ z, S z → (execOp a.eval oi).run P z = .ok (.value v) z := by intro z hSz; (try dsimp only at hSz); go_simp; try with_reducible rfl) (hS : S w := by assumption)
  (ha : a.put oi.dst v = a' := by (try simp only [Act.put]); (try simp only [List.setIfInBounds_toArray]); (try simp only [List.set_cons_succ]); (try simp only [List.set_cons_zero]); exact rfl) (h : wpAnyH P md ops Q S fuel (listed.setIfInBounds i true) a' w) : wpAnyH P md ops Q S (fuel + 1) listed a w := by
 rw [Bool.and_eq_true, Bool.and_eq_true] at hb; subst ha
 exact wpAnyH_take hi hb.1.1 hb.1.2 hb.2 hQ (Or.inl ⟨hw, hy⟩) hS h
theorem skipL {P : Program} {md : Region.Mode} {ops : Array Oper} {Q : Exit → Act → World → Prop} {S : World → Prop} (i : Nat) {oi : Oper} {fuel : Nat} {listed : Array Bool} {a a' : Act} {w : World} (hi : ops[i]? = some oi := by (try simp only [List.getElem?_toArray]); (try simp only [List.getElem?_cons_succ]); (try simp only [List.getElem?_cons_zero]); rfl)
  (hb : (Region.noSelect ops && Region.free md ops listed i && (Region.ready md ops listed).contains i) = true := by kernel_rfl) (hQ : ∀ c a w, Q (.panic c) (a.put oi.dst undef) w → Q (.panic c) a w := by exact fun _ _ _ h => h) (hw : Region.wanted oi (yielded ops a.tmps) = false := by exact rfl) (hS : S w := by assumption)
  (ha : a.put oi.dst undef = a' := by (try simp only [Act.put]); (try simp only [List.setIfInBounds_toArray]); (try simp only [List.set_cons_succ]); (try simp only [List.set_cons_zero]); exact rfl) (h : wpAnyH P md ops Q S fuel (listed.setIfInBounds i true) a' w) : wpAnyH P md ops Q S (fuel + 1) listed a w := by
 rw [Bool.and_eq_true, Bool.and_eq_true] at hb; subst ha
 exact wpAnyH_take hi hb.1.1 hb.1.2 hb.2 hQ (Or.inr ⟨hw, rfl⟩) hS h
end Go.Proofs.Ytpmlfhgdhnofbaa
namespace Go.Proofs.Ytpmlfhgdhnofbaa.Ce
open Go.RowKit
structure Cm where
 client : Int
 seq : Int
 kind : Int
 row : ByteArray
 col : ByteArray
 to_ : ByteArray
 at_ : Int
 value : ByteArray
 expect : ByteArray
 has : Bool
def Cm.zero : Cm := ⟨0, 0, 0, ⟨#[]⟩, ⟨#[]⟩, ⟨#[]⟩, 0, ⟨#[]⟩, ⟨#[]⟩, false⟩
theorem Cm.ext' {a b : Cm} (h0 : a.client = b.client) (h1 : a.seq = b.seq) (h2 : a.kind = b.kind) (h3 : a.row = b.row) (h4 : a.col = b.col) (h5 : a.to_ = b.to_) (h6 : a.at_ = b.at_) (h7 : a.value = b.value) (h8 : a.expect = b.expect) (h9 : a.has = b.has) : a = b := by
 cases a; cases b; simp_all
def Cm.cs (c : Cm) : Array Value := #[.int .i64 c.client, .int .i64 c.seq, .int .i64 c.kind, .string c.row, .string c.col, .string c.to_, .int .i64 c.at_, .string c.value, .string c.expect, .bool c.has]
def Cm.v (c : Cm) : Value := .agg c.cs
def Cm.cell (c : Cm) : Cl := ⟨c.row, c.col, c.at_, c.value, false⟩
def nul : ByteArray := ⟨#[]⟩
structure Cm.Sound5 (c : Cm) : Prop where
 col : c.col = nul
 value : c.value = nul
 expect : c.expect = nul
 has : c.has = false
 row : c.row.size ≤ 64
 to_ : c.to_.size ≤ 64
 a1 : 0 ≤ c.at_
 a2 : c.at_ ≤ 4294967295
structure Cm.Sound4 (c : Cm) : Prop where
 to_ : c.to_ = nul
 check : c.kind = 3 ∨ (c.has = false ∧ c.expect = nul)
 has : c.has = true ∨ c.expect = nul
 value : c.kind = 2 ∨ c.kind = 4 → c.value = nul
 expect : c.expect.size ≤ 256
 cell : c.cell.ok
structure Cm.Sound (c : Cm) : Prop where
 c1 : 1 ≤ c.client
 c2 : c.client ≤ 16
 s1 : 1 ≤ c.seq
 s2 : c.seq ≤ 2147483647
 k1 : 1 ≤ c.kind
 k2 : c.kind ≤ 5
 five : c.kind = 5 → c.Sound5
 four : c.kind ≠ 5 → c.Sound4
noncomputable instance (c : Cm) : Decidable c.Sound := Classical.propDecidable _
end Go.Proofs.Ytpmlfhgdhnofbaa.Ce
namespace Go.Proofs.Ytpmlfhgdhnofbaa.Ce
open Go.RowKit
def cmN (c : Cm) : List Int := [c.client, c.seq, c.kind, c.at_, if c.has = true then 1 else 0]
def cmT (c : Cm) : List ByteArray := [c.row, c.col, c.to_, c.value, c.expect]
def numsB (N : List Int) : List UInt8 := N.flatMap fun n => numB n.toNat
def cmdB (c : Cm) : List UInt8 := numsB (cmN c) ++ allB (cmT c)
theorem numsB_len (N : List Int) : (numsB N).length = 4 * N.length := by
 unfold numsB
 induction N with
 | nil => rfl
 | cons n N ih => rw [List.flatMap_cons, List.length_append, ih, numB_len, List.length_cons]; omega
theorem numsB_snoc (N : List Int) (k : Nat) (h : k < N.length) : numsB (N.take (k + 1)) = numsB (N.take k) ++ numB N[k].toNat := by
 unfold numsB
 rw [List.take_succ_eq_append_getElem h, List.flatMap_append]
 simp
theorem Cm.Sound.nums {c : Cm} (h : c.Sound) : ∀ n ∈ cmN c, 0 ≤ n ∧ n ≤ 4294967295 := by
 have ha : 0 ≤ c.at_ ∧ c.at_ ≤ 4294967295 := by
  by_cases k : c.kind = 5
  ·have f := h.five k
   exact ⟨f.a1, f.a2⟩
  ·have f := (h.four k).cell
   exact ⟨f.a1, f.a2⟩
 have h1 := h.c1
 have h2 := h.c2
 have h3 := h.s1
 have h4 := h.s2
 have h5 := h.k1
 have h6 := h.k2
 intro n hn
 simp only [cmN, List.mem_cons, List.not_mem_nil, or_false] at hn
 rcases hn with rfl | rfl | rfl | rfl | rfl
 ·omega
 ·omega
 ·omega
 ·omega
 ·split <;> omega
theorem Cm.Sound.texts {c : Cm} (h : c.Sound) : ∀ s ∈ cmT c, s.size ≤ 4294967295 := by
 have hz : nul.size = 0 := rfl
 intro s hs
 simp only [cmT, List.mem_cons, List.not_mem_nil, or_false] at hs
 by_cases k : c.kind = 5
 ·have f := h.five k
  have h1 := f.row
  have h2 := f.to_
  rcases hs with rfl | rfl | rfl | rfl | rfl
  ·omega
  ·rw [f.col]; omega
  ·omega
  ·rw [f.value]; omega
  ·rw [f.expect]; omega
 ·have f := h.four k
  have h1 := f.cell.r2
  have h2 := f.cell.c2
  have h3 := f.cell.v
  have h4 := f.expect
  simp only [Cm.cell] at h1 h2 h3
  rcases hs with rfl | rfl | rfl | rfl | rfl
  ·omega
  ·omega
  ·rw [f.to_]; omega
  ·omega
  ·omega
def ivC (n : Int) : Value := .int .i64 n
end Go.Proofs.Ytpmlfhgdhnofbaa.Ce
namespace Go.Proofs.Ytpmlfhgdhnofbaa.Ce
open Go.RowKit
theorem allB_cons (t : ByteArray) (T : List ByteArray) : allB (t :: T) = textB t ++ allB T := rfl
theorem allB_snoc1 (T : List ByteArray) (t : ByteArray) : allB (T ++ [t]) = allB T ++ textB t := by
 unfold allB
 rw [List.flatMap_append]
 simp
theorem allB_split : ∀ (T C : List ByteArray) (R : List UInt8), (∀ s ∈ T, s.size ≤ 4294967295) → (∀ s ∈ C, s.size ≤ 4294967295) → T.length ≤ C.length → allB T ++ R = allB C → T = C.take T.length ∧ R = allB (C.drop T.length)
 | [], C, R, _, _, _, h => ⟨rfl, h⟩
 | t :: T, [], R, _, _, hl, _ => by simp at hl
 | t :: T, c :: C, R, hT, hC, hl, h => by
  rw [allB_cons, allB_cons, List.append_assoc] at h
  obtain ⟨-, a1, a2⟩ := ct_of t (hT t (by simp)) (allB T ++ R)
  obtain ⟨-, b1, b2⟩ := ct_of c (hC c (by simp)) (allB C)
  rw [h, b1] at a1
  rw [h, b2] at a2
  subst a1
  obtain ⟨h1, h2⟩ := allB_split T C R (fun s hs => hT s (by simp [hs])) (fun s hs => hC s (by simp [hs])) (by simpa using hl) a2.symm
  exact ⟨by rw [List.length_cons, List.take_succ_cons, ← h1], by rw [List.length_cons, List.drop_succ_cons]; exact h2⟩
def IsCmd (s : List UInt8) (c : Cm) : Prop := c.Sound ∧ (cmdB c).length ≤ 512 ∧ s = cmdB c
theorem cmd_drop (c : Cm) : (cmdB c).drop 20 = allB (cmT c) := by
 unfold cmdB
 rw [List.drop_left' (by rw [numsB_len]; rfl)]
structure Rdg (s : List UInt8) (T : List ByteArray) (a : Nat) : Prop where
 e : s.drop 20 = allB T ++ s.drop a
 le : a ≤ s.length
 z : ∀ t ∈ T, t.size ≤ 4294967295
theorem Rdg.start {s : List UInt8} (h : 20 ≤ s.length) : Rdg s [] 20 := ⟨rfl, h, by simp⟩
theorem Rdg.no {s : List UInt8} {T : List ByteArray} {a : Nat} (h : Rdg s T a) (hT : T.length < 5) (hn : ¬ textOk (s.drop a)) : ∀ c, ¬ IsCmd s c := by
 rintro c ⟨hs, -, rfl⟩
 have he := h.e
 rw [cmd_drop] at he
 obtain ⟨-, h2⟩ := allB_split T (cmT c) _ h.z hs.texts (by simp [cmT]; omega) he.symm
 apply hn
 have hl : T.length < (cmT c).length := by simp [cmT]; omega
 rw [h2, List.drop_eq_getElem_cons hl, allB_cons]
 exact textOk_textB _ (hs.texts _ (List.getElem_mem hl)) _
theorem Rdg.next {s : List UInt8} {T : List ByteArray} {a : Nat} (h : Rdg s T a) (hk : textOk (s.drop a)) : Rdg s (T ++ [textThere (s.drop a)]) (a + textSize (s.drop a)) := by
 obtain ⟨a1, a2, a3, a4, a5, a6, a7, a8, a9⟩ := ok_size hk
 rw [List.length_drop] at a5
 have hle := h.le
 refine ⟨?_, by omega, ?_⟩
 ·rw [h.e, allB_snoc1, List.append_assoc]
  congr 1
  rw [← List.drop_drop, a3, ← a7, ← a8]
  exact ct_inv a6
 ·intro t ht
  rcases List.mem_append.1 ht with h1 | h1
  ·exact h.z t h1
  ·rw [List.mem_singleton.1 h1]
   have := numOf_lt (s.drop a)
   omega
theorem num_head {l : List UInt8} (h : 4 ≤ l.length) : l = numB (numOf l) ++ l.drop 4 := by
 have e := Frm.numOf_take4 l h
 rw [← e, Frm.numB_numOf _ (by simp; omega), List.take_append_drop]
end Go.Proofs.Ytpmlfhgdhnofbaa.Ce
namespace Go.Proofs.Ytpmlfhgdhnofbaa.St
open Go.RowKit
section
variable {P : Program} {α : Type} {D : Sp α} {ops : Array Oper} {o : Oper} {a : Act} {w : World} {K0 : Act → World → Prop} {Q : Exit → Act → World → Prop} {g : Nat} {c c0 : α}
theorem wp_storeS (hD : D.Ok P) (x y : Operand) (ho : o.op = .store D.t x y) (hx : a.eval x = .pointer (some ⟨g, 0, none⟩)) (hy : a.eval y = .agg (D.f c)) (hi : D.In g c0 w)
  (h : ∀ w', D.Set g c w w' → K0 (a.put o.dst undef) w') : o.wp P a w K0 Q :=
 wp_store_row D.t x y ho g (D.f c) hx hy D.t (D.f c0) hi.h (by rw [hD.size]; exact hD.sizeI) (by rw [hD.size, hD.size]) (hD.one c) (h _ (Sp.Set.of hi c))
end
end Go.Proofs.Ytpmlfhgdhnofbaa.St
namespace Go.Proofs.Ytpmlfhgdhnofbaa.Ce
open Go.RowKit
def Cm.Right (c : Cm) : Prop := c.Sound ∧ (cmdB c).length ≤ 512
noncomputable instance (c : Cm) : Decidable c.Right := Classical.propDecidable _
end Go.Proofs.Ytpmlfhgdhnofbaa.Ce
