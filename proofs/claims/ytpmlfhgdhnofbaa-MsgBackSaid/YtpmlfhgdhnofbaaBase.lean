/- General words for walks: a slice value that reads as a list of one-cell values ('Rd'), one that the call owns ('Ow'), and what append, conversion and slicing do to them. Of no function in particular. More general words for walks: worlds behind one another, new blocks with a mark, slices of bytes. Of no function in particular. Slices that the call owns, several of them: an append to the one leaves the others. Of no function in particular. Rows of bytes as functions of their place. Of no function in particular. Variables that are arrays or structs, whole: made, boxed, loaded, stored, built, handed back. Of no function in particular. 'make([]byte, n)', n whatever number. Of no function in particular. Worlds: which blocks a call may turn ('Kp'). Of no function in particular. One operation of a drawn region taken ahead, or left out, in few words. -/
import Derived.Test.YtpmlfhgdhnofbaaRows
import Derived.WalkKit
import Derived.WalkSpells
import Derived.WalkLawsBesides
import Derived.Lib.AppendStr
import Derived.Maps.AppendAt
import Derived.Laws.BytesArg
import Derived.Laws.IdiomStrings
import Derived.Deep.QuietTactic
import Derived.BigQuiet
import Derived.Lib.Hide
import Derived.OpenShut
import Derived.Deep.RegionLaw
import Derived.Laws.Tables
import Derived.Great.FillDense
import Derived.RegionTactic
import Derived.Deep.RegionHeld3
namespace Go.Proofs.Ytpmlfhgdhnofbaa
open Go.RowKit
def Rd (w : World) (B : Nat) (v : Value) (xs : List Value) : Prop :=
 ∃ A c, v = .slice A xs.length c ∧ xs.length ≤ c ∧ c ≤ maxLen ∧
  (0 < xs.length → ∃ b off, A = some ⟨b, off, none⟩ ∧ b < B ∧ ∀ j u, xs[j]? = some u → w.cell? ⟨b, off + j, none⟩ = some u)
def Ow (w : World) (B e : Nat) (v : Value) (xs : List Value) : Prop := w.ownsRow B e 1 v xs.length xs
def One (xs : List Value) : Prop := ∀ u ∈ xs, u.oneCell' = true
theorem one_map {α : Type} (f : α → Value) (h : ∀ x, (f x).oneCell' = true) (l : List α) : One (l.map f) := by
 intro u hu
 obtain ⟨x, _, rfl⟩ := List.mem_map.1 hu
 exact h x
section
variable {w w' : World} {B B' : Nat} {v : Value} {xs : List Value}
theorem Rd.nil (w : World) (B : Nat) : Rd w B (.slice none 0 0) [] := ⟨none, 0, rfl, Nat.le_refl _, by simp [maxLen], fun h => absurd h (by simp)⟩
theorem Rd.mono (h : Rd w B v xs) (hB : B ≤ B') : Rd w B' v xs := by
 obtain ⟨A, c, e, h1, h2, h3⟩ := h
 refine ⟨A, c, e, h1, h2, fun hp => ?_⟩
 obtain ⟨b, off, ea, hb, hc⟩ := h3 hp
 exact ⟨b, off, ea, by omega, hc⟩
theorem Rd.keep (h : Rd w B v xs) (hk : ∀ p : Addr, p.block < B → w'.cell? p = w.cell? p) : Rd w' B v xs := by
 obtain ⟨A, c, e, h1, h2, h3⟩ := h
 refine ⟨A, c, e, h1, h2, fun hp => ?_⟩
 obtain ⟨b, off, ea, hb, hc⟩ := h3 hp
 exact ⟨b, off, ea, hb, fun j u hu => (hk _ hb).trans (hc j u hu)⟩
theorem Rd.below (h : Rd w B v xs) (hb : Below B w w') : Rd w' B v xs := h.keep fun _ hp => hb.cell hp
theorem Rd.of_own {base e n : Nat} (h : w.ownsRow base e 1 v n xs) : Rd w w.heap.size v xs := by
 obtain ⟨hl, h2⟩ := h
 rw [Nat.mul_one] at hl
 rcases h2 with ⟨rfl, hn⟩ | ⟨g, cap, cur, rfl, hbg, hg, hnc, hcm, hcs, htake⟩
 ·have : xs = [] := List.eq_nil_of_length_eq_zero (by omega)
  subst this
  exact Rd.nil _ _
 ·refine ⟨some ⟨g, 0, none⟩, cap, by rw [hl], by omega, hcm, fun _ => ⟨g, 0, rfl, (Array.getElem?_eq_some_iff.1 hg).1, fun j u hu => ?_⟩⟩
  rw [Nat.zero_add, cell_of_row w g j cur e (0, 0) hg]
  rw [← htake, List.getElem?_take] at hu
  split at hu
  ·simpa using hu
  ·cases hu
theorem Ow.rd {e : Nat} (h : Ow w B e v xs) : Rd w w.heap.size v xs := Rd.of_own h
theorem Ow.nil (w : World) (B e : Nat) : Ow w B e (.slice none 0 0) [] := ⟨by simp, .inl ⟨rfl, rfl⟩⟩
theorem Ow.lt {e : Nat} (h : Ow w B e v xs) : ∀ k, v.ownBlock = some k → B ≤ k ∧ k < w.heap.size := World.ownsRow.lt h
theorem Ow.ge {e : Nat} (h : Ow w B e v xs) : ∀ k, v.ownBlock = some k → B ≤ k := fun k hk => (h.lt k hk).1
theorem Ow.mono {e : Nat} (h : Ow w B e v xs) (hB : B' ≤ B) : Ow w B' e v xs := by
 obtain ⟨h1, h2⟩ := h
 refine ⟨h1, ?_⟩
 rcases h2 with h2 | ⟨g, cap, cur, hv, hg, r⟩
 ·exact .inl h2
 ·exact .inr ⟨g, cap, cur, hv, Nat.le_trans hB hg, r⟩
theorem Ow.below {e : Nat} (h : Ow w B e v xs) (hb : Below w.heap.size w w') : Ow w' B e v xs := by
 obtain ⟨h1, h2⟩ := h
 refine ⟨h1, ?_⟩
 rcases h2 with h2 | ⟨g, cap, cur, hv, hg, hh, r⟩
 ·exact .inl h2
 ·exact .inr ⟨g, cap, cur, hv, hg, by rw [hb.block g (Array.getElem?_eq_some_iff.1 hh).1]; exact hh, r⟩
theorem Ow.new {e n : Nat} (w : World) (cs : Array Value) (hn : cs.size = n) (hm : n ≤ maxLen) (hxs : cs.toList = xs) (hB : B ≤ w.heap.size) :
  Ow (w.alloc (.cells cs e)) B e (.slice (some ⟨w.heap.size, 0, none⟩) n n) xs := by
 subst hxs
 have hl : cs.toList.length = n := by simpa using hn
 refine ⟨by simp, .inr ⟨w.heap.size, n, cs, by rw [hl], hB, heap_alloc_new _ _, by omega, hm, by omega, List.take_of_length_le (by simp)⟩⟩
theorem Rd.new {n : Nat} (w : World) (e : Nat) (cs : Array Value) (hn : cs.size = n) (hm : n ≤ maxLen) (hxs : cs.toList = xs) :
  Rd (w.alloc (.cells cs e)) (w.heap.size + 1) (.slice (some ⟨w.heap.size, 0, none⟩) n n) xs := by
 have := (Ow.new (e := e) (B := 0) w cs hn hm hxs (Nat.zero_le _)).rd
 simpa using this
theorem Ow.at_ {e : Nat} {A : Option Addr} {n c k : Nat} (h : Ow w B e (.slice A n c) xs) (hk : k < xs.length) :
  ∃ g, A = some ⟨g, 0, none⟩ ∧ B ≤ g ∧ g < w.heap.size ∧ w.cell? ⟨g, k, none⟩ = some xs[k] ∧ w.frozen? ⟨g, k, none⟩ = false ∧ ∀ u, Ow (w.setCell ⟨g, k, none⟩ u) B e (.slice A n c) (xs.set k u) := by
 obtain ⟨hl, h2⟩ := h
 rw [Nat.mul_one] at hl
 rcases h2 with ⟨he, hn⟩ | ⟨g, cap, cur, he, hbg, hg, hnc, hcm, hcs, htake⟩
 ·omega
 ·injection he with e1 e2 e3
  subst e1 e2 e3
  have hgl := (Array.getElem?_eq_some_iff.1 hg).1
  rw [Nat.mul_one] at hcs htake
  have hcur : cur[k]? = some xs[k] := by
   have h1 : (cur.toList.take xs.length)[k]? = some xs[k] := by rw [htake]; exact List.getElem?_eq_getElem hk
   rw [List.getElem?_take, if_pos hk] at h1
   simpa using h1
  refine ⟨g, rfl, hbg, hgl, by rw [cell_of_row w g k cur e (0, 0) hg]; exact hcur, by simp [World.frozen?, hg], fun u => ⟨by simp, .inr ⟨g, c, cur.setIfInBounds k u, by simp, hbg, ?_, by simpa using hnc, hcm, by simpa using hcs, ?_⟩⟩⟩
  ·simp only [World.setCell, Array.getElem?_modify, hg]
   simp
  ·rw [Array.toList_setIfInBounds, Nat.mul_one, List.length_set, List.take_set, htake]
theorem Rd.newW {n : Nat} (w : World) (e : Nat) (cs : Array Value) (hn : cs.size = n) (hm : n ≤ maxLen) (hxs : cs.toList = xs) :
  Rd (w.alloc (.cells cs e)) (w.alloc (.cells cs e)).heap.size (.slice (some ⟨w.heap.size, 0, none⟩) n n) xs := (Rd.new w e cs hn hm hxs).mono (by simp)
theorem Rd.shape (h : Rd w B v xs) : ∃ A c, v = .slice A xs.length c ∧ xs.length ≤ c ∧ c ≤ maxLen := by
 obtain ⟨A, c, e, h1, h2, _⟩ := h
 exact ⟨A, c, e, h1, h2⟩
theorem Rd.at_ (h : Rd w B v xs) (hp : 0 < xs.length) : ∃ b off c, v = .slice (some ⟨b, off, none⟩) xs.length c ∧ xs.length ≤ c ∧ c ≤ maxLen ∧ b < B ∧
  ∀ j u, xs[j]? = some u → w.cell? ⟨b, off + j, none⟩ = some u := by
 obtain ⟨A, c, e, h1, h2, h3⟩ := h
 obtain ⟨b, off, rfl, hb, hc⟩ := h3 hp
 exact ⟨b, off, c, e, h1, h2, hb, hc⟩
theorem Rd.shapeM {α : Type} {f : α → Value} {l : List α} (h : Rd w B v (l.map f)) : ∃ A c, v = .slice A l.length c ∧ l.length ≤ c ∧ c ≤ maxLen := by
 obtain ⟨A, c, e, h1, h2, _⟩ := h
 rw [List.length_map] at e h1
 exact ⟨A, c, e, h1, h2⟩
theorem Rd.cellM {α : Type} {f : α → Value} {l : List α} {A : Option Addr} {n c : Nat} (h : Rd w B (.slice A n c) (l.map f)) (hp : 0 < l.length) :
  ∃ b off, A = some ⟨b, off, none⟩ ∧ b < B ∧ ∀ j (hj : j < l.length), w.cell? ⟨b, off + j, none⟩ = some (f l[j]) := by
 obtain ⟨A', c', e, h1, h2, h3⟩ := h
 injection e with e1 e2 e3
 subst e1
 obtain ⟨b, off, ea, hb, hc⟩ := h3 (by simpa using hp)
 exact ⟨b, off, ea, hb, fun j hj => hc j _ (by simp [List.getElem?_eq_getElem hj])⟩
theorem Rd.cut {A : Option Addr} {n c lo hi : Nat} (h : Rd w B (.slice A n c) xs) (h1 : lo ≤ hi) (h2 : hi ≤ n) :
  Rd w B (.slice (if c = lo then A else A.map (·.add (lo * 1))) (hi - lo) (c - lo)) ((xs.take hi).drop lo) := by
 obtain ⟨A', c', e, hl, hm, hc⟩ := h
 injection e with e1 e2 e3
 subst e1 e2 e3
 have hlen : ((xs.take hi).drop lo).length = hi - lo := by simp; omega
 refine ⟨_, _, by rw [hlen], by omega, by omega, fun hp => ?_⟩
 obtain ⟨b, off, rfl, hb, hcell⟩ := hc (by omega)
 rw [if_neg (by omega)]
 refine ⟨b, off + lo, ?_, hb, fun j u hu => ?_⟩
 ·simp only [Option.map_some, Nat.mul_one, Addr.add]
  split <;> simp_all
 ·rw [Nat.add_assoc]
  refine hcell _ _ ?_
  rw [List.getElem?_drop, List.getElem?_take] at hu
  split at hu
  ·exact hu
  ·cases hu
theorem Rd.cutFrom {A : Option Addr} {n c lo : Nat} (h : Rd w B (.slice A n c) xs) (h1 : lo ≤ n) :
  Rd w B (.slice (if c = lo then A else A.map (·.add (lo * 1))) (n - lo) (c - lo)) (xs.drop lo) := by
 have hn : n = xs.length := by obtain ⟨_, _, e, _⟩ := h; injection e
 have := h.cut (lo := lo) (hi := n) h1 (Nat.le_refl _)
 rw [hn, List.take_length] at this
 rw [hn]
 exact this
theorem Rd.from_ {A : Option Addr} {n c lo : Nat} (h : Rd w B (.slice A n c) xs) (h1 : lo ≤ n) (hne : ¬ c = lo) :
  Rd w B (.slice (A.map fun x => x.add lo) (n - lo) (c - lo)) (xs.drop lo) := by
 have := h.cutFrom h1
 rw [if_neg hne] at this
 simpa using this
theorem Rd.fromEnd {A : Option Addr} {n lo : Nat} (h : Rd w B (.slice A n lo) xs) (h1 : lo ≤ n) :
  Rd w B (.slice A 0 0) (xs.drop lo) := by
 have h2 := h.cutFrom h1
 obtain ⟨A', c', e, hl, hm, hc⟩ := h
 injection e with e1 e2 e3
 have h0 : n - lo = 0 := by omega
 rw [h0] at h2
 simpa using h2
theorem Rd.mid {A : Option Addr} {n c lo hi : Nat} (h : Rd w B (.slice A n c) xs) (h1 : lo ≤ hi) (h2 : hi ≤ n) (hne : ¬ c = lo) :
  Rd w B (.slice (A.map fun x => x.add lo) (hi - lo) (c - lo)) ((xs.take hi).drop lo) := by
 have := h.cut h1 h2
 rw [if_neg hne] at this
 simpa using this
theorem Rd.midC {b off n c lo hi : Nat} (h : Rd w B (.slice (some ⟨b, off, none⟩) n c) xs) (h1 : lo ≤ hi) (h2 : hi ≤ n) (hne : ¬ c = lo) :
  Rd w B (.slice (some ⟨b, off + lo, none⟩) (hi - lo) (c - lo)) ((xs.take hi).drop lo) := by
 have := h.mid h1 h2 hne
 rw [Option.map_some, Addr.add_lit] at this
 exact this
theorem Rd.fromC {b off n c lo : Nat} (h : Rd w B (.slice (some ⟨b, off, none⟩) n c) xs) (h1 : lo ≤ n) (hne : ¬ c = lo) :
  Rd w B (.slice (some ⟨b, off + lo, none⟩) (n - lo) (c - lo)) (xs.drop lo) := by
 have := h.from_ h1 hne
 rw [Option.map_some, Addr.add_lit] at this
 exact this
theorem Rd.cutTo {A : Option Addr} {n c hi : Nat} (h : Rd w B (.slice A n c) xs) (h2 : hi ≤ n) : Rd w B (.slice A hi c) (xs.take hi) := by
 obtain ⟨A', c', e, hl, hm, hc⟩ := h
 injection e with e1 e2 e3
 subst e1 e2 e3
 have hlen : (xs.take hi).length = hi := by simp; omega
 refine ⟨_, _, by rw [hlen], by omega, by omega, fun hp => ?_⟩
 obtain ⟨b, off, rfl, hb, hcell⟩ := hc (by omega)
 refine ⟨b, off, rfl, hb, fun j u hu => hcell _ _ ?_⟩
 rw [List.getElem?_take] at hu
 split at hu
 ·exact hu
 ·cases hu
end
structure ET (P : Program) (t e : TypeId) (z : Value) (bytes : Nat) : Prop where
 ht : P.underlying t = some (.slice e)
 info : (P.info? e).map (fun i => (i.zero, i.size, i.bytes)) = some (some z, 1, bytes)
section
variable {P : Program} {w : World} {B e t u : Nat} {z v x : Value} {bytes : Nat} {xs ys : List Value}
theorem run_app (T : ET P t e z bytes) (hz : z.cells.size = 1) (ty : TypeId) (ho : Ow w B e v xs) {D : Nat} (hr : Rd w D x ys) (h1 : One ys)
  (hlen : xs.length + ys.length ≤ maxLen) (hby : (xs.length + ys.length) * bytes ≤ 140737488355328) (hB : B ≤ w.heap.size) :
  ∃ v' w', (Builtin.append_ #[t, t] ty #[v, x]).run P w = .ok v' w' ∧ Ow w' B e v' (xs ++ ys) ∧ w.grownBy w' v.ownBlock ∧ (v'.ownBlock = v.ownBlock ∨ v'.ownBlock = some w.heap.size) := by
 obtain ⟨i, hi, hi0, hi1, hi2⟩ := info_parts T.info
 obtain ⟨A, c, rfl, hc, hm, hcell⟩ := hr
 rcases Nat.eq_zero_or_pos ys.length with h0 | hp
 ·have hy : ys = [] := List.eq_nil_of_length_eq_zero h0
  subst hy
  have hrun : (Builtin.append_ #[t, t] ty #[v, .slice A 0 c]).run P w = .ok v w := by
   rcases ho.2 with ⟨rfl, hn⟩ | ⟨g, cap, cur, rfl, _, _, hnc, _⟩
   ·cases A with
    | none => simp [Builtin.append_, run_underlying T.ht, sizeOf, typeInfo, hi, Builtin.lenOf, Builtin.firstCells]
    | some a => simp [Builtin.append_, run_underlying T.ht, sizeOf, typeInfo, hi, Builtin.lenOf, Builtin.firstCells, loadCells, loadCellsFrom]
   ·cases A with
    | none => simp [Builtin.append_, run_underlying T.ht, sizeOf, typeInfo, hi, Builtin.lenOf, Builtin.firstCells, hnc, storeCells]
    | some a => simp [Builtin.append_, run_underlying T.ht, sizeOf, typeInfo, hi, Builtin.lenOf, Builtin.firstCells, hnc, storeCells, loadCells, loadCellsFrom]
  exact ⟨v, w, hrun, by simpa using ho, World.grownBy.refl w _, .inl rfl⟩
 ·obtain ⟨b, off, rfl, hb, hcc⟩ := hcell hp
  obtain ⟨v', w', hrun, h2, h3, _, h5⟩ := run_append_own_at (P := P) w B t ty e i z 1 bytes T.ht hi hi0 hi1 hi2 hz (by omega) v xs.length xs ho ⟨b, off, none⟩ ys.length c ys (by omega)
   (fun j u hj => by rw [Addr.add_lit]; exact hcc j u hj) h1 hlen hby hB
  exact ⟨v', w', hrun, by unfold Ow; rw [List.length_append]; exact h2, h3, h5⟩
theorem wpList_app {ops : Array Oper} {rest : List Oper} {o : Oper} {a : Act} {Q : Exit → Act → World → Prop} (T : ET P t e z bytes) (hz : z.cells.size = 1) (hgd : o.guard = none) (s y : Operand)
  (ho : o.op = .call { callee := .builtin .append, args := #[s, y], argTypes := #[t, t] })
  (hs : a.eval s = v) (hown : Ow w B e v xs) (hy : a.eval y = x) {D : Nat} (hr : Rd w D x ys) (h1 : One ys)
  (hlen : xs.length + ys.length ≤ maxLen) (hby : (xs.length + ys.length) * bytes ≤ 140737488355328) (hB : B ≤ w.heap.size)
  (h : ∀ v' w', Ow w' B e v' (xs ++ ys) → w.grownBy w' v.ownBlock → (v'.ownBlock = v.ownBlock ∨ v'.ownBlock = some w.heap.size) → wpList P ops Q rest (a.put o.dst v') w') : wpList P ops Q (o :: rest) a w := by
 obtain ⟨v', w', hrun, h2, h3, h4⟩ := run_app (P := P) T hz o.type hown hr h1 hlen hby hB
 refine wpList_plain hgd fun K hK => ?_
 unfold Oper.wp execOp
 simp only [ho, resolve, invoke, builtin, Sem.run_bind, Sem.run_pure, Result.andThen_ok, List.map_toArray, List.map_cons, List.map_nil, hs, hy, hrun]
 exact hK _ _ (h v' w' h2 h3 h4)
end
def bv (b : UInt8) : Value := .int .u8 (b.toNat : Int)
theorem one_bv (l : List UInt8) : One (l.map bv) := one_map _ (fun _ => rfl) l
def sv (s : ByteArray) : Value := .string s
theorem one_sv (l : List ByteArray) : One (l.map sv) := one_map _ (fun _ => rfl) l
section
variable {P : Program} {w : World} {B e t u : Nat} {v : Value} {l : List UInt8}
theorem wpList_appS {ops : Array Oper} {rest : List Oper} {o : Oper} {a : Act} {Q : Exit → Act → World → Prop} (T : ET P t e (.int .u8 0) 1) (hu : P.underlying u = some .string) (hgd : o.guard = none) (s y : Operand)
  (ho : o.op = .call { callee := .builtin .append, args := #[s, y], argTypes := #[t, u] })
  (hs : a.eval s = v) (hown : Ow w B e v (l.map bv)) {x : ByteArray} (hy : a.eval y = .string x)
  (hlen : l.length + x.size ≤ 140737488355328) (hB : B ≤ w.heap.size)
  (h : ∀ v' w', Ow w' B e v' ((l ++ x.data.toList).map bv) → w.grownBy w' v.ownBlock → wpList P ops Q rest (a.put o.dst v') w') : wpList P ops Q (o :: rest) a w := by
 obtain ⟨i, hi, hi0, hi1, hi2⟩ := info_parts T.info
 obtain ⟨v', w', hrun, h2, h3, h4⟩ := Lib.run_append_own_string (P := P) w B t u o.type e i T.ht hu hi hi0 hi1 hi2 v _ _ hown x (by simp [maxLen]; omega) (by simp; omega) hB
 have e1 : Lib.strCells x = x.data.toList.map bv := rfl
 refine wpList_plain hgd fun K hK => ?_
 unfold Oper.wp execOp
 simp only [ho, resolve, invoke, builtin, Sem.run_bind, Sem.run_pure, Result.andThen_ok, List.map_toArray, List.map_cons, List.map_nil, hs, hy, hrun]
 refine hK _ _ (h v' w' ?_ h3)
 unfold Ow
 rw [e1] at h2
 simpa using h2
theorem wpList_appB {ops : Array Oper} {rest : List Oper} {o : Oper} {a : Act} {Q : Exit → Act → World → Prop} (T : ET P t e (.int .u8 0) 1) (hgd : o.guard = none) (s y : Operand)
  (ho : o.op = .call { callee := .builtin .append, args := #[s, y], argTypes := #[t, t] })
  (hs : a.eval s = v) (hown : Ow w B e v (l.map bv)) {x : Value} (hy : a.eval y = x) {D : Nat} {m : List UInt8} (hr : Rd w D x (m.map bv))
  (hlen : l.length + m.length ≤ 140737488355328) (hB : B ≤ w.heap.size)
  (h : ∀ v' w', Ow w' B e v' ((l ++ m).map bv) → w.grownBy w' v.ownBlock → (v'.ownBlock = v.ownBlock ∨ v'.ownBlock = some w.heap.size) → wpList P ops Q rest (a.put o.dst v') w') : wpList P ops Q (o :: rest) a w :=
 wpList_app T rfl hgd s y ho hs hown hy hr (one_bv _) (by simp [maxLen]; omega) (by simpa using hlen) hB (fun v' w' h1 h2 h3 => h v' w' (by rw [List.map_append]; exact h1) h2 h3)
theorem run_str {src dst D : Nat} (hs : P.underlying src = some (.slice e)) (he : P.underlying e = some (.int .u8)) (hd : P.underlying dst = some .string) (hr : Rd w D v (l.map bv)) :
  (convert src dst v).run P w = .ok (.string ⟨l.toArray⟩) w := by
 obtain ⟨A, c, rfl, hc, hm, hcell⟩ := hr
 rcases Nat.eq_zero_or_pos l.length with h0 | hp
 ·have hy : l = [] := List.eq_nil_of_length_eq_zero h0
  subst hy
  cases A with
  | none => exact run_convert_bytes_nil w src e hs he _ _ dst hd
  | some a =>
   rw [run_convert_bytes_string w src dst e _ _ c hs he hd]
   have := run_bytesToString (P := P) w a 0 c [] (by simp [loadCells, loadCellsFrom])
   exact this
 ·obtain ⟨b, off, rfl, hb, hcc⟩ := hcell (by simpa using hp)
  have hx := run_convert_bytes_arg (P := P) w src e hs he b off (l.map bv).length c (l.map fun x => (x.toNat : Int)) (by simp) (fun i hi => by
   refine hcc i _ ?_
   have : i < l.length := by simpa using hi
   simp [List.getElem?_eq_getElem this, bv]) dst hd
  rw [hx]
  congr 2
  unfold strOfNums
  simp only [List.map_map]
  congr 2
  refine (List.map_congr_left fun x _ => ?_).trans (List.map_id _)
  simp
end
theorem str_eq {a b : ByteArray} (h : a = b) : (a.toList == b.toList) = true := by subst h; exact beq_self_eq_true _
theorem str_ne {a b : ByteArray} (h : a ≠ b) : (a.toList == b.toList) = false := by
 rw [beq_eq_false_iff_ne]
 intro hl
 rw [ByteArray.toList_eq, ByteArray.toList_eq] at hl
 apply h
 cases a; cases b
 simp at hl
 rw [hl]
theorem ret1 {a a' : Value} (h : a = a') : Ending.returned a = Ending.returned a' := by rw [h]
theorem ret3 {a b c a' b' c' : Value} (h : a = a') (k : b = b') (m : c = c') : Ending.returned (.tuple #[a, b, c]) = Ending.returned (.tuple #[a', b', c']) := by rw [h, k, m]
theorem vi {k : IntKind} {a b : Int} (h : a = b) : Value.int k a = Value.int k b := by rw [h]
theorem vb {a b : Bool} (h : a = b) : Value.bool a = Value.bool b := by rw [h]
theorem bwN {w : World} (n : Nat) : Below w.heap.size w (w.drewN n) := below_drewN (Below.refl _ _) n
theorem bwN' {B : Nat} (w : World) (n : Nat) : Below B w (w.drewN n) := below_drewN (Below.refl _ _) n
theorem Ow.nilB (w : World) (B e : Nat) : Ow w B e (.slice none 0 0) (([] : List UInt8).map bv) := Ow.nil w B e
theorem bwgrown {B : Nat} {w w' : World} {row : Option Nat} (hg : w.grownBy w' row) (hr : ∀ k, row = some k → B ≤ k) (hB : B ≤ w.heap.size) : Below B w w' := (Below.refl _ _).grown hg hB hr
theorem bwrefl (w : World) : Below w.heap.size w w := Below.refl _ _
theorem bwtrans {a b c : World} {B : Nat} (h : Below B a b) (k : Below b.heap.size b c) (hB : B ≤ a.heap.size) : Below B a c := h.trans (k.mono (Nat.le_trans hB h.size))
theorem Rd.row {w : World} {g e n : Nat} {cs : Array Value} {fz : Nat × Nat} {xs : List Value} (h : w.heap[g]? = some (.cells cs e fz)) (hx : ∀ (j : Nat) (u : Value), xs[j]? = some u → cs[j]? = some u) (h1 : xs.length ≤ n) (h2 : n ≤ maxLen) :
  Rd w w.heap.size (.slice (some ⟨g, 0, none⟩) xs.length n) xs :=
 ⟨_, _, rfl, h1, h2, fun _ => ⟨g, 0, rfl, (Array.getElem?_eq_some_iff.1 h).1, fun j u hu => by rw [Nat.zero_add, cell_of_row w g j cs e fz h]; exact hx j u hu⟩⟩
theorem run_bytes {P : Program} (w : World) {src dst e : TypeId} (s : ByteArray) (hs : P.underlying src = some .string) (hd : P.underlying dst = some (.slice e)) (he : P.underlying e = some (.int .u8)) (hl : s.size ≤ maxLen) :
  ∃ x w', (convert src dst (.string s)).run P w = .ok x w' ∧ Rd w' w'.heap.size x (s.data.toList.map bv) ∧ Below w.heap.size w w' ∧ (∃ n c, x = .slice (some ⟨w.heap.size, 0, none⟩) n c) := by
 have hr := run_bytes_of_string (P := P) w src dst e s hs hd he
 have hsz : (s.data.toList.map bv).length = s.size := by rw [List.length_map]; rfl
 refine ⟨_, _, hr, ?_, ((Below.refl _ _).drew).alloc (Nat.le_refl _) _, _, _, rfl⟩
 have hro := Rd.row (xs := s.data.toList.map bv) (n := grownCap w s.size 0 e) (heap_alloc_new w.drew (.cells (bytesRow s (grownCap w s.size 0 e)) e ((bytesRow s (grownCap w s.size 0 e)).size, (bytesRow s (grownCap w s.size 0 e)).size + 1))) (fun j u hu => by
  have hj : j < s.data.size := by
   have := (List.getElem?_eq_some_iff.1 hu).1
   simpa using this
  rw [bytesRow_at s _ j hj]
  rw [List.getElem?_map, Array.getElem?_toList, Array.getElem?_eq_getElem hj] at hu
  simpa [bv] using hu) (by rw [hsz]; exact grownCap_ge _ _ _ _) (grownCap_le_maxLen _ _ _ _ hl)
 rw [hsz] at hro
 exact hro
theorem ofInt64 (a : Nat) (ha : a < 9223372036854775808) : (BitVec.ofInt 64 (a : Int)).toNat = a := by
 rw [BitVec.ofInt_natCast, BitVec.toNat_ofNat]
 exact Nat.mod_eq_of_lt (by omega)
theorem or_i64 (a b : Nat) (ha : a < 9223372036854775808) (hb : b < 9223372036854775808) : bits .or .i64 (a : Int) (b : Int) = ((a ||| b : Nat) : Int) := by
 have hx : a ||| b < 2 ^ 63 := Nat.or_lt_two_pow (by omega) (by omega)
 show IntKind.i64.wrap ((BitVec.ofInt 64 (a : Int) ||| BitVec.ofInt 64 (b : Int)).toNat : Int) = _
 rw [BitVec.toNat_or, ofInt64 a ha, ofInt64 b hb, IntKind.wrap_i64]
 omega
theorem or_add (a b n : Nat) (h : b < 2 ^ n) : (a * 2 ^ n) ||| b = a * 2 ^ n + b := by
 have := Nat.shiftLeft_add_eq_or_of_lt h a
 rw [Nat.shiftLeft_eq] at this
 exact this.symm
theorem or4 (a b c d : Nat) (ha : a < 256) (hb : b < 256) (hc : c < 256) (hd : d < 256) :
  bits .or .i64 (bits .or .i64 (bits .or .i64 ((a : Int) * 16777216) ((b : Int) * 65536)) ((c : Int) * 256)) (d : Int) = ((16777216 * a + 65536 * b + 256 * c + d : Nat) : Int) := by
 have e1 : bits .or .i64 ((a : Int) * 16777216) ((b : Int) * 65536) = ((256 * a + b : Nat) : Int) * 65536 := by
  have := or_i64 (a * 16777216) (b * 65536) (by omega) (by omega)
  simp only [Int.natCast_mul, Int.cast_ofNat_Int] at this
  rw [this, or_add a (b * 65536) 24 (by omega)]
  omega
 have e2 : bits .or .i64 (((256 * a + b : Nat) : Int) * 65536) ((c : Int) * 256) = ((65536 * a + 256 * b + c : Nat) : Int) * 256 := by
  have := or_i64 ((256 * a + b) * 65536) (c * 256) (by omega) (by omega)
  simp only [Int.natCast_mul, Int.cast_ofNat_Int] at this
  rw [this, or_add (256 * a + b) (c * 256) 16 (by omega)]
  omega
 have e3 : bits .or .i64 (((65536 * a + 256 * b + c : Nat) : Int) * 256) (d : Int) = ((16777216 * a + 65536 * b + 256 * c + d : Nat) : Int) := by
  have := or_i64 ((65536 * a + 256 * b + c) * 256) d (by omega) (by omega)
  simp only [Int.natCast_mul, Int.cast_ofNat_Int] at this
  rw [this, or_add (65536 * a + 256 * b + c) d 8 (by omega)]
  omega
 rw [e1, e2, e3]
end Go.Proofs.Ytpmlfhgdhnofbaa
namespace Go.Proofs.Ytpmlfhgdhnofbaa
open Go.RowKit
theorem bytesT : ET Try.prog 29 5 (.int .u8 0) 1 := ⟨Try.underlying29, by kernel_rfl⟩
theorem bwstep {w a b : World} (h : Below w.heap.size w a) (k : Below a.heap.size a b) : Below w.heap.size w b := h.trans (k.mono h.size)
theorem bwalloc {w a : World} (h : Below w.heap.size w a) (o : Obj) : Below w.heap.size w (a.alloc o) := h.alloc h.size o
theorem Rd.up {w w' : World} {v : Value} {xs : List Value} (h : Rd w w.heap.size v xs) (hb : Below w.heap.size w w') : Rd w' w'.heap.size v xs := (h.below hb).mono hb.size
theorem Ow.empty (w : World) {B : Nat} (hB : B ≤ w.heap.size) (e : Nat) : Ow (w.alloc (.cells #[] e)) B e (.slice (some ⟨w.heap.size, 0, none⟩) 0 0) (([] : List UInt8).map bv) :=
 Ow.new w #[] rfl (by simp [maxLen]) rfl hB
theorem Ow.emptyG {w w2 : World} {e : Nat} (hg : (w.alloc (.cells #[] e)).grownBy w2 (Value.slice (some ⟨w.heap.size, 0, none⟩) 0 0).ownBlock) : Below w.heap.size w w2 :=
 (bwalloc (Below.refl _ _) _).grown hg (by simp) (Ow.empty w (Nat.le_refl _) e).ge
theorem Calls.bel {P : Program} {f : FuncId} {args : Array Value} {w : World} {e0 : Ending} (h : Calls P f args w fun e w' => e = e0 ∧ ∃ m, w' = w.drewN m) : Calls P f args w fun e w' => e = e0 ∧ Below w.heap.size w w' :=
 h.mono fun _ _ ⟨he, _, hm⟩ => ⟨he, hm ▸ bwN _⟩
theorem xor_u8 (a b : UInt8) : bits .xor .u8 (a.toNat : Int) (b.toNat : Int) = ((a ^^^ b).toNat : Int) := by
 show IntKind.u8.wrap ((BitVec.ofInt 8 (a.toNat : Int) ^^^ BitVec.ofInt 8 (b.toNat : Int)).toNat : Int) = _
 have e : ∀ c : UInt8, BitVec.ofInt 8 (c.toNat : Int) = c.toBitVec := by
  intro c
  rw [BitVec.ofInt_natCast]
  apply BitVec.eq_of_toNat_eq
  simp
 rw [e, e, IntKind.wrap_u8]
 have := (a ^^^ b).toNat_lt
 have e2 : (a.toBitVec ^^^ b.toBitVec).toNat = (a ^^^ b).toNat := rfl
 rw [e2]
 omega
end Go.Proofs.Ytpmlfhgdhnofbaa
namespace Go.Proofs.Ytpmlfhgdhnofbaa
open Go.RowKit
def Apart (u v : Value) : Prop := ∀ k, u.ownBlock = some k → v.ownBlock ≠ some k
theorem Apart.symm {u v : Value} (h : Apart u v) : Apart v u := fun k hv hu => h k hu hv
theorem Apart.nil (v : Value) : Apart (.slice none 0 0) v := fun k h => by simp [Value.ownBlock] at h
theorem Ow.kept {w w' : World} {B e : Nat} {u : Value} {ys : List Value} {row : Option Nat} (h : Ow w B e u ys) (hg : w.grownBy w' row) (hne : ∀ k, u.ownBlock = some k → row ≠ some k) : Ow w' B e u ys :=
 World.ownsRow.kept h hg (by
  cases hu : u.ownBlock with
  | none => exact .inl rfl
  | some k => exact .inr fun e => hne k hu e.symm)
structure Two (w1 : World) (e : Nat) (xs ys : List UInt8) (a b : Value) (wr : World) : Prop where
 oa : Ow wr w1.heap.size e a (xs.map bv)
 ob : Ow wr w1.heap.size e b (ys.map bv)
 ab : Apart a b
 bel : Below w1.heap.size w1 wr
theorem Two.nil (w1 : World) (e : Nat) : Two w1 e [] [] (.slice none 0 0) (.slice none 0 0) w1 := ⟨Ow.nilB _ _ _, Ow.nilB _ _ _, Apart.nil _, Below.refl _ _⟩
theorem Two.up {w1 wr w' : World} {e : Nat} {xs ys : List UInt8} {a b : Value} (h : Two w1 e xs ys a b wr) (hb : Below wr.heap.size wr w') : Two w1 e xs ys a b w' := ⟨h.oa.below hb, h.ob.below hb, h.ab, bwstep h.bel hb⟩
theorem Two.alloc {w1 wr : World} {e : Nat} {xs ys : List UInt8} {a b : Value} (h : Two w1 e xs ys a b wr) (o : Obj) : Two w1 e xs ys a b (wr.alloc o) := h.up (bwalloc (Below.refl _ _) o)
theorem Two.drew {w1 wr : World} {e : Nat} {xs ys : List UInt8} {a b : Value} (h : Two w1 e xs ys a b wr) : Two w1 e xs ys a b wr.drew := h.up ((Below.refl _ _).drew)
end Go.Proofs.Ytpmlfhgdhnofbaa
namespace Go.Proofs.Ytpmlfhgdhnofbaa.Mx
abbrev M := Nat → Nat → UInt8
def rw (wd : Nat) (f : Nat → UInt8) : List UInt8 := (List.range wd).map f
theorem rw_len (wd : Nat) (f : Nat → UInt8) : (rw wd f).length = wd := by simp [rw]
theorem rw_congr {wd : Nat} {f g : Nat → UInt8} (h : ∀ k, k < wd → f k = g k) : rw wd f = rw wd g := by
 unfold rw
 exact List.map_congr_left fun k hk => h k (List.mem_range.1 hk)
theorem rw_get {wd : Nat} {f : Nat → UInt8} {k : Nat} (h : k < wd) : (rw wd f)[k]? = some (f k) := by simp [rw, h]
end Go.Proofs.Ytpmlfhgdhnofbaa.Mx
namespace Go.Proofs.Ytpmlfhgdhnofbaa
open Go.RowKit
structure Held (p : Prop) : Prop where out : p
section
variable {P : Program} {ops : Array Oper} {rest : List Oper} {o : Oper} {a : Act} {w : World} {Q : Exit → Act → World → Prop}
end
section
variable {P : Program} {ops : Array Oper} {rest : List Oper} {o : Oper} {a : Act} {w : World} {Q : Exit → Act → World → Prop}
theorem wpList_allocRow (hg : o.guard = none) (ty : TypeId) (ho : o.op = .alloc ty) (cs : Array Value) (hz : (P.info? ty).map (·.zero) = some (some (.agg cs)))
  (h : wpList P ops Q rest (a.put o.dst (.pointer (some ⟨w.heap.size, 0, none⟩))) (w.alloc (.cells cs ty))) : wpList P ops Q (o :: rest) a w := by
 refine wpList_plain hg fun K hK => ?_
 cases hq : P.info? ty with
 | none => simp [hq] at hz
 | some i =>
  have hz' : i.zero = some (.agg cs) := by simpa [hq] using hz
  have hv : (zeroValue ty).run P w = .ok (.agg cs) w := by simp [zeroValue, typeInfo, hq, hz']
  unfold Oper.wp execOp
  simp only [ho, Instr.alloc, hv, newVar, newRow, Value.cells, run_newObj_alloc, Sem.run_bind, Sem.run_pure, Result.andThen_ok]
  exact hK _ _ h
theorem wpList_boxRow (hg : o.guard = none) (ty : TypeId) (x : Operand) (ho : o.op = .box ty x) (cs : Array Value) (hx : a.eval x = .agg cs)
  (h : wpList P ops Q rest (a.put o.dst (.pointer (some ⟨w.heap.size, 0, none⟩))) (w.alloc (.cells cs ty))) : wpList P ops Q (o :: rest) a w := by
 refine wpList_plain hg fun K hK => ?_
 unfold Oper.wp execOp
 simp only [ho, hx, Instr.box, newVar, newRow, Value.cells, run_newObj_alloc, Sem.run_bind, Sem.run_pure, Result.andThen_ok]
 exact hK _ _ h
theorem below_setRow {B : Nat} {w w' : World} (h : Below B w w') {g : Nat} (hg : B ≤ g) (cs : Array Value) : Below B w (w'.setRow g cs) :=
 h.trans ⟨rfl, rfl, rfl, by simp, fun k hk => setRow_other _ _ _ _ (by omega)⟩
theorem wpList_storeRow (hg : o.guard = none) (ty : TypeId) (x y : Operand) (ho : o.op = .store ty x y)
  (g : Nat) (cells : Array Value) (hx : a.eval x = .pointer (some ⟨g, 0, none⟩)) (hy : a.eval y = .agg cells)
  (t : TypeId) (old : Array Value) (hh : w.heap[g]? = some (.cells old t (0, 0))) (hi : (P.info? ty).map (·.size) = some cells.size)
  (hold : old.size = cells.size) (h1 : cells.all (·.oneCell') = true)
  (h : wpList P ops Q rest (a.put o.dst undef) (w.setRow g cells)) : wpList P ops Q (o :: rest) a w :=
 wpList_plain hg fun _ hK => wp_store_row ty x y ho g cells hx hy t old hh hi hold h1 (hK _ _ h)
end
section
variable {P : Program} {ops : Array Oper} {o : Oper} {a : Act} {w : World} {K : Act → World → Prop} {Q : Exit → Act → World → Prop} {E : Prop}
end
end Go.Proofs.Ytpmlfhgdhnofbaa
namespace Go.Proofs.Ytpmlfhgdhnofbaa
open Go.RowKit
end Go.Proofs.Ytpmlfhgdhnofbaa
namespace Go.Proofs.Ytpmlfhgdhnofbaa
open Go.RowKit
structure Kp (S : List Nat) (w w' : World) : Prop where
 os : w'.os = w.os
 tape : w'.tape = w.tape
 output : w'.output = w.output
 size : w.heap.size ≤ w'.heap.size
 block : ∀ k, k < w.heap.size → k ∉ S → w'.heap[k]? = w.heap[k]?
theorem Kp.refl (S : List Nat) (w : World) : Kp S w w := ⟨rfl, rfl, rfl, Nat.le_refl _, fun _ _ _ => rfl⟩
theorem Kp.trans {S S' : List Nat} {a b c : World} (h : Kp S a b) (k : Kp S' b c) (hS : ∀ x ∈ S', x ∈ S ∨ a.heap.size ≤ x) : Kp S a c :=
 ⟨k.os.trans h.os, k.tape.trans h.tape, k.output.trans h.output, Nat.le_trans h.size k.size, fun x hx hn =>
  (k.block x (Nat.lt_of_lt_of_le hx h.size) fun hm => by
   rcases hS x hm with h1 | h1
   ·exact hn h1
   ·omega).trans (h.block x hx hn)⟩
theorem Kp.of_below {w w' : World} (h : Below w.heap.size w w') (S : List Nat) : Kp S w w' := ⟨h.os, h.tape, h.output, h.size, fun k hk _ => h.block k hk⟩
theorem Kp.below {S : List Nat} {B : Nat} {w w' : World} (h : Kp S w w') (hS : ∀ k ∈ S, B ≤ k) (hB : B ≤ w.heap.size) : Below B w w' :=
 ⟨h.os, h.tape, h.output, h.size, fun k hk => h.block k (Nat.lt_of_lt_of_le hk hB) fun hm => by have := hS k hm; omega⟩
theorem Kp.grown {S : List Nat} {w w' : World} {row : Option Nat} (h : w.grownBy w' row) (hr : ∀ k, row = some k → k ∈ S) : Kp S w w' :=
 ⟨h.os, h.tape, h.output, h.size, fun k hk hn => h.block k hk fun e => hn (hr k e.symm)⟩
theorem Kp.set {S : List Nat} (w : World) {p : Addr} (hp : p.block ∈ S) (u : Value) : Kp S w (w.setCell p u) :=
 ⟨rfl, rfl, rfl, by simp [World.setCell], fun k _ hn => Below.heap_setCell _ _ _ _ fun e => hn (by rw [e]; exact hp)⟩
theorem Kp.bel {S : List Nat} {a b c : World} (h : Kp S a b) (k : Below b.heap.size b c) : Kp S a c := h.trans (Kp.of_below k []) (by simp)
end Go.Proofs.Ytpmlfhgdhnofbaa
namespace Go.Proofs.Ytpmlfhgdhnofbaa
theorem takeH {P : Program} {md : Region.Mode} {ops : Array Oper} {Q : Exit → Act → World → Prop} {S : World → Prop} (i : Nat) {oi : Oper} {v : Value} {fuel : Nat} {listed : Array Bool} {a a' : Act} {w : World} (hi : ops[i]? = some oi := by exact rfl)
  (hb : (Region.noSelect ops && Region.free md ops listed i && (Region.ready md ops listed).contains i) = true := by kernel_rfl) (hQ : ∀ c a w, Q (.panic c) (a.put oi.dst v) w → Q (.panic c) a w := by exact fun _ _ _ h => h) (hw : Region.wanted oi (yielded ops a.tmps) = true := by exact rfl)
  (hy : ∀ z, S z → (execOp a.eval oi).run P z = .ok (.value v) z := by intro z hSz; (try dsimp only at hSz); go_simp; try with_reducible rfl) (hS : S w := by assumption)
  (ha : a.put oi.dst v = a' := by (try simp only [Act.put]); (try simp only [List.setIfInBounds_toArray]); (try simp only [List.set_cons_succ]); (try simp only [List.set_cons_zero]); exact rfl) (h : wpAnyH P md ops Q S fuel (listed.setIfInBounds i true) a' w) : wpAnyH P md ops Q S (fuel + 1) listed a w := by
 rw [Bool.and_eq_true, Bool.and_eq_true] at hb; subst ha
 exact wpAnyH_take hi hb.1.1 hb.1.2 hb.2 hQ (Or.inl ⟨hw, hy⟩) hS h
theorem skipH {P : Program} {md : Region.Mode} {ops : Array Oper} {Q : Exit → Act → World → Prop} {S : World → Prop} (i : Nat) {oi : Oper} {fuel : Nat} {listed : Array Bool} {a a' : Act} {w : World} (hi : ops[i]? = some oi := by exact rfl)
  (hb : (Region.noSelect ops && Region.free md ops listed i && (Region.ready md ops listed).contains i) = true := by kernel_rfl) (hQ : ∀ c a w, Q (.panic c) (a.put oi.dst undef) w → Q (.panic c) a w := by exact fun _ _ _ h => h) (hw : Region.wanted oi (yielded ops a.tmps) = false := by exact rfl) (hS : S w := by assumption)
  (ha : a.put oi.dst undef = a' := by (try simp only [Act.put]); (try simp only [List.setIfInBounds_toArray]); (try simp only [List.set_cons_succ]); (try simp only [List.set_cons_zero]); exact rfl) (h : wpAnyH P md ops Q S fuel (listed.setIfInBounds i true) a' w) : wpAnyH P md ops Q S (fuel + 1) listed a w := by
 rw [Bool.and_eq_true, Bool.and_eq_true] at hb; subst ha
 exact wpAnyH_take hi hb.1.1 hb.1.2 hb.2 hQ (Or.inr ⟨hw, rfl⟩) hS h
end Go.Proofs.Ytpmlfhgdhnofbaa
