/- Files in order of their names, as lists: put, struck, found. Plain. A disk in memory: its row, its map of files, each file's row and bytes ('DiskAt'); what a store into one of them does; which blocks a call may turn ('Kp'). The contracts of package disk that turn no file: isName, distance, Used, Names, Read, Synced. The contracts of package disk that turn files: New, open, cut, Sync, distance. The contracts of package disk: Sync, Append, Delete, Rename, Trim, Turn. The contracts of package disk: Turn, Rename, distance. What a crash makes of a disk's files, plain. The contract of package disk's Crash. -/
import Derived.Test.YtaddbhdkgneiaaaGreatBase
import Derived.Sort.KeysCollected
import Derived.Maps.RangeWalk
import Derived.Maps.Ext
import Derived.Test.YtaddbhdkgneiaaaGreatLow
import Derived.Test.YtaddbhdkgneiaaaGreatIter
import Derived.Deep.RegionHeld3
set_option maxHeartbeats 8000000
set_option maxRecDepth 100000
namespace Go.Proofs.YtaddbhdkgneiaaaGreat.Dk
open Go.RowKit
theorem lt_trans {a b c : List UInt8} (h : a < b) (k : b < c) : a < c := List.lt_trans h k
theorem lt_irrefl (a : List UInt8) : ¬ a < a := List.lt_irrefl a
theorem lt_tri {a b : List UInt8} (h : a ≠ b) (k : ¬ a < b) : b < a := by
 by_cases h2 : b < a
 ·exact h2
 ·exact absurd (List.le_antisymm (List.not_lt.1 h2) (List.not_lt.1 k)) h
section
variable {α β : Type} (k : α → List UInt8)
def ins (x : α) : List α → List α
 | [] => [x]
 | y :: r => if k x < k y then x :: y :: r else y :: ins x r
def wo (n : List UInt8) (L : List α) : List α := L.filter fun f => decide (k f ≠ n)
def put (x : α) (L : List α) : List α := ins k x (wo k (k x) L)
def fnd (n : List UInt8) (L : List α) : Option α := L.find? fun f => decide (k f = n)
def Srt (L : List α) : Prop := L.Pairwise fun a b => k a < k b
end
section
variable {α β : Type} {k : α → List UInt8} {k' : β → List UInt8} {g : α → β}
theorem map_ins (hk : ∀ x, k' (g x) = k x) (x : α) : ∀ L : List α, (ins k x L).map g = ins k' (g x) (L.map g)
 | [] => rfl
 | y :: r => by
  unfold ins
  simp only [List.map_cons, hk]
  split
  ·rfl
  ·rw [List.map_cons, map_ins hk x r]
theorem map_wo (hk : ∀ x, k' (g x) = k x) (n : List UInt8) (L : List α) : (wo k n L).map g = wo k' n (L.map g) := by
 unfold wo
 rw [List.filter_map]
 congr 1
 apply List.filter_congr
 intro x _
 simp [hk]
theorem map_put (hk : ∀ x, k' (g x) = k x) (x : α) (L : List α) : (put k x L).map g = put k' (g x) (L.map g) := by
 unfold put
 rw [map_ins hk, map_wo hk, hk]
theorem fnd_map (hk : ∀ x, k' (g x) = k x) (n : List UInt8) (L : List α) : fnd k' n (L.map g) = (fnd k n L).map g := by
 unfold fnd
 rw [List.find?_map]
 simp only [Function.comp_def, hk]
theorem mem_ins {x y : α} : ∀ {L : List α}, y ∈ ins k x L ↔ y = x ∨ y ∈ L
 | [] => by simp [ins]
 | z :: r => by
  unfold ins
  split
  ·simp
  ·simp only [List.mem_cons, mem_ins (L := r)]
   constructor <;> rintro (h | h | h) <;> simp [h]
theorem srt_ins {x : α} : ∀ {L : List α}, Srt k L → (∀ y ∈ L, k y ≠ k x) → Srt k (ins k x L)
 | [], _, _ => by simp [ins, Srt]
 | z :: r, h, hne => by
  obtain ⟨h1, h2⟩ := List.pairwise_cons.1 h
  unfold ins
  split
  ·rename_i hlt
   refine List.pairwise_cons.2 ⟨fun y hy => ?_, h⟩
   rcases List.mem_cons.1 hy with rfl | hy
   ·exact hlt
   ·exact lt_trans hlt (h1 y hy)
  ·rename_i hlt
   refine List.pairwise_cons.2 ⟨fun y hy => ?_, srt_ins h2 fun y hy => hne y (by simp [hy])⟩
   rcases mem_ins.1 hy with rfl | hy
   ·exact lt_tri (hne z (by simp)).symm hlt
   ·exact h1 y hy
theorem mem_wo {n : List UInt8} {y : α} {L : List α} : y ∈ wo k n L ↔ y ∈ L ∧ k y ≠ n := by simp [wo]
theorem srt_wo {n : List UInt8} {L : List α} (h : Srt k L) : Srt k (wo k n L) := List.Pairwise.filter _ h
theorem srt_put {x : α} {L : List α} (h : Srt k L) : Srt k (put k x L) := srt_ins (srt_wo h) fun _ hy => (mem_wo.1 hy).2
theorem mem_put {x y : α} {L : List α} : y ∈ put k x L ↔ y = x ∨ (y ∈ L ∧ k y ≠ k x) := by unfold put; rw [mem_ins, mem_wo]
theorem srt_ext {A B : List α} (ha : Srt k A) (hb : Srt k B) (h : ∀ x, x ∈ A ↔ x ∈ B) : A = B := by
 have nd : ∀ {L : List α}, Srt k L → L.Nodup := fun {L} hL => List.Pairwise.imp (S := fun a b => a ≠ b) (fun {a b} hab e => lt_irrefl (k a) (by subst e; exact hab)) hL
 exact ((List.perm_ext_iff_of_nodup (nd ha) (nd hb)).2 h).eq_of_pairwise (le := fun a b => k a < k b) (fun a b _ _ h1 h2 => absurd (lt_trans h1 h2) (lt_irrefl _)) ha hb
theorem srt_mid {A B : List α} {f f' : α} (h : Srt k (A ++ f :: B)) (e : k f' = k f) : Srt k (A ++ f' :: B) := by
 have h' : Srt (fun l : List UInt8 => l) ((A ++ f :: B).map k) := by unfold Srt; rw [List.pairwise_map]; exact h
 have e2 : (A ++ f' :: B).map k = (A ++ f :: B).map k := by simp [e]
 rw [← e2] at h'
 unfold Srt at h'
 rw [List.pairwise_map] at h'
 exact h'
theorem srt_uniq {L : List α} (h : Srt k L) {x y : α} (hx : x ∈ L) (hy : y ∈ L) (e : k x = k y) : x = y := by
 by_cases hxy : x = y
 ·exact hxy
 ·exfalso
  have hp : L.Pairwise (fun a b => k a ≠ k b) := List.Pairwise.imp (S := fun a b => k a ≠ k b) (fun {a b} hab e => lt_irrefl (k b) (by rw [e] at hab; exact hab)) h
  obtain ⟨i, hi, rfl⟩ := List.getElem_of_mem hx
  obtain ⟨j, hj, rfl⟩ := List.getElem_of_mem hy
  have hij : i ≠ j := fun e => hxy (by subst e; rfl)
  rw [List.pairwise_iff_getElem] at hp
  rcases Nat.lt_or_gt_of_ne hij with h1 | h1
  ·exact hp i j hi hj h1 e
  ·exact hp j i hj hi h1 e.symm
theorem put_mid {A B : List α} {f f' : α} (h : Srt k (A ++ f :: B)) (e : k f' = k f) : put k f' (A ++ f :: B) = A ++ f' :: B := by
 refine srt_ext (srt_put h) (srt_mid h e) fun x => ?_
 rw [mem_put, e]
 constructor
 ·rintro (rfl | ⟨hx, hne⟩)
  ·simp
  ·simp only [List.mem_append, List.mem_cons] at hx ⊢
   rcases hx with hx | rfl | hx
   ·exact .inl hx
   ·exact absurd rfl hne
   ·exact .inr (.inr hx)
 ·intro hx
  simp only [List.mem_append, List.mem_cons] at hx
  have other : ∀ y, (y ∈ A ∨ y ∈ B) → k y ≠ k f := fun y hy he => by
   have hp := (List.pairwise_append.1 h)
   rcases hy with hy | hy
   ·have := hp.2.2 y hy f (by simp); rw [he] at this; exact lt_irrefl _ this
   ·have := (List.pairwise_cons.1 hp.2.1).1 y hy; rw [he] at this; exact lt_irrefl _ this
  rcases hx with hx | rfl | hx
  ·exact .inr ⟨by simp [hx], other x (.inl hx)⟩
  ·exact .inl rfl
  ·exact .inr ⟨by simp [hx], other x (.inr hx)⟩
theorem wo_mid {A B : List α} {f : α} (h : Srt k (A ++ f :: B)) : wo k (k f) (A ++ f :: B) = A ++ B := by
 have hp := (List.pairwise_append.1 h)
 unfold wo
 rw [List.filter_append, List.filter_cons]
 simp only [ne_eq, not_true_eq_false, decide_false, Bool.false_eq_true, if_false]
 rw [List.filter_eq_self.2, List.filter_eq_self.2]
 ·intro y hy
  have := (List.pairwise_cons.1 hp.2.1).1 y hy
  exact decide_eq_true fun e => by rw [e] at this; exact lt_irrefl _ this
 ·intro y hy
  have := hp.2.2 y hy f (by simp)
  exact decide_eq_true fun e => by rw [e] at this; exact lt_irrefl _ this
theorem wo_none {n : List UInt8} {L : List α} (h : fnd k n L = none) : wo k n L = L := by
 unfold fnd at h
 rw [List.find?_eq_none] at h
 exact List.filter_eq_self.2 fun y hy => decide_eq_true fun e => h y hy (decide_eq_true e)
theorem fnd_cases (k : α → List UInt8) (n : List UInt8) (L : List α) : fnd k n L = none ∨ ∃ A f B, L = A ++ f :: B ∧ k f = n ∧ fnd k n L = some f := by
 cases h : fnd k n L with
 | none => exact .inl rfl
 | some f =>
  have h1 : k f = n := by simpa [fnd] using List.find?_some h
  obtain ⟨A, B, e⟩ := List.append_of_mem (List.mem_of_find?_eq_some h)
  exact .inr ⟨A, f, B, e, h1, rfl⟩
theorem fnd_of_mem {L : List α} (h : Srt k L) {x : α} (hx : x ∈ L) : fnd k (k x) L = some x := by
 rcases fnd_cases k (k x) L with h1 | ⟨A, f, B, e, hf, h1⟩
 ·unfold fnd at h1
  rw [List.find?_eq_none] at h1
  exact absurd (by simp) (h1 x hx)
 ·rw [h1, srt_uniq h (x := f) (y := x) (by rw [e]; simp) hx hf]
theorem fnd_put {L : List α} (h : Srt k L) (x : α) : fnd k (k x) (put k x L) = some x := fnd_of_mem (srt_put h) (mem_put.2 (.inl rfl))
theorem wo_length (n : List UInt8) (L : List α) : (wo k n L).length ≤ L.length := List.length_filter_le _ _
end
structure Fl where
 nm : ByteArray
 l : List UInt8
 s : Nat
def key (f : Fl) : List UInt8 := f.nm.data.toList
def total (L : List Fl) : Nat := (L.map fun f => f.l.length).sum
theorem total_app (A B : List Fl) : total (A ++ B) = total A + total B := by simp [total]
theorem total_cons (f : Fl) (B : List Fl) : total (f :: B) = f.l.length + total B := by simp [total]
theorem name_ext {a b : ByteArray} (h : a.data.toList = b.data.toList) : a = b := by
 cases a; cases b
 simp at h
 rw [h]
end Go.Proofs.YtaddbhdkgneiaaaGreat.Dk
namespace Go.Proofs.YtaddbhdkgneiaaaGreat
open Go.RowKit Go.Maps Dk
open Go.WideMaps (keyOf_string_mk)
def RdV (w : World) (S : List Nat) (x : Value) (xs : List Value) : Prop := Rd w w.heap.size x xs ∧ (0 < xs.length → ∀ k, x.ownBlock = some k → k ∉ S)
def RdS (w : World) (S : List Nat) (x : Value) (l : List UInt8) : Prop := RdV w S x (l.map bv)
theorem Rd.kp {w w' : World} {S : List Nat} {x : Value} {xs : List Value} (h : Rd w w.heap.size x xs) (ho : 0 < xs.length → ∀ k, x.ownBlock = some k → k ∉ S) (hk : Kp S w w') : Rd w' w'.heap.size x xs := by
 obtain ⟨A, c, rfl, h1, h2, h3⟩ := h
 refine ⟨A, c, rfl, h1, h2, fun hp => ?_⟩
 obtain ⟨b, off, rfl, hb, hc⟩ := h3 hp
 refine ⟨b, off, rfl, Nat.lt_of_lt_of_le hb hk.size, fun j u hu => ?_⟩
 rw [World.cell?_of_block (w := w) (a := ⟨b, off + j, none⟩) (hk.block b hb (ho hp b rfl))]
 exact hc j u hu
theorem RdV.up {w w' : World} {S S' : List Nat} {x : Value} {xs : List Value} (h : RdV w S x xs) (hk : Kp S w w') (hS : ∀ k ∈ S', k ∈ S ∨ w.heap.size ≤ k) : RdV w' S' x xs := by
 refine ⟨h.1.kp h.2 hk, fun hp k hx hm => ?_⟩
 obtain ⟨b, off, c, e, _, _, hb, _⟩ := h.1.at_ hp
 rw [e] at hx
 injection hx with hx
 rcases hS k hm with h1 | h1
 ·exact h.2 hp k (by rw [e]; exact congrArg some hx) h1
 ·have : b = k := hx
  omega
theorem RdS.up {w w' : World} {S S' : List Nat} {x : Value} {l : List UInt8} (h : RdS w S x l) (hk : Kp S w w') (hS : ∀ k ∈ S', k ∈ S ∨ w.heap.size ≤ k) : RdS w' S' x l := RdV.up h hk hS
theorem RdV.of_low {w : World} {B : Nat} {S : List Nat} {x : Value} {xs : List Value} (h : Rd w B x xs) (hB : B ≤ w.heap.size) (hS : ∀ k ∈ S, B ≤ k) : RdV w S x xs := by
 refine ⟨h.mono hB, fun hp k hx hm => ?_⟩
 obtain ⟨b, off, c, e, _, _, hb, _⟩ := h.at_ hp
 rw [e] at hx
 injection hx with hx
 have h1 := hS k hm
 have : b = k := hx
 omega
theorem RdS.of_low {w : World} {B : Nat} {S : List Nat} {x : Value} {l : List UInt8} (h : Rd w B x (l.map bv)) (hB : B ≤ w.heap.size) (hS : ∀ k ∈ S, B ≤ k) : RdS w S x l := RdV.of_low h hB hS
theorem Ow.rdS {w : World} {B e : Nat} {S : List Nat} {x : Value} {l : List UInt8} (h : Ow w B e x (l.map bv)) (hS : ∀ k ∈ S, k < B) : RdS w S x l :=
 ⟨h.rd, fun _ k hx hm => by have := hS k hm; have := h.ge k hx; omega⟩
theorem Ow.same {w w' : World} {B e : Nat} {v : Value} {xs : List Value} (h : Ow w B e v xs) (hk : ∀ k, v.ownBlock = some k → w'.heap[k]? = w.heap[k]?) : Ow w' B e v xs := by
 obtain ⟨h1, h2⟩ := h
 refine ⟨h1, ?_⟩
 rcases h2 with h2 | ⟨g, cap, cur, rfl, hg, hh, r⟩
 ·exact .inl h2
 ·exact .inr ⟨g, cap, cur, rfl, hg, by rw [hk g rfl]; exact hh, r⟩
theorem Ow.tag {w : World} {B e k : Nat} {v : Value} {xs : List Value} (h : Ow w B e v xs) (hk : v.ownBlock = some k) : ∃ cur, w.heap[k]? = some (.cells cur e (0, 0)) := by
 obtain ⟨h1, h2⟩ := h
 rcases h2 with ⟨rfl, _⟩ | ⟨g, cap, cur, rfl, hg, hh, r⟩
 ·cases hk
 ·injection hk with hk
  have : g = k := hk
  subst this
  exact ⟨cur, hh⟩
theorem nameK : Keyed Tryz.prog 9 := string_keyed Tryz.underlying9
theorem nameOf {s : ByteArray} (h : s.size ≤ maxLen) : keyOf Tryz.prog 9 (.string s) = some (.string s.data.toList) := keyOf_string_mk Tryz.underlying9 h
def pR : Value → Option (DataW Unit × List MemPlace)
 | .pointer none => some (.nil, [])
 | .pointer (some ⟨b, 0, none⟩) => some (.lit (.int .i64 b), [])
 | _ => none
def ptrOf : Option Nat → Value
 | none => .pointer none
 | some b => .pointer (some ⟨b, 0, none⟩)
def datOf : Option Nat → DataW Unit
 | none => .nil
 | some b => .lit (.int .i64 b)
theorem pR_inv {v : Value} {y : DataW Unit × List MemPlace} (h : pR v = some y) : ∃ o : Option Nat, v = ptrOf o ∧ y = (datOf o, []) := by
 unfold pR at h
 split at h
 ·cases h; exact ⟨none, rfl, rfl⟩
 ·cases h; exact ⟨some _, rfl, rfl⟩
 ·cases h
theorem pR_mk (o : Option Nat) : pR (ptrOf o) = some (datOf o, []) := by cases o <;> rfl
theorem datOf_inj {o o' : Option Nat} (h : datOf o = datOf o') : o = o' := by
 cases o <;> cases o' <;> simp [datOf] at h ⊢
 omega
theorem zeroPtr (w : World) : (zeroValue 80).run Tryz.prog w = .ok (.pointer none) w := by kernel_rfl
theorem ownsMap_tight {P : Program} {k b n : Nat} {R : Value → Option (DataW Unit × List MemPlace)} {w : World} {D : DataW Unit} (h : w.ownsMap P k R b n D) : w.ownsMap P k R b (Maps.size D) D := by
 obtain ⟨es, clock, hb, F, hs, rfl⟩ := h
 exact ⟨es, clock, hb, F, by simp [Maps.size, length_sorted], rfl⟩
structure Fr where
 fl : Fl
 bl : Nat
 v : Value
def fk (f : Fr) : List UInt8 := key f.fl
def blks (f : Fr) : List Nat := f.bl :: f.v.ownBlock.toList
def fp (db mb : Nat) (L : List Fr) : List Nat := db :: mb :: L.flatMap blks
def ent (f : Fr) : Lit × DataW Unit := (.string (fk f), .lit (.int .i64 f.bl))
def dat (L : List Fr) : DataW Unit := .map (L.map ent)
theorem mem_fp {db mb k : Nat} {L : List Fr} : k ∈ fp db mb L ↔ k = db ∨ k = mb ∨ ∃ f ∈ L, k = f.bl ∨ f.v.ownBlock = some k := by
 unfold fp blks
 simp only [List.mem_cons, List.mem_flatMap, Option.mem_toList]
theorem bytesBefore_eq : ∀ x y : List UInt8, bytesBefore x y = decide (x < y)
 | [], [] => by simp [bytesBefore]
 | [], _ :: _ => by simp [bytesBefore]
 | _ :: _, [] => by simp [bytesBefore]
 | a :: x, b :: y => by
  rw [bytesBefore, bytesBefore_eq x y]
  by_cases h : a < b
  ·simp [h, List.cons_lt_cons_iff]
  ·by_cases h2 : a = b
   ·subst h2; simp
   ·simp [h, h2, List.cons_lt_cons_iff]
theorem ins_ent (f : Fr) : ∀ L : List Fr, DataW.insert (ent f) (L.map ent) = (ins fk f L).map ent
 | [] => rfl
 | y :: r => by
  have e : (ent f).1.before (ent y).1 = decide (fk f < fk y) := by
   show bytesBefore (fk f) (fk y) = _
   rw [bytesBefore_eq]
  rw [List.map_cons, DataW.insert, e, ins]
  by_cases h : fk f < fk y
  ·simp [h]
  ·simp only [h, decide_false, if_false, Bool.false_eq_true]
   rw [ins_ent f r, List.map_cons]
theorem flt_ent (n : List UInt8) (L : List Fr) : (L.map ent).filter (fun p => !p.1.sameKey (.string n)) = (wo fk n L).map ent := by
 unfold wo
 rw [List.filter_map]
 congr 1
 apply List.filter_congr
 intro x _
 show (!(fk x == n)) = decide (fk x ≠ n)
 by_cases e : fk x = n <;> simp [e]
theorem dat_put (f : Fr) (L : List Fr) : (dat L).put (.string (fk f)) (.lit (.int .i64 f.bl)) = dat (put fk f L) := by
 show DataW.map (DataW.insert (ent f) ((L.map ent).filter fun p => !p.1.sameKey (.string (fk f)))) = _
 rw [flt_ent, ins_ent]
 rfl
theorem dat_del (n : List UInt8) (L : List Fr) : (dat L).del (.string n) = dat (wo fk n L) := by
 show DataW.map ((L.map ent).filter fun p => !p.1.sameKey (.string n)) = _
 rw [flt_ent]
 rfl
theorem dat_at (n : List UInt8) (L : List Fr) : (dat L).atKey (.string n) .nil = datOf ((fnd fk n L).map (·.bl)) := by
 have e0 : (dat L).atKey (.string n) .nil = ((L.map ent).find? (fun p => p.1.sameKey (.string n))).elim .nil (fun p => p.2) := by
  unfold dat DataW.atKey
  dsimp only
  cases (L.map ent).find? (fun p => p.1.sameKey (.string n)) <;> rfl
 rw [e0, List.find?_map]
 have e : (fun p : Lit × DataW Unit => p.1.sameKey (.string n)) ∘ ent = fun f => decide (fk f = n) := by
  funext f
  show (fk f == n) = decide (fk f = n)
  by_cases e : fk f = n <;> simp [e]
 rw [e]
 unfold fnd
 cases List.find? (fun f => decide (fk f = n)) L <;> rfl
theorem dat_size (L : List Fr) : Maps.size (dat L) = L.length := by simp [dat, Maps.size]
theorem dat_keys (L : List Fr) : strKeys (dat L) = L.map fk := by simp [dat, strKeys, ent, strOf, Function.comp_def]
structure DiskAt (w : World) (B : Nat) (d : Value) (db mb cap us : Nat) (L : List Fr) : Prop where
 hd : d = .pointer (some ⟨db, 0, none⟩)
 row : w.heap[db]? = some (.cells #[.int .i64 (cap : Int), .int .i64 (us : Int), .map (some mb)] 59 (0, 0))
 map : w.ownsMap Tryz.prog 9 pR mb L.length (dat L)
 cel : ∀ f ∈ L, w.heap[f.bl]? = some (.cells #[f.v, .int .i64 (f.fl.s : Int)] 82 (0, 0))
 own : ∀ f ∈ L, Ow w B 5 f.v (f.fl.l.map bv)
 ap : ∀ f ∈ L, ∀ g ∈ L, fk f ≠ fk g → f.bl ≠ g.bl ∧ Apart f.v g.v
 srt : Srt fk L
 geb : B ≤ db ∧ B ≤ mb ∧ ∀ f ∈ L, B ≤ f.bl
section
variable {w w' : World} {B : Nat} {d : Value} {db mb cap us us' : Nat} {L A C : List Fr} {f : Fr}
theorem DiskAt.ge (h : DiskAt w B d db mb cap us L) : ∀ k ∈ fp db mb L, B ≤ k := by
 intro k hk
 rcases mem_fp.1 hk with rfl | rfl | ⟨f, hf, rfl | hk⟩
 ·exact h.geb.1
 ·exact h.geb.2.1
 ·exact h.geb.2.2 f hf
 ·exact (h.own f hf).ge k hk
theorem DiskAt.lt (h : DiskAt w B d db mb cap us L) : ∀ k ∈ fp db mb L, k < w.heap.size := by
 intro k hk
 rcases mem_fp.1 hk with rfl | rfl | ⟨f, hf, rfl | hk⟩
 ·exact (Array.getElem?_eq_some_iff.1 h.row).1
 ·exact h.map.lt
 ·exact (Array.getElem?_eq_some_iff.1 (h.cel f hf)).1
 ·exact ((h.own f hf).lt k hk).2
theorem DiskAt.keep (h : DiskAt w B d db mb cap us L) (hk : ∀ k ∈ fp db mb L, w'.heap[k]? = w.heap[k]?) : DiskAt w' B d db mb cap us L := by
 refine ⟨h.hd, by rw [hk db (mem_fp.2 (.inl rfl))]; exact h.row, ?_, fun f hf => ?_, fun f hf => ?_, h.ap, h.srt, h.geb⟩
 ·obtain ⟨es, clock, hb, r⟩ := h.map
  exact ⟨es, clock, by rw [hk mb (mem_fp.2 (.inr (.inl rfl)))]; exact hb, r⟩
 ·rw [hk f.bl (mem_fp.2 (.inr (.inr ⟨f, hf, .inl rfl⟩)))]
  exact h.cel f hf
 ·exact (h.own f hf).same fun k hv => hk k (mem_fp.2 (.inr (.inr ⟨f, hf, .inr hv⟩)))
theorem DiskAt.kp {S : List Nat} (h : DiskAt w B d db mb cap us L) (hk : Kp S w w') (hS : ∀ k ∈ fp db mb L, k ∉ S) : DiskAt w' B d db mb cap us L := h.keep fun k hm => hk.block k (h.lt k hm) (hS k hm)
theorem DiskAt.below (h : DiskAt w B d db mb cap us L) (hb : Below w.heap.size w w') : DiskAt w' B d db mb cap us L := h.keep fun k hm => hb.block k (h.lt k hm)
theorem DiskAt.c0 (h : DiskAt w B d db mb cap us L) : w.cell? ⟨db, 0, none⟩ = some (.int .i64 (cap : Int)) := by rw [cell_of_row w db 0 _ _ (0, 0) h.row]; rfl
theorem DiskAt.c1 (h : DiskAt w B d db mb cap us L) : w.cell? ⟨db, 1, none⟩ = some (.int .i64 (us : Int)) := by rw [cell_of_row w db 1 _ _ (0, 0) h.row]; rfl
theorem DiskAt.c2 (h : DiskAt w B d db mb cap us L) : w.cell? ⟨db, 2, none⟩ = some (.map (some mb)) := by rw [cell_of_row w db 2 _ _ (0, 0) h.row]; rfl
theorem DiskAt.z1 (h : DiskAt w B d db mb cap us L) : w.frozen? ⟨db, 1, none⟩ = false := by simp [World.frozen?, h.row]
theorem DiskAt.g0 (h : DiskAt w B d db mb cap us L) (hf : f ∈ L) : w.cell? ⟨f.bl, 0, none⟩ = some f.v := by rw [cell_of_row w f.bl 0 _ _ (0, 0) (h.cel f hf)]; rfl
theorem DiskAt.g1 (h : DiskAt w B d db mb cap us L) (hf : f ∈ L) : w.cell? ⟨f.bl, 1, none⟩ = some (.int .i64 (f.fl.s : Int)) := by rw [cell_of_row w f.bl 1 _ _ (0, 0) (h.cel f hf)]; rfl
theorem DiskAt.y0 (h : DiskAt w B d db mb cap us L) (hf : f ∈ L) : w.frozen? ⟨f.bl, 0, none⟩ = false := by simp [World.frozen?, h.cel f hf]
theorem DiskAt.y1 (h : DiskAt w B d db mb cap us L) (hf : f ∈ L) : w.frozen? ⟨f.bl, 1, none⟩ = false := by simp [World.frozen?, h.cel f hf]
theorem DiskAt.neDF (h : DiskAt w B d db mb cap us L) (hf : f ∈ L) : db ≠ f.bl := by
 intro e
 have h1 := h.row
 rw [e, h.cel f hf] at h1
 injection h1 with h1
 injection h1 with _ h2 _
 exact absurd h2 (by decide)
theorem DiskAt.neMF (h : DiskAt w B d db mb cap us L) (hf : f ∈ L) : mb ≠ f.bl := by
 intro e
 obtain ⟨es, clock, hb, _⟩ := h.map
 rw [e, h.cel f hf] at hb
 cases hb
theorem DiskAt.neDM (h : DiskAt w B d db mb cap us L) : db ≠ mb := by
 intro e
 obtain ⟨es, clock, hb, _⟩ := h.map
 rw [← e, h.row] at hb
 cases hb
theorem DiskAt.neV {k : Nat} (h : DiskAt w B d db mb cap us L) (hf : f ∈ L) (hk : f.v.ownBlock = some k) : k ≠ db ∧ k ≠ mb ∧ ∀ g ∈ L, k ≠ g.bl := by
 obtain ⟨cur, hc⟩ := (h.own f hf).tag hk
 refine ⟨fun e => ?_, fun e => ?_, fun g hg e => ?_⟩
 ·subst e; rw [h.row] at hc; cases hc
 ·subst e
  obtain ⟨es, clock, hb, _⟩ := h.map
  rw [hb] at hc; cases hc
 ·subst e; rw [h.cel g hg] at hc; cases hc
theorem DiskAt.look (h : DiskAt w B d db mb cap us L) {s : ByteArray} (hs : s.size ≤ maxLen) :
  (Instr.lookup 57 (.map (some mb)) (.string s) false).run Tryz.prog w = .ok (ptrOf ((fnd fk s.data.toList L).map (·.bl))) w := by
 obtain ⟨v, ps, hrun, hv⟩ := h.map.lookup nameK Tryz.underlying57 (zeroPtr w) (zd := .nil) (zp := []) rfl (nameOf hs)
 obtain ⟨o, rfl, e⟩ := pR_inv hv
 rw [dat_at] at e
 simp only [Prod.mk.injEq] at e
 rw [hrun, datOf_inj e.1]
end
structure Step (w w' : World) (B : Nat) (d : Value) (db mb cap : Nat) (L : List Fr) (us' : Nat) (L' : List Fr) : Prop where
 at_ : DiskAt w' B d db mb cap us' L'
 kp : Kp (fp db mb L) w w'
 sub : ∀ k ∈ fp db mb L', k ∈ fp db mb L ∨ w.heap.size ≤ k
section
variable {w w1 w' : World} {B : Nat} {d : Value} {db mb cap us us' us1 : Nat} {L L1 L' A C : List Fr} {f f' : Fr}
theorem Step.refl (h : DiskAt w B d db mb cap us L) : Step w w B d db mb cap L us L := ⟨h, Kp.refl _ _, fun _ hk => .inl hk⟩
theorem Step.bel (h : DiskAt w B d db mb cap us L) (hb : Below w.heap.size w w') : Step w w' B d db mb cap L us L := ⟨h.below hb, Kp.of_below hb _, fun _ hk => .inl hk⟩
theorem Step.trans (h : Step w w1 B d db mb cap L us1 L1) (k : Step w1 w' B d db mb cap L1 us' L') : Step w w' B d db mb cap L us' L' :=
 ⟨k.at_, h.kp.trans k.kp h.sub, fun x hx => by
  rcases k.sub x hx with h1 | h1
  ·exact h.sub x h1
  ·exact .inr (Nat.le_trans h.kp.size h1)⟩
theorem Step.thenB (h : Step w w1 B d db mb cap L us1 L1) (hb : Below w1.heap.size w1 w') : Step w w' B d db mb cap L us1 L1 := h.trans (Step.bel h.at_ hb)
theorem setCell_same {w : World} {b o : Nat} {cs : Array Value} {t : Nat} (u : Value) (h : w.heap[b]? = some (.cells cs t (0, 0))) : (w.setCell ⟨b, o, none⟩ u).heap[b]? = some (.cells (cs.setIfInBounds o u) t (0, 0)) := by
 simp only [World.setCell, Array.getElem?_modify, h]
 simp
theorem Step.used (h : DiskAt w B d db mb cap us L) (us' : Nat) : Step w (w.setCell ⟨db, 1, none⟩ (.int .i64 (us' : Int))) B d db mb cap L us' L := by
 have ot : ∀ k, k ≠ db → (w.setCell ⟨db, 1, none⟩ (.int .i64 (us' : Int))).heap[k]? = w.heap[k]? := fun k hk => Below.heap_setCell _ _ _ _ hk
 refine ⟨⟨h.hd, ?_, ?_, fun f hf => ?_, fun f hf => ?_, h.ap, h.srt, h.geb⟩, Kp.set _ (p := ⟨db, 1, none⟩) (mem_fp.2 (.inl rfl)) _, fun _ hk => .inl hk⟩
 ·rw [setCell_same _ h.row]; simp
 ·exact h.map.setCell h.neDM.symm _
 ·rw [ot _ (h.neDF hf).symm]; exact h.cel f hf
 ·exact (h.own f hf).same fun k hk => ot k (h.neV hf hk).1
theorem Step.file (h : DiskAt w B d db mb cap us (A ++ f :: C)) (hn : fk f' = fk f) (hb : f'.bl = f.bl) (hk : Kp (blks f) w w')
  (hc : w'.heap[f.bl]? = some (.cells #[f'.v, .int .i64 (f'.fl.s : Int)] 82 (0, 0))) (ho : Ow w' B 5 f'.v (f'.fl.l.map bv)) (hv : ∀ k, f'.v.ownBlock = some k → f.v.ownBlock = some k ∨ w.heap.size ≤ k) :
  Step w w' B d db mb cap (A ++ f :: C) us (A ++ f' :: C) := by
 have hf : f ∈ A ++ f :: C := by simp
 have bf : ∀ k, k ∈ blks f → k = f.bl ∨ f.v.ownBlock = some k := fun k hk => by unfold blks at hk; simpa [Option.mem_toList] using hk
 have mem : ∀ g, g ∈ A ++ f' :: C → g = f' ∨ (g ∈ A ++ f :: C ∧ fk g ≠ fk f) := fun g hg => by
  rw [List.mem_append, List.mem_cons] at hg
  have hp := List.pairwise_append.1 h.srt
  rcases hg with hg | rfl | hg
  ·exact .inr ⟨by simp [hg], fun e => by have := hp.2.2 g hg f (by simp); rw [e] at this; exact lt_irrefl _ this⟩
  ·exact .inl rfl
  ·exact .inr ⟨by simp [hg], fun e => by have := (List.pairwise_cons.1 hp.2.1).1 g hg; rw [e] at this; exact lt_irrefl _ this⟩
 have keep : ∀ k, k < w.heap.size → k ≠ f.bl → f.v.ownBlock ≠ some k → w'.heap[k]? = w.heap[k]? := fun k hl h1 h2 => hk.block k hl fun hm => by
  rcases bf k hm with e | e
  ·exact h1 e
  ·exact h2 e
 have hlt := h.lt
 refine ⟨⟨h.hd, ?_, ?_, fun g hg => ?_, fun g hg => ?_, fun g hg g' hg' hne => ?_, srt_mid h.srt hn, h.geb.1, h.geb.2.1, fun g hg => ?_⟩, ?_, fun k hm => ?_⟩
 ·rw [keep db (hlt _ (mem_fp.2 (.inl rfl))) (h.neDF hf) fun e => (h.neV hf e).1 rfl]
  exact h.row
 ·obtain ⟨es, clock, hbm, r1, r2, r3⟩ := h.map
  refine ⟨es, clock, ?_, r1, by simpa using r2, ?_⟩
  ·rw [keep mb (hlt _ (mem_fp.2 (.inr (.inl rfl)))) (h.neMF hf) fun e => (h.neV hf e).2.1 rfl]
   exact hbm
  ·rw [← r3]
   simp [dat, ent, hn, hb]
 ·rcases mem g hg with rfl | ⟨hg, hne⟩
  ·rw [hb]; exact hc
  ·have hap := h.ap g hg f hf hne
   rw [keep g.bl (hlt _ (mem_fp.2 (.inr (.inr ⟨g, hg, .inl rfl⟩)))) hap.1 fun e => (h.neV hf e).2.2 g hg rfl]
   exact h.cel g hg
 ·rcases mem g hg with rfl | ⟨hg, hne⟩
  ·exact ho
  ·have hap := h.ap g hg f hf hne
   exact (h.own g hg).same fun k hv => keep k (((h.own g hg).lt k hv).2) ((h.neV hg hv).2.2 f hf) (hap.2 k hv)
 ·have one : ∀ x, x ∈ A ++ f :: C → fk x ≠ fk f → x.bl ≠ f'.bl ∧ Apart x.v f'.v := fun x hx hxe => by
   have hap := h.ap x hx f hf hxe
   refine ⟨by rw [hb]; exact hap.1, fun k hxk he => ?_⟩
   rcases hv k he with h1 | h1
   ·exact hap.2 k hxk h1
   ·have := ((h.own x hx).lt k hxk).2
    omega
  rcases mem g hg with rfl | ⟨hg1, hg2⟩
  ·rcases mem g' hg' with rfl | ⟨hg1', hg2'⟩
   ·exact absurd rfl hne
   ·have := one g' hg1' hg2'
    exact ⟨this.1.symm, this.2.symm⟩
  ·rcases mem g' hg' with rfl | ⟨hg1', hg2'⟩
   ·exact one g hg1 hg2
   ·exact h.ap g hg1 g' hg1' hne
 ·rcases mem g hg with rfl | ⟨hg, _⟩
  ·rw [hb]; exact h.geb.2.2 f hf
  ·exact h.geb.2.2 g hg
 ·refine ⟨hk.os, hk.tape, hk.output, hk.size, fun k hl hn => hk.block k hl fun hm => hn ?_⟩
  rcases bf k hm with rfl | e
  ·exact mem_fp.2 (.inr (.inr ⟨f, hf, .inl rfl⟩))
  ·exact mem_fp.2 (.inr (.inr ⟨f, hf, .inr e⟩))
 ·rcases mem_fp.1 hm with rfl | rfl | ⟨g, hg, hq⟩
  ·exact .inl (mem_fp.2 (.inl rfl))
  ·exact .inl (mem_fp.2 (.inr (.inl rfl)))
  ·rcases mem g hg with e | ⟨hg2, _⟩
   ·rw [e] at hq
    rcases hq with hq | hq
    ·exact .inl (mem_fp.2 (.inr (.inr ⟨f, hf, .inl (hq.trans hb)⟩)))
    ·rcases hv k hq with h1 | h1
     ·exact .inl (mem_fp.2 (.inr (.inr ⟨f, hf, .inr h1⟩)))
     ·exact .inr h1
   ·exact .inl (mem_fp.2 (.inr (.inr ⟨g, hg2, hq⟩)))
theorem mem_bl (f : Fr) : f.bl ∈ blks f := by simp [blks]
theorem Step.synced (h : DiskAt w B d db mb cap us (A ++ f :: C)) (s' : Nat) :
  Step w (w.setCell ⟨f.bl, 1, none⟩ (.int .i64 (s' : Int))) B d db mb cap (A ++ f :: C) us (A ++ { f with fl := { f.fl with s := s' } } :: C) := by
 have hf : f ∈ A ++ f :: C := by simp
 refine Step.file h rfl rfl (Kp.set _ (mem_bl f) _) (by rw [setCell_same _ (h.cel f hf)]; simp) ?_ (fun k hk => .inl hk)
 exact (h.own f hf).same fun k hk => Below.heap_setCell _ _ _ _ ((h.neV hf hk).2.2 f hf)
theorem Step.bytes (h : DiskAt w B d db mb cap us (A ++ f :: C)) {v' : Value} {l' : List UInt8} (hk : Kp (blks f) w w1) (hc : w1.heap[f.bl]? = w.heap[f.bl]?) (ho : Ow w1 B 5 v' (l'.map bv)) (hv : ∀ k, v'.ownBlock = some k → f.v.ownBlock = some k ∨ w.heap.size ≤ k) :
  Step w (w1.setCell ⟨f.bl, 0, none⟩ v') B d db mb cap (A ++ f :: C) us (A ++ { f with v := v', fl := { f.fl with l := l' } } :: C) := by
 have hf : f ∈ A ++ f :: C := by simp
 have hc' := hc.trans (h.cel f hf)
 refine Step.file h rfl rfl (hk.trans (Kp.set _ (mem_bl f) _) fun _ hx => .inl hx) (by rw [setCell_same _ hc']; simp) ?_ hv
 exact ho.same fun k hk => Below.heap_setCell _ _ _ _ fun e => by
  obtain ⟨cur, ht⟩ := ho.tag hk
  rw [e] at ht
  rw [hc'] at ht
  cases ht
theorem Step.del (h : DiskAt w B d db mb cap us L) (n : List UInt8) {m : Nat} (hm : w'.ownsMap Tryz.prog 9 pR mb m ((dat L).del (.string n))) (hg : w.grownBy w' (some mb)) :
  Step w w' B d db mb cap L us (wo fk n L) := by
 have sub : ∀ g, g ∈ wo fk n L → g ∈ L := fun g hg => (mem_wo.1 hg).1
 have ot : ∀ k, k < w.heap.size → k ≠ mb → w'.heap[k]? = w.heap[k]? := fun k hl hk => hg.block k hl fun e => hk (by injection e)
 refine ⟨⟨h.hd, ?_, ?_, fun f hf => ?_, fun f hf => ?_, fun f hf g hg => h.ap f (sub f hf) g (sub g hg), srt_wo h.srt, h.geb.1, h.geb.2.1, fun f hf => h.geb.2.2 f (sub f hf)⟩, Kp.grown hg fun k e => ?_, fun k hk => .inl ?_⟩
 ·rw [ot db (h.lt db (mem_fp.2 (.inl rfl))) h.neDM]; exact h.row
 ·rw [dat_del] at hm
  have := ownsMap_tight hm
  rw [dat_size] at this
  exact this
 ·rw [ot f.bl (h.lt _ (mem_fp.2 (.inr (.inr ⟨f, sub f hf, .inl rfl⟩)))) (h.neMF (sub f hf)).symm]; exact h.cel f (sub f hf)
 ·exact (h.own f (sub f hf)).same fun k hk => ot k ((h.own f (sub f hf)).lt k hk).2 (h.neV (sub f hf) hk).2.1
 ·injection e with e; subst e; exact mem_fp.2 (.inr (.inl rfl))
 ·rcases mem_fp.1 hk with rfl | rfl | ⟨g, hg, hm⟩
  ·exact mem_fp.2 (.inl rfl)
  ·exact mem_fp.2 (.inr (.inl rfl))
  ·exact mem_fp.2 (.inr (.inr ⟨g, sub g hg, hm⟩))
theorem DiskAt.add (h : DiskAt w B d db mb cap us L) (f : Fr) (hc : w.heap[f.bl]? = some (.cells #[f.v, .int .i64 (f.fl.s : Int)] 82 (0, 0))) (ho : Ow w B 5 f.v (f.fl.l.map bv)) (hB : B ≤ f.bl)
  (hap : ∀ g ∈ L, fk g ≠ fk f → g.bl ≠ f.bl ∧ Apart g.v f.v) {m : Nat} (hm : w'.ownsMap Tryz.prog 9 pR mb m ((dat L).put (.string (fk f)) (.lit (.int .i64 f.bl)))) (hg : w.grownBy w' (some mb)) :
  DiskAt w' B d db mb cap us (put fk f L) := by
 have ot : ∀ k, k < w.heap.size → k ≠ mb → w'.heap[k]? = w.heap[k]? := fun k hl hk => hg.block k hl fun e => hk (by injection e)
 have fm : mb ≠ f.bl := fun e => by
  obtain ⟨es, clock, hb, _⟩ := h.map
  rw [e, hc] at hb
  cases hb
 refine ⟨h.hd, ?_, ?_, fun g hg => ?_, fun g hg => ?_, fun g hg g' hg' hne => ?_, srt_put h.srt, h.geb.1, h.geb.2.1, fun g hg => ?_⟩
 ·rw [ot db (h.lt db (mem_fp.2 (.inl rfl))) h.neDM]; exact h.row
 ·rw [dat_put] at hm
  have := ownsMap_tight hm
  rw [dat_size] at this
  exact this
 ·rcases mem_put.1 hg with rfl | ⟨hg, _⟩
  ·rw [ot g.bl (Array.getElem?_eq_some_iff.1 hc).1 fm.symm]; exact hc
  ·rw [ot g.bl (h.lt _ (mem_fp.2 (.inr (.inr ⟨g, hg, .inl rfl⟩)))) (h.neMF hg).symm]; exact h.cel g hg
 ·rcases mem_put.1 hg with rfl | ⟨hg, _⟩
  ·exact ho.same fun k hk => ot k (ho.lt k hk).2 fun e => by
    obtain ⟨cur, ht⟩ := ho.tag hk
    obtain ⟨es, clock, hb, _⟩ := h.map
    rw [e, hb] at ht
    cases ht
  ·exact (h.own g hg).same fun k hk => ot k ((h.own g hg).lt k hk).2 (h.neV hg hk).2.1
 ·rcases mem_put.1 hg with e | ⟨hg1, h1⟩
  ·rcases mem_put.1 hg' with e' | ⟨hg1', h2⟩
   ·exact absurd (by rw [e, e']) hne
   ·have := hap g' hg1' h2
    rw [e]
    exact ⟨this.1.symm, this.2.symm⟩
  ·rcases mem_put.1 hg' with e' | ⟨hg1', h2⟩
   ·rw [e']
    exact hap g hg1 h1
   ·exact h.ap g hg1 g' hg1' hne
 ·rcases mem_put.1 hg with rfl | ⟨hg, _⟩
  ·exact hB
  ·exact h.geb.2.2 g hg
theorem Step.new (h : DiskAt w B d db mb cap us L) (hB : B ≤ w.heap.size) (s : ByteArray) {m : Nat} (hm : w'.ownsMap Tryz.prog 9 pR mb m ((dat L).put (.string s.data.toList) (.lit (.int .i64 w.heap.size))))
  (hg : (w.alloc (.cells #[.slice none 0 0, .int .i64 0] 82)).grownBy w' (some mb)) : Step w w' B d db mb cap L us (put fk ⟨⟨s, [], 0⟩, w.heap.size, .slice none 0 0⟩ L) := by
 have hb := (Below.refl w.heap.size w).alloc (Nat.le_refl _) (.cells #[.slice none 0 0, .int .i64 0] 82)
 have h1 := h.below hb
 refine ⟨h1.add ⟨⟨s, [], 0⟩, w.heap.size, .slice none 0 0⟩ (heap_alloc_new _ _) (Ow.nil _ _ _) hB (fun g hg _ => ⟨?_, fun k _ hk => by cases hk⟩) hm hg,
  ⟨hg.os, hg.tape, hg.output, Nat.le_trans (by simp) hg.size, fun k hl hn => (hg.block k (by simp; omega) (fun e => hn (by injection e with e; subst e; exact mem_fp.2 (.inr (.inl rfl))))).trans (Below.heap_alloc _ _ _ hl)⟩, fun k hk => ?_⟩
 ·have := h.lt g.bl (mem_fp.2 (.inr (.inr ⟨g, hg, .inl rfl⟩)))
  show g.bl ≠ w.heap.size
  omega
 ·rcases mem_fp.1 hk with rfl | rfl | ⟨g, hg, hq⟩
  ·exact .inl (mem_fp.2 (.inl rfl))
  ·exact .inl (mem_fp.2 (.inr (.inl rfl)))
  ·rcases mem_put.1 hg with e | ⟨hg2, _⟩
   ·rw [e] at hq
    rcases hq with hq | hq
    ·exact .inr (Nat.le_of_eq hq.symm)
    ·cases hq
   ·exact .inl (mem_fp.2 (.inr (.inr ⟨g, hg2, hq⟩)))
end
end Go.Proofs.YtaddbhdkgneiaaaGreat
namespace Go.Proofs.YtaddbhdkgneiaaaGreat
open Go.RowKit Go.Maps Go.Sort Go.Shelf Dk
def named (s : ByteArray) : Bool := decide (0 < s.size) && decide (s.size ≤ 24)
theorem isName_any (s : ByteArray) (w : World) : Calls Tryz.prog 46 #[.string s] w fun e w' => e = .returned (.bool (named s)) ∧ w = w' := by
 by_cases h : 1 ≤ s.size
 ·have h1 : (1 : Int) ≤ s.size := by omega
  go_enter Tryz.func46, Tryz.ntmps46
  go_wp2
  go_ret
  refine ⟨ret1 (vb ?_), rfl⟩
  unfold named
  rw [Bool.eq_iff_iff]
  simp
  omega
 ·have h0 : s.size = 0 := by omega
  have h1 : ¬ (1 : Int) ≤ s.size := by omega
  go_enter Tryz.func46, Tryz.ntmps46
  go_wp2
  go_ret
  refine ⟨ret1 (vb ?_), rfl⟩
  unfold named
  simp [h0]
theorem keys_sorted {L : List Fr} (h : Srt fk L) {ss : List (List UInt8)} (hp : ss.Perm (strKeys (dat L))) : (ss.mergeSort fun x y => decide (x ≤ y)) = L.map fk := by
 rw [dat_keys] at hp
 have h1 := mergeSort_of_perm hp
 have h2 : (L.map fk).mergeSort leB = L.map fk := List.mergeSort_of_pairwise (List.pairwise_map.2 (List.Pairwise.imp (fun {a b} hab => decide_eq_true (List.le_of_lt hab)) h))
 exact h1.trans h2
theorem names_any {w : World} {B : Nat} {d : Value} {db mb cap us : Nat} {L : List Fr} (h : DiskAt w B d db mb cap us L) (hL : L.length ≤ 1000000000) :
  Calls Tryz.prog 24 #[d] w fun e w' => (∃ v, e = .returned v ∧ Ow w' w.heap.size 9 v ((L.map fun f => f.fl.nm).map sv)) ∧ Below w.heap.size w w' := by
 obtain rfl := h.hd
 have c2 := h.c2
 have hmax : Maps.size (dat L) ≤ maxLen := by rw [dat_size]; unfold maxLen; omega
 have hbytes : Maps.size (dat L) * 16 ≤ 140737488355328 := by rw [dat_size]; omega
 have hown := h.map
 have HS := Lib.hid h.srt
 clear h
 refine (callsIn_wide (n := 6)).1 ?_
 have hfK : Fence.wide.fn 49 := trivial
 have hfS : Fence.wide.fn 48 := trivial
 refine callsIn_of_wp Tryz.func24 rfl trivial ?_ rfl
 simp only [Tryz.ntmps24, List.size_toArray, List.length_cons, List.length_nil, Nat.reduceAdd, Nat.reduceSub, Array.replicate_succ, Array.replicate_zero, List.push_toArray, List.append_toArray, List.nil_append, List.cons_append]
 gi_wp2_with (first
  | (gi_at_call 49; refine (Tryz.maps_Keys_49 _ _).mono ?_; rintro e w' ⟨rfl, rfl⟩)
  | (gi_at_call 48; refine (Tryz.slices_Sorted_keys_48_49 mb L.length (dat L) pR w hown hmax hbytes).mono ?_; rintro e w' ⟨v, ss, rfl, hS, hrow, hnil, hb⟩))
 go_ret
 have hrow2 := ownsRow_base_a hrow (show w.heap.size ≤ _ by simp)
 have hks := keys_sorted HS.out hS
 rw [hks] at hrow2
 have e1 : (L.map fk).map Go.Proofs.encStr = (L.map fun f => f.fl.nm).map sv := by
  rw [List.map_map, List.map_map]
  rfl
 have hlen : ss.length = ((L.map fun f => f.fl.nm).map sv).length := by
  have := hS.length_eq
  rw [dat_keys] at this
  simpa using this
 rw [e1, hlen] at hrow2
 exact ⟨⟨v, rfl, hrow2⟩, ((Below.refl _ w).alloc (Nat.le_refl _) _).trans (hb.mono (by simp))⟩
theorem read_no {w : World} {B : Nat} {d : Value} {db mb cap us : Nat} {L : List Fr} (h : DiskAt w B d db mb cap us L) (s : ByteArray) (hs : s.size ≤ 1000000000) (hf : fnd fk s.data.toList L = none) :
  Calls Tryz.prog 17 #[d, .string s] w fun e w' => e = .returned (.tuple #[.slice none 0 0, .int .i64 5]) ∧ w = w' := by
 obtain rfl := h.hd
 have c2 := h.c2
 have hl := h.look (s := s) (by unfold maxLen; omega)
 rw [hf] at hl
 simp only [Option.map_none, ptrOf] at hl
 clear h hf
 go_enter Tryz.func17, Tryz.ntmps17
 go_wp2
 go_ret2
 exact ⟨rfl, rfl⟩
theorem read_ok {w : World} {B : Nat} {d : Value} {db mb cap us : Nat} {L : List Fr} {f : Fr} (h : DiskAt w B d db mb cap us L) (s : ByteArray) (hs : s.size ≤ 1000000000) (hf : f ∈ L) (hff : fnd fk s.data.toList L = some f) (hz : f.fl.l.length ≤ 1000000000) :
  Calls Tryz.prog 17 #[d, .string s] w fun e w' => (∃ v, e = .returned (.tuple #[v, .int .i64 0]) ∧ Ow w' w.heap.size 5 v (f.fl.l.map bv)) ∧ Below w.heap.size w w' := by
 obtain rfl := h.hd
 have c2 := h.c2
 have hl := h.look (s := s) (by unfold maxLen; omega)
 rw [hff] at hl
 simp only [Option.map_some, ptrOf] at hl
 have g0 := h.g0 hf
 have hr := (h.own f hf).rd
 clear h hff
 obtain ⟨A, c, e, hc, hm⟩ := hr.shapeM
 rw [e] at g0 hr
 go_enter Tryz.func17, Tryz.ntmps17
 go_wp2_with fail
 refine (bclone_any _ _ _ _ hr (Nat.le_refl _) (by omega)).mono ?_
 rintro e w1 ⟨v, rfl, ho, hb⟩
 go_wp2_with fail
 go_ret2
 exact ⟨⟨v, rfl, ho⟩, hb⟩
end Go.Proofs.YtaddbhdkgneiaaaGreat
namespace Go.Proofs.YtaddbhdkgneiaaaGreat
open Go.RowKit Go.Maps Dk
def capN (c : Int) : Nat := (min (max c 0) 65536).toNat
theorem qMap (w : World) (r : Option Nat) : (binOp .eql 57 (.map r) (.map none)).run Tryz.prog w = .ok (.bool r.isNone) w := run_eql_map_nil w _ _ _ r Tryz.underlying57
theorem dnew_any (c : Int) (w : World) (h1 : -9223372036854775808 ≤ c) (h2 : c ≤ 9223372036854775807) :
  Calls Tryz.prog 8 #[.int .i64 c] w fun e w' => ∃ db mb, e = .returned (.pointer (some ⟨db, 0, none⟩)) ∧ DiskAt w' w.heap.size (.pointer (some ⟨db, 0, none⟩)) db mb (capN c) 0 [] ∧ Below w.heap.size w w' := by
 have hmm := @run_makeMap Tryz.prog
 go_enter Tryz.func8, Tryz.ntmps8
 go_wp2
 go_ret
 have e : ((capN c : Nat) : Int) = min (max c 0) 65536 := by unfold capN; omega
 rw [← e]
 refine ⟨w.heap.size + 1, w.heap.size, rfl, ⟨rfl, ?_, ?_, by simp, by simp, by simp, List.Pairwise.nil, by omega, by omega, by simp⟩, ((Below.refl _ w).alloc (Nat.le_refl _) _).alloc (by simp) _⟩
 ·have := heap_alloc_new (w.alloc (Obj.map #[] 0)) (Obj.cells #[.int .i64 ((capN c : Nat) : Int), .int .i64 0, .map (some w.heap.size)] 59)
  simpa using this
 ·exact (World.ownsMap_made w Tryz.prog 9 pR).alloc _
theorem open_ok {w : World} {B : Nat} {d : Value} {db mb cap us : Nat} {L : List Fr} {f : Fr} (h : DiskAt w B d db mb cap us L) (s : ByteArray) (hs : s.size ≤ 1000000000) (hff : fnd fk s.data.toList L = some f) :
  Calls Tryz.prog 47 #[d, .string s] w fun e w' => e = .returned (.pointer (some ⟨f.bl, 0, none⟩)) ∧ w = w' := by
 obtain rfl := h.hd
 have c2 := h.c2
 have hl := h.look (s := s) (by unfold maxLen; omega)
 rw [hff] at hl
 simp only [Option.map_some, ptrOf] at hl
 have q := qMap
 clear h hff
 go_enter Tryz.func47, Tryz.ntmps47
 go_wp2
 go_ret
 exact ⟨rfl, rfl⟩
theorem look_put {L : List Fr} (h : Srt fk L) {s : ByteArray} {l : List UInt8} {n bl : Nat} {v : Value} : ptrOf ((fnd fk s.data.toList (put fk ⟨⟨s, l, n⟩, bl, v⟩ L)).map (·.bl)) = .pointer (some ⟨bl, 0, none⟩) := by
 have := fnd_put h (⟨⟨s, l, n⟩, bl, v⟩ : Fr)
 rw [show fk (⟨⟨s, l, n⟩, bl, v⟩ : Fr) = s.data.toList from rfl] at this
 rw [this]
 rfl
theorem open_new {w : World} {B : Nat} {d : Value} {db mb cap us : Nat} {L : List Fr} (h : DiskAt w B d db mb cap us L) (hL : L.length ≤ 1000000000) (hB : B ≤ w.heap.size) (s : ByteArray) (hs : s.size ≤ 1000000000) (hff : fnd fk s.data.toList L = none) :
  Calls Tryz.prog 47 #[d, .string s] w fun e w' => ∃ bl, e = .returned (.pointer (some ⟨bl, 0, none⟩)) ∧ Step w w' B d db mb cap L us (put fk ⟨⟨s, [], 0⟩, bl, .slice none 0 0⟩ L) := by
 obtain rfl := h.hd
 have c2 := h.c2
 have hl := h.look (s := s) (by unfold maxLen; omega)
 rw [hff] at hl
 simp only [Option.map_none, ptrOf] at hl
 have q := qMap
 have hn : L.length < maxLen := by unfold maxLen; omega
 have hkey := nameOf (s := s) (by unfold maxLen; omega)
 have HA := Lib.hid h
 have hown := h.map.alloc (.cells #[.slice none 0 0, .int .i64 0] 82)
 clear h
 go_enter Tryz.func47, Tryz.ntmps47
 go_wp2_with (first
  | (at_mapUpdate; refine wpList_mapUpdate_own _ rfl _ _ _ 57 rfl 9 80 nameK Tryz.underlying57 pR mb L.length (dat L) rfl hown hn _ _ _ rfl rfl hkey (.lit (.int .i64 w.heap.size)) [] (pR_mk (some w.heap.size)) ?_; intro w1 hown1 hgrow1; have st1 := Step.new HA.out hB s hown1 hgrow1; have c2 := st1.at_.c2; have hl := st1.at_.look (s := s) (by unfold maxLen; omega); rw [look_put HA.out.srt] at hl; have HT := Lib.hid st1; clear st1 hown1 hgrow1)
  | go_in)
 go_ret
 exact ⟨_, rfl, HT.out⟩
theorem cut_any {w : World} {B : Nat} {d : Value} {db mb cap us : Nat} {A C : List Fr} {f : Fr} (h : DiskAt w B d db mb cap us (A ++ f :: C)) (hB : B ≤ w.heap.size) (n : Nat) (hn : n ≤ f.fl.l.length) (hu : f.fl.l.length ≤ us) (hus : us ≤ 1000000000) :
  Calls Tryz.prog 40 #[d, .pointer (some ⟨f.bl, 0, none⟩), .int .i64 (n : Int)] w fun e w' => e = .returned (.tuple #[]) ∧ ∃ v', Step w w' B d db mb cap (A ++ f :: C) (us - (f.fl.l.length - n)) (A ++ { f with v := v', fl := { f.fl with l := f.fl.l.take n, s := min f.fl.s n } } :: C) := by
 obtain rfl := h.hd
 have hf : f ∈ A ++ f :: C := by simp
 have c1 := h.c1
 have z1 := h.z1
 have g0 := h.g0 hf
 have hr := (h.own f hf).rd
 have HA := Lib.hid h
 obtain ⟨Av, c, e, hc, hm⟩ := hr.shapeM
 have hm' : c ≤ 9223372036854775807 := hm
 rw [e] at g0 hr
 clear h
 go_enter Tryz.func40, Tryz.ntmps40
 go_wp2_with fail
 go_region
 have hcast : (us : Int) - ((f.fl.l.length : Int) - (n : Int)) = ((us - (f.fl.l.length - n) : Nat) : Int) := by omega
 rw [hcast]
 have st1 := (Step.used HA.out (us - (f.fl.l.length - n))).thenB ((Below.refl _ _).drew)
 clear hcast
 generalize (w.setCell ⟨db, 1, none⟩ (.int .i64 ((us - (f.fl.l.length - n) : Nat) : Int))).drew = w1 at *
 have h1 := st1.at_
 have g0 := h1.g0 hf
 have hr1 := (h1.own f hf).rd
 rw [e] at g0 hr1
 have hct := hr1.cutTo hn
 rw [← List.map_take] at hct
 have ST := Lib.hid st1
 have hlt := h1.lt f.bl (mem_fp.2 (.inr (.inr ⟨f, hf, .inl rfl⟩)))
 clear h1 hr1 st1 c1 z1 hr
 go_wp2_with fail
 refine (bclone_any _ _ _ _ hct (Nat.le_refl _) (by simp; omega)).mono ?_
 rintro e w2 ⟨v, rfl, ho, hb⟩
 obtain ⟨A2, c2, ev, hc2, hm2⟩ := ho.rd.shapeM
 rw [List.length_take, Nat.min_eq_left hn] at ev
 subst ev
 have h2 := ST.out.at_.below hb
 have y0 := h2.y0 hf
 have y1 := h2.y1 hf
 have g0 := h2.g0 hf
 have g1 := h2.g1 hf
 have st2 := Step.bytes (w1 := w2) ST.out.at_ (Kp.of_below hb _) (hb.block _ hlt) (ho.mono (Nat.le_trans hB ST.out.kp.size)) (fun k hk => .inr (ho.ge k hk))
 have HS := Lib.hid st2
 clear h2 st2
 go_wp2_with fail
 go_end0
 have hmin : min (f.fl.s : Int) (n : Int) = ((min f.fl.s n : Nat) : Int) := by omega
 rw [hmin]
 exact ⟨rfl, _, (ST.out.trans HS.out).trans (Step.synced HS.out.at_ (min f.fl.s n))⟩
end Go.Proofs.YtaddbhdkgneiaaaGreat
namespace Go.Proofs.YtaddbhdkgneiaaaGreat
open Go.RowKit Go.Maps Dk
theorem sync_no {w : World} {B : Nat} {d : Value} {db mb cap us : Nat} {L : List Fr} (h : DiskAt w B d db mb cap us L) (s : ByteArray) (hs : s.size ≤ 1000000000) (hf : fnd fk s.data.toList L = none) :
  Calls Tryz.prog 28 #[d, .string s] w fun e w' => e = .returned (.int .i64 5) ∧ w = w' := by
 obtain rfl := h.hd
 have c2 := h.c2
 have hl := h.look (s := s) (by unfold maxLen; omega)
 rw [hf] at hl
 simp only [Option.map_none, ptrOf] at hl
 clear h hf
 go_enter Tryz.func28, Tryz.ntmps28
 go_wp2
 go_ret
 exact ⟨rfl, rfl⟩
theorem sync_ok {w : World} {B : Nat} {d : Value} {db mb cap us : Nat} {A C : List Fr} {f : Fr} (h : DiskAt w B d db mb cap us (A ++ f :: C)) (s : ByteArray) (hs : s.size ≤ 1000000000) (hff : fnd fk s.data.toList (A ++ f :: C) = some f) :
  Calls Tryz.prog 28 #[d, .string s] w fun e w' => e = .returned (.int .i64 0) ∧ Step w w' B d db mb cap (A ++ f :: C) us (A ++ { f with fl := { f.fl with s := f.fl.l.length } } :: C) := by
 obtain rfl := h.hd
 have hf : f ∈ A ++ f :: C := by simp
 have c2 := h.c2
 have hl := h.look (s := s) (by unfold maxLen; omega)
 rw [hff] at hl
 simp only [Option.map_some, ptrOf] at hl
 have g0 := h.g0 hf
 have g1 := h.g1 hf
 have y1 := h.y1 hf
 obtain ⟨Av, c, e, hc, hm⟩ := (h.own f hf).rd.shapeM
 rw [e] at g0
 have HS := Lib.hid (Step.synced h f.fl.l.length)
 clear h hff e
 go_enter Tryz.func28, Tryz.ntmps28
 go_wp2
 go_ret
 exact ⟨rfl, HS.out⟩
def opF (s : ByteArray) (M : List Fl) : Fl := (fnd key s.data.toList M).getD ⟨s, [], 0⟩
def opL (s : ByteArray) (M : List Fl) : List Fl := if (fnd key s.data.toList M).isSome then M else put key ⟨s, [], 0⟩ M
theorem fl_fnd (n : List UInt8) (L : List Fr) : fnd key n (L.map Fr.fl) = (fnd fk n L).map Fr.fl := fnd_map (k := fk) (k' := key) (g := Fr.fl) (fun _ => rfl) n L
theorem fl_put (f : Fr) (L : List Fr) : (put fk f L).map Fr.fl = put key f.fl (L.map Fr.fl) := map_put (k := fk) (k' := key) (g := Fr.fl) (fun _ => rfl) f L
theorem fl_wo (n : List UInt8) (L : List Fr) : (wo fk n L).map Fr.fl = wo key n (L.map Fr.fl) := map_wo (k := fk) (k' := key) (g := Fr.fl) (fun _ => rfl) n L
theorem fl_mid {A C : List Fr} {f f' : Fr} (h : Srt fk (A ++ f :: C)) (e : fk f' = fk f) : (A ++ f' :: C).map Fr.fl = put key f'.fl ((A ++ f :: C).map Fr.fl) := by rw [← fl_put, put_mid h e]
theorem open_any {w : World} {B : Nat} {d : Value} {db mb cap us : Nat} {L : List Fr} (h : DiskAt w B d db mb cap us L) (hL : L.length ≤ 1000000000) (hB : B ≤ w.heap.size) (s : ByteArray) (hs : s.size ≤ 1000000000) :
  Calls Tryz.prog 47 #[d, .string s] w fun e w' => ∃ A f C, e = .returned (.pointer (some ⟨f.bl, 0, none⟩)) ∧ Step w w' B d db mb cap L us (A ++ f :: C) ∧ f.fl = opF s (L.map Fr.fl) ∧ (A ++ f :: C).map Fr.fl = opL s (L.map Fr.fl) := by
 rcases fnd_cases fk s.data.toList L with h0 | ⟨A, f, C, rfl, h1, h2⟩
 ·refine (open_new h hL hB s hs h0).mono ?_
  rintro e w' ⟨bl, rfl, st⟩
  obtain ⟨A, C, e⟩ := List.append_of_mem (mem_put.2 (.inl rfl) : (⟨⟨s, [], 0⟩, bl, .slice none 0 0⟩ : Fr) ∈ put fk ⟨⟨s, [], 0⟩, bl, .slice none 0 0⟩ L)
  refine ⟨A, _, C, rfl, e ▸ st, ?_, ?_⟩
  ·unfold opF; rw [fl_fnd, h0]; rfl
  ·unfold opL; rw [← e, fl_put, fl_fnd, h0]; rfl
 ·refine (open_ok h s hs h2).mono ?_
  rintro e w' ⟨rfl, rfl⟩
  refine ⟨A, f, C, rfl, Step.refl h, ?_, ?_⟩
  ·unfold opF; rw [fl_fnd, h2]; rfl
  ·unfold opL; rw [fl_fnd, h2]; rfl
theorem append_full {w : World} {B : Nat} {d x : Value} {db mb cap us : Nat} {L : List Fr} (h : DiskAt w B d db mb cap us L) (s : ByteArray) (hs : named s = true) (l : List UInt8) (hx : Rd w w.heap.size x (l.map bv)) (hl : l.length ≤ 1000000000) (hu : us ≤ cap) (hfull : cap < us + l.length) :
  Calls Tryz.prog 23 #[d, .string s, x] w fun e w' => e = .returned (.int .i64 4) ∧ Below w.heap.size w w' := by
 obtain rfl := h.hd
 have c0 := h.c0
 have c1 := h.c1
 obtain ⟨Ax, cx, rfl, hcx, hmx⟩ := hx.shapeM
 clear h
 go_enter Tryz.func23, Tryz.ntmps23
 go_wp2_with fail
 refine (isName_any s w).mono ?_
 rintro e w1 ⟨rfl, rfl⟩
 rw [hs]
 have hgt : ((cap : Int) - (us : Int) < (l.length : Int)) := by omega
 go_wp2_with fail
 go_quiet (fail)
 go_wp2_with fail
 go_ret
 exact ⟨rfl, bwN _⟩
theorem app_facts {w0 w w3 : World} {B : Nat} {d v v' : Value} {db mb cap us : Nat} {L A C : List Fr} {f : Fr} {l' : List UInt8} (st : Step w0 w B d db mb cap L us (A ++ f :: C)) (ev : f.v = v) (ho : Ow w3 B 5 v' (l'.map bv)) (hg : w.grownBy w3 v.ownBlock) (h3 : v'.ownBlock = v.ownBlock ∨ v'.ownBlock = some w.heap.size) :
  Step w (w3.setCell ⟨f.bl, 0, none⟩ v') B d db mb cap (A ++ f :: C) us (A ++ { f with v := v', fl := { f.fl with l := l' } } :: C) ∧ w3.frozen? ⟨f.bl, 0, none⟩ = false ∧ w3.cell? ⟨db, 1, none⟩ = some (.int .i64 (us : Int)) ∧ w3.frozen? ⟨db, 1, none⟩ = false ∧ w3.cell? ⟨f.bl, 0, none⟩ = some v := by
 have h := st.at_
 subst ev
 have hf : f ∈ A ++ f :: C := by simp
 have hlt1 := h.lt db (mem_fp.2 (.inl rfl))
 have hlt2 := h.lt f.bl (mem_fp.2 (.inr (.inr ⟨f, hf, .inl rfl⟩)))
 have k1 : w3.heap[db]? = w.heap[db]? := hg.block db hlt1 fun e => (h.neV hf e.symm).1 rfl
 have k2 : w3.heap[f.bl]? = w.heap[f.bl]? := hg.block f.bl hlt2 fun e => (h.neV hf e.symm).2.2 f hf rfl
 refine ⟨Step.bytes h (Kp.grown hg fun k e => by unfold blks; simp [e]) k2 ho (fun k hk => ?_), ?_, ?_, ?_, ?_⟩
 ·rcases h3 with e | e
  ·exact .inl (by rw [← e]; exact hk)
  ·rw [e] at hk; injection hk with hk; exact .inr (Nat.le_of_eq hk)
 ·exact (World.frozen?_of_block (w := w) (a := ⟨f.bl, 0, none⟩) k2).trans (h.y0 hf)
 ·exact (World.cell?_of_block (w := w) (a := ⟨db, 1, none⟩) k1).trans h.c1
 ·exact (World.frozen?_of_block (w := w) (a := ⟨db, 1, none⟩) k1).trans h.z1
 ·exact (World.cell?_of_block (w := w) (a := ⟨f.bl, 0, none⟩) k2).trans (h.g0 hf)
theorem append_ok {w : World} {B : Nat} {d x : Value} {db mb cap us : Nat} {L : List Fr} (h : DiskAt w B d db mb cap us L) (hL : L.length ≤ 1000000000) (hB : B ≤ w.heap.size) (s : ByteArray) (hs : named s = true) (hs2 : s.size ≤ 1000000000) (l : List UInt8) (hx : RdS w (fp db mb L) x l) (hcap : cap ≤ 65536) (hu : us + l.length ≤ cap)
  (hz : (opF s (L.map Fr.fl)).l.length ≤ 1000000000) :
  Calls Tryz.prog 23 #[d, .string s, x] w fun e w' => e = .returned (.int .i64 0) ∧ ∃ L', Step w w' B d db mb cap L (us + l.length) L' ∧ L'.map Fr.fl = put key { opF s (L.map Fr.fl) with l := (opF s (L.map Fr.fl)).l ++ l } (opL s (L.map Fr.fl)) := by
 obtain rfl := h.hd
 have c0 := h.c0
 have c1 := h.c1
 obtain ⟨Ax, cx, rfl, hcx, hmx⟩ := hx.1.shapeM
 have HX := Lib.hid hx
 have H := Lib.hid h
 clear h hx
 go_enter Tryz.func23, Tryz.ntmps23
 go_wp2_with fail
 refine (isName_any s w).mono ?_
 rintro e w1 ⟨rfl, rfl⟩
 rw [hs]
 have hgt : ¬ ((cap : Int) - (us : Int) < (l.length : Int)) := by omega
 go_wp2_with fail
 go_quiet (fail)
 have st0 := Step.bel H.out (bwN (w := w) nq)
 have hx0 := HX.out.up st0.kp st0.sub
 have hB0 := Nat.le_trans hB st0.kp.size
 have ST := Lib.hid st0
 go_wp2_with fail
 refine (open_any ST.out.at_ hL hB0 s hs2).mono ?_
 rintro e w2 ⟨A, f, C, rfl, st2, hfl, hfL⟩
 have hx2 := hx0.up st2.kp st2.sub
 have hB2 := Nat.le_trans hB0 st2.kp.size
 have ST2 := Lib.hid (ST.out.trans st2)
 clear hx0 st0 st2 hB0 c0 c1 ST
 generalize w.drewN nq = w1 at *
 have hf : f ∈ A ++ f :: C := by simp
 have h2 := ST2.out.at_
 rw [← hfl] at hz
 have c1 := h2.c1
 have z1 := h2.z1
 have g0 := h2.g0 hf
 have y0 := h2.y0 hf
 have ho := h2.own f hf
 have hne := h2.neDF hf
 have hlt1 := h2.lt db (mem_fp.2 (.inl rfl))
 have hlt2 := h2.lt f.bl (mem_fp.2 (.inr (.inr ⟨f, hf, .inl rfl⟩)))
 have hV := Lib.hid (fun k hk => h2.neV (k := k) hf hk)
 obtain ⟨Av, cv, ev, hcv, hmv⟩ := ho.rd.shapeM
 rw [ev] at g0 ho
 have EV := Lib.hid ev
 have FL := Lib.hid hfl
 have FM := Lib.hid hfL
 clear h2 ev hfl hfL
 have hap : f.fl.l.length + l.length ≤ 140737488355328 := by omega
 have hx2 := hx2.1
 go_wp2_with (at_builtin; refine wpList_appB bytesT rfl (.tmp 30) (.tmp 31) rfl rfl ho rfl hx2 hap hB2 ?_; intro v' w3 ho3 hg3 h3; obtain ⟨A3, c3, ev3, hc3, hm3⟩ := ho3.rd.shapeM; rw [List.length_append] at ev3; subst ev3; have FT := Lib.hid (app_facts ST2.out EV.out ho3 hg3 h3); have y0 := FT.out.2.1; have c1 := FT.out.2.2.1; have z1 := FT.out.2.2.2.1; have g0 := FT.out.2.2.2.2; clear ho3 hg3 h3 ho hx2)
 go_ret
 have hcast : (us : Int) + (l.length : Int) = ((us + l.length : Nat) : Int) := by omega
 rw [hcast]
 refine ⟨rfl, _, (ST2.out.trans FT.out.1).trans (Step.used FT.out.1.at_ (us + l.length)), ?_⟩
 refine (fl_mid (f := f) (f' := ⟨{ f.fl with l := f.fl.l ++ l }, f.bl, .slice A3 (f.fl.l.length + l.length) c3⟩) ST2.out.at_.srt rfl).trans ?_
 rw [FM.out, ← FL.out]
theorem delete_no {w : World} {B : Nat} {d : Value} {db mb cap us : Nat} {L : List Fr} (h : DiskAt w B d db mb cap us L) (s : ByteArray) (hs : s.size ≤ 1000000000) (hf : fnd fk s.data.toList L = none) :
  Calls Tryz.prog 61 #[d, .string s] w fun e w' => e = .returned (.int .i64 5) ∧ w = w' := by
 obtain rfl := h.hd
 have c2 := h.c2
 have hl := h.look (s := s) (by unfold maxLen; omega)
 rw [hf] at hl
 simp only [Option.map_none, ptrOf] at hl
 clear h hf
 go_enter Tryz.func61, Tryz.ntmps61
 go_wp2
 go_ret
 exact ⟨rfl, rfl⟩
theorem delete_ok {w : World} {B : Nat} {d : Value} {db mb cap us : Nat} {A C : List Fr} {f : Fr} (h : DiskAt w B d db mb cap us (A ++ f :: C)) (hB : B ≤ w.heap.size) (s : ByteArray) (hs : s.size ≤ 1000000000) (hff : fnd fk s.data.toList (A ++ f :: C) = some f) (hk : fk f = s.data.toList) (hu : f.fl.l.length ≤ us) (hus : us ≤ 1000000000) :
  Calls Tryz.prog 61 #[d, .string s] w fun e w' => e = .returned (.int .i64 0) ∧ Step w w' B d db mb cap (A ++ f :: C) (us - f.fl.l.length) (A ++ C) := by
 obtain rfl := h.hd
 have c2 := h.c2
 have hl := h.look (s := s) (by unfold maxLen; omega)
 rw [hff] at hl
 simp only [Option.map_some, ptrOf] at hl
 have hkey := nameOf (s := s) (by unfold maxLen; omega)
 have hct := cut_any h hB 0 (Nat.zero_le _) hu hus
 have HK := Lib.hid hk
 clear h hff hk
 go_enter Tryz.func61, Tryz.ntmps61
 go_wp2_with fail
 refine hct.mono ?_
 rintro e w1 ⟨rfl, v, st⟩
 have ST := Lib.hid st
 have c2 := st.at_.c2
 have hown := st.at_.map
 clear st hct
 go_wp2_with (at_delete; refine wpList_delete_own _ rfl _ _ 57 9 rfl 80 nameK Tryz.underlying57 pR mb _ _ rfl hown _ _ rfl hkey ?_; intro w2 hown2 hturn; have HD := Lib.hid (Step.del ST.out.at_ s.data.toList hown2 hturn.grown); clear hown2 hturn)
 go_ret
 have st := ST.out.trans HD.out
 have e1 : wo fk s.data.toList (A ++ { f with v := v, fl := { f.fl with l := f.fl.l.take 0, s := min f.fl.s 0 } } :: C) = A ++ C := by
  have := wo_mid ST.out.at_.srt
  rw [show fk ({ f with v := v, fl := { f.fl with l := f.fl.l.take 0, s := min f.fl.s 0 } } : Fr) = s.data.toList from HK.out] at this
  exact this
 rw [e1, Nat.sub_zero] at st
 exact ⟨rfl, st⟩
theorem trim_no {w : World} {B : Nat} {d : Value} {db mb cap us : Nat} {L : List Fr} (h : DiskAt w B d db mb cap us L) (s : ByteArray) (n : Int) (hs : s.size ≤ 1000000000) (hf : fnd fk s.data.toList L = none) :
  Calls Tryz.prog 27 #[d, .string s, .int .i64 n] w fun e w' => e = .returned (.int .i64 5) ∧ w = w' := by
 obtain rfl := h.hd
 have c2 := h.c2
 have hl := h.look (s := s) (by unfold maxLen; omega)
 rw [hf] at hl
 simp only [Option.map_none, ptrOf] at hl
 clear h hf
 go_enter Tryz.func27, Tryz.ntmps27
 go_wp2
 go_ret
 exact ⟨rfl, rfl⟩
theorem trim_ok {w : World} {B : Nat} {d : Value} {db mb cap us : Nat} {A C : List Fr} {f : Fr} (h : DiskAt w B d db mb cap us (A ++ f :: C)) (hB : B ≤ w.heap.size) (s : ByteArray) (n : Nat) (hs : s.size ≤ 1000000000) (hff : fnd fk s.data.toList (A ++ f :: C) = some f) (hn : n ≤ f.fl.l.length) (hu : f.fl.l.length ≤ us) (hus : us ≤ 1000000000) :
  Calls Tryz.prog 27 #[d, .string s, .int .i64 (n : Int)] w fun e w' => e = .returned (.int .i64 0) ∧ ∃ v', Step w w' B d db mb cap (A ++ f :: C) (us - (f.fl.l.length - n)) (A ++ { f with v := v', fl := { f.fl with l := f.fl.l.take n, s := min f.fl.s n } } :: C) := by
 obtain rfl := h.hd
 have hf : f ∈ A ++ f :: C := by simp
 have c2 := h.c2
 have hl := h.look (s := s) (by unfold maxLen; omega)
 rw [hff] at hl
 simp only [Option.map_some, ptrOf] at hl
 have g0 := h.g0 hf
 obtain ⟨Av, c, e, hc, hm⟩ := (h.own f hf).rd.shapeM
 rw [e] at g0
 have hct := Lib.hid (cut_any h hB n hn hu hus)
 clear h hff e
 have h0 : ¬ (n : Int) < 0 := by omega
 have h1 : ¬ ((f.fl.l.length : Int) < (n : Int)) := by omega
 go_enter Tryz.func27, Tryz.ntmps27
 go_wp2_with fail
 refine hct.out.mono ?_
 rintro e w1 ⟨rfl, v, st⟩
 have ST := Lib.hid st
 clear st hct
 go_wp2_with fail
 go_ret
 exact ⟨rfl, v, ST.out⟩
end Go.Proofs.YtaddbhdkgneiaaaGreat
namespace Go.Proofs.YtaddbhdkgneiaaaGreat
open Go.RowKit Go.Maps Dk
theorem distance_any (n : Int) (w : World) (h1 : -9223372036854775808 ≤ n) (h2 : n ≤ 9223372036854775807) :
  Calls Tryz.prog 39 #[.int .i64 n] w fun e w' => e = .returned (.int .u64 (n.natAbs : Int)) ∧ w = w' := by
 by_cases h : n < 0
 ·go_enter Tryz.func39, Tryz.ntmps39
  go_wp2
  go_ret
  refine ⟨ret1 (vi ?_), rfl⟩
  rw [IntKind.wrap_u64, IntKind.wrap_u64]
  omega
 ·go_enter Tryz.func39, Tryz.ntmps39
  go_wp2
  go_ret
  exact ⟨ret1 (vi (by omega)), rfl⟩
theorem total_wo (A C : List Fr) (f : Fr) : total ((A ++ f :: C).map Fr.fl) - f.fl.l.length = total ((A ++ C).map Fr.fl) ∧ f.fl.l.length ≤ total ((A ++ f :: C).map Fr.fl) := by
 rw [List.map_append, List.map_append, List.map_cons, total_app, total_app, total_cons]
 omega
theorem delete_any {w : World} {B : Nat} {d : Value} {db mb cap us : Nat} {L : List Fr} (h : DiskAt w B d db mb cap us L) (hB : B ≤ w.heap.size) (s : ByteArray) (hs : s.size ≤ 1000000000) (hu : us = total (L.map Fr.fl)) (hus : us ≤ 1000000000) :
  Calls Tryz.prog 61 #[d, .string s] w fun e w' => e = .returned (.int .i64 (if (fnd key s.data.toList (L.map Fr.fl)).isSome then 0 else 5)) ∧ Step w w' B d db mb cap L (total ((wo fk s.data.toList L).map Fr.fl)) (wo fk s.data.toList L) := by
 rcases fnd_cases fk s.data.toList L with h0 | ⟨A, f, C, rfl, h1, h2⟩
 ·rw [fl_fnd, h0, wo_none h0, ← hu]
  exact (delete_no h s hs h0).mono fun e w' ⟨h1, h2⟩ => ⟨h1, h2 ▸ Step.refl h⟩
 ·obtain ⟨t1, t2⟩ := total_wo A C f
  rw [fl_fnd, h2, ← h1, wo_mid h.srt, ← t1, ← hu]
  exact (delete_ok h hB s hs h2 h1 (by omega) hus).mono fun e w' ⟨h1, h2⟩ => ⟨h1, h2⟩
theorem Step.ren {w w1 w2 w3 : World} {B : Nat} {d : Value} {db mb cap us1 m m' : Nat} {L L1 : List Fr} {f : Fr} {a b : ByteArray} (st : Step w w1 B d db mb cap L us1 L1) (hf : f ∈ L1) (ha : fk f = a.data.toList)
  (hm2 : w2.ownsMap Tryz.prog 9 pR mb m ((dat L1).del (.string a.data.toList))) (hg2 : w1.grownBy w2 (some mb)) (hm3 : w3.ownsMap Tryz.prog 9 pR mb m' (((dat L1).del (.string a.data.toList)).put (.string b.data.toList) (.lit (.int .i64 f.bl)))) (hg3 : w2.grownBy w3 (some mb)) :
  Step w w3 B d db mb cap L us1 (put fk { f with fl := { f.fl with nm := b } } (wo fk a.data.toList L1)) := by
 have s2 := Step.del st.at_ a.data.toList hm2 hg2
 have h1 := st.at_
 have ot : ∀ k, k < w1.heap.size → k ≠ mb → w2.heap[k]? = w1.heap[k]? := fun k hl hk => hg2.block k hl fun e => hk (by injection e)
 rw [dat_del] at hm3
 have mb1 : mb ∈ fp db mb L := by
  exact mem_fp.2 (.inr (.inl rfl))
 refine ⟨s2.at_.add { f with fl := { f.fl with nm := b } } ?_ ?_ (h1.geb.2.2 f hf) (fun g hg _ => ?_) hm3 hg3, (st.trans s2).kp.trans (Kp.grown (S := [mb]) hg3 fun k e => by injection e with e; simp [e]) (fun x hx => .inl (by simp at hx; subst hx; exact mb1)), fun k hk => ?_⟩
 ·exact (ot _ (h1.lt _ (mem_fp.2 (.inr (.inr ⟨f, hf, .inl rfl⟩)))) (h1.neMF hf).symm).trans (h1.cel f hf)
 ·exact (h1.own f hf).same fun k hk => ot k ((h1.own f hf).lt k hk).2 (h1.neV hf hk).2.1
 ·obtain ⟨h3, h4⟩ := mem_wo.1 hg
  exact h1.ap g h3 f hf (by rw [ha]; exact h4)
 ·rcases mem_fp.1 hk with rfl | rfl | ⟨g, hg, hq⟩
  ·exact .inl (mem_fp.2 (.inl rfl))
  ·exact .inl mb1
  ·rcases mem_put.1 hg with e | ⟨hg2, _⟩
   ·rw [e] at hq
    exact st.sub k (mem_fp.2 (.inr (.inr ⟨f, hf, hq⟩)))
   ·exact st.sub k (mem_fp.2 (.inr (.inr ⟨g, (mem_wo.1 hg2).1, hq⟩)))
theorem rename_ok {w : World} {B : Nat} {d : Value} {db mb cap us : Nat} {L : List Fr} {f : Fr} (h : DiskAt w B d db mb cap us L) (hL : L.length ≤ 1000000000) (hB : B ≤ w.heap.size) (a b : ByteArray) (ha : named a = true) (hb : named b = true) (hab : a ≠ b) (hsa : a.size ≤ 1000000000) (hsb : b.size ≤ 1000000000) (hf : f ∈ L) (hff : fnd fk a.data.toList L = some f) (hk : fk f = a.data.toList) (hu : us = total (L.map Fr.fl)) (hus : us ≤ 1000000000) :
  Calls Tryz.prog 62 #[d, .string a, .string b] w fun e w' => e = .returned (.int .i64 0) ∧
   Step w w' B d db mb cap L (total ((wo fk b.data.toList L).map Fr.fl)) (put fk { f with fl := { f.fl with nm := b } } (wo fk a.data.toList (wo fk b.data.toList L))) := by
 obtain rfl := h.hd
 have c2 := h.c2
 have hl := h.look (s := a) (by unfold maxLen; omega)
 rw [hff] at hl
 simp only [Option.map_some, ptrOf] at hl
 have he := str_ne hab
 have hka := nameOf (s := a) (by unfold maxLen; omega)
 have hkb := nameOf (s := b) (by unfold maxLen; omega)
 have hdel := Lib.hid ((delete_any h hB b hsb hu hus).mono (R' := fun e w' => (∃ q : Int, e = .returned (.int .i64 q)) ∧ Step w w' B (.pointer (some ⟨db, 0, none⟩)) db mb cap L (total ((wo fk b.data.toList L).map Fr.fl)) (wo fk b.data.toList L)) fun e w' ⟨h1, h2⟩ => ⟨⟨_, h1⟩, h2⟩)
 have hf1 : f ∈ wo fk b.data.toList L := mem_wo.2 ⟨hf, fun e => hab (name_ext (hk.symm.trans e))⟩
 have hL1 : (wo fk b.data.toList L).length < maxLen := by have := wo_length (k := fk) b.data.toList L; unfold maxLen; omega
 have HF := Lib.hid hf1
 have HK := Lib.hid hk
 generalize hL1e : wo fk b.data.toList L = L1 at *
 generalize hte : total (L1.map Fr.fl) = t1 at *
 clear h hff hab hk hf1 hL1e hte hu
 go_enter Tryz.func62, Tryz.ntmps62
 go_wp2_with fail
 refine (isName_any a w).mono ?_
 rintro e w1 ⟨rfl, rfl⟩
 rw [ha]
 go_wp2_with fail
 refine (isName_any b w).mono ?_
 rintro e w1 ⟨rfl, rfl⟩
 rw [hb]
 go_wp2_with fail
 refine hdel.out.mono ?_
 rintro e w1 ⟨⟨q, rfl⟩, st⟩
 have ST := Lib.hid st
 have c2 := st.at_.c2
 have hown := st.at_.map
 clear st hdel
 go_wp2_with (first
  | (at_delete; refine wpList_delete_own _ rfl _ _ 57 9 rfl 80 nameK Tryz.underlying57 pR mb _ _ rfl hown _ _ rfl hka ?_; intro w2 hown2 hturn; have c2 := (Step.del ST.out.at_ a.data.toList hown2 hturn.grown).at_.c2; have HG := Lib.hid hturn.grown; clear hown hturn)
  | (at_mapUpdate; go_loud (refine wpList_mapUpdate_own _ rfl _ _ _ 57 rfl 9 80 nameK Tryz.underlying57 pR mb L1.length ((dat L1).del (.string a.data.toList)) rfl hown2 hL1 _ _ _ rfl rfl hkb (.lit (.int .i64 f.bl)) [] (pR_mk (some f.bl)) ?_; intro w3 hown3 hgrow3; have HR := Lib.hid (Step.ren ST.out HF.out HK.out hown2 HG.out hown3 hgrow3); clear hown3 hgrow3))
  | go_in)
 go_ret
 exact ⟨rfl, HR.out⟩
end Go.Proofs.YtaddbhdkgneiaaaGreat
namespace Go.Proofs.YtaddbhdkgneiaaaGreat
open Go.RowKit Go.Maps Dk
def rst (f : Fl) : Nat := f.l.length - f.s
def keepF (f : Fl) (n : Nat) : Fl := { f with l := f.l.take (f.s + n), s := f.s + n }
def crash : List Fl → List Int → List Fl
 | [], _ => []
 | f :: M, ks => if rst f = 0 then keepF f 0 :: crash M ks else
   match ks with
   | [] => keepF f 0 :: crash M []
   | q :: r => keepF f (q.natAbs % (rst f + 1)) :: crash M r
theorem crash_skip {f : Fl} {M : List Fl} (ks : List Int) (h : rst f = 0) : crash (f :: M) ks = keepF f 0 :: crash M ks := by cases ks <;> simp [crash, h]
theorem crash_none {f : Fl} {M : List Fl} (h : rst f ≠ 0) : crash (f :: M) [] = keepF f 0 :: crash M [] := by simp [crash, h]
theorem crash_one {f : Fl} {M : List Fl} (q : Int) (r : List Int) (h : rst f ≠ 0) : crash (f :: M) (q :: r) = keepF f (q.natAbs % (rst f + 1)) :: crash M r := by simp [crash, h]
def inR (q : Int) : Prop := -9223372036854775808 ≤ q ∧ q ≤ 9223372036854775807
end Go.Proofs.YtaddbhdkgneiaaaGreat
namespace Go.Proofs.YtaddbhdkgneiaaaGreat
open Go.RowKit Go.Maps Dk
structure CrR (w1 : World) (B : Nat) (d : Value) (db mb cap : Nat) (L : List Fr) (ks : List Int) (wr : World) (kp : Value) (k : Nat) (D R : List Fr) (ks' : List Int) : Prop where
 st : Step w1 wr B d db mb cap L (total ((D ++ R).map Fr.fl)) (D ++ R)
 kD : D.length = k
 dr : R = L.drop k
 cr : crash (L.map Fr.fl) ks = D.map Fr.fl ++ crash (R.map Fr.fl) ks'
 rk : RdV wr (fp db mb (D ++ R)) kp (ks'.map iv)
 wf : ∀ q ∈ ks', inR q
 fine : ∀ f ∈ R, f.fl.s ≤ f.fl.l.length
 tot : total ((D ++ R).map Fr.fl) ≤ total (L.map Fr.fl)
section
variable {w1 wr w2 : World} {B : Nat} {d : Value} {db mb cap : Nat} {L D C R : List Fr} {f : Fr} {ks ks' ks2 : List Int} {kp kp2 : Value} {k : Nat}
theorem CrR.up (h : CrR w1 B d db mb cap L ks wr kp k D R ks') (hb : Below wr.heap.size wr w2) : CrR w1 B d db mb cap L ks w2 kp k D R ks' :=
 ⟨h.st.thenB hb, h.kD, h.dr, h.cr, h.rk.up (Kp.of_below hb _) (fun _ hk => .inl hk), h.wf, h.fine, h.tot⟩
theorem CrR.head (h : CrR w1 B d db mb cap L ks wr kp k D R ks') (hk : k < L.length) : ∃ f C, R = f :: C ∧ L[k]? = some f ∧ C = L.drop (k + 1) := by
 refine ⟨L[k], L.drop (k + 1), ?_, List.getElem?_eq_getElem hk, rfl⟩
 rw [h.dr, List.drop_eq_getElem_cons hk]
theorem keepF_full {f : Fl} (h : f.s ≤ f.l.length) (h0 : rst f = 0) : keepF f 0 = f := by
 unfold keepF rst at *
 have : f.s + 0 = f.l.length := by omega
 rw [this, List.take_length]
 cases f
 simp at *
 omega
theorem CrR.skip (h : CrR w1 B d db mb cap L ks wr kp k D (f :: C) ks') (h0 : rst f.fl = 0) (hC : C = L.drop (k + 1)) : CrR w1 B d db mb cap L ks wr kp (k + 1) (D ++ [f]) C ks' := by
 have e : (D ++ [f]) ++ C = D ++ f :: C := by simp
 refine ⟨by rw [e]; exact h.st, by simp [h.kD], hC, ?_, by rw [e]; exact h.rk, h.wf, fun g hg => h.fine g (by simp [hg]), by rw [e]; exact h.tot⟩
 rw [h.cr, List.map_cons, crash_skip _ h0, keepF_full (h.fine f (by simp)) h0]
 simp
theorem CrR.kept {v : Value} {n : Nat} (h : CrR w1 B d db mb cap L ks wr kp k D (f :: C) ks') (hn : n ≤ rst f.fl) (hC : C = L.drop (k + 1))
  (st : Step wr w2 B d db mb cap (D ++ f :: C) (total ((D ++ f :: C).map Fr.fl) - (f.fl.l.length - (f.fl.s + n))) (D ++ { f with v := v, fl := { f.fl with l := f.fl.l.take (f.fl.s + n), s := min f.fl.s (f.fl.s + n) } } :: C))
  (hcr : crash (f.fl :: C.map Fr.fl) ks' = keepF f.fl n :: crash (C.map Fr.fl) ks2) (hrk : RdV wr (fp db mb (D ++ f :: C)) kp2 (ks2.map iv)) (hw : ∀ q ∈ ks2, inR q) :
  CrR w1 B d db mb cap L ks (w2.setCell ⟨f.bl, 1, none⟩ (.int .i64 ((f.fl.s + n : Nat) : Int))) kp2 (k + 1) (D ++ [{ f with v := v, fl := keepF f.fl n }]) C ks2 := by
 have hf := h.fine f (by simp)
 have e : (D ++ [{ f with v := v, fl := keepF f.fl n }]) ++ C = D ++ { f with v := v, fl := keepF f.fl n } :: C := by simp
 have hlen : (f.fl.l.take (f.fl.s + n)).length = f.fl.s + n := by unfold rst at hn; rw [List.length_take]; omega
 have hs := st.trans (Step.synced st.at_ (f.fl.s + n))
 have ht : total ((D ++ f :: C).map Fr.fl) - (f.fl.l.length - (f.fl.s + n)) = total ((D ++ { f with v := v, fl := keepF f.fl n } :: C).map Fr.fl) := by
  simp only [List.map_append, List.map_cons, total_app, total_cons, keepF, hlen]
  unfold rst at hn
  omega
 rw [ht] at hs
 refine ⟨?_, by simp [h.kD], hC, ?_, ?_, hw, fun g hg => h.fine g (by simp [hg]), ?_⟩
 ·rw [e]
  exact h.st.trans hs
 ·rw [h.cr, List.map_cons, hcr]
  simp
 ·rw [e]
  exact hrk.up hs.kp hs.sub
 ·rw [e, ← ht]
  have := h.tot
  omega
end
theorem RdV.tl {w : World} {S : List Nat} {b off n c : Nat} {q : Value} {xs : List Value} (h : RdV w S (.slice (some ⟨b, off, none⟩) n c) (q :: xs)) (hc : ¬ c = 1) : RdV w S (.slice (some ⟨b, off + 1, none⟩) (n - 1) (c - 1)) xs := by
 have hn : n = xs.length + 1 := by obtain ⟨A, c', e, _⟩ := h.1; injection e
 exact ⟨h.1.fromC (lo := 1) (by omega) hc, fun _ k hk => h.2 (by simp) k hk⟩
theorem RdV.tl0 {w : World} {S : List Nat} {A : Option Addr} {n : Nat} {q : Value} {xs : List Value} (h : RdV w S (.slice A n 1) (q :: xs)) : RdV w S (.slice A 0 0) xs := by
 have hx : xs = [] := by
  obtain ⟨A, c', e, h1, _⟩ := h.1
  injection e with _ _ e3
  simp at h1
  rw [← e3] at h1
  exact List.eq_nil_of_length_eq_zero (by omega)
 subst hx
 exact ⟨⟨A, 0, rfl, by simp, by simp, fun hp => absurd hp (by simp)⟩, fun hp => absurd hp (by simp)⟩
theorem kept_num {kn : Nat} {q : Int} {f : Fl} (hs : f.s ≤ f.l.length) (hl : f.l.length ≤ 1000000000) (hke : kn = q.natAbs % (rst f + 1)) :
  kn ≤ rst f ∧ wrap64 ((q.natAbs : Int) % ((f.l.length : Int) - (f.s : Int) + 1)) = (kn : Int) ∧ wrap64 ((f.s : Int) + (kn : Int)) = ((f.s + kn : Nat) : Int) := by
 have hkn : kn ≤ rst f := by have := Nat.mod_lt q.natAbs (show 0 < rst f + 1 by omega); omega
 have e1 : (f.l.length : Int) - (f.s : Int) + 1 = ((rst f + 1 : Nat) : Int) := by unfold rst; omega
 have h1 : kn ≤ 1000000000 := by unfold rst at hkn; omega
 have h2 : f.s + kn ≤ 1000000000 := by unfold rst at hkn; omega
 refine ⟨hkn, ?_, ?_⟩
 ·rw [e1, ← Int.natCast_emod, ← hke]
  clear e1 hke hkn h2
  exact IntWalk.wrap64_in _ (by omega)
 ·clear e1 hke hkn h1
  rw [IntWalk.wrap64_in _ (by omega)]
  omega
theorem DiskAt.cutShape {w : World} {B : Nat} {d : Value} {db mb cap us n : Nat} {A C : List Fr} {f : Fr} {l : List UInt8} (h : DiskAt w B d db mb cap us (A ++ f :: C)) (hl : f.fl.l = l.take n) (hn : n ≤ l.length) :
  ∃ A2 c2, w.cell? ⟨f.bl, 0, none⟩ = some (.slice A2 n c2) ∧ n ≤ c2 ∧ c2 ≤ 9223372036854775807 := by
 have hf : f ∈ A ++ f :: C := by simp
 obtain ⟨A2, c2, e, h1, h2⟩ := (h.own f hf).rd.shapeM
 have hlen : f.fl.l.length = n := by rw [hl, List.length_take]; omega
 rw [hlen] at e h1
 exact ⟨A2, c2, by rw [h.g0 hf, e], h1, h2⟩
theorem crash_any {w : World} {B : Nat} {d kv : Value} {db mb cap us : Nat} {L : List Fr} {ks : List Int} (h : DiskAt w B d db mb cap us L) (hL : L.length ≤ 1000000000) (hB : B ≤ w.heap.size) (hnm : ∀ f ∈ L, f.fl.nm.size ≤ 1000000000) (hu : us = total (L.map Fr.fl)) (hus : us ≤ 1000000000)
  (hfine : ∀ f ∈ L, f.fl.s ≤ f.fl.l.length) (hk : RdV w (fp db mb L) kv (ks.map iv)) (hw : ∀ q ∈ ks, inR q) :
  Calls Tryz.prog 15 #[d, kv] w fun e w' => e = .returned (.tuple #[]) ∧ ∃ L', Step w w' B d db mb cap L (total (L'.map Fr.fl)) L' ∧ L'.map Fr.fl = crash (L.map Fr.fl) ks := by
 obtain rfl := h.hd
 subst hu
 have hnames := names_any h hL
 have H := Lib.hid h
 have HF := Lib.hid hfine
 have HW := Lib.hid hw
 have HN := Lib.hid hnm
 have HK := Lib.hid hk
 clear h hfine hw hnm hk
 go_enter Tryz.func15, Tryz.ntmps15
 go_wp2_with fail
 refine hnames.mono ?_
 rintro e w1 ⟨⟨nv, rfl, hno⟩, hb1⟩
 obtain ⟨An, cn, en, hcn, hmn⟩ := hno.rd.shapeM
 rw [List.length_map] at en hcn
 subst en
 unfold maxLen at hmn
 have st1 := Step.bel H.out hb1
 have hnv : RdV w1 (fp db mb L) (.slice An L.length cn) ((L.map fun f => f.fl.nm).map sv) := ⟨hno.rd, fun _ k hx hm => by have := H.out.lt k hm; have := hno.ge k hx; omega⟩
 have hr0 : CrR w1 B (.pointer (some ⟨db, 0, none⟩)) db mb cap L ks w1 kv 0 [] L ks := ⟨Step.refl st1.at_, rfl, rfl, rfl, HK.out.up st1.kp st1.sub, HW.out, HF.out, Nat.le_refl _⟩
 have hB1 := Nat.le_trans hB st1.kp.size
 have ST := Lib.hid st1
 have HV := Lib.hid hnv
 have HR := Lib.hid hr0
 clear hnames hno hb1 st1 hnv hr0
 go_wp2_with fail
 go_loopw [1, 12] (fun kp i wr => ∃ (k : Nat) (D R : List Fr) (ks' : List Int), k ≤ L.length ∧ i = .int .i64 (k : Int) ∧ CrR w1 B (.pointer (some ⟨db, 0, none⟩)) db mb cap L ks wr kp k D R ks') (fun _ i _ => L.length - (intOf i).toNat)
 case atStart => exact ⟨0, [], L, ks, Nat.zero_le _, rfl, HR.out⟩
 case round =>
  obtain ⟨k, D, R, ks', hk, rfl, hrel⟩ := hrel
  by_cases hlt : k < L.length
  ·obtain ⟨f, C, rfl, hLk, hC⟩ := hrel.head hlt
   have hd := hrel.st.at_
   have hf : f ∈ D ++ f :: C := by simp
   have c2 := hd.c2
   have hfL : f ∈ L := List.mem_of_getElem? hLk
   have hl := hd.look (s := f.fl.nm) (by have := HN.out f hfL; unfold maxLen; omega)
   rw [show fnd fk f.fl.nm.data.toList (D ++ f :: C) = some f from fnd_of_mem hd.srt hf] at hl
   simp only [Option.map_some, ptrOf] at hl
   obtain ⟨b, off, rfl, -, hcell⟩ := (HV.out.1.kp HV.out.2 hrel.st.kp).cellM (by rw [List.length_map]; omega)
   have hc := hcell k (by rw [List.length_map]; exact hlt)
   clear hcell
   rw [List.getElem_map, (List.getElem?_eq_some_iff.1 hLk).2] at hc
   simp only [sv] at hc
   have g0 := hd.g0 hf
   have g1 := hd.g1 hf
   have hfs := hrel.fine f (by simp)
   obtain ⟨Av, c, ev, hcv, hmv⟩ := (hd.own f hf).rd.shapeM
   rw [ev] at g0
   unfold maxLen at hmv
   have HL := Lib.hid hrel
   have HC := Lib.hid hC
   have htot : f.fl.l.length ≤ total ((D ++ f :: C).map Fr.fl) := by rw [List.map_append, List.map_cons, total_app, total_cons]; omega
   have hle := Nat.le_trans hrel.tot hus
   have hBr := Nat.le_trans hB1 hrel.st.kp.size
   clear hd hrel hC ev hLk
   by_cases h0 : rst f.fl = 0
   ·have h0e : (f.fl.l.length : Int) - (f.fl.s : Int) = 0 := by unfold rst at h0; omega
    have H0 := Lib.hid h0
    clear h0
    go_wp2_with fail
    go_quiet (fail)
    go_wp2_with fail
    go_roundw
    case rel => exact ⟨k + 1, D ++ [f], C, ks', by omega, by go_num, (HL.out.skip H0.out HC.out).up (bwN _)⟩
    case measure => simp [intOf]; omega
   ·have h0e : ¬ (f.fl.l.length : Int) - (f.fl.s : Int) = 0 := by unfold rst at h0; omega
    have h0b : ((f.fl.l.length : Int) - (f.fl.s : Int) == 0) = false := by simpa using h0e
    have H0 := Lib.hid h0
    obtain ⟨Ak, ck, ek, hck, hmk⟩ := HL.out.rk.1.shapeM
    unfold maxLen at hmk
    clear h0
    cases ks' with
    | nil =>
     simp only [List.length_nil] at ek
     subst ek
     go_wp2_with fail
     go_quiet (fail)
     have hup := Lib.hid (HL.out.up (bwN (w := wr) nq))
     have hBr := Nat.le_trans hBr (bwN (w := wr) nq).size
     clear HL
     have hct := cut_any hup.out.st.at_ hBr f.fl.s hfs htot hle
     have g1 : (wr.drewN nq).cell? ⟨f.bl, 1, none⟩ = some (.int .i64 (f.fl.s : Int)) := g1
     generalize wr.drewN nq = wq at *
     go_wp2_with fail
     refine hct.mono ?_
     rintro e w2 ⟨rfl, v2, st2⟩
     have h2 := st2.at_
     obtain ⟨A2, c2', g0, hn2, hm2⟩ := h2.cutShape (n := f.fl.s) rfl hfs
     have g1 := h2.g1 (f := { f with v := v2, fl := { f.fl with l := f.fl.l.take f.fl.s, s := min f.fl.s f.fl.s } }) (by simp)
     have y1 := h2.y1 (f := { f with v := v2, fl := { f.fl with l := f.fl.l.take f.fl.s, s := min f.fl.s f.fl.s } }) (by simp)
     have HX := Lib.hid (hup.out.kept (n := 0) (Nat.zero_le _) HC.out st2 (crash_none H0.out) hup.out.rk hup.out.wf)
     clear hct st2 h2
     go_wp2_with fail
     go_roundw
     case rel => exact ⟨k + 1, _, C, _, by omega, by go_num, HX.out⟩
     case measure => simp [intOf]; omega
    | cons q r =>
     have hrk := HL.out.rk
     have hqr := HL.out.wf q (by simp)
     simp only [List.length_cons] at ek
     rw [ek] at hrk
     obtain ⟨bk, ok, rfl, -, hkc⟩ := hrk.1.cellM (l := q :: r) (f := iv) (by simp)
     have hk0 := hkc 0 (by simp)
     simp only [List.getElem_cons_zero, Nat.add_zero, iv] at hk0
     subst ek
     have HRK := Lib.hid hrk
     clear hkc hrk
     obtain ⟨kn, hke⟩ : ∃ kn, kn = q.natAbs % (rst f.fl + 1) := ⟨_, rfl⟩
     obtain ⟨hkn, hk1, hk2⟩ := kept_num (kn := kn) (q := q) (f := f.fl) hfs (by omega) hke
     have HCO : Hid (∀ M : List Fl, crash (f.fl :: M) (q :: r) = keepF f.fl kn :: crash M r) := Lib.hid fun M => by rw [hke]; exact crash_one q r H0.out
     have HK1 := Lib.hid hk1
     have HK2 := Lib.hid hk2
     clear hke hk1 hk2
     by_cases hc1 : ck = 1
     ·subst hc1
      have hr : r.length = 0 := by simpa using hck
      have hrn := List.eq_nil_of_length_eq_zero hr
      subst hrn
      have HK0 := Lib.hid HRK.out.tl0
      go_wp2_with fail
      go_quiet (fail)
      have hup := Lib.hid (HL.out.up (bwN (w := wr) nq))
      have hBr := Nat.le_trans hBr (bwN (w := wr) nq).size
      have HK9 := Lib.hid (HK0.out.up (Kp.of_below (bwN (w := wr) nq) _) (fun _ hk => .inl hk))
      clear HL
      go_wp2_with fail
      refine (distance_any q _ hqr.1 hqr.2).mono ?_
      rintro e w9 ⟨rfl, rfl⟩
      have hct := cut_any hup.out.st.at_ hBr (f.fl.s + kn) (by unfold rst at hkn; omega) htot hle
      have g1 : (wr.drewN nq).cell? ⟨f.bl, 1, none⟩ = some (.int .i64 (f.fl.s : Int)) := g1
      generalize wr.drewN nq = wq at *
      go_wp2_with fail
      rw [HK1.out, HK2.out]
      refine hct.mono ?_
      rintro e w2 ⟨rfl, v2, st2⟩
      have h2 := st2.at_
      obtain ⟨A2, c2', g0, hn2, hm2⟩ := h2.cutShape (n := f.fl.s + kn) rfl (by unfold rst at hkn; omega)
      have g1 := h2.g1 (f := { f with v := v2, fl := { f.fl with l := f.fl.l.take (f.fl.s + kn), s := min f.fl.s (f.fl.s + kn) } }) (by simp)
      have y1 := h2.y1 (f := { f with v := v2, fl := { f.fl with l := f.fl.l.take (f.fl.s + kn), s := min f.fl.s (f.fl.s + kn) } }) (by simp)
      have HX := Lib.hid (hup.out.kept (n := kn) hkn HC.out st2 (HCO.out _) HK9.out (fun x hx => hup.out.wf x (by simp [hx])))
      clear hct st2 h2
      go_wp2_with fail
      go_roundw
      case rel => exact ⟨k + 1, _, C, _, by omega, by go_num, HX.out⟩
      case measure => simp [intOf]; omega
     ·have HK0 := Lib.hid (HRK.out.tl hc1)
      go_wp2_with fail
      go_quiet (fail)
      have hup := Lib.hid (HL.out.up (bwN (w := wr) nq))
      have hBr := Nat.le_trans hBr (bwN (w := wr) nq).size
      have HK9 := Lib.hid (HK0.out.up (Kp.of_below (bwN (w := wr) nq) _) (fun _ hk => .inl hk))
      clear HL
      go_wp2_with fail
      refine (distance_any q _ hqr.1 hqr.2).mono ?_
      rintro e w9 ⟨rfl, rfl⟩
      have hct := cut_any hup.out.st.at_ hBr (f.fl.s + kn) (by unfold rst at hkn; omega) htot hle
      have g1 : (wr.drewN nq).cell? ⟨f.bl, 1, none⟩ = some (.int .i64 (f.fl.s : Int)) := g1
      generalize wr.drewN nq = wq at *
      go_wp2_with fail
      rw [HK1.out, HK2.out]
      refine hct.mono ?_
      rintro e w2 ⟨rfl, v2, st2⟩
      have h2 := st2.at_
      obtain ⟨A2, c2', g0, hn2, hm2⟩ := h2.cutShape (n := f.fl.s + kn) rfl (by unfold rst at hkn; omega)
      have g1 := h2.g1 (f := { f with v := v2, fl := { f.fl with l := f.fl.l.take (f.fl.s + kn), s := min f.fl.s (f.fl.s + kn) } }) (by simp)
      have y1 := h2.y1 (f := { f with v := v2, fl := { f.fl with l := f.fl.l.take (f.fl.s + kn), s := min f.fl.s (f.fl.s + kn) } }) (by simp)
      have HX := Lib.hid (hup.out.kept (n := kn) hkn HC.out st2 (HCO.out _) HK9.out (fun x hx => hup.out.wf x (by simp [hx])))
      clear hct st2 h2
      go_wp2_with fail
      go_roundw
      case rel => exact ⟨k + 1, _, C, _, by omega, by go_num, HX.out⟩
      case measure => simp [intOf]; omega
  ·obtain rfl : k = L.length := by omega
   have hR : R = [] := by rw [hrel.dr]; simp
   subst hR
   have hcr := hrel.cr
   have hst := hrel.st
   simp only [List.append_nil, List.map_nil, crash] at hcr hst
   have HS := Lib.hid (ST.out.trans hst)
   have HC := Lib.hid hcr
   clear hrel hcr hst
   go_wp2_with fail
   go_end0
   exact ⟨rfl, D, HS.out, HC.out.symm⟩
end Go.Proofs.YtaddbhdkgneiaaaGreat
