/- Structs of one-cell parts, of whatever type: a variable that holds one (boxed, made, loaded, stored, handed back), '==' of two, slices of them (read, owned, grown, written). Of no function in particular. '==' and '!=' of two structs of one-cell parts: strings, integers, bools. Of no function in particular. Slices of structs of one-cell parts, of whatever type: how one reads ('RdS': in none of S's blocks), how the call's own ('OwS') is made, grown, written, copied. Of no function in particular. -/
import Derived.Test.YtpmlfhgdhnofbaaBase
import Derived.Laws.StructEq
import Derived.Laws.CopyRow
namespace Go.Proofs.Ytpmlfhgdhnofbaa.St
open Go.RowKit
structure Sp (α : Type) where
 t : Nat
 ts : Nat
 k : Nat
 bytes : Nat
 f : α → Array Value
 z : α
structure Sp.Ok {α : Type} (P : Program) (D : Sp α) : Prop where
 und : ∃ d, P.underlying D.t = some d ∧ (match d with | .struct _ | .array _ _ => true | _ => false) = true
 info : (P.info? D.t).map (fun i => (i.zero, i.size, i.bytes)) = some (some (.agg (D.f D.z)), D.k, D.bytes)
 pos : 0 < D.k
 size : ∀ x, (D.f x).size = D.k
 one : ∀ x, (D.f x).all (·.oneCell') = true
abbrev Sp.v {α : Type} (D : Sp α) (x : α) : Value := .agg (D.f x)
structure Sp.In {α : Type} (D : Sp α) (g : Nat) (x : α) (w : World) : Prop where
 h : w.heap[g]? = some (.cells (D.f x) D.t (0, 0))
variable {α : Type} {P : Program} {D : Sp α}
theorem Sp.Ok.sizeI (h : D.Ok P) : (P.info? D.t).map (·.size) = some D.k := by
 obtain ⟨i, hi, -, h1, -⟩ := info_parts h.info
 rw [hi, Option.map_some, h1]
theorem Sp.Ok.zeroI (h : D.Ok P) : (P.info? D.t).map (·.zero) = some (some (.agg (D.f D.z))) := by
 obtain ⟨i, hi, h0, -, -⟩ := info_parts h.info
 rw [hi, Option.map_some, h0]
section
variable {g i : Nat} {x y : α} {u : Value} {w w' : World}
theorem Sp.In.at_ (h : D.In g x w) (hi : (D.f x)[i]? = some u) : w.cell? ⟨g, i, none⟩ = some u := (cell_of_row _ _ i _ _ _ h.h).trans hi
theorem Sp.In.fz (h : D.In g x w) (i : Nat) : w.frozen? ⟨g, i, none⟩ = false := frozen_of_row w _ _ _ _ h.h
theorem Sp.In.lt (h : D.In g x w) : g < w.heap.size := (Array.getElem?_eq_some_iff.1 h.h).1
theorem Sp.In.bel {B : Nat} (h : D.In g x w) (hb : Below B w w') (hB : g < B) : D.In g x w' := ⟨(hb.block g hB).trans h.h⟩
theorem Sp.In.up (h : D.In g x w) (hb : Below w.heap.size w w') : D.In g x w' := h.bel hb h.lt
theorem Sp.In.kept (h : D.In g x w) (hb : w'.heap[g]? = w.heap[g]?) : D.In g x w' := ⟨hb.trans h.h⟩
theorem Sp.In.new (D : Sp α) (w : World) (x : α) : D.In w.heap.size x (w.alloc (.cells (D.f x) D.t)) := ⟨heap_alloc_new _ _⟩
theorem Sp.In.all (h : D.In g x w) : ∀ (k : Nat) (v : Value), (D.f x)[k]? = some v → w.cell? ((⟨g, 0, none⟩ : Addr).add k) = some v := fun k v hv => by
 rw [Addr.add_lit, Nat.zero_add]
 exact h.at_ hv
structure Sp.Set (D : Sp α) (g : Nat) (x : α) (w w' : World) : Prop where
 i : D.In g x w'
 b : Below g w w'
 z : w'.heap.size = w.heap.size
 o : ∀ k, k ≠ g → w'.heap[k]? = w.heap[k]?
theorem Sp.Set.of (h : D.In g x w) (y : α) : D.Set g y w (w.setRow g (D.f y)) :=
 ⟨⟨setRow_heap w g _ _ _ _ h.h⟩, below_setRow (Below.refl _ _) (Nat.le_refl _) _, by simp, fun k hk => setRow_other _ _ _ _ hk⟩
theorem Sp.Set.part (h : D.In g x w) (hy : (D.f x).setIfInBounds i u = D.f y) : D.Set g y w (w.setCell ⟨g, i, none⟩ u) := by
 refine ⟨⟨?_⟩, (Below.refl _ _).setCell (p := ⟨g, i, none⟩) (Nat.le_refl _) u, by simp, fun k hk => heap_setCell_other _ _ _ _ (by simpa using hk)⟩
 rw [heap_setCell_same _ _ _ _ _ _ h.h, hy]
theorem Sp.Set.bel {wa : World} {B : Nat} (h : D.Set g x w w') (h0 : Below B wa w) (hB : B ≤ g) : Below B wa w' := h0.trans (h.b.mono hB)
theorem Sp.Set.up {β : Type} {E : Sp β} {d : β} {k : Nat} (h : D.Set g x w w') (h0 : E.In k d w) (hk : k ≠ g) : E.In k d w' := ⟨(h.o k hk).trans h0.h⟩
theorem Sp.Set.then {w2 : World} {z : α} (h : D.Set g x w w') (h2 : D.Set g z w' w2) : D.Set g z w w2 := ⟨h2.i, h.b.trans h2.b, by rw [h2.z, h.z], fun k hk => (h2.o k hk).trans (h.o k hk)⟩
end
section
variable {ops : Array Oper} {rest : List Oper} {o : Oper} {a : Act} {w : World} {K0 : Act → World → Prop} {Q : Exit → Act → World → Prop} {g : Nat} {c : α}
theorem box (D : Sp α) (hg : o.guard = none) (x : Operand) (c : α) (ho : o.op = .box D.t x) (hx : a.eval x = .agg (D.f c))
  (h : Held (∀ w', D.In w.heap.size c w' → Below w.heap.size w w' → w'.heap.size = w.heap.size + 1 → wpList P ops Q rest (a.put o.dst (.pointer (some ⟨w.heap.size, 0, none⟩))) w')) : wpList P ops Q (o :: rest) a w :=
 wpList_boxRow hg _ x ho (D.f c) hx (h.out _ (Sp.In.new D w c) (bwalloc (Below.refl _ _) _) (by simp))
theorem alloc (hD : D.Ok P) (hg : o.guard = none) (ho : o.op = .alloc D.t)
  (h : Held (∀ w', D.In w.heap.size D.z w' → Below w.heap.size w w' → w'.heap.size = w.heap.size + 1 → wpList P ops Q rest (a.put o.dst (.pointer (some ⟨w.heap.size, 0, none⟩))) w')) : wpList P ops Q (o :: rest) a w :=
 wpList_allocRow hg _ ho (D.f D.z) hD.zeroI (h.out _ (Sp.In.new D w D.z) (bwalloc (Below.refl _ _) _) (by simp))
theorem store (hD : D.Ok P) (hg : o.guard = none) (x y : Operand) (ho : o.op = .store D.t x y) (hx : a.eval x = .pointer (some ⟨g, 0, none⟩)) (hy : a.eval y = .agg (D.f c)) {c0 : α} (hi : D.In g c0 w)
  (h : Held (∀ w', D.Set g c w w' → wpList P ops Q rest (a.put o.dst undef) w')) : wpList P ops Q (o :: rest) a w :=
 wpList_storeRow hg _ x y ho g (D.f c) hx hy D.t (D.f c0) hi.h (by rw [hD.size]; exact hD.sizeI) (by rw [hD.size, hD.size]) (hD.one c) (h.out _ (Sp.Set.of hi c))
theorem run_load (hD : D.Ok P) (w : World) (ad : Addr) (c : α) (hc : ∀ (k : Nat) (v : Value), (D.f c)[k]? = some v → w.cell? (ad.add k) = some v) : (loadVar D.t ad).run P w = .ok (.agg (D.f c)) w := by
 obtain ⟨d, hu, hd⟩ := hD.und
 have hl := run_loadCells_list (P := P) (w := w) ad (D.f c).toList (fun k v hv => hc k v (by simpa using hv))
 rw [Array.length_toList, hD.size, Array.toArray_toList] at hl
 obtain ⟨i, hq, -, hs, -⟩ := info_parts hD.info
 have hagg : (isAgg D.t).run P w = .ok true w := by
  unfold isAgg
  rw [Sem.run_bind, run_underlying hu w]
  cases d <;> first | rfl | cases hd
 simp [loadVar, Sem.run_bind, hagg, sizeOf, typeInfo, hq, hs, hl]
theorem loadAt (hD : D.Ok P) (hw : Region.wanted o (yielded ops a.tmps) = true) (x : Operand) (ho : o.op = .load D.t x) (ad : Addr) (hx : a.eval x = .pointer (some ad)) (hc : ∀ (k : Nat) (v : Value), (D.f c)[k]? = some v → w.cell? (ad.add k) = some v)
  (h : wpList P ops Q rest (a.put o.dst (.agg (D.f c))) w) : wpList P ops Q (o :: rest) a w := by
 refine wpList_step fun K hK => ?_
 rw [if_pos hw]
 unfold Oper.wp execOp
 simp only [ho, hx, Instr.loadAt, Instr.sureAddr, Sem.run_bind, Sem.run_pure, Result.andThen_ok, run_load hD w ad c hc]
 exact hK _ _ h
theorem load (hD : D.Ok P) (hw : Region.wanted o (yielded ops a.tmps) = true) (x : Operand) (ho : o.op = .load D.t x) (hx : a.eval x = .pointer (some ⟨g, 0, none⟩)) (hi : D.In g c w)
  (h : wpList P ops Q rest (a.put o.dst (.agg (D.f c))) w) : wpList P ops Q (o :: rest) a w := loadAt hD hw x ho _ hx hi.all h
end
section
variable {fn : Func} {p q r : Tmp} {tmps : Array Value} {w : World} {g : Nat} {c : α}
theorem res1 (hD : D.Ok P) (h : fn.results = #[.cell p D.t]) (hp : tmps.getD p undef = .pointer (some ⟨g, 0, none⟩)) (hi : D.In g c w) :
  (results fn tmps).run P w = .ok (.agg (D.f c)) w := by
 have hp' : tmps[p]?.getD undef = .pointer (some ⟨g, 0, none⟩) := by simpa using hp
 simp [results, h, hp', asAddr, run_load hD w _ c hi.all]
theorem res2 (hD : D.Ok P) (h : fn.results = #[.cell p D.t, .tmp q]) (hp : tmps.getD p undef = .pointer (some ⟨g, 0, none⟩)) (hi : D.In g c w) :
  (results fn tmps).run P w = .ok (.tuple #[.agg (D.f c), tmps.getD q undef]) w := by
 have hp' : tmps[p]?.getD undef = .pointer (some ⟨g, 0, none⟩) := by simpa using hp
 simp [results, h, hp', asAddr, run_load hD w _ c hi.all]
theorem res3m (hD : D.Ok P) (h : fn.results = #[.tmp q, .cell p D.t, .tmp r]) (hp : tmps.getD p undef = .pointer (some ⟨g, 0, none⟩)) (hi : D.In g c w) :
  (results fn tmps).run P w = .ok (.tuple #[tmps.getD q undef, .agg (D.f c), tmps.getD r undef]) w := by
 have hp' : tmps[p]?.getD undef = .pointer (some ⟨g, 0, none⟩) := by simpa using hp
 simp [results, h, hp', asAddr, run_load hD w _ c hi.all]
end
end Go.Proofs.Ytpmlfhgdhnofbaa.St
namespace Go.Proofs.Ytpmlfhgdhnofbaa.St
open Go.RowKit
def alike : Value → Value → Bool
 | .string a, .string b => decide (a = b)
 | .int _ a, .int _ b => a == b
 | .bool a, .bool b => a == b
 | _, _ => false
def allAlike (sp : List (Nat × Nat)) (xs ys : Array Value) : Bool := sp.all fun p => alike (xs.getD p.2 undef) (ys.getD p.2 undef)
structure Eqs (P : Program) (t : Nat) (sp : List (Nat × Nat)) : Prop where
 guard : P.eqGuardType P.depth t = false
 held : P.stoodInHeld t = false
 und : P.underlying t = some (.struct (P.fieldsOf t))
 flds : (P.fieldsOf t).toList.map (fun f => (f.name == "_", f.type, f.offset)) = sp.map fun p => (false, p.1, p.2)
def Typed (P : Program) (sp : List (Nat × Nat)) (xs ys : Array Value) : Prop := ∀ p ∈ sp,
 (P.underlying p.1 = some .string ∧ ∃ a b, xs[p.2]? = some (.string a) ∧ ys[p.2]? = some (.string b)) ∨
 (∃ k, P.underlying p.1 = some (.int k) ∧ ∃ a b, xs[p.2]? = some (.int k a) ∧ ys[p.2]? = some (.int k b)) ∨
 (P.underlying p.1 = some .bool ∧ ∃ a b, xs[p.2]? = some (.bool a) ∧ ys[p.2]? = some (.bool b))
theorem beqS (a b : ByteArray) : (a.toList == b.toList) = decide (a = b) := by
 by_cases h : a = b
 ·rw [str_eq h, decide_eq_true h]
 ·rw [str_ne h, decide_eq_false h]
variable {P : Program} {xs ys : Array Value} {sp : List (Nat × Nat)}
theorem run_eqFields (w : World) : ∀ (sp : List (Nat × Nat)) (fs : List Field), fs.map (fun f => (f.name == "_", f.type, f.offset)) = sp.map (fun p => (false, p.1, p.2)) → Typed P sp xs ys →
  (Op.eqFields 9999 xs ys fs).run P w = .ok (allAlike sp xs ys) w
 | [], fs, hfs, _ => by
  obtain rfl := List.map_eq_nil_iff.1 hfs
  rfl
 | p :: sp, fs, hfs, ht => by
  rw [List.map_cons] at hfs
  obtain ⟨f, fs, rfl, q, hfs⟩ := List.map_eq_cons_iff.1 hfs
  have ih := run_eqFields w sp fs hfs fun r hr => ht r (by simp [hr])
  simp only [Prod.mk.injEq, beq_eq_false_iff_ne] at q
  obtain ⟨hn, htt, hoo⟩ := q
  have step : ∀ (u v : Value) (b : Bool), (part f.type xs f.offset).run P w = .ok u w → (part f.type ys f.offset).run P w = .ok v w → (Op.equalIn 9999 f.type u v).run P w = .ok b w → alike u v = b → xs.getD p.2 undef = u → ys.getD p.2 undef = v →
    (Op.eqFields 9999 xs ys (f :: fs)).run P w = .ok (allAlike (p :: sp) xs ys) w := by
   intro u v b hu hv hq hb h1 h2
   simp only [Op.eqFields, ne_eq, hn, not_false_eq_true, if_true, Sem.run_bind, hu, hv, hq, Result.andThen_ok]
   unfold allAlike at ih ⊢
   rw [List.all_cons, h1, h2, hb]
   cases b
   ·simp
   ·simp [ih]
  rw [htt, hoo] at step
  have hget : ∀ (zs : Array Value) (v : Value), zs[p.2]? = some v → zs.getD p.2 undef = v := fun zs v h => by simp [Array.getD_eq_getD_getElem?, h]
  rcases ht p (by simp) with ⟨hu, a, b, h1, h2⟩ | ⟨k, hu, a, b, h1, h2⟩ | ⟨hu, a, b, h1, h2⟩
  ·have e := run_equalIn_string w 9998 _ a b hu
   rw [show 9998 + 1 = 9999 from rfl, beqS] at e
   exact step _ _ _ (by simp [part, isAgg, run_underlying hu, h1]) (by simp [part, isAgg, run_underlying hu, h2]) e rfl (hget _ _ h1) (hget _ _ h2)
  ·have e := run_equalIn_int w 9998 _ k k a b hu
   rw [show 9998 + 1 = 9999 from rfl] at e
   exact step _ _ _ (by simp [part, isAgg, run_underlying hu, h1]) (by simp [part, isAgg, run_underlying hu, h2]) e rfl (hget _ _ h1) (hget _ _ h2)
  ·have e := run_equalIn_bool' w 9998 _ a b hu
   rw [show 9998 + 1 = 9999 from rfl] at e
   exact step _ _ _ (by simp [part, isAgg, run_underlying hu, h1]) (by simp [part, isAgg, run_underlying hu, h2]) e rfl (hget _ _ h1) (hget _ _ h2)
theorem run_equal {t : Nat} (hE : Eqs P t sp) (ht : Typed P sp xs ys) (w : World) : (Op.equalIn 10000 t (.agg xs) (.agg ys)).run P w = .ok (allAlike sp xs ys) w := by
 rw [run_equalIn_struct w 9999 _ _ _ hE.und hE.held]
 exact run_eqFields w sp _ hE.flds ht
section
variable {ops : Array Oper} {rest : List Oper} {o : Oper} {a : Act} {w : World} {K0 : Act → World → Prop} {Q : Exit → Act → World → Prop} {t : Nat} {b : Bool}
theorem wp_eq (hE : Eqs P t sp) (ht : Typed P sp xs ys) (x y : Operand) (T' : TypeId) (ho : o.op = .binOp .eql t x y T') (hx : a.eval x = .agg xs) (hy : a.eval y = .agg ys) (hb : allAlike sp xs ys = b)
  (h : K0 (a.put o.dst (.bool b)) w) : o.wp P a w K0 Q := by
 subst hb
 unfold Oper.wp execOp
 simp only [ho, hx, hy, Sem.run_bind, Sem.run_pure, run_eqGuard_agg w _ _ _ _ _ _ hE.guard, Result.andThen_ok, run_eql_struct, run_equal hE ht]
 exact h
theorem eq (hE : Eqs P t sp) (ht : Typed P sp xs ys) (hw : Region.wanted o (yielded ops a.tmps) = true) (x y : Operand) (T' : TypeId) (ho : o.op = .binOp .eql t x y T') (hx : a.eval x = .agg xs) (hy : a.eval y = .agg ys) (hb : allAlike sp xs ys = b)
  (h : wpList P ops Q rest (a.put o.dst (.bool b)) w) : wpList P ops Q (o :: rest) a w := by
 refine wpList_step fun K hK => ?_
 rw [if_pos hw]
 exact wp_eq hE ht x y T' ho hx hy hb (hK _ _ h)
theorem wp_ne (hE : Eqs P t sp) (ht : Typed P sp xs ys) (x y : Operand) (T' : TypeId) (ho : o.op = .binOp .neq t x y T') (hx : a.eval x = .agg xs) (hy : a.eval y = .agg ys) (hb : (!allAlike sp xs ys) = b)
  (h : K0 (a.put o.dst (.bool b)) w) : o.wp P a w K0 Q := by
 subst hb
 unfold Oper.wp execOp
 simp only [ho, hx, hy, Sem.run_bind, Sem.run_pure, run_eqGuard_agg w _ _ _ _ _ _ hE.guard, Result.andThen_ok, run_neq_struct, run_equal hE ht]
 exact h
theorem ne (hE : Eqs P t sp) (ht : Typed P sp xs ys) (hw : Region.wanted o (yielded ops a.tmps) = true) (x y : Operand) (T' : TypeId) (ho : o.op = .binOp .neq t x y T') (hx : a.eval x = .agg xs) (hy : a.eval y = .agg ys) (hb : (!allAlike sp xs ys) = b)
  (h : wpList P ops Q rest (a.put o.dst (.bool b)) w) : wpList P ops Q (o :: rest) a w := by
 refine wpList_step fun K hK => ?_
 rw [if_pos hw]
 exact wp_ne hE ht x y T' ho hx hy hb (hK _ _ h)
end
end Go.Proofs.Ytpmlfhgdhnofbaa.St
namespace Go.Proofs.Ytpmlfhgdhnofbaa.St
open Go.RowKit
variable {α : Type} {P : Program} {D : Sp α}
def flat (D : Sp α) : List α → List Value
 | [] => []
 | x :: L => (D.f x).toList ++ flat D L
theorem flat_app : ∀ A C : List α, flat D (A ++ C) = flat D A ++ flat D C
 | [], _ => rfl
 | x :: A, C => by rw [List.cons_append, flat, flat, flat_app A C, List.append_assoc]
theorem flat_cons1 (x : α) : flat D [x] = (D.f x).toList := by rw [flat, flat, List.append_nil]
theorem flat_len (hD : D.Ok P) : ∀ L : List α, (flat D L).length = L.length * D.k
 | [] => by simp [flat]
 | x :: L => by
  rw [flat, List.length_append, Array.length_toList, hD.size, flat_len hD L, List.length_cons, Nat.succ_mul]
  omega
theorem flat_at (hD : D.Ok P) : ∀ {L : List α} {j : Nat} {x : α}, L[j]? = some x → ∀ (i : Nat) (u : Value), (D.f x)[i]? = some u → (flat D L)[j * D.k + i]? = some u
 | [], j, x, h => by simp at h
 | y :: L, 0, x, h => by
  simp only [List.getElem?_cons_zero, Option.some.injEq] at h
  subst h
  intro i u hu
  have hi : i < (D.f y).size := (Array.getElem?_eq_some_iff.1 hu).1
  rw [Nat.zero_mul, Nat.zero_add, flat, List.getElem?_append_left (by simpa using hi)]
  simpa using hu
 | y :: L, j + 1, x, h => by
  rw [List.getElem?_cons_succ] at h
  intro i u hu
  have := flat_at hD h i u hu
  rw [flat, List.getElem?_append_right (by rw [Array.length_toList, hD.size, Nat.succ_mul]; omega), Array.length_toList, hD.size, show (j + 1) * D.k + i - D.k = j * D.k + i by rw [Nat.succ_mul]; omega]
  exact this
theorem flat_take (hD : D.Ok P) : ∀ (L : List α) (n : Nat), flat D (L.take n) = (flat D L).take (n * D.k)
 | [], n => by simp [flat]
 | x :: L, 0 => by simp [flat]
 | x :: L, n + 1 => by
  have hs := hD.size x
  rw [List.take_succ_cons, flat, flat, flat_take hD L n, List.take_append, Array.length_toList, hs, List.take_of_length_le (l := (D.f x).toList) (by rw [Array.length_toList, hs, Nat.succ_mul]; omega), show (n + 1) * D.k - D.k = n * D.k by rw [Nat.succ_mul]; omega]
theorem flat_drop (hD : D.Ok P) : ∀ (L : List α) (n : Nat), flat D (L.drop n) = (flat D L).drop (n * D.k)
 | [], n => by simp [flat]
 | x :: L, 0 => by simp
 | x :: L, n + 1 => by
  have hs := hD.size x
  rw [List.drop_succ_cons, flat, flat_drop hD L n, List.drop_append, Array.length_toList, hs, List.drop_of_length_le (l := (D.f x).toList) (by rw [Array.length_toList, hs, Nat.succ_mul]; omega), List.nil_append, show (n + 1) * D.k - D.k = n * D.k by rw [Nat.succ_mul]; omega]
theorem flat_one (hD : D.Ok P) : ∀ (L : List α), One (flat D L)
 | [] => fun u hu => by simp [flat] at hu
 | x :: L => fun u hu => by
  rw [flat, List.mem_append] at hu
  rcases hu with hu | hu
  ·exact Array.all_eq_true_iff_forall_mem.1 (hD.one x) u (by simpa using hu)
  ·exact flat_one hD L u hu
def RdS (D : Sp α) (w : World) (S : List Nat) (v : Value) (L : List α) : Prop :=
 ∃ A c, v = .slice A L.length c ∧ L.length ≤ c ∧ c ≤ maxLen ∧ (0 < L.length → ∃ b off, A = some ⟨b, off, none⟩ ∧ b < w.heap.size ∧ b ∉ S ∧ ∀ i u, (flat D L)[i]? = some u → w.cell? ⟨b, off + i, none⟩ = some u)
section
variable {w w' : World} {S S' : List Nat} {v : Value} {L : List α}
theorem RdS.up (h : RdS D w S v L) (hk : Kp S w w') (hS : ∀ k ∈ S', k ∈ S ∨ w.heap.size ≤ k) : RdS D w' S' v L := by
 obtain ⟨A, c, e, h1, h2, h3⟩ := h
 refine ⟨A, c, e, h1, h2, fun hp => ?_⟩
 obtain ⟨b, off, ea, hb, hn, hc⟩ := h3 hp
 refine ⟨b, off, ea, Nat.lt_of_lt_of_le hb hk.size, fun hm => ?_, fun i u hu => (World.cell?_of_block (w := w) (a := ⟨b, off + i, none⟩) (hk.block b hb hn)).trans (hc i u hu)⟩
 rcases hS b hm with h | h
 ·exact hn h
 ·omega
theorem RdS.bel (h : RdS D w S v L) (hb : Below w.heap.size w w') : RdS D w' S v L := h.up (Kp.of_below hb _) fun _ hk => .inl hk
theorem RdS.nil (D : Sp α) (w : World) (S : List Nat) : RdS D w S (.slice none 0 0) [] := ⟨none, 0, rfl, Nat.le_refl _, by simp [maxLen], fun h => absurd h (by simp)⟩
theorem RdS.shape (h : RdS D w S v L) : ∃ A c, v = .slice A L.length c ∧ L.length ≤ c ∧ c ≤ maxLen := by
 obtain ⟨A, c, e, h1, h2, _⟩ := h
 exact ⟨A, c, e, h1, h2⟩
theorem RdS.open_ {A : Option Addr} {n c : Nat} (h : RdS D w S (.slice A n c) L) (hp : 0 < L.length) : ∃ b off, A = some ⟨b, off, none⟩ ∧ b < w.heap.size ∧ b ∉ S ∧ ∀ i u, (flat D L)[i]? = some u → w.cell? ⟨b, off + i, none⟩ = some u := by
 obtain ⟨A', c', e, h1, h2, h3⟩ := h
 injection e with e1 e2 e3
 subst e1
 exact h3 hp
theorem RdS.at_ (hD : D.Ok P) {b off n c j : Nat} {x : α} (h : RdS D w S (.slice (some ⟨b, off, none⟩) n c) L) (hj : L[j]? = some x) : (∀ i u, (D.f x)[i]? = some u → w.cell? ⟨b, off + j * D.k + i, none⟩ = some u) ∧ b < w.heap.size := by
 have hlt := (List.getElem?_eq_some_iff.1 hj).1
 obtain ⟨b', off', e, hb, _, hc⟩ := h.open_ (by omega)
 simp only [Option.some.injEq, Addr.mk.injEq, and_true] at e
 obtain ⟨rfl, rfl⟩ := e
 exact ⟨fun i u hu => by rw [Nat.add_assoc]; exact hc _ _ (flat_at hD hj i u hu), hb⟩
theorem RdS.all (hD : D.Ok P) {b off n c j : Nat} {x : α} (h : RdS D w S (.slice (some ⟨b, off, none⟩) n c) L) (hj : L[j]? = some x) : ∀ (i : Nat) (u : Value), (D.f x)[i]? = some u → w.cell? ((⟨b, off + j * D.k, none⟩ : Addr).add i) = some u := fun i u hu => by
 rw [Addr.add_lit]
 exact (h.at_ hD hj).1 i u hu
theorem RdS.to_ (hD : D.Ok P) {A : Option Addr} {n c k : Nat} (h : RdS D w S (.slice A n c) L) (hk : k ≤ L.length) : RdS D w S (.slice A k c) (L.take k) := by
 obtain ⟨A', c', e, h1, h2, h3⟩ := h
 injection e with e1 e2 e3
 subst e1 e3
 have hl : (L.take k).length = k := by simp; omega
 refine ⟨A, c, by rw [hl], by omega, h2, fun hp => ?_⟩
 obtain ⟨b, off, ea, hb, hn, hc⟩ := h3 (by omega)
 refine ⟨b, off, ea, hb, hn, fun i u hu => hc i u ?_⟩
 rw [flat_take hD, List.getElem?_take] at hu
 split at hu
 ·exact hu
 ·cases hu
theorem RdS.from_ (hD : D.Ok P) {b off n c k : Nat} (h : RdS D w S (.slice (some ⟨b, off, none⟩) n c) L) (hk : k ≤ L.length) : RdS D w S (.slice (some ⟨b, off + k * D.k, none⟩) (n - k) (c - k)) (L.drop k) := by
 obtain ⟨A', c', e, h1, h2, h3⟩ := h
 injection e with e1 e2 e3
 subst e1 e2 e3
 have hl : (L.drop k).length = L.length - k := by simp
 refine ⟨_, _, by rw [hl], by omega, by omega, fun hp => ?_⟩
 obtain ⟨b', off', ea, hb, hn, hc⟩ := h3 (by omega)
 simp only [Option.some.injEq, Addr.mk.injEq, and_true] at ea
 obtain ⟨rfl, rfl⟩ := ea
 refine ⟨b, off + k * D.k, rfl, hb, hn, fun i u hu => ?_⟩
 rw [flat_drop hD, List.getElem?_drop] at hu
 rw [Nat.add_assoc]
 exact hc _ _ hu
theorem RdS.new (w : World) (S : List Nat) (L : List α) (cs : Array Value) (hcs : cs.toList = flat D L) (hS : w.heap.size ∉ S) (hm : L.length ≤ maxLen) (t : Nat) : RdS D (w.alloc (.cells cs t)) S (.slice (some ⟨w.heap.size, 0, none⟩) L.length L.length) L := by
 refine ⟨_, _, rfl, Nat.le_refl _, hm, fun _ => ⟨w.heap.size, 0, rfl, by simp, hS, fun i u hu => ?_⟩⟩
 rw [Nat.zero_add, cell_of_row _ w.heap.size i _ t (0, 0) (heap_alloc_new w _)]
 rw [← hcs] at hu
 simpa using hu
end
def OwS (D : Sp α) (w : World) (B : Nat) (v : Value) (L : List α) : Prop := w.ownsRow B D.t D.k v L.length (flat D L)
section
variable {w w' : World} {B : Nat} {v x : Value} {L M : List α} {S : List Nat}
theorem OwS.lt (h : OwS D w B v L) : ∀ k, v.ownBlock = some k → B ≤ k ∧ k < w.heap.size := World.ownsRow.lt h
theorem OwS.ge (h : OwS D w B v L) : ∀ k, v.ownBlock = some k → B ≤ k := fun k hk => (h.lt k hk).1
theorem OwS.nil (D : Sp α) (w : World) (B : Nat) : OwS D w B (.slice none 0 0) [] := ⟨by simp [flat], .inl ⟨rfl, rfl⟩⟩
theorem OwS.empty (D : Sp α) (w : World) (hB : B ≤ w.heap.size) (t : Nat) (ht : t = D.t) : OwS D (w.alloc (.cells #[] t)) B (.slice (some ⟨w.heap.size, 0, none⟩) 0 0) [] := by
 subst ht
 exact ⟨by simp [flat], .inr ⟨w.heap.size, 0, #[], rfl, hB, heap_alloc_new _ _, Nat.le_refl _, by simp [maxLen], by simp, by simp [flat]⟩⟩
theorem OwS.new (hD : D.Ok P) (w : World) (hB : B ≤ w.heap.size) (L : List α) (cs : Array Value) (hcs : cs.toList = flat D L) (hm : L.length ≤ maxLen) : OwS D (w.alloc (.cells cs D.t)) B (.slice (some ⟨w.heap.size, 0, none⟩) L.length L.length) L := by
 have hl : cs.size = L.length * D.k := by rw [← flat_len hD, ← hcs, Array.length_toList]
 exact ⟨flat_len hD L, .inr ⟨w.heap.size, L.length, cs, rfl, hB, heap_alloc_new _ _, Nat.le_refl _, hm, hl, by rw [hcs]; exact List.take_of_length_le (by rw [flat_len hD]; exact Nat.le_refl _)⟩⟩
theorem OwS.below (h : OwS D w B v L) (hb : Below w.heap.size w w') : OwS D w' B v L := by
 obtain ⟨h1, h2⟩ := h
 refine ⟨h1, ?_⟩
 rcases h2 with h2 | ⟨g, cap, cur, hv, hg, hh, r⟩
 ·exact .inl h2
 ·exact .inr ⟨g, cap, cur, hv, hg, by rw [hb.block g (Array.getElem?_eq_some_iff.1 hh).1]; exact hh, r⟩
theorem OwS.mono {B' : Nat} (h : OwS D w B v L) (hB : B' ≤ B) : OwS D w B' v L := by
 obtain ⟨h1, h2⟩ := h
 refine ⟨h1, ?_⟩
 rcases h2 with h2 | ⟨g, cap, cur, hv, hg, r⟩
 ·exact .inl h2
 ·exact .inr ⟨g, cap, cur, hv, Nat.le_trans hB hg, r⟩
theorem OwS.kept {row : Option Nat} (h : OwS D w B v L) (hg : w.grownBy w' row) (hne : ∀ k, v.ownBlock = some k → row ≠ some k) : OwS D w' B v L :=
 World.ownsRow.kept h hg (by
  cases hu : v.ownBlock with
  | none => exact .inl rfl
  | some k => exact .inr fun e => hne k hu e.symm)
theorem OwS.open_ (h : OwS D w B v L) (hp : 0 < L.length) : ∃ g cap cur, v = .slice (some ⟨g, 0, none⟩) L.length cap ∧ B ≤ g ∧ w.heap[g]? = some (.cells cur D.t (0, 0)) ∧ L.length ≤ cap ∧ cap ≤ maxLen ∧ cur.size = cap * D.k ∧ cur.toList.take (L.length * D.k) = flat D L := by
 rcases h.2 with ⟨_, h2⟩ | h2
 ·omega
 ·exact h2
theorem OwS.rd (h : OwS D w B v L) (hS : ∀ k ∈ S, k < B) : RdS D w S v L := by
 obtain ⟨hl, h2⟩ := h
 rcases h2 with ⟨rfl, hn⟩ | ⟨g, cap, cur, rfl, hbg, hg, hnc, hcm, hcs, htake⟩
 ·have : L = [] := List.eq_nil_of_length_eq_zero hn
  subst this
  exact RdS.nil D w S
 ·refine ⟨some ⟨g, 0, none⟩, cap, rfl, hnc, hcm, fun _ => ⟨g, 0, rfl, (Array.getElem?_eq_some_iff.1 hg).1, fun hm => by have := hS g hm; omega, fun i u hu => ?_⟩⟩
  rw [Nat.zero_add, cell_of_row w g i cur _ (0, 0) hg]
  rw [← htake, List.getElem?_take] at hu
  split at hu
  ·simpa using hu
  ·cases hu
theorem run_app (hD : D.Ok P) (hts : P.underlying D.ts = some (.slice D.t)) (ty : TypeId) (ho : OwS D w B v L) (hr : RdS D w S x M) (hlen : L.length + M.length ≤ maxLen) (hby : (L.length + M.length) * D.bytes ≤ 140737488355328) (hB : B ≤ w.heap.size) :
  ∃ v' w', (Builtin.append_ #[D.ts, D.ts] ty #[v, x]).run P w = .ok v' w' ∧ OwS D w' B v' (L ++ M) ∧ w.grownBy w' v.ownBlock ∧ (v'.ownBlock = v.ownBlock ∨ v'.ownBlock = some w.heap.size) := by
 obtain ⟨i, hi, hi0, hi1, hi2⟩ := info_parts hD.info
 obtain ⟨A, c, rfl, hc, hm, hcell⟩ := hr
 rcases Nat.eq_zero_or_pos M.length with h0 | hp
 ·have hy : M = [] := List.eq_nil_of_length_eq_zero h0
  subst hy
  have hrun : (Builtin.append_ #[D.ts, D.ts] ty #[v, .slice A 0 c]).run P w = .ok v w := by
   rcases ho.2 with ⟨rfl, hn⟩ | ⟨g, cap, cur, rfl, _, _, hnc, _⟩
   ·cases A with
    | none => simp [Builtin.append_, run_underlying hts, sizeOf, typeInfo, hi, Builtin.lenOf, Builtin.firstCells]
    | some a => simp [Builtin.append_, run_underlying hts, sizeOf, typeInfo, hi, Builtin.lenOf, Builtin.firstCells, loadCells, loadCellsFrom]
   ·cases A with
    | none => simp [Builtin.append_, run_underlying hts, sizeOf, typeInfo, hi, Builtin.lenOf, Builtin.firstCells, hnc, storeCells]
    | some a => simp [Builtin.append_, run_underlying hts, sizeOf, typeInfo, hi, Builtin.lenOf, Builtin.firstCells, hnc, storeCells, loadCells, loadCellsFrom]
  exact ⟨v, w, hrun, by rw [List.append_nil]; exact ho, World.grownBy.refl w _, .inl rfl⟩
 ·obtain ⟨b, off, rfl, hb, _, hcc⟩ := hcell hp
  obtain ⟨v', w', hrun, h2, h3, _, h5⟩ := run_append_own_at (P := P) w B D.ts ty D.t i _ D.k D.bytes hts hi hi0 hi1 hi2 (by show (D.f D.z).size = _; exact hD.size _) hD.pos v L.length (flat D L) ho ⟨b, off, none⟩ M.length c (flat D M) (flat_len hD M)
   (fun j u hj => by rw [Addr.add_lit]; exact hcc j u hj) (flat_one hD M) hlen hby hB
  exact ⟨v', w', hrun, by unfold OwS; rw [List.length_append, flat_app]; exact h2, h3, h5⟩
theorem step_app {ops : Array Oper} {o : Oper} {a : Act} {K : Act → World → Prop} {Q : Exit → Act → World → Prop} {E : Prop} (hD : D.Ok P) (hts : P.underlying D.ts = some (.slice D.t)) (hgd : o.guard = none) (s y : Operand)
  (ho : o.op = .call { callee := .builtin .append, args := #[s, y], argTypes := #[D.ts, D.ts] })
  (hs : a.eval s = v) (hown : OwS D w B v L) (hy : a.eval y = x) (hr : RdS D w S x M) (hlen : L.length + M.length ≤ maxLen) (hby : (L.length + M.length) * D.bytes ≤ 140737488355328) (hB : B ≤ w.heap.size)
  (hK : ∀ v' w', OwS D w' B v' (L ++ M) → w.grownBy w' v.ownBlock → (v'.ownBlock = v.ownBlock ∨ v'.ownBlock = some w.heap.size) → K (a.put o.dst v') w') :
  if Region.wanted o (yielded ops a.tmps) = true then Oper.wp P o a w K Q else E := by
 have hw : Region.wanted o (yielded ops a.tmps) = true := by simp [Region.wanted, hgd]
 rw [if_pos hw]
 obtain ⟨v', w', hrun, h2, h3, h4⟩ := run_app hD hts o.type hown hr hlen hby hB
 unfold Oper.wp
 simp [execOp, ho, resolve, invoke, builtin, hs, hy, hrun, Result.andThen]
 exact hK v' w' h2 h3 h4
end
structure Turned (t g : Nat) (cur : Array Value) (w w' : World) : Prop where
 i : w'.heap[g]? = some (.cells cur t (0, 0))
 b : Below g w w'
 z : w'.heap.size = w.heap.size
 o : ∀ k, k ≠ g → w'.heap[k]? = w.heap[k]?
theorem Turned.of {t g : Nat} {cur0 : Array Value} {w : World} (cur : Array Value) (hg : w.heap[g]? = some (.cells cur0 t (0, 0))) : Turned t g cur w (w.setRow g cur) :=
 ⟨setRow_heap w g cur0 cur _ _ hg, below_setRow (Below.refl _ _) (Nat.le_refl _) _, by simp, fun k hk => setRow_other _ _ _ _ hk⟩
theorem Turned.cell {t g i : Nat} {cur : Array Value} {w : World} (u : Value) (hg : w.heap[g]? = some (.cells cur t (0, 0))) : Turned t g (cur.setIfInBounds i u) w (w.setCell ⟨g, i, none⟩ u) :=
 ⟨heap_setCell_same _ _ _ _ _ _ hg, (Below.refl _ _).setCell (p := ⟨g, i, none⟩) (Nat.le_refl _) u, by simp, fun k hk => heap_setCell_other _ _ _ _ (by simpa using hk)⟩
theorem Turned.grown {t g : Nat} {cur : Array Value} {w w' : World} (h : Turned t g cur w w') : w.grownBy w' (some g) :=
 ⟨h.b.os, h.b.tape, h.b.output, by rw [h.z]; exact Nat.le_refl _, fun k _ hk => h.o k fun e => hk (by rw [e])⟩
def cpd (cur : Array Value) (o : Nat) (vs : List Value) : Array Value := (cur.toList.take o ++ vs ++ cur.toList.drop (o + vs.length)).toArray
theorem cpd_size {cur : Array Value} {o : Nat} {vs : List Value} (hfit : o + vs.length ≤ cur.size) : (cpd cur o vs).size = cur.size := by
 unfold cpd
 simp
 omega
theorem run_store (hD : D.Ok P) (w : World) (g o e : Nat) (cur : Array Value) (c : α) (hg : w.heap[g]? = some (.cells cur e (0, 0))) (hfit : o + D.k ≤ cur.size) :
  (storeVar D.t ⟨g, o, none⟩ (.agg (D.f c))).run P w = .ok () (w.setRow g (cpd cur o (D.f c).toList)) := by
 obtain ⟨i, hi, hi0, hi1, hi2⟩ := info_parts hD.info
 have hst := run_storeCells_at P g o e (D.f c).toList 0 cur w hg (by rw [Array.length_toList, hD.size]; simpa using hfit) (fun v hv => Array.all_eq_true_iff_forall_mem.1 (hD.one c) v (by simpa using hv))
 have h5 : (Value.agg (D.f c)).cells.size = i.size := by rw [hi1]; exact hD.size c
 have h6 : (Value.agg (D.f c)).cells.toList = (D.f c).toList := rfl
 simp [storeVar, sizeOf, typeInfo, hi, h5, h6, hst, cpd]
section
variable {ops : Array Oper} {o : Oper} {a : Act} {w : World} {K0 : Act → World → Prop} {Q : Exit → Act → World → Prop} {g n e : Nat} {cur : Array Value} {c : α}
theorem wp_storeAt (hD : D.Ok P) (x y : Operand) (ho : o.op = .store D.t x y) (hx : a.eval x = .pointer (some ⟨g, n, none⟩)) (hy : a.eval y = .agg (D.f c)) (hg : w.heap[g]? = some (.cells cur e (0, 0))) (hfit : n + D.k ≤ cur.size)
  (h : ∀ w', Turned e g (cpd cur n (D.f c).toList) w w' → K0 (a.put o.dst undef) w') : o.wp P a w K0 Q := by
 unfold Oper.wp execOp
 simp only [ho, hx, hy, Instr.storeAt, Instr.sureAddr, Sem.run_bind, Sem.run_pure, Result.andThen_ok, run_store hD w g n e cur c hg hfit]
 exact h _ (Turned.of _ hg)
theorem storeAt {rest : List Oper} (hD : D.Ok P) (hgd : o.guard = none) (x y : Operand) (ho : o.op = .store D.t x y) (hx : a.eval x = .pointer (some ⟨g, n, none⟩)) (hy : a.eval y = .agg (D.f c)) (hg : w.heap[g]? = some (.cells cur e (0, 0))) (hfit : n + D.k ≤ cur.size)
  (h : Held (∀ w', Turned e g (cpd cur n (D.f c).toList) w w' → wpList P ops Q rest (a.put o.dst undef) w')) : wpList P ops Q (o :: rest) a w :=
 wpList_plain hgd fun _ hK => wp_storeAt hD x y ho hx hy hg hfit fun w' ht => hK _ _ (h.out w' ht)
end
theorem cpd_set (hD : D.Ok P) {cur : Array Value} {L : List α} {c : α} {j cap : Nat} (hj : j < L.length) (hc : L.length ≤ cap) (hcs : cur.size = cap * D.k) (ht : cur.toList.take (L.length * D.k) = flat D L) :
  (cpd cur (j * D.k) (D.f c).toList).size = cap * D.k ∧ (cpd cur (j * D.k) (D.f c).toList).toList.take (L.length * D.k) = flat D (L.set j c) := by
 have hk := hD.size c
 have hmul : (j + 1) * D.k ≤ L.length * D.k := Nat.mul_le_mul_right _ (by omega)
 have hmul2 : L.length * D.k ≤ cap * D.k := Nat.mul_le_mul_right _ hc
 have hsucc : (j + 1) * D.k = j * D.k + D.k := Nat.succ_mul _ _
 have hlen : (D.f c).toList.length = D.k := by rw [Array.length_toList, hk]
 refine ⟨by rw [cpd_size (by rw [hlen, hcs]; omega), hcs], ?_⟩
 have e1 : (cpd cur (j * D.k) (D.f c).toList).toList = cur.toList.take (j * D.k) ++ ((D.f c).toList ++ cur.toList.drop ((j + 1) * D.k)) := by
  unfold cpd
  rw [hlen, hsucc, List.append_assoc]
 have ht1 : cur.toList.take (j * D.k) = flat D (L.take j) := by rw [flat_take hD, ← ht, List.take_take, Nat.min_eq_left (by omega)]
 have htl : (flat D (L.take j)).length = j * D.k := by rw [flat_len hD, List.length_take, Nat.min_eq_left (by omega)]
 have ht2 : (cur.toList.drop ((j + 1) * D.k)).take (L.length * D.k - (j + 1) * D.k) = flat D (L.drop (j + 1)) := by
  rw [flat_drop hD, ← ht, List.drop_take]
 rw [e1, ht1, List.set_eq_take_append_cons_drop, if_pos hj, flat_app, show c :: L.drop (j + 1) = [c] ++ L.drop (j + 1) from rfl, flat_app, ← ht2, flat_cons1, List.take_append, htl, List.take_append, hlen, List.take_of_length_le (by rw [htl]; omega), List.take_of_length_le (l := (D.f c).toList) (by rw [hlen]; omega), show L.length * D.k - j * D.k - D.k = L.length * D.k - (j + 1) * D.k by omega]
theorem OwS.stored (hD : D.Ok P) {w w' : World} {B g cap j : Nat} {cur : Array Value} {L : List α} {c : α} (hB : B ≤ g) (hj : j < L.length) (hc : L.length ≤ cap) (hm : cap ≤ maxLen) (hcs : cur.size = cap * D.k) (ht : cur.toList.take (L.length * D.k) = flat D L) (h : Turned D.t g (cpd cur (j * D.k) (D.f c).toList) w w') :
  OwS D w' B (.slice (some ⟨g, 0, none⟩) L.length cap) (L.set j c) := by
 obtain ⟨h1, h2⟩ := cpd_set hD (c := c) hj hc hcs ht
 exact ⟨by rw [flat_len hD], .inr ⟨g, cap, _, by rw [List.length_set], hB, h.i, by rw [List.length_set]; exact hc, hm, h1, by rw [List.length_set]; exact h2⟩⟩
theorem set_part (hD : D.Ok P) {cur : Array Value} {L : List α} {x y : α} {i j cap : Nat} {u : Value} (hj : L[j]? = some x) (hi : i < D.k) (hc : L.length ≤ cap) (hcs : cur.size = cap * D.k) (ht : cur.toList.take (L.length * D.k) = flat D L) (hy : (D.f x).setIfInBounds i u = D.f y) :
  cur.setIfInBounds (j * D.k + i) u = cpd cur (j * D.k) (D.f y).toList := by
 have hjl := (List.getElem?_eq_some_iff.1 hj).1
 have hmul : (j + 1) * D.k ≤ L.length * D.k := Nat.mul_le_mul_right _ (by omega)
 have hmul2 : L.length * D.k ≤ cap * D.k := Nat.mul_le_mul_right _ hc
 have hsucc : (j + 1) * D.k = j * D.k + D.k := Nat.succ_mul _ _
 have hlen : (D.f y).toList.length = D.k := by rw [Array.length_toList, hD.size]
 have hcl : cur.toList.length = cap * D.k := by simpa using hcs
 apply Array.toList_inj.1
 apply List.ext_getElem?
 intro m
 unfold cpd
 rw [Array.toList_setIfInBounds, List.getElem?_set, hlen]
 have hfy : ∀ q, q < D.k → (D.f y).toList[q]? = if q = i then some u else cur.toList[j * D.k + q]? := by
  intro q hq
  have hx : cur.toList[j * D.k + q]? = (D.f x)[q]? := by
   have h1 := flat_at hD hj q _ (Array.getElem?_eq_getElem (show q < (D.f x).size by rw [hD.size]; exact hq))
   rw [← ht, List.getElem?_take, if_pos (by omega)] at h1
   rw [h1, Array.getElem?_eq_getElem (show q < (D.f x).size by rw [hD.size]; exact hq)]
  rw [hx, ← hy, Array.toList_setIfInBounds, List.getElem?_set]
  by_cases e : i = q
  ·subst e
   rw [if_pos rfl, if_pos rfl, if_pos (by rw [Array.length_toList, hD.size]; exact hq)]
  ·rw [if_neg e, if_neg (fun e2 => e e2.symm), Array.getElem?_toList]
 rw [List.append_assoc, List.getElem?_append, List.length_take, Nat.min_eq_left (by omega)]
 by_cases h1 : m < j * D.k
 ·rw [if_pos h1, if_neg (by omega), List.getElem?_take, if_pos h1]
 ·rw [if_neg h1, List.getElem?_append, hlen]
  by_cases h2 : m - j * D.k < D.k
  ·rw [if_pos h2, hfy _ h2]
   by_cases e : j * D.k + i = m
   ·rw [if_pos e, if_pos (by omega), if_pos (by omega)]
   ·rw [if_neg e, if_neg (by omega), show j * D.k + (m - j * D.k) = m by omega]
  ·rw [if_neg h2, if_neg (by omega), List.getElem?_drop, show j * D.k + D.k + (m - j * D.k - D.k) = m by omega]
theorem OwS.part (hD : D.Ok P) {w : World} {B g cap i j : Nat} {cur : Array Value} {L : List α} {x y : α} {u : Value} (hB : B ≤ g) (hg : w.heap[g]? = some (.cells cur D.t (0, 0))) (hj : L[j]? = some x) (hi : i < D.k) (hc : L.length ≤ cap) (hm : cap ≤ maxLen) (hcs : cur.size = cap * D.k) (ht : cur.toList.take (L.length * D.k) = flat D L) (hy : (D.f x).setIfInBounds i u = D.f y) :
  OwS D (w.setCell ⟨g, j * D.k + i, none⟩ u) B (.slice (some ⟨g, 0, none⟩) L.length cap) (L.set j y) := by
 have h := Turned.cell (i := j * D.k + i) u hg
 rw [set_part hD hj hi hc hcs ht hy] at h
 exact OwS.stored hD hB (List.getElem?_eq_some_iff.1 hj).1 hc hm hcs ht h
section
variable {w : World} {g o dLen dCap sLen sCap : Nat} {ad : Addr} {cur : Array Value} {M : List α}
end
end Go.Proofs.Ytpmlfhgdhnofbaa.St
