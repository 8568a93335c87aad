/- Cells as values: a variable that holds one (boxed, made, loaded, stored, handed back), '==' of two, slices of them (read, owned, grown). -/
import Derived.Test.YtpflcnndloielaaClP
import Derived.Test.YtpflcnndloielaaBase
import Derived.Laws.StructEq
namespace Go.Proofs.Ytpflcnndloielaa.Ce
open Go.RowKit

def Cl.cs (c : Cl) : Array Value := #[.string c.row, .string c.col, .int .i64 c.at_, .string c.val, .bool c.gone]
def Cl.v (c : Cl) : Value := .agg c.cs
theorem cs_size (c : Cl) : c.cs.size = 5 := rfl
theorem cs_one (c : Cl) : c.cs.all (·.oneCell') = true := by simp [Cl.cs, Value.oneCell']
theorem sizeC : (Try.prog.info? 46).map (·.size) = some 5 := by kernel_rfl
theorem zeroC : (Try.prog.info? 46).map (·.zero) = some (some (.agg Cl.zero.cs)) := by kernel_rfl
/-- block g is a variable that holds c -/
structure InC (g : Nat) (c : Cl) (w : World) : Prop where
  h : w.heap[g]? = some (.cells c.cs 46 (0, 0))
section
variable {g : Nat} {c : Cl} {w w' : World}
theorem InC.c0 (h : InC g c w) : w.cell? ⟨g, 0, none⟩ = some (.string c.row) := cell_of_row _ _ 0 _ _ _ h.h
theorem InC.c1 (h : InC g c w) : w.cell? ⟨g, 1, none⟩ = some (.string c.col) := cell_of_row _ _ 1 _ _ _ h.h
theorem InC.c2 (h : InC g c w) : w.cell? ⟨g, 2, none⟩ = some (.int .i64 c.at_) := cell_of_row _ _ 2 _ _ _ h.h
theorem InC.c3 (h : InC g c w) : w.cell? ⟨g, 3, none⟩ = some (.string c.val) := cell_of_row _ _ 3 _ _ _ h.h
theorem InC.c4 (h : InC g c w) : w.cell? ⟨g, 4, none⟩ = some (.bool c.gone) := cell_of_row _ _ 4 _ _ _ h.h
theorem InC.lt (h : InC g c w) : g < w.heap.size := (Array.getElem?_eq_some_iff.1 h.h).1
theorem InC.bel {B : Nat} (h : InC g c w) (hb : Below B w w') (hB : g < B) : InC g c w' := ⟨(hb.block g hB).trans h.h⟩
theorem InC.up (h : InC g c w) (hb : Below w.heap.size w w') : InC g c w' := h.bel hb h.lt
theorem InC.new (w : World) (c : Cl) : InC w.heap.size c (w.alloc (.cells c.cs 46)) := ⟨heap_alloc_new _ _⟩
end
section
variable {ops : Array Oper} {rest : List Oper} {o : Oper} {a : Act} {w : World} {K0 : Act → World → Prop} {Q : Exit → Act → World → Prop} {g : Nat} {c : Cl}
/-- a parameter's box -/
theorem boxC (hg : o.guard = none) (x : Operand) (c : Cl) (ho : o.op = .box 46 x) (hx : a.eval x = c.v)
    (h : Held (∀ w', InC w.heap.size c w' → Below w.heap.size w w' → w'.heap.size = w.heap.size + 1 → wpList Try.prog ops Q rest (a.put o.dst (.pointer (some ⟨w.heap.size, 0, none⟩))) w')) : wpList Try.prog ops Q (o :: rest) a w :=
  wpList_boxRow hg _ x ho c.cs hx (h.out _ (InC.new w c) (bwalloc (Below.refl _ _) _) (by simp))
/-- a new variable -/
theorem allocC (hg : o.guard = none) (ho : o.op = .alloc 46)
    (h : Held (∀ w', InC w.heap.size Cl.zero w' → Below w.heap.size w w' → w'.heap.size = w.heap.size + 1 → wpList Try.prog ops Q rest (a.put o.dst (.pointer (some ⟨w.heap.size, 0, none⟩))) w')) : wpList Try.prog ops Q (o :: rest) a w :=
  wpList_allocRow hg _ ho Cl.zero.cs zeroC (h.out _ (InC.new w Cl.zero) (bwalloc (Below.refl _ _) _) (by simp))
/-- what a store into block g leaves -/
structure SetC (g : Nat) (c : Cl) (w w' : World) : Prop where
  i : InC g c w'
  b : Below g w w'
  z : w'.heap.size = w.heap.size
  o : ∀ k, k ≠ g → w'.heap[k]? = w.heap[k]?
theorem SetC.of {c0 : Cl} (h : InC g c0 w) : SetC g c w (w.setRow g c.cs) := by
  refine ⟨⟨?_⟩, below_setRow (Below.refl _ _) (Nat.le_refl _) _, by simp, fun k hk => setRow_other _ _ _ _ hk⟩
  have := h.h
  unfold World.setRow
  simp [Array.getElem?_modify, this]
theorem SetC.bel {wa w' : World} {B : Nat} (h : SetC g c w w') (h0 : Below B wa w) (hB : B ≤ g) : Below B wa w' := h0.trans (h.b.mono hB)
theorem SetC.up {w' : World} {d : Cl} {k : Nat} (h : SetC g c w w') (h0 : InC k d w) (hk : k ≠ g) : InC k d w' := ⟨(h.o k hk).trans h0.h⟩
theorem storeC (hg : o.guard = none) (x y : Operand) (ho : o.op = .store 46 x y) (hx : a.eval x = .pointer (some ⟨g, 0, none⟩)) (hy : a.eval y = c.v) {c0 : Cl} (hi : InC g c0 w)
    (h : Held (∀ w', SetC g c w w' → wpList Try.prog ops Q rest (a.put o.dst undef) w')) : wpList Try.prog ops Q (o :: rest) a w :=
  wpList_storeRow hg _ x y ho g c.cs hx hy 46 c0.cs hi.h sizeC rfl (cs_one c) (h.out _ (SetC.of hi))
/-- a whole cell is loaded, wherever it stands -/
theorem run_loadV (w : World) (ad : Addr) (c : Cl) (hc : ∀ (k : Nat) (v : Value), c.cs.toList[k]? = some v → w.cell? (ad.add k) = some v) : (loadVar 46 ad).run Try.prog w = .ok c.v w := by
  have hl : (loadCells ad 5).run Try.prog w = .ok c.cs w := run_loadCells_list (P := Try.prog) w ad c.cs.toList hc
  have hu := Try.underlying46
  have hz := sizeC
  cases hq : Try.prog.info? 46 with
  | none => simp [hq] at hz
  | some i =>
    have hs : i.size = 5 := by simpa [hq] using hz
    have hagg : (isAgg 46).run Try.prog w = .ok true w := by
      unfold isAgg
      rw [Sem.run_bind, run_underlying hu w]
      rfl
    simp [loadVar, Sem.run_bind, hagg, sizeOf, typeInfo, hq, hs, hl, Cl.v]
theorem InC.all (h : InC g c w) : ∀ (k : Nat) (v : Value), c.cs.toList[k]? = some v → w.cell? ((⟨g, 0, none⟩ : Addr).add k) = some v := fun k v hv => by
  rw [Addr.add_lit, Nat.zero_add, cell_of_row w g k _ _ _ h.h]
  simpa using hv
theorem loadV (hw : Region.wanted o (yielded ops a.tmps) = true) (x : Operand) (ho : o.op = .load 46 x) (ad : Addr) (hx : a.eval x = .pointer (some ad)) (hc : ∀ (k : Nat) (v : Value), c.cs.toList[k]? = some v → w.cell? (ad.add k) = some v)
    (h : wpList Try.prog ops Q rest (a.put o.dst c.v) w) : wpList Try.prog ops Q (o :: rest) a w := by
  refine wpList_step fun K hK => ?_
  rw [if_pos hw]
  unfold Oper.wp execOp
  simp only [ho, hx, Instr.loadAt, Instr.sureAddr, Sem.run_bind, Sem.run_pure, Result.andThen_ok, run_loadV w ad c hc]
  exact hK _ _ h
theorem wp_loadV (x : Operand) (ho : o.op = .load 46 x) (ad : Addr) (hx : a.eval x = .pointer (some ad)) (hc : ∀ (k : Nat) (v : Value), c.cs.toList[k]? = some v → w.cell? (ad.add k) = some v)
    (h : K0 (a.put o.dst c.v) w) : o.wp Try.prog a w K0 Q := by
  unfold Oper.wp execOp
  simp only [ho, hx, Instr.loadAt, Instr.sureAddr, Sem.run_bind, Sem.run_pure, Result.andThen_ok, run_loadV w ad c hc]
  exact h
theorem loadC (hw : Region.wanted o (yielded ops a.tmps) = true) (x : Operand) (ho : o.op = .load 46 x) (hx : a.eval x = .pointer (some ⟨g, 0, none⟩)) (hi : InC g c w)
    (h : wpList Try.prog ops Q rest (a.put o.dst c.v) w) : wpList Try.prog ops Q (o :: rest) a w := loadV hw x ho _ hx hi.all h
theorem wp_loadC (x : Operand) (ho : o.op = .load 46 x) (hx : a.eval x = .pointer (some ⟨g, 0, none⟩)) (hi : InC g c w)
    (h : K0 (a.put o.dst c.v) w) : o.wp Try.prog a w K0 Q := wp_loadV x ho _ hx hi.all h
/-- '==' -/
theorem guardC : Try.prog.eqGuardType Try.prog.depth 46 = false := by kernel_rfl
theorem heldC : Try.prog.stoodInHeld 46 = false := by kernel_rfl
theorem fieldsC : Try.prog.underlying 46 = some (.struct (Try.prog.fieldsOf 46)) := by kernel_rfl
theorem fieldsL : (Try.prog.fieldsOf 46).toList.map (fun f => (f.name == "_", f.type, f.offset)) = [(false, 9, 0), (false, 9, 1), (false, 3, 2), (false, 9, 3), (false, 4, 4)] := by kernel_rfl
theorem beqS (a b : ByteArray) : (a.toList == b.toList) = decide (a = b) := by
  by_cases h : a = b
  · rw [str_eq h, decide_eq_true h]
  · rw [str_ne h, decide_eq_false h]
theorem run_eqC (x y : Operand) (a b : Cl) (w : World) : ((do eqGuard .eql 46 x y a.v b.v; binOp .eql 46 a.v b.v) : Sem Value).run Try.prog w = .ok (.bool (decide (a = b))) w := by
  have hs := Try.underlying9
  have hn := Try.underlying3
  have hb := Try.underlying4
  unfold Cl.v
  rw [Sem.run_bind, run_eqGuard_agg w _ _ _ _ _ _ guardC, Result.andThen_ok, run_eql_struct, run_equalIn_struct w 9999 _ _ _ fieldsC heldC]
  have key : ∀ fs : List Field, fs.map (fun f => (f.name == "_", f.type, f.offset)) = [(false, 9, 0), (false, 9, 1), (false, 3, 2), (false, 9, 3), (false, 4, 4)] →
      (Op.eqFields 9999 a.cs b.cs fs).run Try.prog w = .ok (decide (a = b)) w := by
    intro fs hfs
    obtain ⟨f0, fs, rfl, q0, hfs⟩ := List.map_eq_cons_iff.1 hfs
    obtain ⟨f1, fs, rfl, q1, hfs⟩ := List.map_eq_cons_iff.1 hfs
    obtain ⟨f2, fs, rfl, q2, hfs⟩ := List.map_eq_cons_iff.1 hfs
    obtain ⟨f3, fs, rfl, q3, hfs⟩ := List.map_eq_cons_iff.1 hfs
    obtain ⟨f4, fs, rfl, q4, hfs⟩ := List.map_eq_cons_iff.1 hfs
    obtain rfl := List.map_eq_nil_iff.1 hfs
    simp only [Prod.mk.injEq, beq_eq_false_iff_ne] at q0 q1 q2 q3 q4
    obtain ⟨n0, t0, o0⟩ := q0
    obtain ⟨n1, t1, o1⟩ := q1
    obtain ⟨n2, t2, o2⟩ := q2
    obtain ⟨n3, t3, o3⟩ := q3
    obtain ⟨n4, t4, o4⟩ := q4
    · skip
      have pS : ∀ (cs : Array Value) (k : Nat) (v : Value), cs[k]? = some v → (part 9 cs k).run Try.prog w = .ok v w := fun cs k v h => by simp [part, isAgg, run_underlying hs, h]
      have pI : ∀ (cs : Array Value) (k : Nat) (v : Value), cs[k]? = some v → (part 3 cs k).run Try.prog w = .ok v w := fun cs k v h => by simp [part, isAgg, run_underlying hn, h]
      have pB : ∀ (cs : Array Value) (k : Nat) (v : Value), cs[k]? = some v → (part 4 cs k).run Try.prog w = .ok v w := fun cs k v h => by simp [part, isAgg, run_underlying hb, h]
      have e0 := run_equalIn_string w 9998 _ a.row b.row hs
      rw [show 9998 + 1 = 9999 from rfl] at e0
      have e1 := run_equalIn_string w 9998 _ a.col b.col hs
      rw [show 9998 + 1 = 9999 from rfl] at e1
      have e2 := run_equalIn_int w 9998 _ .i64 _ a.at_ b.at_ hn
      rw [show 9998 + 1 = 9999 from rfl] at e2
      have e3 := run_equalIn_string w 9998 _ a.val b.val hs
      rw [show 9998 + 1 = 9999 from rfl] at e3
      have e4 := run_equalIn_bool' w 9998 _ a.gone b.gone hb
      rw [show 9998 + 1 = 9999 from rfl] at e4
      have step : ∀ (f : Field) (fs : List Field) (t k : Nat) (u v : Value) (q : Bool), f.name ≠ "_" → f.type = t → f.offset = k → (part t a.cs k).run Try.prog w = .ok u w → (part t b.cs k).run Try.prog w = .ok v w → (Op.equalIn 9999 t u v).run Try.prog w = .ok q w →
          (Op.eqFields 9999 a.cs b.cs (f :: fs)).run Try.prog w = if q = true then (Op.eqFields 9999 a.cs b.cs fs).run Try.prog w else .ok false w := by
        intro f fs t k u v q hn ht ho hu hv hq
        subst ht ho
        simp only [Op.eqFields, ne_eq, hn, not_false_eq_true, if_true, Sem.run_bind, hu, hv, hq, Result.andThen_ok]
        cases q <;> simp
      rw [beqS] at e0 e1 e3
      rw [step _ _ _ _ _ _ _ n0 t0 o0 (pS a.cs 0 (.string a.row) rfl) (pS b.cs 0 (.string b.row) rfl) e0, step _ _ _ _ _ _ _ n1 t1 o1 (pS a.cs 1 (.string a.col) rfl) (pS b.cs 1 (.string b.col) rfl) e1,
        step _ _ _ _ _ _ _ n2 t2 o2 (pI a.cs 2 (.int .i64 a.at_) rfl) (pI b.cs 2 (.int .i64 b.at_) rfl) e2, step _ _ _ _ _ _ _ n3 t3 o3 (pS a.cs 3 (.string a.val) rfl) (pS b.cs 3 (.string b.val) rfl) e3,
        step _ _ _ _ _ _ _ n4 t4 o4 (pB a.cs 4 (.bool a.gone) rfl) (pB b.cs 4 (.bool b.gone) rfl) e4]
      rw [show (Op.eqFields 9999 a.cs b.cs []).run Try.prog w = .ok true w from rfl]
      by_cases h0 : a.row = b.row
      · by_cases h1 : a.col = b.col
        · by_cases h2 : a.at_ = b.at_
          · by_cases h3 : a.val = b.val
            · by_cases h4 : a.gone = b.gone
              · have : a = b := Cl.ext' h0 h1 h2 h3 h4
                subst this
                simp
              · have : a ≠ b := fun e => h4 (by rw [e])
                simp [h0, h1, h2, h3, h4, this]
            · have : a ≠ b := fun e => h3 (by rw [e])
              simp [h0, h1, h2, h3, this]
          · have : a ≠ b := fun e => h2 (by rw [e])
            simp [h0, h1, h2, this]
        · have : a ≠ b := fun e => h1 (by rw [e])
          simp [h0, h1, this]
      · have : a ≠ b := fun e => h0 (by rw [e])
        simp [h0, this]
  rw [key _ fieldsL]
  rfl
theorem wp_eqC (x y : Operand) (T' : TypeId) (ho : o.op = .binOp .eql 46 x y T') (c d : Cl) (hx : a.eval x = c.v) (hy : a.eval y = d.v) {b : Bool} (hb : decide (c = d) = b)
    (h : K0 (a.put o.dst (.bool b)) w) : o.wp Try.prog a w K0 Q := by
  subst hb
  have e := run_eqC x y c d w
  rw [Sem.run_bind] at e
  unfold Oper.wp execOp
  simp only [ho, hx, hy, Sem.run_bind, Sem.run_pure]
  revert e
  cases (eqGuard .eql 46 x y c.v d.v).run Try.prog w with
  | ok u w1 =>
    simp only [Result.andThen_ok]
    intro e
    rw [e]
    exact h
  | halt u w1 => intro e; cases e
theorem eqC (hw : Region.wanted o (yielded ops a.tmps) = true) (x y : Operand) (T' : TypeId) (ho : o.op = .binOp .eql 46 x y T') (c d : Cl) (hx : a.eval x = c.v) (hy : a.eval y = d.v) {b : Bool} (hb : decide (c = d) = b)
    (h : wpList Try.prog ops Q rest (a.put o.dst (.bool b)) w) : wpList Try.prog ops Q (o :: rest) a w := by
  refine wpList_step fun K hK => ?_
  rw [if_pos hw]
  exact wp_eqC x y T' ho c d hx hy hb (hK _ _ h)
end
section
variable {fn : Func} {p q r : Tmp} {tmps : Array Value} {w : World} {g : Nat} {c : Cl}
/-- a cell and two more results -/
theorem res3 (h : fn.results = #[.cell p 46, .tmp q, .tmp r]) (hp : tmps.getD p undef = .pointer (some ⟨g, 0, none⟩)) (hi : InC g c w) :
    (results fn tmps).run Try.prog w = .ok (.tuple #[c.v, tmps.getD q undef, tmps.getD r undef]) w := by
  have hp' : tmps[p]?.getD undef = .pointer (some ⟨g, 0, none⟩) := by simpa using hp
  simp [results, h, hp', asAddr, run_loadV w _ c hi.all]
/-- a cell and one more result -/
theorem res2 (h : fn.results = #[.cell p 46, .tmp q]) (hp : tmps.getD p undef = .pointer (some ⟨g, 0, none⟩)) (hi : InC g c w) :
    (results fn tmps).run Try.prog w = .ok (.tuple #[c.v, tmps.getD q undef]) w := by
  have hp' : tmps[p]?.getD undef = .pointer (some ⟨g, 0, none⟩) := by simpa using hp
  simp [results, h, hp', asAddr, run_loadV w _ c hi.all]
end
end Go.Proofs.Ytpflcnndloielaa.Ce
