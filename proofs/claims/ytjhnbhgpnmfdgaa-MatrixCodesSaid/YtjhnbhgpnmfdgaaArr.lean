/- Variables that are arrays or structs, whole: made, boxed, loaded, stored, built, handed back. Of no function in particular. -/
import Derived.Test.YtjhnbhgpnmfdgaaGen
import Derived.Laws.Tables
import Derived.Great.FillDense
import Derived.OpenShut
import Derived.RegionTactic
namespace Go.Proofs.Ytjhnbhgpnmfdgaa
open Go.RowKit

/-- where the walk is to stand still: 'constructor' goes on -/
structure Held (p : Prop) : Prop where out : p
section
variable {P : Program} {ops : Array Oper} {rest : List Oper} {o : Oper} {a : Act} {w : World} {Q : Exit → Act → World → Prop}
theorem stopStore (ty : TypeId) (x y : Operand) (_ho : o.op = .store ty x y) (h : Held (wpList P ops Q (o :: rest) a w)) : wpList P ops Q (o :: rest) a w := h.out
theorem stopBuild (ty : TypeId) (ps : Array (Nat × Operand)) (_ho : o.op = .build ty ps) (h : Held (wpList P ops Q (o :: rest) a w)) : wpList P ops Q (o :: rest) a w := h.out
end
section
variable {P : Program} {ops : Array Oper} {rest : List Oper} {o : Oper} {a : Act} {w : World} {Q : Exit → Act → World → Prop}
/-- a new variable that is an array, or a struct -/
theorem wpList_allocRow (hg : o.guard = none) (ty : TypeId) (ho : o.op = .alloc ty) (cs : Array Value) (hz : (P.info? ty).map (·.zero) = some (some (.agg cs)))
    (h : wpList P ops Q rest (a.put o.dst (.pointer (some ⟨w.heap.size, 0, none⟩))) (w.alloc (.cells cs ty))) : wpList P ops Q (o :: rest) a w := by
  refine wpList_plain hg fun K hK => ?_
  cases hq : P.info? ty with
  | none => simp [hq] at hz
  | some i =>
    have hz' : i.zero = some (.agg cs) := by simpa [hq] using hz
    have hv : (zeroValue ty).run P w = .ok (.agg cs) w := by simp [zeroValue, typeInfo, hq, hz']
    unfold Oper.wp execOp
    simp only [ho, Instr.alloc, hv, newVar, newRow, Value.cells, run_newObj_alloc, Sem.run_bind, Sem.run_pure, Result.andThen_ok]
    exact hK _ _ h
/-- a variable that is boxed, an array or a struct -/
theorem wpList_boxRow (hg : o.guard = none) (ty : TypeId) (x : Operand) (ho : o.op = .box ty x) (cs : Array Value) (hx : a.eval x = .agg cs)
    (h : wpList P ops Q rest (a.put o.dst (.pointer (some ⟨w.heap.size, 0, none⟩))) (w.alloc (.cells cs ty))) : wpList P ops Q (o :: rest) a w := by
  refine wpList_plain hg fun K hK => ?_
  unfold Oper.wp execOp
  simp only [ho, hx, Instr.box, newVar, newRow, Value.cells, run_newObj_alloc, Sem.run_bind, Sem.run_pure, Result.andThen_ok]
  exact hK _ _ h
/-- a struct that is built, its cells said by the caller -/
theorem wpList_buildRow (hg : o.guard = none) (t : TypeId) (parts : Array (Nat × Operand)) (ho : o.op = .build t parts) (cs : Array Value)
    (hf : P.built t (parts.map fun (i, x) => (i, a.eval x)).toList = some cs)
    (h : wpList P ops Q rest (a.put o.dst (.agg cs)) w) : wpList P ops Q (o :: rest) a w :=
  wpList_build hg t parts ho (by rw [hf]; rfl) (by rw [hf]; exact h)
/-- the same of two parts -/
theorem wpList_buildRow2 (hg : o.guard = none) (t : TypeId) (i j : Nat) (x y : Operand) (ho : o.op = .build t #[(i, x), (j, y)]) (u v : Value) (hx : a.eval x = u) (hy : a.eval y = v) (cs : Array Value)
    (hf : P.built t [(i, u), (j, v)] = some cs) (h : wpList P ops Q rest (a.put o.dst (.agg cs)) w) : wpList P ops Q (o :: rest) a w :=
  wpList_buildRow hg t _ ho cs (by simp [hx, hy, hf]) h
theorem below_setRow {B : Nat} {w w' : World} (h : Below B w w') {g : Nat} (hg : B ≤ g) (cs : Array Value) : Below B w (w'.setRow g cs) :=
  h.trans ⟨rfl, rfl, rfl, by simp, fun k hk => setRow_other _ _ _ _ (by omega)⟩
/-- a store of an array, or a struct, into its own variable -/
theorem wpList_storeRow (hg : o.guard = none) (ty : TypeId) (x y : Operand) (ho : o.op = .store ty x y)
    (g : Nat) (cells : Array Value) (hx : a.eval x = .pointer (some ⟨g, 0, none⟩)) (hy : a.eval y = .agg cells)
    (t : TypeId) (old : Array Value) (hh : w.heap[g]? = some (.cells old t (0, 0))) (hi : (P.info? ty).map (·.size) = some cells.size)
    (hold : old.size = cells.size) (h1 : cells.all (·.oneCell') = true)
    (h : wpList P ops Q rest (a.put o.dst undef) (w.setRow g cells)) : wpList P ops Q (o :: rest) a w :=
  wpList_plain hg fun _ hK => wp_store_row ty x y ho g cells hx hy t old hh hi hold h1 (hK _ _ h)
end
section
variable {P : Program} {ops : Array Oper} {o : Oper} {a : Act} {w : World} {K : Act → World → Prop} {Q : Exit → Act → World → Prop} {E : Prop}
theorem setRow_id (w : World) (g : Nat) (cs : Array Value) (t : TypeId) (fr : Nat × Nat) (h : w.heap[g]? = some (.cells cs t fr)) : w.setRow g cs = w := by
  have hlt : g < w.heap.size := (Array.getElem?_eq_some_iff.1 h).1
  have hv : w.heap[g] = .cells cs t fr := (Array.getElem?_eq_some_iff.1 h).2
  unfold World.setRow
  cases w with
  | mk heap tape drawn os output =>
    congr 1
    apply Array.ext
    · simp
    · intro k h1 h2
      simp only [Array.getElem_modify]
      split
      · rename_i hk; subst hk; simp at hv; simp [hv]
      · rfl
/-- steps of a region that draws its order: a load of an array's variable, a store of what it holds already -/
theorem step_if {b : Bool} {T : Prop} (hb : b = true) (h : T) : if b = true then T else E := by rw [if_pos hb]; exact h
def LoadsAt (P : Program) (o : Oper) (a : Act) (w : World) (K : Act → World → Prop) (Q : Exit → Act → World → Prop) (ty : TypeId) (x : Operand) : Prop := o.op = .load ty x → o.wp P a w K Q
def StoresAt (P : Program) (o : Oper) (a : Act) (w : World) (K : Act → World → Prop) (Q : Exit → Act → World → Prop) (ty : TypeId) (x y : Operand) : Prop := o.op = .store ty x y → o.wp P a w K Q
theorem step_load (ty : TypeId) (x : Operand) (ho : o.op = .load ty x) (h : LoadsAt P o a w K Q ty x) : o.wp P a w K Q := h ho
theorem step_store (ty : TypeId) (x y : Operand) (ho : o.op = .store ty x y) (h : StoresAt P o a w K Q ty x y) : o.wp P a w K Q := h ho
theorem step_loadRow {ty : TypeId} {x : Operand} (g : Nat) (hx : a.eval x = .pointer (some ⟨g, 0, none⟩)) (t : TypeId) (cs : Array Value) (fr : Nat × Nat) (d : TypeDesc)
    (hg : w.heap[g]? = some (.cells cs t fr)) (hu : P.underlying ty = some d) (hd : (match d with | .struct _ | .array _ _ => true | _ => false) = true) (hi : (P.info? ty).map (·.size) = some cs.size)
    (h : K (a.put o.dst (.agg cs)) w) : LoadsAt P o a w K Q ty x := fun ho => wp_load_row ty x ho g hx t cs fr d hg hu hd hi h
theorem step_storeSame {ty : TypeId} {x y : Operand} (g : Nat) (cells : Array Value) (hx : a.eval x = .pointer (some ⟨g, 0, none⟩)) (hy : a.eval y = .agg cells)
    (t : TypeId) (hh : w.heap[g]? = some (.cells cells t (0, 0))) (hi : (P.info? ty).map (·.size) = some cells.size) (h1 : cells.all (·.oneCell') = true)
    (h : K (a.put o.dst undef) w) : StoresAt P o a w K Q ty x y := fun ho => by
  refine wp_store_row ty x y ho g cells hx hy t cells hh hi rfl h1 ?_
  rw [setRow_id w g cells t _ hh]
  exact h
/-- two results, each an array or a struct in a variable -/
theorem results_rows2 {fn : Func} {p q : Tmp} {ty ty' : TypeId} (h : fn.results = #[.cell p ty, .cell q ty']) {tmps : Array Value} {g g' : Nat} {t t' : TypeId} {cs cs' : Array Value} {fr fr' : Nat × Nat} {d d' : TypeDesc}
    (hp : tmps.getD p undef = .pointer (some ⟨g, 0, none⟩)) (hq : tmps.getD q undef = .pointer (some ⟨g', 0, none⟩)) (hg : w.heap[g]? = some (.cells cs t fr)) (hg' : w.heap[g']? = some (.cells cs' t' fr'))
    (hu : P.underlying ty = some d) (hd : (match d with | .struct _ | .array _ _ => true | _ => false) = true) (hi : (P.info? ty).map (·.size) = some cs.size)
    (hu' : P.underlying ty' = some d') (hd' : (match d' with | .struct _ | .array _ _ => true | _ => false) = true) (hi' : (P.info? ty').map (·.size) = some cs'.size) :
    (results fn tmps).run P w = .ok (.tuple #[.agg cs, .agg cs']) w := by
  have hp' : tmps[p]?.getD undef = .pointer (some ⟨g, 0, none⟩) := by simpa using hp
  have hq' : tmps[q]?.getD undef = .pointer (some ⟨g', 0, none⟩) := by simpa using hq
  simp [results, h, hp', hq', asAddr, run_loadVar_row w g t ty cs fr d hg hu hd hi, run_loadVar_row w g' t' ty' cs' fr' d' hg' hu' hd' hi']
end

/-- a struct of two parts -/
theorem part_get (off : Nat) (A z : Array Value) (h : off + A.size ≤ z.size) (k : Nat) :
    (A.zipIdx.foldl (fun cs (x : Value × Nat) => cs.setIfInBounds (off + x.2) x.1) z).size = z.size ∧
    (A.zipIdx.foldl (fun cs (x : Value × Nat) => cs.setIfInBounds (off + x.2) x.1) z)[k]? = if off ≤ k ∧ k < off + A.size then A[k - off]? else z[k]? := by
  have h1 := Great.foldl_set off A.toList 0 z
  rw [← Array.foldl_toList, Array.toList_zipIdx]
  refine ⟨h1.1, ?_⟩
  rw [h1.2 k]
  simp only [Nat.add_zero, Array.length_toList, Array.getElem?_toList]
  by_cases hk : off ≤ k ∧ k < off + A.size
  · rw [if_pos hk, if_pos ⟨hk.1, hk.2, by omega⟩]
  · rw [if_neg hk, if_neg (by omega)]
theorem fill_step (place : Nat → Option (Nat × Nat)) (cells : Array Value) (i : Nat) (v : Value) (rest : List (Nat × Value)) (off : Nat) (h : place i = some (off, v.cells.size)) (hl : off + v.cells.size ≤ cells.size) :
    Instr.fill place cells ((i, v) :: rest) = Instr.fill place (v.cells.zipIdx.foldl (fun cs (x : Value × Nat) => cs.setIfInBounds (off + x.2) x.1) cells) rest := by
  rw [Instr.fill, h]
  have e : (decide (v.cells.size ≠ v.cells.size) || decide (off + v.cells.size > cells.size)) = false := by simp; omega
  simp only [e]
  rfl
theorem fill_two (place : Nat → Option (Nat × Nat)) (z A B : Array Value) (h0 : place 0 = some (0, A.size)) (h1 : place 1 = some (A.size, B.size)) (hz : z.size = A.size + B.size) :
    Instr.fill place z [(0, .agg A), (1, .agg B)] = some (A ++ B) := by
  have p1 := part_get 0 A z (by omega)
  have s1 := (p1 0).1
  have p2 := part_get A.size B (A.zipIdx.foldl (fun cs (x : Value × Nat) => cs.setIfInBounds (0 + x.2) x.1) z) (by omega)
  rw [fill_step place z 0 (.agg A) _ 0 h0 (by show 0 + A.size ≤ _; omega), fill_step place _ 1 (.agg B) _ A.size h1 (by show A.size + B.size ≤ Array.size (A.zipIdx.foldl (fun cs (x : Value × Nat) => cs.setIfInBounds (0 + x.2) x.1) z); omega)]
  rw [Instr.fill]
  congr 1
  apply Array.ext_getElem?
  intro k
  show (B.zipIdx.foldl (fun cs (x : Value × Nat) => cs.setIfInBounds (A.size + x.2) x.1) (A.zipIdx.foldl (fun cs (x : Value × Nat) => cs.setIfInBounds (0 + x.2) x.1) z))[k]? = _
  rw [(p2 k).2, (p1 k).2, Array.getElem?_append]
  by_cases hk : k < A.size
  · rw [if_neg (by omega), if_pos ⟨by omega, by omega⟩, if_pos hk, Nat.sub_zero]
  · by_cases hk2 : k < A.size + B.size
    · rw [if_pos ⟨by omega, hk2⟩, if_neg hk]
    · rw [if_neg (by omega), if_neg (by omega), if_neg hk, Array.getElem?_eq_none (by omega), Array.getElem?_eq_none (by omega)]
end Go.Proofs.Ytjhnbhgpnmfdgaa
