/- Slices of acts: how they read, how one is loaded. -/
import Derived.Test.YtblejjjifokmgaaSls
namespace Go.Proofs.Ytblejjjifokmgaa
open Go.RowKit

/-- a load of a variable of several cells, wherever it stands -/
theorem run_loadC {P : Program} (w : World) (ty : TypeId) (ad : Addr) (vs : List Value) (d : TypeDesc) (hc : ∀ (k : Nat) (v : Value), vs[k]? = some v → w.cell? (ad.add k) = some v)
    (hu : P.underlying ty = some d) (hd : (match d with | .struct _ | .array _ _ => true | _ => false) = true) (hi : (P.info? ty).map (·.size) = some vs.length) : (loadVar ty ad).run P w = .ok (.agg vs.toArray) w := by
  have hl := run_loadCells_list (P := P) w ad vs hc
  cases hq : P.info? ty with
  | none => simp [hq] at hi
  | some i =>
    have hs : i.size = vs.length := by simpa [hq] using hi
    have hagg : (isAgg ty).run P w = .ok true w := by
      unfold isAgg
      rw [Sem.run_bind, run_underlying hu w]
      cases d <;> simp_all
    simp [loadVar, Sem.run_bind, hagg, sizeOf, typeInfo, hq, hs, hl]
theorem wpList_loadC {P : Program} {ops : Array Oper} {rest : List Oper} {o : Oper} {a : Act} {w : World} {Q : Exit → Act → World → Prop} (hg : o.guard = none) (ty : TypeId) (x : Operand) (ho : o.op = .load ty x) (ad : Addr) (hx : a.eval x = .pointer (some ad)) (vs : List Value) (d : TypeDesc)
    (hc : ∀ (k : Nat) (v : Value), vs[k]? = some v → w.cell? (ad.add k) = some v) (hu : P.underlying ty = some d) (hd : (match d with | .struct _ | .array _ _ => true | _ => false) = true) (hi : (P.info? ty).map (·.size) = some vs.length)
    (h : wpList P ops Q rest (a.put o.dst (.agg vs.toArray)) w) : wpList P ops Q (o :: rest) a w := by
  refine wpList_plain hg fun K hK => ?_
  unfold Oper.wp execOp
  simp only [ho, hx, Instr.loadAt, Instr.sureAddr, Sem.run_bind, Sem.run_pure, Result.andThen_ok, run_loadC w ty ad vs d hc hu hd hi]
  exact hK _ _ h

/-- an act -/
structure Ac where
  op : Int
  nm : ByteArray
  ot : ByteArray
  b : List UInt8
  at_ : Int
  ks : List Int
/-- with the values of its slices -/
structure AcV where
  a : Ac
  bx : Value
  kx : Value
def cells6 (x : AcV) : List Value := [.int .i64 x.a.op, .string x.a.nm, .string x.a.ot, x.bx, .int .i64 x.a.at_, x.kx]
def inR64 (q : Int) : Prop := -9223372036854775808 ≤ q ∧ q ≤ 9223372036854775807
structure AcOk (a : Ac) : Prop where
  bl : a.b.length ≤ 140737488351232
  kl : a.ks.length ≤ 140737488351232
  op : inR64 a.op
  at_ : inR64 a.at_
  kr : ∀ q ∈ a.ks, inR64 q
  nm : a.nm.size ≤ maxLen
  ot : a.ot.size ≤ maxLen
/-- v is a slice of n acts -/
def RdA (w : World) (B : Nat) (v : Value) (n : Nat) (f : Nat → AcV) : Prop :=
  ∃ A c, v = .slice A n c ∧ n ≤ c ∧ c ≤ maxLen ∧ (0 < n → ∃ b off, A = some ⟨b, off, none⟩ ∧ b < B ∧ ∀ j, j < n → ∀ i u, (cells6 (f j))[i]? = some u → w.cell? ⟨b, off + j * 6 + i, none⟩ = some u) ∧
    ∀ j, j < n → Rd w B (f j).bx ((f j).a.b.map bv) ∧ Rd w B (f j).kx ((f j).a.ks.map iv)
section
variable {w w' : World} {B B' n : Nat} {v : Value} {f : Nat → AcV}
theorem RdA.below (h : RdA w B v n f) (hb : Below B w w') : RdA w' B v n f := by
  obtain ⟨A, c, e, h1, h2, h3, h4⟩ := h
  refine ⟨A, c, e, h1, h2, fun hp => ?_, fun j hj => ⟨(h4 j hj).1.below hb, (h4 j hj).2.below hb⟩⟩
  obtain ⟨b, off, ea, hlt, hc⟩ := h3 hp
  exact ⟨b, off, ea, hlt, fun j hj i u hu => (hb.cell (p := ⟨b, off + j * 6 + i, none⟩) hlt).trans (hc j hj i u hu)⟩
theorem RdA.mono (h : RdA w B v n f) (hB : B ≤ B') : RdA w B' v n f := by
  obtain ⟨A, c, e, h1, h2, h3, h4⟩ := h
  refine ⟨A, c, e, h1, h2, fun hp => ?_, fun j hj => ⟨(h4 j hj).1.mono hB, (h4 j hj).2.mono hB⟩⟩
  obtain ⟨b, off, ea, hlt, hc⟩ := h3 hp
  exact ⟨b, off, ea, by omega, hc⟩
theorem RdA.up (h : RdA w w.heap.size v n f) (hb : Below w.heap.size w w') : RdA w' w'.heap.size v n f := (h.below hb).mono hb.size
theorem RdA.shape (h : RdA w B v n f) : ∃ A c, v = .slice A n c ∧ n ≤ c ∧ c ≤ maxLen := by
  obtain ⟨A, c, e, h1, h2, _⟩ := h
  exact ⟨A, c, e, h1, h2⟩
theorem RdA.open_ {A : Option Addr} {m c : Nat} (h : RdA w B (.slice A m c) n f) (hp : 0 < n) : ∃ b off, A = some ⟨b, off, none⟩ ∧ b < B ∧ ∀ j, j < n → ∀ i u, (cells6 (f j))[i]? = some u → w.cell? ⟨b, off + j * 6 + i, none⟩ = some u := by
  obtain ⟨A', c', e, h1, h2, h3, h4⟩ := h
  injection e with e1 e2 e3
  subst e1
  exact h3 hp
theorem RdA.row {j : Nat} (h : RdA w B v n f) (hj : j < n) : Rd w B (f j).bx ((f j).a.b.map bv) ∧ Rd w B (f j).kx ((f j).a.ks.map iv) := by
  obtain ⟨A', c', e, h1, h2, h3, h4⟩ := h
  exact h4 j hj
end
end Go.Proofs.Ytblejjjifokmgaa
