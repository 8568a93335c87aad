/- The heap of runs of package merge: what the world holds of it, how its methods are reached. -/
import Derived.Test.YtknkdehjgkjljaaMgA
import Derived.Test.YtknkdehjgkjljaaHpU
import Derived.Test.YtknkdehjgkjljaaCsA
namespace Go.Proofs.Ytknkdehjgkjljaa.Hp
open Go.RowKit
/-- a value's method, reached through a pointer -/
theorem meth_val {t e : TypeId} {name : String} {f : FuncId} {fuel : Nat} {w : World} {b : Nat} {u : Value}
    (hi : (Try.prog.info? t).map (fun i => (i.methods.find? (·.name == name)).map (fun m => (m.path.toList, m.func))) = some (some ([], some (f, false))))
    (hu : Try.prog.underlying t = some (.pointer e)) (hl : (loadVar e ⟨b, 0, none⟩).run Try.prog w = .ok u w) :
    (method (fuel + 1) t (.pointer (some ⟨b, 0, none⟩)) name).run Try.prog w = .ok (f, u) w := by
  cases hq : Try.prog.info? t with
  | none => simp [hq] at hi
  | some i =>
    cases hm : i.methods.find? (·.name == name) with
    | none => simp [hq, hm] at hi
    | some m =>
      simp [hq, hm] at hi
      obtain ⟨h1, h2⟩ := hi
      have hk : ∀ s : String, Builtin.ssaWrapNilChk_ #[t] t #[.pointer (some ⟨b, 0, none⟩), strVal "", strVal s] = pure (.pointer (some ⟨b, 0, none⟩)) := fun _ => rfl
      unfold method
      simp [Sem.run_bind, typeInfo, hq, hm, h1, h2, follow, receiverAt, run_underlying hu, Place.get, hk, asAddr, hl]
/-- a pointer's method -/
theorem meth_ptr {t e : TypeId} {name : String} {f : FuncId} {fuel : Nat} {w : World} {v : Value}
    (hi : (Try.prog.info? t).map (fun i => (i.methods.find? (·.name == name)).map (fun m => (m.path.toList, m.func))) = some (some ([], some (f, true))))
    (hu : Try.prog.underlying t = some (.pointer e)) :
    (method (fuel + 1) t v name).run Try.prog w = .ok (f, v) w := by
  cases hq : Try.prog.info? t with
  | none => simp [hq] at hi
  | some i =>
    cases hm : i.methods.find? (·.name == name) with
    | none => simp [hq, hm] at hi
    | some m =>
      simp [hq, hm] at hi
      obtain ⟨h1, h2⟩ := hi
      unfold method
      simp [Sem.run_bind, typeInfo, hq, hm, h1, h2, follow, receiverAt, run_underlying hu, Place.get]
/-- a slice in a variable -/
theorem load_one {e t : TypeId} {el : TypeId} {w : World} {b : Nat} {u : Value} (hu : Try.prog.underlying e = some (.slice el)) (h : w.heap[b]? = some (.cells #[u] t (0, 0))) : (loadVar e ⟨b, 0, none⟩).run Try.prog w = .ok u w := by
  have hc : w.cell? ⟨b, 0, none⟩ = some u := cell_of_row _ _ 0 _ _ _ h
  simp [loadVar, isAgg, Sem.run_bind, run_underlying hu, hc]
end Go.Proofs.Ytknkdehjgkjljaa.Hp
namespace Go.Proofs.Ytknkdehjgkjljaa.Ce
open Go.RowKit

theorem runsT : ET Try.prog 41 43 (.pointer none) 8 := ⟨Try.underlying41, by kernel_rfl⟩
def Rn.p (x : Rn) : Value := .pointer (some ⟨x.blk, 0, none⟩)
/-- only blocks of the heap's own types turn -/
structure Kt (w w' : World) : Prop where
  os : w'.os = w.os
  tape : w'.tape = w.tape
  output : w'.output = w.output
  size : w.heap.size ≤ w'.heap.size
  block : ∀ k, k < w.heap.size → (∀ cs t fz, w.heap[k]? = some (.cells cs t fz) → t ≠ 41 ∧ t ≠ 43 ∧ t ≠ 45) → w'.heap[k]? = w.heap[k]?
theorem Kt.refl (w : World) : Kt w w := ⟨rfl, rfl, rfl, Nat.le_refl _, fun _ _ _ => rfl⟩
theorem Kt.trans {a b c : World} (h : Kt a b) (k : Kt b c) : Kt a c :=
  ⟨k.os.trans h.os, k.tape.trans h.tape, k.output.trans h.output, Nat.le_trans h.size k.size, fun j hj ht => by
    have e := h.block j hj ht
    exact (k.block j (Nat.lt_of_lt_of_le hj h.size) (fun cs t fz hc => ht cs t fz (e ▸ hc))).trans e⟩
theorem Kt.bel {w w' : World} (h : Below w.heap.size w w') : Kt w w' := ⟨h.os, h.tape, h.output, h.size, fun k hk _ => h.block k hk⟩
theorem Kt.set {w : World} {p : Addr} {cs : Array Value} {t : TypeId} {fz : Nat × Nat} (hp : w.heap[p.block]? = some (.cells cs t fz)) (ht : t = 41 ∨ t = 43 ∨ t = 45) (u : Value) : Kt w (w.setCell p u) :=
  ⟨rfl, rfl, rfl, by simp [World.setCell], fun k hk h => by
    by_cases e : p.block = k
    · subst e
      obtain ⟨h1, h2, h3⟩ := h _ _ _ hp
      rcases ht with rfl | rfl | rfl
      · exact absurd rfl h1
      · exact absurd rfl h2
      · exact absurd rfl h3
    · exact (Kp.set (S := [p.block]) w (by simp) u).block k hk (by simp; exact fun q => e q.symm)⟩
theorem Kt.ow {w w' : World} {B : Nat} {v : Value} {xs : List Value} (h : Ow w B 43 v xs) (hg : w.grownBy w' v.ownBlock) : Kt w w' :=
  ⟨hg.os, hg.tape, hg.output, hg.size, fun k hk ht => hg.block k hk fun e => by
    rcases h.2 with ⟨rfl, -⟩ | ⟨g, cap, cur, rfl, -, hh, -⟩
    · cases e
    · have e1 : g = k := by injection e with e1; exact e1.symm
      subst e1
      exact (ht _ _ _ hh).2.1 rfl⟩
/-- cells that the call owns stay -/
theorem OwL.kt {w w' : World} {B : Nat} {v : Value} {L : List Cl} (h : OwL w B v L) (k : Kt w w') : OwL w' B v L := by
  obtain ⟨h1, h2⟩ := h
  refine ⟨h1, ?_⟩
  rcases h2 with h2 | ⟨g, cap, cur, hv, hg, hh, r⟩
  · exact .inl h2
  · refine .inr ⟨g, cap, cur, hv, hg, ?_, r⟩
    rw [k.block g (Array.getElem?_eq_some_iff.1 hh).1 fun cs t fz hc => by
      rw [hh] at hc
      injection hc with hc
      injection hc with _ ht _
      subst ht
      exact ⟨by decide, by decide, by decide⟩]
    exact hh
/-- a run's block -/
structure RunAt (w0 : World) (x : Rn) (w : World) : Prop where
  ge : w0.heap.size ≤ x.blk
  h : ∃ cv, w.heap[x.blk]? = some (.cells #[cv, .int .i64 (x.place : Int)] 45 (0, 0)) ∧ RdL w0 [] cv (x.c :: x.rest)
theorem RunAt.lt {w0 w : World} {x : Rn} (h : RunAt w0 x w) : x.blk < w.heap.size := by
  obtain ⟨cv, h1, -⟩ := h.h
  exact (Array.getElem?_eq_some_iff.1 h1).1
theorem RunAt.keep {w0 w w' : World} {x : Rn} (h : RunAt w0 x w) (hb : w'.heap[x.blk]? = w.heap[x.blk]?) : RunAt w0 x w' := by
  obtain ⟨cv, h1, h2⟩ := h.h
  exact ⟨h.ge, cv, hb.trans h1, h2⟩
theorem RunAt.bel {w0 w w' : World} {x : Rn} (h : RunAt w0 x w) (hb : Below w.heap.size w w') : RunAt w0 x w' := h.keep (hb.block _ h.lt)
/-- what the world holds of a heap -/
structure HeapAt (w0 : World) (bh : Nat) (a : Nat → Rn) (n : Nat) (w : World) : Prop where
  ge : w0.heap.size ≤ bh
  sl : ∃ v, w.heap[bh]? = some (.cells #[v] 41 (0, 0)) ∧ Ow w w0.heap.size 43 v ((List.range n).map fun k => (a k).p)
  run : ∀ k, k < n → RunAt w0 (a k) w
  bel : Below w0.heap.size w0 w
theorem HeapAt.up {w0 w w' : World} {bh n : Nat} {a : Nat → Rn} (h : HeapAt w0 bh a n w) (hb : Below w.heap.size w w') : HeapAt w0 bh a n w' := by
  obtain ⟨v, h1, h2⟩ := h.sl
  exact ⟨h.ge, ⟨v, (hb.block _ (Array.getElem?_eq_some_iff.1 h1).1).trans h1, h2.below hb⟩, fun k hk => (h.run k hk).bel hb, bwstep h.bel hb⟩
/-- the heap in a world that came of another one -/
def Hst (w0 w1 : World) (bh : Nat) (a : Nat → Rn) (n : Nat) (w : World) : Prop := HeapAt w0 bh a n w ∧ Kt w1 w
end Go.Proofs.Ytknkdehjgkjljaa.Ce
