/- Slices that the call owns, several of them: an append to the one leaves the others. Of no function in particular. -/
import Derived.Test.YtjhnbhgpnmfdgaaGen
import Derived.Deep.RegionLaw
namespace Go.Proofs.Ytjhnbhgpnmfdgaa
open Go.RowKit

/-- u and v don't own the same block -/
def Apart (u v : Value) : Prop := ∀ k, u.ownBlock = some k → v.ownBlock ≠ some k
theorem Apart.symm {u v : Value} (h : Apart u v) : Apart v u := fun k hv hu => h k hu hv
theorem Apart.nil (v : Value) : Apart (.slice none 0 0) v := fun k h => by simp [Value.ownBlock] at h
theorem Ow.kept {w w' : World} {B e : Nat} {u : Value} {ys : List Value} {row : Option Nat} (h : Ow w B e u ys) (hg : w.grownBy w' row) (hne : ∀ k, u.ownBlock = some k → row ≠ some k) : Ow w' B e u ys :=
  World.ownsRow.kept h hg (by
    cases hu : u.ownBlock with
    | none => exact .inl rfl
    | some k => exact .inr fun e => hne k hu e.symm)
/-- v has become v', by an append: u stays apart -/
theorem Apart.app {w : World} {B e : Nat} {u v v' : Value} {ys : List Value} (h : Apart u v) (hu : Ow w B e u ys) (h3 : v'.ownBlock = v.ownBlock ∨ v'.ownBlock = some w.heap.size) : Apart u v' := by
  intro k hk e
  rcases h3 with h3 | h3
  · exact h k hk (h3.symm.trans e)
  · rw [h3] at e
    injection e with e
    have := (hu.lt k hk).2
    omega
/-- append of a slice of bytes, as one step of a region that draws its order -/
theorem step_appB {P : Program} {ops : Array Oper} {o : Oper} {a : Act} {w : World} {B e t : Nat} {v : Value} {l : List UInt8} {K : Act → World → Prop} {Q : Exit → Act → World → Prop} {E : Prop} (T : ET P t e (.int .u8 0) 1) (hgd : o.guard = none) (s y : Operand)
    (ho : o.op = .call { callee := .builtin .append, args := #[s, y], argTypes := #[t, t] })
    (hs : a.eval s = v) (hown : Ow w B e v (l.map bv)) {x : Value} (hy : a.eval y = x) {D : Nat} {m : List UInt8} (hr : Rd w D x (m.map bv))
    (hlen : l.length + m.length ≤ 140737488355328) (hB : B ≤ w.heap.size)
    (hK : ∀ v' w', Ow w' B e v' ((l ++ m).map bv) → w.grownBy w' v.ownBlock → (v'.ownBlock = v.ownBlock ∨ v'.ownBlock = some w.heap.size) → K (a.put o.dst v') w') :
    if Region.wanted o (yielded ops a.tmps) = true then Oper.wp P o a w K Q else E := by
  have hw : Region.wanted o (yielded ops a.tmps) = true := by simp [Region.wanted, hgd]
  rw [if_pos hw]
  obtain ⟨v', w', hrun, h2, h3, h4⟩ := run_app (P := P) T rfl o.type hown hr (one_bv _) (by simp [maxLen]; omega) (by simpa using hlen) hB
  unfold Oper.wp
  simp [execOp, ho, resolve, invoke, builtin, hs, hy, hrun, Result.andThen]
  exact hK v' w' (by rw [List.map_append]; exact h2) h3 h4
/-- two slices of bytes of the call's own -/
structure Two (w1 : World) (e : Nat) (xs ys : List UInt8) (a b : Value) (wr : World) : Prop where
  oa : Ow wr w1.heap.size e a (xs.map bv)
  ob : Ow wr w1.heap.size e b (ys.map bv)
  ab : Apart a b
  bel : Below w1.heap.size w1 wr
theorem Two.nil (w1 : World) (e : Nat) : Two w1 e [] [] (.slice none 0 0) (.slice none 0 0) w1 := ⟨Ow.nilB _ _ _, Ow.nilB _ _ _, Apart.nil _, Below.refl _ _⟩
theorem Two.rot {w1 wr : World} {e : Nat} {xs ys : List UInt8} {a b : Value} (h : Two w1 e xs ys a b wr) : Two w1 e ys xs b a wr := ⟨h.ob, h.oa, h.ab.symm, h.bel⟩
theorem Two.up {w1 wr w' : World} {e : Nat} {xs ys : List UInt8} {a b : Value} (h : Two w1 e xs ys a b wr) (hb : Below wr.heap.size wr w') : Two w1 e xs ys a b w' := ⟨h.oa.below hb, h.ob.below hb, h.ab, bwstep h.bel hb⟩
theorem Two.alloc {w1 wr : World} {e : Nat} {xs ys : List UInt8} {a b : Value} (h : Two w1 e xs ys a b wr) (o : Obj) : Two w1 e xs ys a b (wr.alloc o) := h.up (bwalloc (Below.refl _ _) o)
theorem Two.drew {w1 wr : World} {e : Nat} {xs ys : List UInt8} {a b : Value} (h : Two w1 e xs ys a b wr) : Two w1 e xs ys a b wr.drew := h.up ((Below.refl _ _).drew)
theorem Two.app {w1 wr wa : World} {e : Nat} {xs ys m : List UInt8} {a b a' : Value} (h : Two w1 e xs ys a b wr) (ho : Ow wa w1.heap.size e a' ((xs ++ m).map bv)) (hg : wr.grownBy wa a.ownBlock)
    (h3 : a'.ownBlock = a.ownBlock ∨ a'.ownBlock = some wr.heap.size) : Two w1 e (xs ++ m) ys a' b wa :=
  ⟨ho, h.ob.kept hg h.ab.symm, (h.ab.symm.app h.ob h3).symm, h.bel.grown hg h.bel.size h.oa.ge⟩
end Go.Proofs.Ytjhnbhgpnmfdgaa
