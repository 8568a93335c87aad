/- A slice of slices of bytes that is built by appends, its last row by appends too. Of no function in particular. -/
import Derived.Test.YtjhnbhgpnmfdgaaSl
namespace Go.Proofs.Ytjhnbhgpnmfdgaa
open Go.RowKit
open Mx (rw rw_len rw_get rw_congr)

/-- the outer slice and the row that is being built -/
structure Bld (w1 wr : World) (v : Value) (vs : Nat → Value) (n : Nat) (g : Nat → List UInt8) (u : Value) (l : List UInt8) : Prop where
  om : OwM wr w1.heap.size v vs n g
  ro : Ow wr w1.heap.size 5 u (l.map bv)
  ar : ∀ j, j < n → Apart u (vs j)
  ao : Apart u v
  bel : Below w1.heap.size w1 wr
section
variable {w1 wr w' : World} {v u : Value} {vs : Nat → Value} {n : Nat} {g : Nat → List UInt8} {l : List UInt8}
theorem Bld.start (w1 : World) (g : Nat → List UInt8) : Bld w1 w1 (.slice none 0 0) (fun _ => .slice none 0 0) 0 g (.slice none 0 0) [] :=
  ⟨OwM.nil _ _ _, Ow.nilB _ _ _, fun j hj => by omega, Apart.nil _, Below.refl _ _⟩
theorem Bld.fresh (h : OwM wr w1.heap.size v vs n g) (hb : Below w1.heap.size w1 wr) : Bld w1 wr v vs n g (.slice none 0 0) [] := ⟨h, Ow.nilB _ _ _, fun _ _ => Apart.nil _, Apart.nil _, hb⟩
theorem Bld.up (h : Bld w1 wr v vs n g u l) (hb : Below wr.heap.size wr w') : Bld w1 w' v vs n g u l := ⟨h.om.below hb, h.ro.below hb, h.ar, h.ao, bwstep h.bel hb⟩
theorem OwM.kept {B : Nat} {row : Option Nat} (h : OwM wr B v vs n g) (hg : wr.grownBy w' row) (ho : ∀ k, v.ownBlock = some k → row ≠ some k) (hr : ∀ j, j < n → ∀ k, (vs j).ownBlock = some k → row ≠ some k) : OwM w' B v vs n g :=
  ⟨h.out.kept hg ho, fun j hj => (h.row j hj).kept hg (hr j hj), h.ap, h.apo⟩
/-- the row has grown by an append: wa is the world in which the append began -/
theorem Bld.app {wa : World} {u' : Value} {l' : List UInt8} (h : Bld w1 wa v vs n g u l) (ho : Ow w' w1.heap.size 5 u' (l'.map bv)) (hg : wa.grownBy w' u.ownBlock)
    (h3 : u'.ownBlock = u.ownBlock ∨ u'.ownBlock = some wa.heap.size) : Bld w1 w' v vs n g u' l' := by
  refine ⟨h.om.kept hg (fun k hk e => h.ao k e hk) (fun j hj k hk e => h.ar j hj k e hk), ho, fun j hj k hk e => ?_, fun k hk e => ?_, h.bel.grown hg h.bel.size h.ro.ge⟩
  · rcases h3 with h3 | h3
    · exact h.ar j hj k (h3 ▸ hk) e
    · rw [h3] at hk
      injection hk with hk
      have := ((h.om.row j hj).lt k e).2
      omega
  · rcases h3 with h3 | h3
    · exact h.ao k (h3 ▸ hk) e
    · rw [h3] at hk
      injection hk with hk
      have := (h.om.out.lt k e).2
      omega
theorem map_push (n : Nat) (vs : Nat → Value) (u : Value) : (List.range n).map vs ++ [u] = (List.range (n + 1)).map fun i => if i = n then u else vs i := by
  rw [List.range_succ, List.map_append, List.map_singleton, if_pos rfl]
  congr 1
  exact List.map_congr_left fun i hi => by have := List.mem_range.1 hi; rw [if_neg (by omega)]
/-- the row is appended to the outer slice -/
theorem Bld.push {wa : World} {v' : Value} (h : Bld w1 wa v vs n g u l) (ho : Ow w' w1.heap.size 29 v' ((List.range n).map vs ++ [u])) (hg : wa.grownBy w' v.ownBlock)
    (h3 : v'.ownBlock = v.ownBlock ∨ v'.ownBlock = some wa.heap.size) : OwM w' w1.heap.size v' (fun i => if i = n then u else vs i) (n + 1) (fun i => if i = n then l else g i) ∧ Below w1.heap.size w1 w' := by
  rw [map_push] at ho
  have nv : ∀ x : Value, (∀ k, v.ownBlock = some k → x.ownBlock ≠ some k) → (∀ k, x.ownBlock = some k → k < wa.heap.size) → Apart v' x := fun x h1 h2 k hk e => by
    rcases h3 with h3 | h3
    · exact h1 k (h3 ▸ hk) e
    · rw [h3] at hk
      injection hk with hk
      have := h2 k e
      omega
  refine ⟨⟨ho, fun i hi => ?_, fun i j hi hj hne => ?_, fun i hi => ?_⟩, h.bel.grown hg h.bel.size h.om.out.ge⟩
  · by_cases e : i = n
    · simp only [if_pos e]
      exact h.ro.kept hg fun k hk e' => h.ao k hk e'
    · simp only [if_neg e]
      exact (h.om.row i (by omega)).kept hg fun k hk e' => h.om.apo i (by omega) k e' hk
  · by_cases e1 : i = n
    · by_cases e2 : j = n
      · omega
      · simp only [if_pos e1, if_neg e2]
        exact h.ar j (by omega)
    · by_cases e2 : j = n
      · simp only [if_pos e2, if_neg e1]
        exact (h.ar i (by omega)).symm
      · simp only [if_neg e1, if_neg e2]
        exact h.om.ap i j (by omega) (by omega) hne
  · by_cases e : i = n
    · simp only [if_pos e]
      exact nv u (fun k hk e' => h.ao k e' hk) fun k hk => (h.ro.lt k hk).2
    · simp only [if_neg e]
      exact nv (vs i) (fun k hk => h.om.apo i (by omega) k hk) fun k hk => ((h.om.row i (by omega)).lt k hk).2
end
/-- a slice of slices of bytes is one cell -/
theorem Ow.oneV {w : World} {B e : Nat} {v : Value} {xs : List Value} (h : Ow w B e v xs) : v.oneCell' = true := by
  obtain ⟨A, c, rfl, _, _⟩ := h.rd.shape
  rfl
theorem one_one {u : Value} (h : u.oneCell' = true) : One [u] := fun x hx => by rw [List.mem_singleton.1 hx]; exact h
end Go.Proofs.Ytjhnbhgpnmfdgaa
