/- Slices of slices of bytes: read ('RdM'), and owned with all their rows ('OwM'). Of no function in particular. A slice of slices of bytes that is built by appends, its last row by appends too. Of no function in particular. -/
import Derived.Test.YtknkdehjgkjljaaBase
import Derived.Laws.CopyRow
import Derived.Laws.IdiomCopy
namespace Go.Proofs.Ytknkdehjgkjljaa
open Go.RowKit
open Mx (rw rw_len rw_get rw_congr)

/-- how long a slice is -/
def slen : Value → Nat
  | .slice _ n _ => n
  | _ => 0
/-- an int as a cell -/
def iv (n : Int) : Value := .int .i64 n
def nvI (n : Nat) : Value := .int .i64 (n : Int)
theorem one_iv (l : List Int) : One (l.map iv) := one_map _ (fun _ => rfl) l
/-- v is a slice of n slices of bytes, row j reads g j; all of it lies below block B -/
def RdM (w : World) (B : Nat) (v : Value) (n : Nat) (g : Nat → List UInt8) : Prop :=
  ∃ vs : Nat → Value, Rd w B v ((List.range n).map vs) ∧ ∀ j, j < n → Rd w B (vs j) ((g j).map bv)
section
variable {w w' : World} {B B' n : Nat} {v : Value} {g g' : Nat → List UInt8}
theorem RdM.below (h : RdM w B v n g) (hb : Below B w w') : RdM w' B v n g := by
  obtain ⟨vs, h1, h2⟩ := h
  exact ⟨vs, h1.below hb, fun j hj => (h2 j hj).below hb⟩
theorem RdM.mono (h : RdM w B v n g) (hB : B ≤ B') : RdM w B' v n g := by
  obtain ⟨vs, h1, h2⟩ := h
  exact ⟨vs, h1.mono hB, fun j hj => (h2 j hj).mono hB⟩
theorem RdM.up (h : RdM w w.heap.size v n g) (hb : Below w.heap.size w w') : RdM w' w'.heap.size v n g := (h.below hb).mono hb.size
theorem RdM.congr (h : RdM w B v n g) (e : ∀ j, j < n → g j = g' j) : RdM w B v n g' := by
  obtain ⟨vs, h1, h2⟩ := h
  exact ⟨vs, h1, fun j hj => by rw [← e j hj]; exact h2 j hj⟩
theorem RdM.nil (w : World) (B : Nat) (g : Nat → List UInt8) : RdM w B (.slice none 0 0) 0 g := ⟨fun _ => .slice none 0 0, Rd.nil _ _, fun j hj => by omega⟩
theorem RdM.shape (h : RdM w B v n g) : ∃ A c, v = .slice A n c ∧ n ≤ c ∧ c ≤ maxLen := by
  obtain ⟨vs, h1, _⟩ := h
  obtain ⟨A, c, e, h2, h3⟩ := h1.shapeM
  rw [List.length_range] at e h2
  exact ⟨A, c, e, h2, h3⟩
theorem RdM.open_ {A : Option Addr} {m c : Nat} (h : RdM w B (.slice A m c) n g) (hp : 0 < n) : ∃ b off, A = some ⟨b, off, none⟩ ∧ b < B := by
  obtain ⟨vs, h1, _⟩ := h
  obtain ⟨b, off, e, hb, _⟩ := h1.cellM (by rw [List.length_range]; exact hp)
  exact ⟨b, off, e, hb⟩
/-- row j: the value in its cell, and how it reads -/
theorem RdM.row {b off m c j : Nat} (h : RdM w B (.slice (some ⟨b, off, none⟩) m c) n g) (hj : j < n) :
    ∃ A' c', w.cell? ⟨b, off + j, none⟩ = some (.slice A' (g j).length c') ∧ (g j).length ≤ c' ∧ c' ≤ maxLen ∧ Rd w B (.slice A' (g j).length c') ((g j).map bv) := by
  obtain ⟨vs, h1, h2⟩ := h
  obtain ⟨b', off', e, _, hc⟩ := h1.cellM (by rw [List.length_range]; omega)
  have hcj := hc j (by rw [List.length_range]; exact hj)
  simp only [Option.some.injEq, Addr.mk.injEq, and_true] at e
  obtain ⟨rfl, rfl⟩ := e
  rw [List.getElem_range] at hcj
  have hr := h2 j hj
  obtain ⟨A', c', e', h3, h4⟩ := hr.shapeM
  rw [e'] at hcj hr
  exact ⟨A', c', hcj, h3, h4, hr⟩
/-- the same of rows of one length -/
theorem RdM.rowT {b off m c j wd : Nat} {f : Mx.M} (h : RdM w B (.slice (some ⟨b, off, none⟩) m c) n (fun i => rw wd (f i))) (hj : j < n) :
    ∃ A' c', w.cell? ⟨b, off + j, none⟩ = some (.slice A' wd c') ∧ wd ≤ c' ∧ c' ≤ maxLen ∧ Rd w B (.slice A' wd c') ((rw wd (f j)).map bv) := by
  have := h.row hj
  rw [rw_len] at this
  exact this
theorem Rd.cellR {A : Option Addr} {m c wd : Nat} {f : Nat → UInt8} (h : Rd w B (.slice A m c) ((rw wd f).map bv)) (hp : 0 < wd) :
    ∃ b off, A = some ⟨b, off, none⟩ ∧ b < B ∧ ∀ j, j < wd → w.cell? ⟨b, off + j, none⟩ = some (.int .u8 ((f j).toNat : Int)) := by
  obtain ⟨b, off, e, hb, hc⟩ := h.cellM (by rw [rw_len]; exact hp)
  refine ⟨b, off, e, hb, fun j hj => ?_⟩
  rw [hc j (by rw [rw_len]; exact hj)]
  have := rw_get (f := f) hj
  rw [List.getElem?_eq_getElem (by rw [rw_len]; exact hj)] at this
  rw [Option.some.inj this]
  rfl
theorem Rd.shapeR {wd : Nat} {f : Nat → UInt8} (h : Rd w B v ((rw wd f).map bv)) : ∃ A c, v = .slice A wd c ∧ wd ≤ c ∧ c ≤ maxLen := by
  have := h.shapeM
  rwa [rw_len] at this
end

theorem map_upd (n j : Nat) (vs : Nat → Value) (u : Value) : ((List.range n).map vs).set j u = (List.range n).map fun i => if i = j then u else vs i := by
  apply List.ext_getElem?
  intro i
  by_cases hi : i < n
  · rw [List.getElem?_set]
    by_cases e : j = i
    · subst e; simp [hi]
    · rw [if_neg e]; simp only [List.getElem?_map, List.getElem?_range hi, Option.map_some]; rw [if_neg (fun h : i = j => e h.symm)]
  · rw [List.getElem?_eq_none (by simp; omega), List.getElem?_eq_none (by simp; omega)]
section
variable {w w' : World} {B n : Nat} {v : Value} {vs : Nat → Value} {g g' : Nat → List UInt8}
theorem grownBy_setCell (w : World) (g k : Nat) (u : Value) : w.grownBy (w.setCell ⟨g, k, none⟩ u) (some g) :=
  ⟨rfl, rfl, rfl, by simp [World.setCell], fun i _ hne => Below.heap_setCell _ _ _ _ (fun e => hne (by rw [e]))⟩
end
/-- 'copy(v, x)', v of the call's own, x not longer -/
theorem wpList_copyB {P : Program} {ops : Array Oper} {rest : List Oper} {o : Oper} {a : Act} {w : World} {B e t u : Nat} {v x : Value} {xs ys : List UInt8} {Q : Exit → Act → World → Prop} (T : ET P t e (.int .u8 0) 1) (hgd : o.guard = none) (d s : Operand)
    (ho : o.op = .call { callee := .builtin .copy, args := #[d, s], argTypes := #[t, u] }) (hd : a.eval d = v) (hown : Ow w B e v (xs.map bv)) (hs : a.eval s = x) {D : Nat} (hr : Rd w D x (ys.map bv)) (hlen : ys.length ≤ xs.length)
    (h : ∀ w', Ow w' B e v ((ys ++ xs.drop ys.length).map bv) → w.grownBy w' v.ownBlock → w'.heap.size = w.heap.size → wpList P ops Q rest (a.put o.dst (goInt ys.length)) w') : wpList P ops Q (o :: rest) a w := by
  obtain ⟨i, hi, hi0, hi1, hi2⟩ := info_parts T.info
  have hsz : (P.info? e).map (·.size) = some 1 := by rw [hi]; simp [hi1]
  obtain ⟨A, c, rfl, hc, hm, hcell⟩ := hr
  rw [List.length_map] at hc hs hcell
  refine wpList_plain hgd fun K hK => ?_
  by_cases h0 : ys.length = 0
  · have : ys = [] := List.eq_nil_of_length_eq_zero h0
    subst this
    obtain ⟨dp, dc, hv⟩ : ∃ dp dc, v = .slice dp xs.length dc := by
      obtain ⟨A', c', e', _, _⟩ := hown.rd.shapeM
      exact ⟨A', c', e'⟩
    have hrun := run_copy_none (P := P) w t u o.type e dp A xs.length dc 0 c T.ht hsz (by simp)
    rw [hv] at hd
    unfold Oper.wp
    simp [execOp, ho, resolve, invoke, builtin, hd, hs, hrun, Result.andThen]
    exact hK _ _ (h w (by simpa using hown) (World.grownBy.refl _ _) rfl)
  · obtain ⟨b, off, rfl, hb, hcc⟩ := hcell (by omega)
    obtain ⟨hl, hv⟩ := hown
    rcases hv with ⟨rfl, hn⟩ | ⟨g, cap, cur, rfl, hbg, hg, hnc, hcm, hcs, htake⟩
    · rw [List.length_map] at hn; omega
    · rw [List.length_map] at hl hnc hd htake
      rw [Nat.mul_one] at hl hcs htake
      have hrun := run_copy_row (P := P) w t u o.type e g 0 xs.length cap ⟨b, off, none⟩ ys.length c cur e (ys.map bv) T.ht hsz hg (by rw [List.length_map]; exact (Nat.min_eq_left hlen).symm) (fun j u hu => by rw [Addr.add_lit]; exact hcc j u hu) (by simp; omega) (one_bv ys)
      unfold Oper.wp
      simp only [execOp, ho, resolve, invoke, builtin, Sem.run_bind, Sem.run_pure, Result.andThen_ok, List.map_toArray, List.map_cons, List.map_nil, hd, hs, hrun]
      rw [List.length_map]
      have hnl : (ys ++ xs.drop ys.length).length = xs.length := by simp; omega
      refine hK _ _ (h _ ?_ ?_ (by simp [World.setRow]))
      · refine ⟨by simp, .inr ⟨g, cap, _, by simp only [List.length_map, hnl], hbg, setRow_heap w g cur _ e _ hg, by simp only [List.length_map, hnl]; exact hnc, hcm, ?_, ?_⟩⟩
        · simp; omega
        · simp only [List.length_map, hnl, Nat.mul_one]
          have e1 : (cur.toList.drop ys.length).take (xs.length - ys.length) = (xs.drop ys.length).map bv := by
            rw [List.map_drop, ← htake, List.drop_take]
          have e2 : xs.length = (ys.map bv).length + (xs.length - ys.length) := by simp; omega
          simp only [List.take_zero, List.nil_append, Nat.zero_add]
          rw [e2, List.take_length_add_append, e1, List.map_append]
      · exact ⟨rfl, rfl, rfl, by simp [World.setRow], fun k hk hne => setRow_other w g k _ (fun e => hne (by rw [e]; rfl))⟩
end Go.Proofs.Ytknkdehjgkjljaa

namespace Go.Proofs.Ytknkdehjgkjljaa
open Go.RowKit
open Mx (rw rw_len rw_get rw_congr)

section
variable {w1 wr w' : World} {v u : Value} {vs : Nat → Value} {n : Nat} {g : Nat → List UInt8} {l : List UInt8}
theorem map_push (n : Nat) (vs : Nat → Value) (u : Value) : (List.range n).map vs ++ [u] = (List.range (n + 1)).map fun i => if i = n then u else vs i := by
  rw [List.range_succ, List.map_append, List.map_singleton, if_pos rfl]
  congr 1
  exact List.map_congr_left fun i hi => by have := List.mem_range.1 hi; rw [if_neg (by omega)]
end
/-- a slice of slices of bytes is one cell -/
theorem Ow.oneV {w : World} {B e : Nat} {v : Value} {xs : List Value} (h : Ow w B e v xs) : v.oneCell' = true := by
  obtain ⟨A, c, rfl, _, _⟩ := h.rd.shape
  rfl
theorem one_one {u : Value} (h : u.oneCell' = true) : One [u] := fun x hx => by rw [List.mem_singleton.1 hx]; exact h
end Go.Proofs.Ytknkdehjgkjljaa
