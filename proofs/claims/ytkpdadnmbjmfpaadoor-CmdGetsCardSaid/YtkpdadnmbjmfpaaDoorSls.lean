/- Slices of slices of bytes: read ('RdM'), and owned with all their rows ('OwM'). Of no function in particular. A slice of slices of bytes that is built by appends, its last row by appends too. Of no function in particular. -/
import Derived.Test.YtkpdadnmbjmfpaaDoorBase
import Derived.Laws.CopyRow
import Derived.Laws.IdiomCopy
namespace Go.Proofs.YtkpdadnmbjmfpaaDoor
open Go.RowKit
open Mx (rw rw_len rw_get rw_congr)

/-- how long a slice is -/
def slen : Value → Nat
  | .slice _ n _ => n
  | _ => 0
/-- an int as a cell -/
def iv (n : Int) : Value := .int .i64 n
def nvI (n : Nat) : Value := .int .i64 (n : Int)
theorem one_iv (l : List Int) : One (l.map iv) := one_map _ (fun _ => rfl) l
/-- v is a slice of n slices of bytes, row j reads g j; all of it lies below block B -/
def RdM (w : World) (B : Nat) (v : Value) (n : Nat) (g : Nat → List UInt8) : Prop :=
  ∃ vs : Nat → Value, Rd w B v ((List.range n).map vs) ∧ ∀ j, j < n → Rd w B (vs j) ((g j).map bv)
section
variable {w w' : World} {B B' n : Nat} {v : Value} {g g' : Nat → List UInt8}
theorem RdM.below (h : RdM w B v n g) (hb : Below B w w') : RdM w' B v n g := by
  obtain ⟨vs, h1, h2⟩ := h
  exact ⟨vs, h1.below hb, fun j hj => (h2 j hj).below hb⟩
theorem RdM.mono (h : RdM w B v n g) (hB : B ≤ B') : RdM w B' v n g := by
  obtain ⟨vs, h1, h2⟩ := h
  exact ⟨vs, h1.mono hB, fun j hj => (h2 j hj).mono hB⟩
theorem RdM.up (h : RdM w w.heap.size v n g) (hb : Below w.heap.size w w') : RdM w' w'.heap.size v n g := (h.below hb).mono hb.size
theorem RdM.congr (h : RdM w B v n g) (e : ∀ j, j < n → g j = g' j) : RdM w B v n g' := by
  obtain ⟨vs, h1, h2⟩ := h
  exact ⟨vs, h1, fun j hj => by rw [← e j hj]; exact h2 j hj⟩
theorem RdM.nil (w : World) (B : Nat) (g : Nat → List UInt8) : RdM w B (.slice none 0 0) 0 g := ⟨fun _ => .slice none 0 0, Rd.nil _ _, fun j hj => by omega⟩
theorem RdM.shape (h : RdM w B v n g) : ∃ A c, v = .slice A n c ∧ n ≤ c ∧ c ≤ maxLen := by
  obtain ⟨vs, h1, _⟩ := h
  obtain ⟨A, c, e, h2, h3⟩ := h1.shapeM
  rw [List.length_range] at e h2
  exact ⟨A, c, e, h2, h3⟩
theorem RdM.open_ {A : Option Addr} {m c : Nat} (h : RdM w B (.slice A m c) n g) (hp : 0 < n) : ∃ b off, A = some ⟨b, off, none⟩ ∧ b < B := by
  obtain ⟨vs, h1, _⟩ := h
  obtain ⟨b, off, e, hb, _⟩ := h1.cellM (by rw [List.length_range]; exact hp)
  exact ⟨b, off, e, hb⟩
/-- row j: the value in its cell, and how it reads -/
theorem RdM.row {b off m c j : Nat} (h : RdM w B (.slice (some ⟨b, off, none⟩) m c) n g) (hj : j < n) :
    ∃ A' c', w.cell? ⟨b, off + j, none⟩ = some (.slice A' (g j).length c') ∧ (g j).length ≤ c' ∧ c' ≤ maxLen ∧ Rd w B (.slice A' (g j).length c') ((g j).map bv) := by
  obtain ⟨vs, h1, h2⟩ := h
  obtain ⟨b', off', e, _, hc⟩ := h1.cellM (by rw [List.length_range]; omega)
  have hcj := hc j (by rw [List.length_range]; exact hj)
  simp only [Option.some.injEq, Addr.mk.injEq, and_true] at e
  obtain ⟨rfl, rfl⟩ := e
  rw [List.getElem_range] at hcj
  have hr := h2 j hj
  obtain ⟨A', c', e', h3, h4⟩ := hr.shapeM
  rw [e'] at hcj hr
  exact ⟨A', c', hcj, h3, h4, hr⟩
/-- the same of rows of one length -/
theorem RdM.rowT {b off m c j wd : Nat} {f : Mx.M} (h : RdM w B (.slice (some ⟨b, off, none⟩) m c) n (fun i => rw wd (f i))) (hj : j < n) :
    ∃ A' c', w.cell? ⟨b, off + j, none⟩ = some (.slice A' wd c') ∧ wd ≤ c' ∧ c' ≤ maxLen ∧ Rd w B (.slice A' wd c') ((rw wd (f j)).map bv) := by
  have := h.row hj
  rw [rw_len] at this
  exact this
theorem Rd.cellR {A : Option Addr} {m c wd : Nat} {f : Nat → UInt8} (h : Rd w B (.slice A m c) ((rw wd f).map bv)) (hp : 0 < wd) :
    ∃ b off, A = some ⟨b, off, none⟩ ∧ b < B ∧ ∀ j, j < wd → w.cell? ⟨b, off + j, none⟩ = some (.int .u8 ((f j).toNat : Int)) := by
  obtain ⟨b, off, e, hb, hc⟩ := h.cellM (by rw [rw_len]; exact hp)
  refine ⟨b, off, e, hb, fun j hj => ?_⟩
  rw [hc j (by rw [rw_len]; exact hj)]
  have := rw_get (f := f) hj
  rw [List.getElem?_eq_getElem (by rw [rw_len]; exact hj)] at this
  rw [Option.some.inj this]
  rfl
theorem Rd.shapeR {wd : Nat} {f : Nat → UInt8} (h : Rd w B v ((rw wd f).map bv)) : ∃ A c, v = .slice A wd c ∧ wd ≤ c ∧ c ≤ maxLen := by
  have := h.shapeM
  rwa [rw_len] at this
end

/-- the call owns v, a slice of n slices of bytes vs 0, vs 1 .., all of them apart, from block B on -/
structure OwM (w : World) (B : Nat) (v : Value) (vs : Nat → Value) (n : Nat) (g : Nat → List UInt8) : Prop where
  out : Ow w B 41 v ((List.range n).map vs)
  row : ∀ j, j < n → Ow w B 5 (vs j) ((g j).map bv)
  ap : ∀ i j, i < n → j < n → i ≠ j → Apart (vs i) (vs j)
  apo : ∀ j, j < n → Apart v (vs j)
theorem map_upd (n j : Nat) (vs : Nat → Value) (u : Value) : ((List.range n).map vs).set j u = (List.range n).map fun i => if i = j then u else vs i := by
  apply List.ext_getElem?
  intro i
  by_cases hi : i < n
  · rw [List.getElem?_set]
    by_cases e : j = i
    · subst e; simp [hi]
    · rw [if_neg e]; simp only [List.getElem?_map, List.getElem?_range hi, Option.map_some]; rw [if_neg (fun h : i = j => e h.symm)]
  · rw [List.getElem?_eq_none (by simp; omega), List.getElem?_eq_none (by simp; omega)]
section
variable {w w' : World} {B n : Nat} {v : Value} {vs : Nat → Value} {g g' : Nat → List UInt8}
theorem OwM.rd (h : OwM w B v vs n g) : RdM w w.heap.size v n g := ⟨vs, h.out.rd, fun j hj => (h.row j hj).rd⟩
theorem OwM.congr (h : OwM w B v vs n g) (e : ∀ j, j < n → g j = g' j) : OwM w B v vs n g' := ⟨h.out, fun j hj => by rw [← e j hj]; exact h.row j hj, h.ap, h.apo⟩
theorem OwM.below (h : OwM w B v vs n g) (hb : Below w.heap.size w w') : OwM w' B v vs n g := ⟨h.out.below hb, fun j hj => (h.row j hj).below hb, h.ap, h.apo⟩
theorem OwM.mono {B' : Nat} (h : OwM w B v vs n g) (hB : B' ≤ B) : OwM w B' v vs n g := ⟨h.out.mono hB, fun j hj => (h.row j hj).mono hB, h.ap, h.apo⟩
theorem OwM.nil (w : World) (B : Nat) (g : Nat → List UInt8) : OwM w B (.slice none 0 0) (fun _ => .slice none 0 0) 0 g := ⟨Ow.nil _ _ _, fun j hj => by omega, fun i j hi => by omega, fun j hj => by omega⟩
/-- row j is written -/
theorem OwM.setRow {j : Nat} {l : List UInt8} (h : OwM w B v vs n g) (hj : j < n) (hg : w.grownBy w' (vs j).ownBlock) (ho : Ow w' B 5 (vs j) (l.map bv)) :
    OwM w' B v vs n (fun i => if i = j then l else g i) := by
  refine ⟨h.out.kept hg (h.apo j hj), fun i hi => ?_, h.ap, h.apo⟩
  by_cases e : i = j
  · subst e; rw [if_pos rfl]; exact ho
  · rw [if_neg e]; exact (h.row i hi).kept hg (h.ap i j hi hj e)
theorem OwM.grown {w0 : World} {B0 j : Nat} (h : OwM w B v vs n g) (hj : j < n) (hg : w.grownBy w' (vs j).ownBlock) (hb : Below B0 w0 w) (hB : B0 ≤ B) (hw : B0 ≤ w.heap.size) : Below B0 w0 w' :=
  hb.grown hg hw fun k hk => Nat.le_trans hB ((h.row j hj).ge k hk)
theorem grownBy_setCell (w : World) (g k : Nat) (u : Value) : w.grownBy (w.setCell ⟨g, k, none⟩ u) (some g) :=
  ⟨rfl, rfl, rfl, by simp [World.setCell], fun i _ hne => Below.heap_setCell _ _ _ _ (fun e => hne (by rw [e]))⟩
/-- place j of the outer slice is written with a new row -/
theorem OwM.put_ {w1 : World} {A : Option Addr} {m c j : Nat} {u : Value} {l : List UInt8} (h : OwM w B (.slice A m c) vs n g) (hj : j < n) (hb : Below w.heap.size w w1)
    (ho : Ow w1 w.heap.size 5 u (l.map bv)) (hB : B ≤ w.heap.size) :
    ∃ gb, A = some ⟨gb, 0, none⟩ ∧ B ≤ gb ∧ gb < w.heap.size ∧ w1.cell? ⟨gb, j, none⟩ = some (vs j) ∧ w1.frozen? ⟨gb, j, none⟩ = false ∧
      OwM (w1.setCell ⟨gb, j, none⟩ u) B (.slice A m c) (fun i => if i = j then u else vs i) n (fun i => if i = j then l else g i) := by
  have h1 := h.below hb
  obtain ⟨gb, hA, hgb, hgs, hgc, hgf, hset⟩ := h1.out.at_ (k := j) (by simpa using hj)
  subst hA
  have hgw := (h.out.lt gb rfl).2
  have hs := hset u
  rw [map_upd] at hs
  have new : ∀ k, u.ownBlock = some k → w.heap.size ≤ k := fun k hk => (ho.lt k hk).1
  have old : ∀ i, i < n → ∀ k, (vs i).ownBlock = some k → k < w.heap.size := fun i hi k hk => ((h.row i hi).lt k hk).2
  have gk := grownBy_setCell w1 gb j u
  refine ⟨gb, rfl, hgb, hgw, by rw [hgc]; simp, hgf, hs, fun i hi => ?_, fun i k hi hk hne => ?_, fun i hi => ?_⟩
  · by_cases e : i = j
    · subst e
      simp only [if_true]
      exact (ho.mono hB).kept gk fun k hk e => by have := new k hk; injection e with e; omega
    · rw [if_neg e, if_neg e]
      exact (h1.row i hi).kept gk fun k hk e' => h.apo i hi gb rfl (by rw [hk]; exact e'.symm)
  · by_cases e1 : i = j
    · subst e1
      have e2 : k ≠ i := fun e => hne e.symm
      simp only [if_true, if_neg e2]
      intro q hq hq'
      have := new q hq
      have := old k hk q hq'
      omega
    · by_cases e2 : k = j
      · subst e2
        simp only [if_true, if_neg e1]
        intro q hq hq'
        have := new q hq'
        have := old i hi q hq
        omega
      · simp only [if_neg e1, if_neg e2]
        exact h.ap i k hi hk hne
  · by_cases e : i = j
    · simp only [if_pos e]
      intro q hq hq'
      have := new q hq'
      have : gb = q := by injection hq
      omega
    · simp only [if_neg e]
      exact h.apo i hi
end
/-- 'copy(v, x)', v of the call's own, x not longer -/
theorem wpList_copyB {P : Program} {ops : Array Oper} {rest : List Oper} {o : Oper} {a : Act} {w : World} {B e t u : Nat} {v x : Value} {xs ys : List UInt8} {Q : Exit → Act → World → Prop} (T : ET P t e (.int .u8 0) 1) (hgd : o.guard = none) (d s : Operand)
    (ho : o.op = .call { callee := .builtin .copy, args := #[d, s], argTypes := #[t, u] }) (hd : a.eval d = v) (hown : Ow w B e v (xs.map bv)) (hs : a.eval s = x) {D : Nat} (hr : Rd w D x (ys.map bv)) (hlen : ys.length ≤ xs.length)
    (h : ∀ w', Ow w' B e v ((ys ++ xs.drop ys.length).map bv) → w.grownBy w' v.ownBlock → w'.heap.size = w.heap.size → wpList P ops Q rest (a.put o.dst (goInt ys.length)) w') : wpList P ops Q (o :: rest) a w := by
  obtain ⟨i, hi, hi0, hi1, hi2⟩ := info_parts T.info
  have hsz : (P.info? e).map (·.size) = some 1 := by rw [hi]; simp [hi1]
  obtain ⟨A, c, rfl, hc, hm, hcell⟩ := hr
  rw [List.length_map] at hc hs hcell
  refine wpList_plain hgd fun K hK => ?_
  by_cases h0 : ys.length = 0
  · have : ys = [] := List.eq_nil_of_length_eq_zero h0
    subst this
    obtain ⟨dp, dc, hv⟩ : ∃ dp dc, v = .slice dp xs.length dc := by
      obtain ⟨A', c', e', _, _⟩ := hown.rd.shapeM
      exact ⟨A', c', e'⟩
    have hrun := run_copy_none (P := P) w t u o.type e dp A xs.length dc 0 c T.ht hsz (by simp)
    rw [hv] at hd
    unfold Oper.wp
    simp [execOp, ho, resolve, invoke, builtin, hd, hs, hrun, Result.andThen]
    exact hK _ _ (h w (by simpa using hown) (World.grownBy.refl _ _) rfl)
  · obtain ⟨b, off, rfl, hb, hcc⟩ := hcell (by omega)
    obtain ⟨hl, hv⟩ := hown
    rcases hv with ⟨rfl, hn⟩ | ⟨g, cap, cur, rfl, hbg, hg, hnc, hcm, hcs, htake⟩
    · rw [List.length_map] at hn; omega
    · rw [List.length_map] at hl hnc hd htake
      rw [Nat.mul_one] at hl hcs htake
      have hrun := run_copy_row (P := P) w t u o.type e g 0 xs.length cap ⟨b, off, none⟩ ys.length c cur e (ys.map bv) T.ht hsz hg (by rw [List.length_map]; exact (Nat.min_eq_left hlen).symm) (fun j u hu => by rw [Addr.add_lit]; exact hcc j u hu) (by simp; omega) (one_bv ys)
      unfold Oper.wp
      simp only [execOp, ho, resolve, invoke, builtin, Sem.run_bind, Sem.run_pure, Result.andThen_ok, List.map_toArray, List.map_cons, List.map_nil, hd, hs, hrun]
      rw [List.length_map]
      have hnl : (ys ++ xs.drop ys.length).length = xs.length := by simp; omega
      refine hK _ _ (h _ ?_ ?_ (by simp [World.setRow]))
      · refine ⟨by simp, .inr ⟨g, cap, _, by simp only [List.length_map, hnl], hbg, setRow_heap w g cur _ e _ hg, by simp only [List.length_map, hnl]; exact hnc, hcm, ?_, ?_⟩⟩
        · simp; omega
        · simp only [List.length_map, hnl, Nat.mul_one]
          have e1 : (cur.toList.drop ys.length).take (xs.length - ys.length) = (xs.drop ys.length).map bv := by
            rw [List.map_drop, ← htake, List.drop_take]
          have e2 : xs.length = (ys.map bv).length + (xs.length - ys.length) := by simp; omega
          simp only [List.take_zero, List.nil_append, Nat.zero_add]
          rw [e2, List.take_length_add_append, e1, List.map_append]
      · exact ⟨rfl, rfl, rfl, by simp [World.setRow], fun k hk hne => setRow_other w g k _ (fun e => hne (by rw [e]; rfl))⟩
end Go.Proofs.YtkpdadnmbjmfpaaDoor

namespace Go.Proofs.YtkpdadnmbjmfpaaDoor
open Go.RowKit
open Mx (rw rw_len rw_get rw_congr)

/-- the outer slice and the row that is being built -/
structure Bld (w1 wr : World) (v : Value) (vs : Nat → Value) (n : Nat) (g : Nat → List UInt8) (u : Value) (l : List UInt8) : Prop where
  om : OwM wr w1.heap.size v vs n g
  ro : Ow wr w1.heap.size 5 u (l.map bv)
  ar : ∀ j, j < n → Apart u (vs j)
  ao : Apart u v
  bel : Below w1.heap.size w1 wr
section
variable {w1 wr w' : World} {v u : Value} {vs : Nat → Value} {n : Nat} {g : Nat → List UInt8} {l : List UInt8}
theorem Bld.start (w1 : World) (g : Nat → List UInt8) : Bld w1 w1 (.slice none 0 0) (fun _ => .slice none 0 0) 0 g (.slice none 0 0) [] :=
  ⟨OwM.nil _ _ _, Ow.nilB _ _ _, fun j hj => by omega, Apart.nil _, Below.refl _ _⟩
theorem Bld.fresh (h : OwM wr w1.heap.size v vs n g) (hb : Below w1.heap.size w1 wr) : Bld w1 wr v vs n g (.slice none 0 0) [] := ⟨h, Ow.nilB _ _ _, fun _ _ => Apart.nil _, Apart.nil _, hb⟩
theorem Bld.up (h : Bld w1 wr v vs n g u l) (hb : Below wr.heap.size wr w') : Bld w1 w' v vs n g u l := ⟨h.om.below hb, h.ro.below hb, h.ar, h.ao, bwstep h.bel hb⟩
/-- a new row beside what is built -/
theorem Bld.of {w2 : World} (h : OwM wr w1.heap.size v vs n g) (hb : Below w1.heap.size w1 wr) (hu : Ow w2 wr.heap.size 5 u (l.map bv)) (hb2 : Below wr.heap.size wr w2) : Bld w1 w2 v vs n g u l :=
  ⟨h.below hb2, hu.mono hb.size, fun j hj k hk e => by
    have h1 := hu.ge k hk
    have h2 := ((h.row j hj).lt k e).2
    omega, fun k hk e => by
    have h1 := hu.ge k hk
    have h2 := (h.out.lt k e).2
    omega, bwstep hb hb2⟩
theorem OwM.kept {B : Nat} {row : Option Nat} (h : OwM wr B v vs n g) (hg : wr.grownBy w' row) (ho : ∀ k, v.ownBlock = some k → row ≠ some k) (hr : ∀ j, j < n → ∀ k, (vs j).ownBlock = some k → row ≠ some k) : OwM w' B v vs n g :=
  ⟨h.out.kept hg ho, fun j hj => (h.row j hj).kept hg (hr j hj), h.ap, h.apo⟩
/-- the row has grown by an append: wa is the world in which the append began -/
theorem Bld.app {wa : World} {u' : Value} {l' : List UInt8} (h : Bld w1 wa v vs n g u l) (ho : Ow w' w1.heap.size 5 u' (l'.map bv)) (hg : wa.grownBy w' u.ownBlock)
    (h3 : u'.ownBlock = u.ownBlock ∨ u'.ownBlock = some wa.heap.size) : Bld w1 w' v vs n g u' l' := by
  refine ⟨h.om.kept hg (fun k hk e => h.ao k e hk) (fun j hj k hk e => h.ar j hj k e hk), ho, fun j hj k hk e => ?_, fun k hk e => ?_, h.bel.grown hg h.bel.size h.ro.ge⟩
  · rcases h3 with h3 | h3
    · exact h.ar j hj k (h3 ▸ hk) e
    · rw [h3] at hk
      injection hk with hk
      have := ((h.om.row j hj).lt k e).2
      omega
  · rcases h3 with h3 | h3
    · exact h.ao k (h3 ▸ hk) e
    · rw [h3] at hk
      injection hk with hk
      have := (h.om.out.lt k e).2
      omega
theorem map_push (n : Nat) (vs : Nat → Value) (u : Value) : (List.range n).map vs ++ [u] = (List.range (n + 1)).map fun i => if i = n then u else vs i := by
  rw [List.range_succ, List.map_append, List.map_singleton, if_pos rfl]
  congr 1
  exact List.map_congr_left fun i hi => by have := List.mem_range.1 hi; rw [if_neg (by omega)]
/-- the row is appended to the outer slice -/
theorem Bld.push {wa : World} {v' : Value} (h : Bld w1 wa v vs n g u l) (ho : Ow w' w1.heap.size 41 v' ((List.range n).map vs ++ [u])) (hg : wa.grownBy w' v.ownBlock)
    (h3 : v'.ownBlock = v.ownBlock ∨ v'.ownBlock = some wa.heap.size) : OwM w' w1.heap.size v' (fun i => if i = n then u else vs i) (n + 1) (fun i => if i = n then l else g i) ∧ Below w1.heap.size w1 w' := by
  rw [map_push] at ho
  have nv : ∀ x : Value, (∀ k, v.ownBlock = some k → x.ownBlock ≠ some k) → (∀ k, x.ownBlock = some k → k < wa.heap.size) → Apart v' x := fun x h1 h2 k hk e => by
    rcases h3 with h3 | h3
    · exact h1 k (h3 ▸ hk) e
    · rw [h3] at hk
      injection hk with hk
      have := h2 k e
      omega
  refine ⟨⟨ho, fun i hi => ?_, fun i j hi hj hne => ?_, fun i hi => ?_⟩, h.bel.grown hg h.bel.size h.om.out.ge⟩
  · by_cases e : i = n
    · simp only [if_pos e]
      exact h.ro.kept hg fun k hk e' => h.ao k hk e'
    · simp only [if_neg e]
      exact (h.om.row i (by omega)).kept hg fun k hk e' => h.om.apo i (by omega) k e' hk
  · by_cases e1 : i = n
    · by_cases e2 : j = n
      · omega
      · simp only [if_pos e1, if_neg e2]
        exact h.ar j (by omega)
    · by_cases e2 : j = n
      · simp only [if_pos e2, if_neg e1]
        exact (h.ar i (by omega)).symm
      · simp only [if_neg e1, if_neg e2]
        exact h.om.ap i j (by omega) (by omega) hne
  · by_cases e : i = n
    · simp only [if_pos e]
      exact nv u (fun k hk e' => h.ao k e' hk) fun k hk => (h.ro.lt k hk).2
    · simp only [if_neg e]
      exact nv (vs i) (fun k hk => h.om.apo i (by omega) k hk) fun k hk => ((h.om.row i (by omega)).lt k hk).2
end
/-- a slice of slices of bytes is one cell -/
theorem Ow.oneV {w : World} {B e : Nat} {v : Value} {xs : List Value} (h : Ow w B e v xs) : v.oneCell' = true := by
  obtain ⟨A, c, rfl, _, _⟩ := h.rd.shape
  rfl
theorem one_one {u : Value} (h : u.oneCell' = true) : One [u] := fun x hx => by rw [List.mem_singleton.1 hx]; exact h
end Go.Proofs.YtkpdadnmbjmfpaaDoor
