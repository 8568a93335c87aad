/- slices.Backward over numbers: its contract, and its iterator's. The contract of read of package table. What Open tells of a table's bytes, plain: its cells cut at the least size are its blocks. -/
import Derived.Test.YtcpkhhbbjimdaaaGreatDoorBlmA
import Derived.RangeFuncNested
import Derived.RangeFuncBound
import Derived.RangeFuncCalls
import Derived.RangeFuncLeaves
import Derived.RangeFuncBox
import Derived.Shelf.Abstract
import Derived.Shelf.RegionOpen
import Derived.OwnWalkIn
import Derived.TacticsInMore
import Derived.LoopNIn
import Derived.LoopIn
import Derived.Maps.AppendAt
import Derived.Test.YtcpkhhbbjimdaaaGreatDoorTabA
import Derived.Test.YtcpkhhbbjimdaaaGreatDoorCsA
import Derived.Test.YtcpkhhbbjimdaaaGreatDoorBkA
import Derived.Test.YtcpkhhbbjimdaaaGreatDoorTabC
import Derived.Test.YtcpkhhbbjimdaaaGreatDoorLow
set_option maxHeartbeats 8000000
set_option maxRecDepth 100000
namespace Go.Proofs.YtcpkhhbbjimdaaaGreatDoor.Bw
open Go.RowKit Go.Shelf
attribute [local go_sem] Oper.semAt_some
structure Keeps2 (a b : Nat) (W W' : World) : Prop where
 ka : W'.heap[a]? = W.heap[a]?
 kb : W'.heap[b]? = W.heap[b]?
theorem Keeps2.refl (a b : Nat) (W : World) : Keeps2 a b W W := ⟨rfl, rfl⟩
theorem Keeps2.trans {a b : Nat} {A B C : World} (h : Keeps2 a b A B) (k : Keeps2 a b B C) : Keeps2 a b A C := ⟨k.ka.trans h.ka, k.kb.trans h.kb⟩
theorem cell_of_heap {W W' : World} {b o : Nat} (h : W'.heap[b]? = W.heap[b]?) : W'.cell? ⟨b, o, none⟩ = W.cell? ⟨b, o, none⟩ := by
 unfold World.cell?
 simp only [h]
def Exp (n : Nat) (pre : List (Fin n)) : Prop := ∀ j (h : j < pre.length), (pre[j]).val = n - 1 - j
theorem Exp.nil (n : Nat) : Exp n [] := fun j h => by simp at h
theorem Exp.snoc {n : Nat} {pre : List (Fin n)} {x : Fin n} (h : Exp n pre) (hx : x.val = n - 1 - pre.length) : Exp n (pre ++ [x]) := fun j hj => by
 rw [List.length_append, List.length_singleton] at hj
 by_cases hl : j < pre.length
 ·rw [List.getElem_append_left hl]
  exact h j hl
 ·obtain rfl : j = pre.length := by omega
  simpa using hx
theorem Exp.last {n : Nat} {pre : List (Fin n)} {x : Fin n} (h : Exp n (pre ++ [x])) : Exp n pre ∧ x.val = n - 1 - pre.length := by
 refine ⟨fun j hj => ?_, ?_⟩
 ·have := h j (by simp; omega)
  rwa [List.getElem_append_left hj] at this
 ·have := h pre.length (by simp)
  simpa using this
theorem back1_in (n : Nat) (hn : 1 ≤ n) (l Bs b off c : Nat) (ss : List Nat) (A : Option Addr) (hl : ss.length ≤ 1000000000) (hA : 0 < ss.length → A = some ⟨b, off, none⟩) (J Jx : List (Fin ss.length) → World → Prop)
  (hY : ∀ pre (x : Fin ss.length) W, J pre W → pre.length < ss.length → YieldAt Fence.wide (n - 1) Tryz.prog l #[.int .i64 (x.val : Int), .int .i64 (ss[x.val] : Int)] W fun e W' =>
   (e = .returned (.bool true) ∧ J (pre ++ [x]) W' ∧ Keeps2 b Bs W W') ∨ (e = .returned (.bool false) ∧ Jx (pre ++ [x]) W'))
  (W : World) (hBs : W.cell? ⟨Bs, 0, none⟩ = some (.slice A ss.length c)) (hss : ∀ i (h : i < ss.length), W.cell? ⟨b, off + i, none⟩ = some (.int .i64 (ss[i] : Int))) (h0 : J [] W) :
  CallsIn Fence.wide n Tryz.prog 146 #[.func (.yield l) #[] #[], .pointer (some ⟨Bs, 0, none⟩)] W fun e W' => (∃ v, e = .returned v) ∧
   ((∃ ys, (Exp ss.length ys ∧ ys.length = ss.length) ∧ J ys W') ∨ (∃ pre, Exp ss.length pre ∧ Jx pre W')) := by
 refine callsIn_of_wp Tryz.func146 rfl trivial ?_ rfl
 simp only [Tryz.ntmps146, List.size_toArray, List.length_cons, List.length_nil, Nat.reduceAdd, Nat.reduceSub, Array.replicate_succ, Array.replicate_zero, List.push_toArray, List.append_toArray, List.nil_append, List.cons_append]
 have HSS := Lib.hid hss
 have HA := Lib.hid hA
 have HY := Lib.hid hY
 have hw0 : IntKind.i64.wrap ((ss.length : Int) - 1) = (ss.length : Int) - 1 := by rw [IntKind.wrap_i64]; omega
 clear hss hA hY
 gi_wp2
 gi_loopw [3] (fun i wr => ∃ (m : Nat) (pre : List (Fin ss.length)), i = .int .i64 ((m : Int) - 1) ∧ Hid (pre.length + m = ss.length ∧ Exp ss.length pre ∧ J pre wr) ∧ Keeps2 b Bs W wr) (fun i _ => (intOf i + 1).toNat)
 case atStart => exact ⟨ss.length, [], rfl, Lib.hid ⟨by simp, Exp.nil _, h0⟩, Keeps2.refl _ _ _⟩
 case round =>
  obtain ⟨m, pre, rfl, HP, hk⟩ := hrel
  obtain ⟨hpm, hexp, hJ⟩ := HP.out
  have c1 := (cell_of_heap (o := 0) hk.kb).trans hBs
  by_cases hm : 0 < m
  ·obtain ⟨j, rfl⟩ : ∃ j, m = j + 1 := ⟨m - 1, by omega⟩
   have e0 : ((j + 1 : Nat) : Int) - 1 = (j : Int) := by omega
   rw [e0]
   have hjl : j < ss.length := by omega
   have hj1 : (0 : Int) ≤ (j : Int) := by omega
   have hj2 : (j : Int) < (ss.length : Int) := by omega
   have hwj : IntKind.i64.wrap ((j : Int) - 1) = (j : Int) - 1 := by rw [IntKind.wrap_i64]; omega
   have c2 := (cell_of_heap (o := off + j) hk.ka).trans (HSS.out j hjl)
   have hAe := HA.out (by omega)
   subst hAe
   obtain ⟨fn, tmps, assign, body, hy, hR⟩ := HY.out pre ⟨j, hjl⟩ wr hJ (by omega)
   have HE : Hid (Exp ss.length (pre ++ [⟨j, hjl⟩])) := Lib.hid (hexp.snoc (by show j = _; omega))
   have HPL : Hid ((pre ++ [(⟨j, hjl⟩ : Fin ss.length)]).length + j = ss.length) := Lib.hid (by rw [List.length_append, List.length_singleton]; omega)
   dsimp only at hy
   clear hexp hJ HP hpm e0 HY
   gi_wp2
   refine hR.mono ?_
   rintro e W3 (⟨rfl, hJ3, hk3⟩ | ⟨rfl, hJx3⟩)
   ·gi_wp2
    go_roundw
    case rel => exact ⟨j, _, by go_num, Lib.hid ⟨HPL.out, HE.out, hJ3⟩, hk.trans hk3⟩
    case measure => simp [intOf]
   ·gi_wp2
    refine bodyPost_ret (results_none rfl _ _ _) rfl ?_
    exact ⟨⟨_, rfl⟩, .inr ⟨_, HE.out, hJx3⟩⟩
  ·obtain rfl : m = 0 := by omega
   have e0 : ((0 : Nat) : Int) - 1 = -1 := rfl
   rw [e0]
   clear HP
   gi_wp2
   go_end0
   exact ⟨⟨_, rfl⟩, .inl ⟨_, ⟨hexp, by omega⟩, hJ⟩⟩
theorem back_stops (n : Nat) (hn : 1 ≤ n) (Bs b off c : Nat) (ss : List Nat) (A : Option Addr) (w : World) (hl : ss.length ≤ 1000000000) (hA : 0 < ss.length → A = some ⟨b, off, none⟩)
  (hBs : w.cell? ⟨Bs, 0, none⟩ = some (.slice A ss.length c)) (hss : ∀ i (h : i < ss.length), w.cell? ⟨b, off + i, none⟩ = some (.int .i64 (ss[i] : Int))) (h1 : Bs < w.heap.size) (h2 : b < w.heap.size) :
  SeqStopsK Fence.wide n Tryz.prog 146 #[.pointer (some ⟨Bs, 0, none⟩)] (fun x : Fin ss.length => #[.int .i64 (x.val : Int), .int .i64 (ss[x.val] : Int)]) (Keeps2 b Bs) (fun ys => Exp ss.length ys ∧ ys.length = ss.length) (fun pre => Exp ss.length pre) ss.length w := fun l J Jx W hW _ _ hY h0 =>
 back1_in n hn l Bs b off c ss A hl hA J Jx hY W ((hW.cell (p := ⟨Bs, 0, none⟩) h1).trans hBs) (fun i h => (hW.cell (p := ⟨b, off + i, none⟩) h2).trans (hss i h)) h0
theorem backward_any (A : Option Addr) (n c : Nat) (w : World) :
  Calls Tryz.prog 135 #[.slice A n c] w fun e w' => e = .returned (.func (.func 146) #[] #[.pointer (some ⟨w.heap.size, 0, none⟩)]) ∧ w' = w.alloc (.cells #[.slice A n c] 82) := by
 go_enter Tryz.func135, Tryz.ntmps135
 go_wp2_with fail
 go_ret
 exact ⟨rfl, rfl⟩
end Go.Proofs.YtcpkhhbbjimdaaaGreatDoor.Bw
namespace Go.Proofs.YtcpkhhbbjimdaaaGreatDoor.Ce
open Go.RowKit Frm Go.Shelf
attribute [local go_sem] Oper.semAt_some
def Foreign (w : World) (row : Option Nat) : Prop := ∀ r, row = some r → ∀ cur t fz, w.heap[r]? = some (.cells cur t fz) → t ≠ 27 ∧ t ≠ 47
theorem foreign_not {w : World} {row : Option Nat} (h : ∀ r, row = some r → ∃ o : Obj, w.heap[r]? = some o ∧ o.isCells = false) : Foreign w row := fun r e cur t fz hc => by
 obtain ⟨o, ho, hn⟩ := h r e
 rw [hc] at ho
 cases ho
 cases hn
theorem foreign_box {w : World} {g t : Nat} {v : Value} (h : Boxed w g t v) (h1 : t ≠ 27) (h2 : t ≠ 47) : Foreign w (some g) := fun r e cur t' fz hc => by
 cases e
 rw [show w.heap[g]? = _ from h] at hc
 cases hc
 exact ⟨h1, h2⟩
theorem OwL.keptF {w w' : World} {B : Nat} {u : Value} {L : List Cl} {row : Option Nat} (h : OwL w B u L) (hg : w.grownBy w' row) (hf : Foreign w row) : OwL w' B u L := by
 refine h.keptR hg fun k hk hr => ?_
 rcases h.2 with ⟨rfl, -⟩ | ⟨g, cap, cur, rfl, -, hh, -⟩
 ·cases hk
 ·cases hk
  exact (hf g hr cur _ _ hh).2 rfl
theorem OwB.keptF {w w' : World} {B : Nat} {v : Value} {vs : List Value} {LL : List (List Cl)} {row : Option Nat} (h : OwB w B v vs LL) (hg : w.grownBy w' row) (hf : Foreign w row) : OwB w' B v vs LL := by
 refine ⟨h.out.kept hg fun k hk hr => ?_, h.len, fun j u L hu hL => (h.row j u L hu hL).keptF hg hf⟩
 rcases h.out.2 with ⟨rfl, -⟩ | ⟨g, cap, cur, rfl, -, hh, -⟩
 ·cases hk
 ·cases hk
  exact (hf g hr cur _ _ hh).1 rfl
theorem OwB.set_ {w : World} {B i : Nat} {A : Option Addr} {n c : Nat} {u : Value} {vs : List Value} {LL : List (List Cl)} {L : List Cl} (h : OwB w B (.slice A n c) vs LL) (hu : OwL w B u L) (hi : i < LL.length) :
  ∃ g, A = some ⟨g, 0, none⟩ ∧ B ≤ g ∧ g < w.heap.size ∧ (∃ v0, w.cell? ⟨g, i, none⟩ = some v0) ∧ w.frozen? ⟨g, i, none⟩ = false ∧ OwB (w.setCell ⟨g, i, none⟩ u) B (.slice A n c) (vs.set i u) (LL.set i L) := by
 have hvl := h.len
 obtain ⟨g, rfl, h1, h2, h3, h4, h5⟩ := h.out.at_ (k := i) (by omega)
 refine ⟨g, rfl, h1, h2, ⟨_, h3⟩, h4, h5 u, by rw [List.length_set, List.length_set, hvl], fun j x M hx hM => ?_⟩
 have hg := grownBy_setCell w g i u
 have hk : ∀ {y : Value} {N : List Cl}, OwL w B y N → OwL (w.setCell ⟨g, i, none⟩ u) B y N := fun {y N} hy => hy.keptR hg fun q hq e => by
  cases e
  exact ow_apart h.out hy _ hq rfl
 by_cases e : i = j
 ·subst e
  rw [List.getElem?_set_self (by omega)] at hx hM
  cases hx
  cases hM
  exact hk hu
 ·rw [List.getElem?_set_ne e] at hx hM
  exact hk (h.row j x M hx hM)
theorem wpList_makeR {ops : Array Oper} {rest : List Oper} {o : Oper} {a : Act} {w : World} {Q : Exit → Act → World → Prop} (hgd : o.guard = none) (l c : Operand)
  (ho : o.op = .makeSlice 92 l c) (n : Nat) {kl kc : IntKind} (hl : a.eval l = .int kl (n : Int)) (hc : a.eval c = .int kc (n : Int)) (hn : n ≤ 1000000000)
  (h : ∀ w', OwB w' w.heap.size (.slice (some ⟨w.heap.size, 0, none⟩) n n) (List.replicate n (.slice none 0 0)) (List.replicate n []) → Below w.heap.size w w' → wpList Tryz.prog ops Q rest (a.put o.dst (.slice (some ⟨w.heap.size, 0, none⟩) n n)) w') :
  wpList Tryz.prog ops Q (o :: rest) a w := by
 obtain ⟨i, hi, hi0, hi1, hi2⟩ := info_parts rowsC_T.info
 refine wpList_make_full w hgd l c _ ho w.heap.size _ i (.slice none 0 0) 1 rowsC_T.ht hi hi0 hi1 kl kc _ _ n hl hc rfl rfl (by rw [hi2]; omega) (by simp [maxLen]; omega) (Nat.le_refl _) ?_
 intro w' hown hgr
 refine h w' ⟨?_, by simp, fun j u L hu hL => ?_⟩ ((Below.refl _ _).grown hgr (Nat.le_refl _) (by simp))
 ·have e1 : (madeCells (Value.slice none 0 0).cells (n * 1)).toList = List.replicate n (.slice none 0 0) := by
   show (madeCells #[.slice none 0 0] (n * 1)).toList = _
   rw [madeCells_one]
  unfold Ow
  rw [e1] at hown
  simpa using hown
 ·rw [List.getElem?_replicate] at hu hL
  split at hu
  ·next hj =>
   rw [if_pos hj] at hL
   cases hu
   cases hL
   exact OwL.nil _ _
  ·cases hu
theorem keepsFrom_below {B : Nat} {W W' : World} (hb : Below W.heap.size W W') : KeepsFrom B W W' := ⟨hb.size, fun k _ _ hk _ => (hb.block k (Array.getElem?_eq_some_iff.1 hk).1).trans hk⟩
theorem boxed_bel {W W' : World} {g t : Nat} {v : Value} (h : Boxed W g t v) (hb : Below W.heap.size W W') : Boxed W' g t v := (hb.block g h.lt).trans h
theorem boxed_two {W : World} {g k t u : Nat} {a b a' b' : Value} (h : Boxed W g t a) (h' : Boxed W k u b) (hne : g ≠ k) : Boxed ((W.setCell ⟨g, 0, none⟩ a').setCell ⟨k, 0, none⟩ b') g t a' ∧ Boxed ((W.setCell ⟨g, 0, none⟩ a').setCell ⟨k, 0, none⟩ b') k u b' :=
 ⟨(h.set a').other hne b', (h'.other hne.symm a').set b'⟩
theorem keeps_two {B : Nat} {W W1 : World} {a b : Value} {p q : Addr} (h : KeepsFrom B W W1) : KeepsFrom B W ((W1.setCell p a).setCell q b) :=
 (h.trans ((KeepsOthers.setCell W1 p a).from B)).trans ((KeepsOthers.setCell _ q b).from B)
def ReadEnd (l : List UInt8) (ss : List Nat) (w : World) (e : Ending) (w' : World) : Prop :=
 ((∃ y LL, e = .returned (.tuple #[y, .bool true]) ∧ RdB w' y LL ∧ LL.length = ss.length ∧ (∀ M ∈ LL, Sorted M ∧ M ≠ []) ∧ (flatC LL.flatten).length ≤ l.length ∧ ∀ L0, Blks l ss L0 → LL = L0) ∨
  ((¬ ∃ L0, Blks l ss L0) ∧ e = .returned (.tuple #[.slice none 0 0, .bool false]))) ∧ Below w.heap.size w w'
def RdI (w : World) (n0 n1 Bt B4 B5 Bg B6 B7 : Nat) (vb : Value) (l : List UInt8) (ss : List Nat) (pre : List (Fin ss.length)) (W : World) : Prop :=
 (∃ (LL : List (List Cl)) (vs : List Value) (E : Nat), (Boxed W Bt 84 vb ∧ Boxed W B4 92 (.slice none 0 0) ∧ Boxed W B5 4 (.bool false) ∧ Boxed W B6 92 (.slice (some ⟨Bg, 0, none⟩) ss.length ss.length) ∧ Boxed W B7 3 (.int .i64 (E : Int))) ∧
  OwB W n0 (.slice (some ⟨Bg, 0, none⟩) ss.length ss.length) vs LL ∧ LL.length = ss.length ∧ E ≤ l.length ∧ (Bw.Exp ss.length pre → ReadTo l ss pre.length LL E)) ∧ Below n0 w W ∧ n1 ≤ W.heap.size
def RdX (w : World) (n0 B4 B5 : Nat) (l : List UInt8) (ss : List Nat) (c : Code) (pre : List (Fin ss.length)) (W : World) : Prop :=
 (c = .ret ∧ Boxed W B4 92 (.slice none 0 0) ∧ Boxed W B5 4 (.bool false) ∧ (Bw.Exp ss.length pre → ¬ ∃ L0, Blks l ss L0)) ∧ Below n0 w W
theorem rdI_own {w : World} {n0 n1 Bt B4 B5 Bg B6 B7 B : Nat} {vb : Value} {l : List UInt8} {ss : List Nat} (hn : n0 ≤ w.heap.size) (hB : n0 ≤ B) (h1 : Bt < B) (h2 : B4 < B) (h3 : B5 < B) (h4 : B6 < B) (h5 : B7 < B) : OwnFrom B (RdI w n0 n1 Bt B4 B5 Bg B6 B7 vb l ss) := by
 rintro pre W W' row ⟨⟨LL, vs, E, ⟨b1, b2, b3, b4, b5⟩, ho, hl, hE, hP⟩, hb, hn1⟩ hg hr
 have hne : ∀ k, k < B → some k ≠ row := fun k hk e => by
  have := (hr k e.symm).1
  omega
 refine ⟨⟨LL, vs, E, ⟨b1.kept hg (hne _ h1), b2.kept hg (hne _ h2), b3.kept hg (hne _ h3), b4.kept hg (hne _ h4), b5.kept hg (hne _ h5)⟩, ho.keptF hg (foreign_not fun r e => (hr r e).2), hl, hE, hP⟩, hb.grown hg (Nat.le_trans hn hb.size) (fun k e => Nat.le_trans hB (hr k e).1), Nat.le_trans hn1 hg.size⟩
theorem rdX_own {w : World} {n0 B4 B5 B : Nat} {l : List UInt8} {ss : List Nat} (hn : n0 ≤ w.heap.size) (hB : n0 ≤ B) (h2 : B4 < B) (h3 : B5 < B) (c : Code) : OwnFrom B (RdX w n0 B4 B5 l ss c) := by
 rintro pre W W' row ⟨⟨hc, b2, b3, hP⟩, hb⟩ hg hr
 have hne : ∀ k, k < B → some k ≠ row := fun k hk e => by
  have := (hr k e.symm).1
  omega
 exact ⟨⟨hc, b2.kept hg (hne _ h2), b3.kept hg (hne _ h3), hP⟩, hb.grown hg (Nat.le_trans hn hb.size) fun k e => Nat.le_trans hB (hr k e).1⟩
theorem read_any (v x : Value) (l : List UInt8) (ss : List Nat) (B D : Nat) (w : World) (hr : Rd w B v (l.map bv)) (hB : B ≤ w.heap.size) (hl : l.length ≤ 1000000) (hss : ∀ s ∈ ss, s ≤ 4294967295) (hsl : ss.length ≤ 1000000) (hx : Rd w D x (ss.map Blm.nvB)) (hD : D ≤ w.heap.size) :
  Calls Tryz.prog 119 #[v, x] w (ReadEnd l ss w) := by
 obtain ⟨A, c, rfl, hc, hm⟩ := hr.shapeM
 obtain ⟨Ax, cx, rfl, hcx, hmx⟩ := hx.shapeM
 unfold maxLen at hm hmx
 refine (callsIn_wide (n := 5)).1 ?_
 refine callsIn_of_wp_marks Tryz.func119 rfl trivial ?_ rfl
 refine wpIn_wide.2 ?_
 simp only [Tryz.ntmps119, List.size_toArray, List.length_cons, List.length_nil, Nat.reduceAdd, Nat.reduceSub, Array.replicate_succ, Array.replicate_zero, List.push_toArray, List.append_toArray, List.nil_append, List.cons_append]
 have bT0 : Boxed (((w.alloc (.cells #[.slice A l.length c] 84)).alloc (.cells #[.slice none 0 0] 92)).alloc (.cells #[.bool false] 4)) w.heap.size 84 (.slice A l.length c) := ((Boxed.new w _ _).alloc _).alloc _
 have b40 : Boxed (((w.alloc (.cells #[.slice A l.length c] 84)).alloc (.cells #[.slice none 0 0] 92)).alloc (.cells #[.bool false] 4)) (w.heap.size + 1) 92 (.slice none 0 0) := by
  have := (Boxed.new (w.alloc (.cells #[.slice A l.length c] 84)) 92 (.slice none 0 0)).alloc (.cells #[.bool false] 4)
  rwa [World.size_alloc] at this
 have b50 : Boxed (((w.alloc (.cells #[.slice A l.length c] 84)).alloc (.cells #[.slice none 0 0] 92)).alloc (.cells #[.bool false] 4)) (w.heap.size + 1 + 1) 4 (.bool false) := by
  have := Boxed.new ((w.alloc (.cells #[.slice A l.length c] 84)).alloc (.cells #[.slice none 0 0] 92)) 4 (.bool false)
  rwa [World.size_alloc, World.size_alloc] at this
 have hb00 : Below w.heap.size w (((w.alloc (.cells #[.slice A l.length c] 84)).alloc (.cells #[.slice none 0 0] 92)).alloc (.cells #[.bool false] 4)) := bwalloc (bwalloc (bwalloc (Below.refl _ _) _) _) _
 have hsz0 : (((w.alloc (.cells #[.slice A l.length c] 84)).alloc (.cells #[.slice none 0 0] 92)).alloc (.cells #[.bool false] 4)).heap.size = w.heap.size + 1 + 1 + 1 := by simp
 have HBT := Lib.hid bT0
 have HB4 := Lib.hid b40
 have HB5 := Lib.hid b50
 have HB00 := Lib.hid hb00
 have HSZ := Lib.hid hsz0
 have HR := Lib.hid hr
 have HX := Lib.hid hx
 clear bT0 b40 b50 hb00 hsz0 hr hx
 go_wp2_with (refine wpList_makeR rfl (.tmp 14) (.tmp 14) rfl ss.length rfl rfl (by omega) ?_; intro w2 ho2 hb2; have hcT := fun o => ((boxed_bel HBT.out hb2).alloc o).cell)
 refine (Bw.backward_any Ax ss.length cx _).mono ?_
 rintro e w3 ⟨rfl, rfl⟩
 go_wp2_with fail
 refine (wpIn_wide (n := 5)).1 ?_
 obtain ⟨W3, hW3⟩ : ∃ W3, (((w.alloc (.cells #[.slice A l.length c] 84)).alloc (.cells #[.slice none 0 0] 92)).alloc (.cells #[.bool false] 4)) = W3 := ⟨_, rfl⟩
 rw [hW3] at HBT HB4 HB5 HB00 HSZ ho2 hb2
 have hsz3 := HSZ.out
 have hsz2 := hb2.size
 obtain ⟨W0, hW0⟩ : ∃ W0, ((w2.alloc (.cells #[.slice (some ⟨w.heap.size + 1 + 1 + 1, 0, none⟩) ss.length ss.length] 92)).alloc (.cells #[.int .i64 (l.length : Int)] 3)).alloc (.cells #[.slice Ax ss.length cx] 82) = W0 := ⟨_, rfl⟩
 have hs0 : W0.heap.size = w2.heap.size + 3 := by rw [← hW0]; simp
 have hgrow : w2.heap.size > w.heap.size + 3 := by
  have h9 : W3.heap.size < w2.heap.size := (ho2.out.lt W3.heap.size rfl).2
  omega
 have b6 : Boxed W0 w2.heap.size 92 (.slice (some ⟨w.heap.size + 1 + 1 + 1, 0, none⟩) ss.length ss.length) := by rw [← hW0]; exact ((Boxed.new w2 _ _).alloc _).alloc _
 have b7 : Boxed W0 (w2.heap.size + 1) 3 (.int .i64 (l.length : Int)) := by
  rw [← hW0]
  have := (Boxed.new (w2.alloc (.cells #[.slice (some ⟨w.heap.size + 1 + 1 + 1, 0, none⟩) ss.length ss.length] 92)) 3 (.int .i64 (l.length : Int))).alloc (.cells #[.slice Ax ss.length cx] 82)
  rwa [World.size_alloc] at this
 have bS : Boxed W0 (w2.heap.size + 1 + 1) 82 (.slice Ax ss.length cx) := by
  rw [← hW0]
  have := Boxed.new ((w2.alloc (.cells #[.slice (some ⟨w.heap.size + 1 + 1 + 1, 0, none⟩) ss.length ss.length] 92)).alloc (.cells #[.int .i64 (l.length : Int)] 3)) 82 (.slice Ax ss.length cx)
  rwa [World.size_alloc, World.size_alloc] at this
 have hb20 : Below w2.heap.size w2 W0 := by rw [← hW0]; exact bwalloc (bwalloc (bwalloc (Below.refl _ _) _) _) _
 have bT := boxed_bel (boxed_bel HBT.out hb2) hb20
 have b4 := boxed_bel (boxed_bel HB4.out hb2) hb20
 have b5 := boxed_bel (boxed_bel HB5.out hb2) hb20
 have ho0 := ho2.below hb20
 have hb0 : Below w.heap.size w W0 := bwstep (bwstep HB00.out hb2) hb20
 rw [hsz3] at ho0
 have ho0 := ho0.mono (B' := w.heap.size) (by omega)
 rw [hW0]
 clear hW0 ho2 hb2 hb20 hcT hW3 HBT HB4 HB5 HB00 HSZ
 obtain ⟨b, off, hbA, hbl, hcell⟩ : ∃ b off, (0 < ss.length → Ax = some ⟨b, off, none⟩) ∧ b < w2.heap.size + 3 ∧ (b < w.heap.size ∨ b = w2.heap.size + 1 + 1) ∧ ∀ i (h : i < ss.length), W0.cell? ⟨b, off + i, none⟩ = some (.int .i64 (ss[i] : Int)) := by
  by_cases hp : 0 < ss.length
  ·obtain ⟨b, off, c', e', -, -, hb, hcc⟩ := HX.out.at_ (by simpa using hp)
   injection e' with e1 _ _
   refine ⟨b, off, fun _ => e1, by omega, .inl (by omega), fun i h => ?_⟩
   have := hcc i (.int .i64 (ss[i] : Int)) (by rw [List.getElem?_map, List.getElem?_eq_getElem h]; rfl)
   exact (hb0.cell (p := ⟨b, off + i, none⟩) (by show b < w.heap.size; omega)).trans this
  ·exact ⟨w2.heap.size + 1 + 1, 0, fun h => absurd h hp, by omega, .inr rfl, fun i h => absurd h (by omega)⟩
 obtain ⟨hbor, hcell⟩ := hcell
 refine wpIn_rangeFunc_ownG rfl (by omega) (gf := 146) (lb := #[.pointer (some ⟨w2.heap.size + 1 + 1, 0, none⟩)]) rfl trivial (enters_of Tryz.func146 (by kernel_rfl) rfl)
  (Bw.back_stops 4 (by omega) (w2.heap.size + 1 + 1) b off cx ss Ax W0 (by omega) hbA bS.cell hcell (by omega) (by omega))
  (fun h k' => Bw.Keeps2.trans h k') (fun W q o o' hq hh _ _ => ⟨World.putObj_heap_other (by omega), World.putObj_heap_other (by omega)⟩) (Below.refl _ _) (fun _ => rfl)
  (RdI w w.heap.size W0.heap.size w.heap.size (w.heap.size + 1) (w.heap.size + 1 + 1) (w.heap.size + 1 + 1 + 1) w2.heap.size (w2.heap.size + 1) (.slice A l.length c) l ss)
  (RdX w w.heap.size (w.heap.size + 1) (w.heap.size + 1 + 1) l ss)
  (rdI_own (Nat.le_refl _) (by omega) (by omega) (by omega) (by omega) (by omega) (by omega))
  (rdX_own (Nat.le_refl _) (by omega) (by omega) (by omega))
  ⟨⟨_, _, l.length, ⟨bT, b4, b5, b6, b7⟩, ho0, by simp, Nat.le_refl _, fun _ => readTo_zero (by simp)⟩, hb0, Nat.le_refl _⟩
  (fun x => { tmps := #[.slice A l.length c, .slice Ax ss.length cx, .pointer (some ⟨w.heap.size, 0, none⟩), undef, .pointer (some ⟨w.heap.size + 1, 0, none⟩), .pointer (some ⟨w.heap.size + 1 + 1, 0, none⟩), .pointer (some ⟨w2.heap.size, 0, none⟩), .pointer (some ⟨w2.heap.size + 1, 0, none⟩), .int .i64 (x.val : Int), .int .i64 (ss[x.val] : Int), undef, undef, undef,
   .slice Ax ss.length cx, .int .i64 (ss.length : Int), .slice (some ⟨w.heap.size + 1 + 1 + 1, 0, none⟩) ss.length ss.length, .slice A l.length c, .int .i64 (l.length : Int), .slice Ax ss.length cx, .func (.func 146) #[] #[.pointer (some ⟨w2.heap.size + 1 + 1, 0, none⟩)], .int .i64 (x.val : Int), .int .i64 (ss[x.val] : Int), undef, undef, undef, undef, undef, undef, undef, undef, undef, undef, undef, undef, undef, undef, undef, undef, undef, undef, undef, undef], defers := [] }) ?assign ?body ?done ?stop
 case assign =>
  intro l x W K hK
  gi_wp2
  exact hK
 case body =>
  rintro lp pre x W ⟨⟨LL, vs, E, ⟨q1, q2, q3, q4, q5⟩, ho, hn, hE, hP⟩, hbW, hW0W⟩ hlt
  obtain ⟨i, hi⟩ := x
  obtain ⟨s, hs⟩ : ∃ s, ss[i] = s := ⟨_, rfl⟩
  dsimp only
  rw [hs]
  have hsm : s ≤ 4294967295 := by rw [← hs]; exact hss _ (List.getElem_mem hi)
  have hX : Bw.Exp ss.length (pre ++ [⟨i, hi⟩]) → Bw.Exp ss.length pre ∧ i = ss.length - 1 - pre.length := fun h => h.last
  have c1 := q1.cell
  have c4 := q2.cell
  have c5 := q3.cell
  have c6 := q4.cell
  have c7 := q5.cell
  have f4 := q2.frozen
  have f5 := q3.frozen
  have f5' := (q3.other (B' := w.heap.size + 1) (by omega) (.slice none 0 0)).frozen
  have c5' := (q3.other (B' := w.heap.size + 1) (by omega) (.slice none 0 0)).cell
  by_cases hsE : s ≤ E
  ·have hno : (¬ ∃ M m, BlkAt ((l.take E).drop s) M m) → Bw.Exp ss.length (pre ++ [⟨i, hi⟩]) → ¬ ∃ L0, Blks l ss L0 := fun hb hx => (hP (hX hx).1).none hlt (hX hx).2 hi (by rw [hs]; exact fun h => hb h.2)
   have hyes : ∀ {M m}, BlkAt ((l.take E).drop s) M m → Bw.Exp ss.length (pre ++ [⟨i, hi⟩]) → ReadTo l ss (pre ++ [(⟨i, hi⟩ : Fin ss.length)]).length (LL.set i M) s := fun {M m} hb hx => by
    have := (hP (hX hx).1).step hn hlt (hX hx).2 hi hE (by rw [hs]; exact hb)
    rw [List.length_append, List.length_singleton]
    rwa [hs] at this
   have hRW : Rd W B (.slice A l.length c) (l.map bv) := HR.out.below (hbW.mono hB)
   have hBW : B ≤ W.heap.size := Nat.le_trans hB hbW.size
   have hg := fun sv (hr : Rd W B sv (((l.take E).drop s).map bv)) => bget_any sv ((l.take E).drop s) W B hr hBW (by rw [List.length_drop, List.length_take]; omega)
   have HNO := Lib.hid hno
   have HYES : Hid (∀ M m, BlkAt ((l.take E).drop s) M m → Bw.Exp ss.length (pre ++ [⟨i, hi⟩]) → ReadTo l ss (pre ++ [(⟨i, hi⟩ : Fin ss.length)]).length (LL.set i M) s) := Lib.hid fun M m h => hyes h
   have hi1 : (0 : Int) ≤ (s : Int) := by omega
   have hi2 : (s : Int) ≤ (E : Int) := by omega
   have hi3 : (E : Int) ≤ (c : Int) := by omega
   have hi4 : (E : Int) ≤ (l.length : Int) := by omega
   have hi5 : (0 : Int) ≤ (i : Int) := by omega
   have hi6 : (i : Int) < (ss.length : Int) := by omega
   have hi7 : ¬ (s : Int) > (E : Int) := by omega
   have HO := Lib.hid ho
   have HBW := Lib.hid hbW
   have HQ := Lib.hid (And.intro q1 (And.intro q2 (And.intro q3 (And.intro q4 q5))))
   have HG := Lib.hid hg
   have HRW := Lib.hid hRW
   have HN := Lib.hid hn
   have htail : ∀ (sv : Value), Rd W B sv (((l.take E).drop s).map bv) → Calls Tryz.prog 136 #[sv] W (GetEnd ((l.take E).drop s) W) := fun sv hr => HG.out sv hr
   by_cases hcs : c = s
   ·subst hcs
    obtain rfl : E = c := by omega
    have hsv := HRW.out.midEnd (lo := E) (hi := E) hsE hE
    rw [← List.map_take, ← List.map_drop] at hsv
    have hcall := htail _ hsv
    clear q1 q2 q3 q4 q5 ho hn hE hP hbW hX hno hyes hRW hBW hg hs htail hsv
    gi_wp2_with fail
    refine ⟨trivial, ?_⟩
    gi_at_call 136
    refine (CallsIn.inRound lp (callsIn_wide.2 hcall)).mono ?_
    rintro e W1 ⟨(⟨M, m, x1, y1, hB1, rfl, hox, hoy⟩ | ⟨hnb, rfl⟩), hb1⟩
    ·obtain ⟨r1, r2, r3, r4, r5⟩ := HQ.out
     obtain ⟨Am, cm, rfl, -, -⟩ := (hox.rd (S := []) (fun _ h => by cases h)).shape
     have d6 := (boxed_bel r4 hb1).cell
     have hsz1 := HBW.out.size
     obtain ⟨g, eg, hg1, hg2, ⟨v0, hg3⟩, hg4, ho1⟩ := (HO.out.below hb1).set_ (hox.mono hsz1) (by rw [HN.out]; exact hi)
     injection eg with eg
     injection eg with eg _
     subst eg
     have hgc := grownBy_setCell W1 (w.heap.size + 1 + 1 + 1) i (.slice Am M.length cm)
     have t7 := (boxed_bel r5 hb1).kept hgc (by simp <;> omega)
     have k7 := t7.cell
     have z7 := t7.frozen
     have u1 := ((boxed_bel r1 hb1).kept hgc (by simp <;> omega)).other (B' := w2.heap.size + 1) (by omega) (.int .i64 (E : Int))
     have u2 := ((boxed_bel r2 hb1).kept hgc (by simp <;> omega)).other (B' := w2.heap.size + 1) (by omega) (.int .i64 (E : Int))
     have u3 := ((boxed_bel r3 hb1).kept hgc (by simp <;> omega)).other (B' := w2.heap.size + 1) (by omega) (.int .i64 (E : Int))
     have u4 := ((boxed_bel r4 hb1).kept hgc (by simp <;> omega)).other (B' := w2.heap.size + 1) (by omega) (.int .i64 (E : Int))
     have u5 := t7.set (.int .i64 (E : Int))
     have ho2 := ho1.keptF (grownBy_setCell' _ (w2.heap.size + 1) (.int .i64 (E : Int))) (foreign_box t7 (by decide) (by decide))
     have hkf := keeps_two (B := W0.heap.size) (a := .slice Am M.length cm) (b := .int .i64 (E : Int)) (p := ⟨w.heap.size + 1 + 1 + 1, i, none⟩) (q := ⟨w2.heap.size + 1, 0, none⟩) (keepsFrom_below (B := W0.heap.size) hb1)
     have keep : ∀ j, j < W0.heap.size → (j < w.heap.size ∨ j = w2.heap.size + 1 + 1) → ((W1.setCell ⟨w.heap.size + 1 + 1 + 1, i, none⟩ (.slice Am M.length cm)).setCell ⟨w2.heap.size + 1, 0, none⟩ (.int .i64 (E : Int))).heap[j]? = W.heap[j]? := fun j h1 h2 => by
      have e0 := hb1.block j (by omega)
      have e1 := hgc.block j (by have := hb1.size; omega) (by simp; omega)
      have e2 := (grownBy_setCell' (W1.setCell ⟨w.heap.size + 1 + 1 + 1, i, none⟩ (.slice Am M.length cm)) (w2.heap.size + 1) (.int .i64 (E : Int))).block j (by have := hb1.size; have := hgc.size; omega) (by simp; omega)
      exact (e2.trans e1).trans e0
     have hbb := ((bwstep HBW.out hb1).setCell (p := ⟨w.heap.size + 1 + 1 + 1, i, none⟩) (by show w.heap.size ≤ w.heap.size + 1 + 1 + 1; omega) (.slice Am M.length cm)).setCell (p := ⟨w2.heap.size + 1, 0, none⟩) (by show w.heap.size ≤ w2.heap.size + 1; omega) (.int .i64 (E : Int))
     have hz := hb1.size
     have hyy := HYES.out M m hB1
     have HALL := Lib.hid (And.intro hkf (And.intro (keep b (by omega) hbor) (And.intro (keep (w2.heap.size + 1 + 1) (by omega) (.inr rfl)) (And.intro u1 (And.intro u2 (And.intro u3 (And.intro u4 (And.intro u5 (And.intro ho2 (And.intro hbb hyy))))))))))
     have hWF : W0.heap.size ≤ ((W1.setCell ⟨w.heap.size + 1 + 1 + 1, i, none⟩ (.slice Am M.length cm)).setCell ⟨w2.heap.size + 1, 0, none⟩ (.int .i64 (E : Int))).heap.size := by simp; omega
     have HWF := Lib.hid hWF
     have hLL : (LL.set i M).length = ss.length := by rw [List.length_set]; exact HN.out
     have HLL := Lib.hid hLL
     have hsl2 : E ≤ l.length := by omega
     clear r1 r2 r3 r4 r5 hgc t7 u1 u2 u3 u4 u5 ho1 ho2 hkf keep hbb hyy hcall hb1 hz hox hoy hB1 hWF hLL
     gi_wp2
     obtain ⟨y1, y2, y3, y4, y5, y6, y7, y8, y9, y10, y11⟩ := HALL.out
     exact ⟨y1, ⟨y2, y3⟩, ⟨_, _, E, ⟨y4, y5, y6, y7, y8⟩, y9, HLL.out, hsl2, y11⟩, y10, HWF.out⟩
    ·obtain ⟨r1, r2, r3, r4, r5⟩ := HQ.out
     have s2 := boxed_bel r2 hb1
     have s3 := boxed_bel r3 hb1
     have f4 := s2.frozen
     have c4 := s2.cell
     have f5' := (s3.other (B' := w.heap.size + 1) (by omega) (.slice none 0 0)).frozen
     have c5' := (s3.other (B' := w.heap.size + 1) (by omega) (.slice none 0 0)).cell
     obtain ⟨t2, t3⟩ := boxed_two (a' := .slice none 0 0) (b' := .bool false) s2 s3 (by omega)
     have hbb := ((bwstep HBW.out hb1).setCell (p := ⟨w.heap.size + 1, 0, none⟩) (by show w.heap.size ≤ w.heap.size + 1; omega) (.slice none 0 0)).setCell (p := ⟨w.heap.size + 1 + 1, 0, none⟩) (by show w.heap.size ≤ w.heap.size + 1 + 1; omega) (.bool false)
     have hnn := HNO.out hnb
     have hkf := keeps_two (B := W0.heap.size) (a := .slice none 0 0) (b := .bool false) (p := ⟨w.heap.size + 1, 0, none⟩) (q := ⟨w.heap.size + 1 + 1, 0, none⟩) (keepsFrom_below (B := W0.heap.size) hb1)
     clear r1 r2 r3 r4 r5 s2 s3 hcall hb1
     gi_wp2
     exact ⟨hkf, ⟨rfl, t2, t3, hnn⟩, hbb⟩
   ·have hsv := HRW.out.mid (lo := s) (hi := E) hsE hE hcs
    rw [← List.map_take, ← List.map_drop] at hsv
    have hcall := htail _ hsv
    clear q1 q2 q3 q4 q5 ho hn hE hP hbW hX hno hyes hRW hBW hg hs htail hsv
    gi_wp2_with fail
    refine ⟨trivial, ?_⟩
    gi_at_call 136
    refine (CallsIn.inRound lp (callsIn_wide.2 hcall)).mono ?_
    rintro e W1 ⟨(⟨M, m, x1, y1, hB1, rfl, hox, hoy⟩ | ⟨hnb, rfl⟩), hb1⟩
    ·obtain ⟨r1, r2, r3, r4, r5⟩ := HQ.out
     obtain ⟨Am, cm, rfl, -, -⟩ := (hox.rd (S := []) (fun _ h => by cases h)).shape
     have d6 := (boxed_bel r4 hb1).cell
     have hsz1 := HBW.out.size
     obtain ⟨g, eg, hg1, hg2, ⟨v0, hg3⟩, hg4, ho1⟩ := (HO.out.below hb1).set_ (hox.mono hsz1) (by rw [HN.out]; exact hi)
     injection eg with eg
     injection eg with eg _
     subst eg
     have hgc := grownBy_setCell W1 (w.heap.size + 1 + 1 + 1) i (.slice Am M.length cm)
     have t7 := (boxed_bel r5 hb1).kept hgc (by simp <;> omega)
     have k7 := t7.cell
     have z7 := t7.frozen
     have u1 := ((boxed_bel r1 hb1).kept hgc (by simp <;> omega)).other (B' := w2.heap.size + 1) (by omega) (.int .i64 (s : Int))
     have u2 := ((boxed_bel r2 hb1).kept hgc (by simp <;> omega)).other (B' := w2.heap.size + 1) (by omega) (.int .i64 (s : Int))
     have u3 := ((boxed_bel r3 hb1).kept hgc (by simp <;> omega)).other (B' := w2.heap.size + 1) (by omega) (.int .i64 (s : Int))
     have u4 := ((boxed_bel r4 hb1).kept hgc (by simp <;> omega)).other (B' := w2.heap.size + 1) (by omega) (.int .i64 (s : Int))
     have u5 := t7.set (.int .i64 (s : Int))
     have ho2 := ho1.keptF (grownBy_setCell' _ (w2.heap.size + 1) (.int .i64 (s : Int))) (foreign_box t7 (by decide) (by decide))
     have hkf := keeps_two (B := W0.heap.size) (a := .slice Am M.length cm) (b := .int .i64 (s : Int)) (p := ⟨w.heap.size + 1 + 1 + 1, i, none⟩) (q := ⟨w2.heap.size + 1, 0, none⟩) (keepsFrom_below (B := W0.heap.size) hb1)
     have keep : ∀ j, j < W0.heap.size → (j < w.heap.size ∨ j = w2.heap.size + 1 + 1) → ((W1.setCell ⟨w.heap.size + 1 + 1 + 1, i, none⟩ (.slice Am M.length cm)).setCell ⟨w2.heap.size + 1, 0, none⟩ (.int .i64 (s : Int))).heap[j]? = W.heap[j]? := fun j h1 h2 => by
      have e0 := hb1.block j (by omega)
      have e1 := hgc.block j (by have := hb1.size; omega) (by simp; omega)
      have e2 := (grownBy_setCell' (W1.setCell ⟨w.heap.size + 1 + 1 + 1, i, none⟩ (.slice Am M.length cm)) (w2.heap.size + 1) (.int .i64 (s : Int))).block j (by have := hb1.size; have := hgc.size; omega) (by simp; omega)
      exact (e2.trans e1).trans e0
     have hbb := ((bwstep HBW.out hb1).setCell (p := ⟨w.heap.size + 1 + 1 + 1, i, none⟩) (by show w.heap.size ≤ w.heap.size + 1 + 1 + 1; omega) (.slice Am M.length cm)).setCell (p := ⟨w2.heap.size + 1, 0, none⟩) (by show w.heap.size ≤ w2.heap.size + 1; omega) (.int .i64 (s : Int))
     have hz := hb1.size
     have hyy := HYES.out M m hB1
     have HALL := Lib.hid (And.intro hkf (And.intro (keep b (by omega) hbor) (And.intro (keep (w2.heap.size + 1 + 1) (by omega) (.inr rfl)) (And.intro u1 (And.intro u2 (And.intro u3 (And.intro u4 (And.intro u5 (And.intro ho2 (And.intro hbb hyy))))))))))
     have hWF : W0.heap.size ≤ ((W1.setCell ⟨w.heap.size + 1 + 1 + 1, i, none⟩ (.slice Am M.length cm)).setCell ⟨w2.heap.size + 1, 0, none⟩ (.int .i64 (s : Int))).heap.size := by simp; omega
     have HWF := Lib.hid hWF
     have hLL : (LL.set i M).length = ss.length := by rw [List.length_set]; exact HN.out
     have HLL := Lib.hid hLL
     have hsl2 : s ≤ l.length := by omega
     clear r1 r2 r3 r4 r5 hgc t7 u1 u2 u3 u4 u5 ho1 ho2 hkf keep hbb hyy hcall hb1 hz hox hoy hB1 hWF hLL
     gi_wp2
     obtain ⟨y1, y2, y3, y4, y5, y6, y7, y8, y9, y10, y11⟩ := HALL.out
     exact ⟨y1, ⟨y2, y3⟩, ⟨_, _, s, ⟨y4, y5, y6, y7, y8⟩, y9, HLL.out, hsl2, y11⟩, y10, HWF.out⟩
    ·obtain ⟨r1, r2, r3, r4, r5⟩ := HQ.out
     have s2 := boxed_bel r2 hb1
     have s3 := boxed_bel r3 hb1
     have f4 := s2.frozen
     have c4 := s2.cell
     have f5' := (s3.other (B' := w.heap.size + 1) (by omega) (.slice none 0 0)).frozen
     have c5' := (s3.other (B' := w.heap.size + 1) (by omega) (.slice none 0 0)).cell
     obtain ⟨t2, t3⟩ := boxed_two (a' := .slice none 0 0) (b' := .bool false) s2 s3 (by omega)
     have hbb := ((bwstep HBW.out hb1).setCell (p := ⟨w.heap.size + 1, 0, none⟩) (by show w.heap.size ≤ w.heap.size + 1; omega) (.slice none 0 0)).setCell (p := ⟨w.heap.size + 1 + 1, 0, none⟩) (by show w.heap.size ≤ w.heap.size + 1 + 1; omega) (.bool false)
     have hnn := HNO.out hnb
     have hkf := keeps_two (B := W0.heap.size) (a := .slice none 0 0) (b := .bool false) (p := ⟨w.heap.size + 1, 0, none⟩) (q := ⟨w.heap.size + 1 + 1, 0, none⟩) (keepsFrom_below (B := W0.heap.size) hb1)
     clear r1 r2 r3 r4 r5 s2 s3 hcall hb1
     gi_wp2
     exact ⟨hkf, ⟨rfl, t2, t3, hnn⟩, hbb⟩
  ·have hno : Bw.Exp ss.length (pre ++ [⟨i, hi⟩]) → ¬ ∃ L0, Blks l ss L0 := fun hx => (hP (hX hx).1).none hlt (hX hx).2 hi (by rw [hs]; exact fun h => hsE h.1)
   have hi7 : (s : Int) > (E : Int) := by omega
   obtain ⟨t2, t3⟩ := boxed_two (a' := .slice none 0 0) (b' := .bool false) q2 q3 (by omega)
   have hbb := (hbW.setCell (p := ⟨w.heap.size + 1, 0, none⟩) (by show w.heap.size ≤ w.heap.size + 1; omega) (.slice none 0 0)).setCell (p := ⟨w.heap.size + 1 + 1, 0, none⟩) (by show w.heap.size ≤ w.heap.size + 1 + 1; omega) (.bool false)
   have hkf := keeps_two (B := W0.heap.size) (a := .slice none 0 0) (b := .bool false) (p := ⟨w.heap.size + 1, 0, none⟩) (q := ⟨w.heap.size + 1 + 1, 0, none⟩) (KeepsFrom.refl W0.heap.size W)
   have HNN := Lib.hid hno
   clear q1 q2 q3 q4 q5 ho hn hE hP hbW hX hno hs hsE
   gi_wp2
   exact ⟨hkf, ⟨rfl, t2, t3, HNN.out⟩, hbb⟩
 case done =>
  rintro F ys W hF ⟨hexp, hlen⟩ ⟨⟨LL, vs, E, ⟨q1, q2, q3, q4, q5⟩, ho, hn, hE, hP⟩, hbW, -⟩ hK
  have hP := hP hexp
  rw [hlen] at hP
  have HP := Lib.hid hP.all
  have HN := Lib.hid hn
  have k6 := q4.cell
  have f4 := q2.frozen
  have f5 := q3.frozen
  have g4 := q2.cell
  have g5 := q3.cell
  have HO := Lib.hid ho
  have HBW := Lib.hid hbW
  clear hexp hP hn ho hbW
  go_wp2_with fail
  obtain ⟨r4, r5⟩ := boxed_two (a' := .slice (some ⟨w.heap.size + 1 + 1 + 1, 0, none⟩) ss.length ss.length) (b' := .bool true) q2 q3 (by omega)
  have hK1 := (KeepsOthers.setCell W ⟨w.heap.size + 1, 0, none⟩ (.slice (some ⟨w.heap.size + 1 + 1 + 1, 0, none⟩) ss.length ss.length)).same F _ hK rfl
  have hK2 := (KeepsOthers.setCell (W.setCell ⟨w.heap.size + 1, 0, none⟩ (.slice (some ⟨w.heap.size + 1 + 1 + 1, 0, none⟩) ss.length ss.length)) ⟨w.heap.size + 1 + 1, 0, none⟩ (.bool true)).same F _ hK1 rfl
  have ho1 := HO.out.keptF (grownBy_setCell' W (w.heap.size + 1) (.slice (some ⟨w.heap.size + 1 + 1 + 1, 0, none⟩) ss.length ss.length)) (foreign_box q2 (by decide) (by decide))
  have ho2 := ho1.keptF (grownBy_setCell' _ (w.heap.size + 1 + 1) (.bool true)) (foreign_box (q3.other (by omega) _) (by decide) (by decide))
  have ho3 := ho2.keptF (grownBy_putObj' _ F (.deferred none)) (foreign_not fun r e => by cases e; exact ⟨_, hK2, rfl⟩)
  have hbb := ((HBW.out.setCell (p := ⟨w.heap.size + 1, 0, none⟩) (by show w.heap.size ≤ w.heap.size + 1; omega) (.slice (some ⟨w.heap.size + 1 + 1 + 1, 0, none⟩) ss.length ss.length)).setCell (p := ⟨w.heap.size + 1 + 1, 0, none⟩) (by show w.heap.size ≤ w.heap.size + 1 + 1; omega) (.bool true)).trans (belowK_b (w := w) (Nat.le_refl _) _ F _ (.deferred none) (by omega) hK2 rfl rfl)
  have hc4 := cell_kept r4.cell (grownBy_putObj' _ F (.deferred none)) (fun r e => by cases e; exact ⟨_, hK2, rfl⟩)
  have hc5 := cell_kept r5.cell (grownBy_putObj' _ F (.deferred none)) (fun r e => by cases e; exact ⟨_, hK2, rfl⟩)
  refine ⟨by simp, .inl ⟨_, _, rfl, run_takeDeferred hK2, ?_⟩⟩
  refine ⟨.tuple #[.slice (some ⟨w.heap.size + 1 + 1 + 1, 0, none⟩) ss.length ss.length, .bool true], ?_, .inl ⟨_, LL, rfl, ho3.rd, HN.out, HP.out.1, HP.out.2.1, HP.out.2.2⟩, hbb⟩
  simp [results, Tryz.f119, go_sem, hc4, hc5]
 case stop =>
  rintro F c0 pre W hF hpre ⟨⟨rfl, q2, q3, hno⟩, hbW⟩ hK
  have hno := hno hpre
  gi_wp2
  refine ⟨by simp, .inl ⟨_, _, rfl, run_takeDeferred hK, ?_⟩⟩
  have hc4 := cell_kept q2.cell (grownBy_putObj' _ F (.deferred none)) (fun r e => by cases e; exact ⟨_, hK, rfl⟩)
  have hc5 := cell_kept q3.cell (grownBy_putObj' _ F (.deferred none)) (fun r e => by cases e; exact ⟨_, hK, rfl⟩)
  refine ⟨.tuple #[.slice none 0 0, .bool false], ?_, .inr ⟨hno, rfl⟩, hbW.trans (belowK_b (w := w) (Nat.le_refl _) W F _ _ (by omega) hK rfl rfl)⟩
  simp [results, Tryz.f119, go_sem, hc4, hc5]
end Go.Proofs.YtcpkhhbbjimdaaaGreatDoor.Ce
namespace Go.Proofs.YtcpkhhbbjimdaaaGreatDoor.Ce
open Go.RowKit Frm
theorem flatC_take_le (A : List Cl) {j k : Nat} (h : j ≤ k) : (flatC (A.take j)).length ≤ (flatC (A.take k)).length := by
 have : A.take j = (A.take k).take j := by rw [List.take_take, Nat.min_eq_left h]
 rw [this]
 conv => rhs; rw [← List.take_append_drop j (A.take k), flatC_app, List.length_append]
 omega
theorem cutG_run {size : Int} : ∀ (A R now : List Cl) (n : Nat), n = (flatC now).length → (∀ k, k < A.length → ((n + (flatC (A.take k)).length : Nat) : Int) < size) → A ≠ [] →
  cutG size (A ++ R) n now = if size ≤ ((n + (flatC A).length : Nat) : Int) then (now ++ A) :: cutG size R 0 [] else cutG size R (n + (flatC A).length) (now ++ A)
 | [], R, now, n, _, _, h => absurd rfl h
 | [c], R, now, n, hn, hk, _ => by
  rw [List.singleton_append, cutG, flatC_one]
 | c :: d :: A, R, now, n, hn, hk, _ => by
  have h1 := hk 1 (by simp)
  rw [List.take_succ_cons, List.take_zero, flatC_one] at h1
  rw [List.cons_append, cutG, if_neg (by omega)]
  have ih := cutG_run (size := size) (d :: A) R (now ++ [c]) (n + (cellB c).length) (by rw [flatC_app, flatC_one, List.length_append, hn]) (fun k hk' => by
   have := hk (k + 1) (by simpa using hk')
   rw [List.take_succ_cons, flatC, List.length_append] at this
   omega) (by simp)
  rw [ih, flatC.eq_2 c (d :: A), List.length_append, ← Nat.add_assoc, List.append_assoc]
  rfl
theorem cut_uniq {size : Int} (h1 : 1 ≤ size) : ∀ (LL : List (List Cl)), (∀ j A, LL[j]? = some A → BlkOk size A (decide (j + 1 = LL.length))) → cutB size LL.flatten = LL
 | [], _ => rfl
 | A :: LL, h => by
  have h0 := h 0 A rfl
  have ih := cut_uniq h1 LL fun j B hB => by
   have := h (j + 1) B (by simpa using hB)
   rwa [List.length_cons, show decide (j + 1 + 1 = LL.length + 1) = decide (j + 1 = LL.length) by simp] at this
  unfold cutB at ih ⊢
  rw [List.flatten_cons, cutG_run A LL.flatten [] 0 rfl (fun k hk => by have := h0.lt k hk; omega) h0.ne]
  split
  ·rw [ih]; rfl
  ·next hs =>
   cases LL with
   | nil => rw [List.flatten_nil, cutG, if_neg (by simpa using h0.ne)]; rfl
   | cons B LL =>
    have := h0.ge (by simp)
    omega
theorem cut_least {size : Int} {S : List Cl} (h1 : 1 ≤ size) : cutB (leastQ (cutB size S) (cutB size S).length : Int) S = cutB size S := by
 obtain ⟨LL, hLL⟩ : ∃ LL, cutB size S = LL := ⟨_, rfl⟩
 have hok : ∀ j A, LL[j]? = some A → BlkOk size A (decide (j + 1 = LL.length)) := fun j A hA => by
  subst hLL
  exact cutB_ok h1 hA
 have hS : LL.flatten = S := by rw [← hLL, cutB_flat]
 rw [hLL]
 have hle : leastQ LL LL.length ≤ size.toNat := leastQ_le (by omega) (fun M hM => by
  obtain ⟨j, hj⟩ := List.getElem?_of_mem hM
  have hb := hok j M hj
  have hp := List.length_pos_iff.2 hb.ne
  have := hb.lt (M.length - 1) (by omega)
  unfold most1
  omega) _
 have hge := leastQ_ge LL LL.length
 have := cut_uniq (size := (leastQ LL LL.length : Int)) (by omega) LL fun j A hA => by
  have hb := hok j A hA
  have hm := leastQ_mem (k := LL.length) hA (List.getElem?_eq_some_iff.1 hA).1
  have hp := List.length_pos_iff.2 hb.ne
  refine ⟨hb.ne, fun k hk => ?_, fun hl => ?_⟩
  ·have := flatC_take_le A (show k ≤ A.length - 1 by omega)
   unfold most1 at hm
   omega
  ·have := hb.ge hl
   omega
 rwa [hS] at this
theorem text_ct {s : ByteArray} (h : s.size ≤ 4294967295) : ctOk (textB s) = true ∧ ctS (textB s) = s := by
 have h1 := textOk_textB s h []
 have h2 := textOf_textB s h []
 rw [List.append_nil] at h1 h2
 refine ⟨ctOk_iff.2 h1, ?_⟩
 unfold ctS
 rw [if_pos (ctOk_iff.2 h1), h2]
theorem tab_exact {l bd ft lf : List UInt8} {ss : List Nat} {S : List Cl} {L0 : List (List Cl)} (h : TabAt l S L0) (hl : l.length ≤ 1000000) (hE : EndOk l bd ft) (hF : ∀ LL t, FootAt ft LL t → ss = starts LL 0 ∧ lf = t) : lf = textB ⟨(filt S).toArray⟩ ∧ Blks bd ss L0 := by
 obtain ⟨rfl, rfl⟩ := hE _ _ h.foot h.e
 have hlen := congrArg List.length h.e
 unfold tabB at hlen
 rw [List.length_append] at hlen
 have hfl : (flatB L0).length ≤ 1000000 := by omega
 have hn : L0.length ≤ 1000000 := by
  have := flatB_len L0
  omega
 obtain ⟨h1, h2⟩ := hF L0 _ ⟨rfl, fun M hM => h.row hM, by omega, by omega⟩
 exact ⟨h2, ⟨rfl, h1, fun M hM => ⟨(h.row hM).1, (h.row hM).2, h.fit M hM⟩⟩⟩
end Go.Proofs.YtcpkhhbbjimdaaaGreatDoor.Ce
