/- slices.Backward over numbers: its contract, and its iterator's. -/
import Derived.Test.YtdemdmingelamaaBlmA
import Derived.RangeFuncNested
import Derived.RangeFuncBound
import Derived.RangeFuncCalls
import Derived.RangeFuncLeaves
import Derived.RangeFuncBox
import Derived.Shelf.Abstract
import Derived.Shelf.RegionOpen
import Derived.OwnWalkIn
import Derived.TacticsInMore
import Derived.LoopNIn
import Derived.LoopIn
import Derived.Maps.AppendAt
namespace Go.Proofs.Ytdemdmingelamaa.Bw
open Go.RowKit Go.Shelf
attribute [local go_sem] Oper.semAt_some

/-- what a round keeps: the two blocks that the iterator reads -/
structure Keeps2 (a b : Nat) (W W' : World) : Prop where
  ka : W'.heap[a]? = W.heap[a]?
  kb : W'.heap[b]? = W.heap[b]?
theorem Keeps2.refl (a b : Nat) (W : World) : Keeps2 a b W W := ⟨rfl, rfl⟩
theorem Keeps2.trans {a b : Nat} {A B C : World} (h : Keeps2 a b A B) (k : Keeps2 a b B C) : Keeps2 a b A C := ⟨k.ka.trans h.ka, k.kb.trans h.kb⟩
theorem cell_of_heap {W W' : World} {b o : Nat} (h : W'.heap[b]? = W.heap[b]?) : W'.cell? ⟨b, o, none⟩ = W.cell? ⟨b, o, none⟩ := by
  unfold World.cell?
  simp only [h]
/-- the places from the last one on -/
def Exp (n : Nat) (pre : List (Fin n)) : Prop := ∀ j (h : j < pre.length), (pre[j]).val = n - 1 - j
theorem Exp.nil (n : Nat) : Exp n [] := fun j h => by simp at h
theorem Exp.snoc {n : Nat} {pre : List (Fin n)} {x : Fin n} (h : Exp n pre) (hx : x.val = n - 1 - pre.length) : Exp n (pre ++ [x]) := fun j hj => by
  rw [List.length_append, List.length_singleton] at hj
  by_cases hl : j < pre.length
  · rw [List.getElem_append_left hl]
    exact h j hl
  · obtain rfl : j = pre.length := by omega
    simpa using hx
theorem Exp.last {n : Nat} {pre : List (Fin n)} {x : Fin n} (h : Exp n (pre ++ [x])) : Exp n pre ∧ x.val = n - 1 - pre.length := by
  refine ⟨fun j hj => ?_, ?_⟩
  · have := h j (by simp; omega)
    rwa [List.getElem_append_left hj] at this
  · have := h pre.length (by simp)
    simpa using this
set_option maxRecDepth 100000 in
set_option maxHeartbeats 2000000 in
theorem back1_in (n : Nat) (hn : 1 ≤ n) (l Bs b off c : Nat) (ss : List Nat) (A : Option Addr) (hl : ss.length ≤ 1000000000) (hA : 0 < ss.length → A = some ⟨b, off, none⟩) (J Jx : List (Fin ss.length) → World → Prop)
    (hY : ∀ pre (x : Fin ss.length) W, J pre W → pre.length < ss.length → YieldAt Fence.wide (n - 1) Try.prog l #[.int .i64 (x.val : Int), .int .i64 (ss[x.val] : Int)] W fun e W' =>
      (e = .returned (.bool true) ∧ J (pre ++ [x]) W' ∧ Keeps2 b Bs W W') ∨ (e = .returned (.bool false) ∧ Jx (pre ++ [x]) W'))
    (W : World) (hBs : W.cell? ⟨Bs, 0, none⟩ = some (.slice A ss.length c)) (hss : ∀ i (h : i < ss.length), W.cell? ⟨b, off + i, none⟩ = some (.int .i64 (ss[i] : Int))) (h0 : J [] W) :
    CallsIn Fence.wide n Try.prog 82 #[.func (.yield l) #[] #[], .pointer (some ⟨Bs, 0, none⟩)] W fun e W' => (∃ v, e = .returned v) ∧
      ((∃ ys, (Exp ss.length ys ∧ ys.length = ss.length) ∧ J ys W') ∨ (∃ pre, Exp ss.length pre ∧ Jx pre W')) := by
  refine callsIn_of_wp Try.func82 rfl trivial ?_ rfl
  simp only [Try.ntmps82, List.size_toArray, List.length_cons, List.length_nil, Nat.reduceAdd, Nat.reduceSub, Array.replicate_succ, Array.replicate_zero, List.push_toArray, List.append_toArray, List.nil_append, List.cons_append]
  have HSS := Lib.hid hss
  have HA := Lib.hid hA
  have HY := Lib.hid hY
  have hw0 : IntKind.i64.wrap ((ss.length : Int) - 1) = (ss.length : Int) - 1 := by rw [IntKind.wrap_i64]; omega
  clear hss hA hY
  gi_wp2
  gi_loopw [3] (fun i wr => ∃ (m : Nat) (pre : List (Fin ss.length)), i = .int .i64 ((m : Int) - 1) ∧ Hid (pre.length + m = ss.length ∧ Exp ss.length pre ∧ J pre wr) ∧ Keeps2 b Bs W wr) (fun i _ => (intOf i + 1).toNat)
  case atStart => exact ⟨ss.length, [], rfl, Lib.hid ⟨by simp, Exp.nil _, h0⟩, Keeps2.refl _ _ _⟩
  case round =>
    obtain ⟨m, pre, rfl, HP, hk⟩ := hrel
    obtain ⟨hpm, hexp, hJ⟩ := HP.out
    have c1 := (cell_of_heap (o := 0) hk.kb).trans hBs
    by_cases hm : 0 < m
    · obtain ⟨j, rfl⟩ : ∃ j, m = j + 1 := ⟨m - 1, by omega⟩
      have e0 : ((j + 1 : Nat) : Int) - 1 = (j : Int) := by omega
      rw [e0]
      have hjl : j < ss.length := by omega
      have hj1 : (0 : Int) ≤ (j : Int) := by omega
      have hj2 : (j : Int) < (ss.length : Int) := by omega
      have hwj : IntKind.i64.wrap ((j : Int) - 1) = (j : Int) - 1 := by rw [IntKind.wrap_i64]; omega
      have c2 := (cell_of_heap (o := off + j) hk.ka).trans (HSS.out j hjl)
      have hAe := HA.out (by omega)
      subst hAe
      obtain ⟨fn, tmps, assign, body, hy, hR⟩ := HY.out pre ⟨j, hjl⟩ wr hJ (by omega)
      have HE : Hid (Exp ss.length (pre ++ [⟨j, hjl⟩])) := Lib.hid (hexp.snoc (by show j = _; omega))
      have HPL : Hid ((pre ++ [(⟨j, hjl⟩ : Fin ss.length)]).length + j = ss.length) := Lib.hid (by rw [List.length_append, List.length_singleton]; omega)
      dsimp only at hy
      clear hexp hJ HP hpm e0 HY
      gi_wp2
      refine hR.mono ?_
      rintro e W3 (⟨rfl, hJ3, hk3⟩ | ⟨rfl, hJx3⟩)
      · gi_wp2
        go_roundw
        case rel => exact ⟨j, _, by go_num, Lib.hid ⟨HPL.out, HE.out, hJ3⟩, hk.trans hk3⟩
        case measure => simp [intOf]
      · gi_wp2
        refine bodyPost_ret (results_none rfl _ _ _) rfl ?_
        exact ⟨⟨_, rfl⟩, .inr ⟨_, HE.out, hJx3⟩⟩
    · obtain rfl : m = 0 := by omega
      have e0 : ((0 : Nat) : Int) - 1 = -1 := rfl
      rw [e0]
      clear HP
      gi_wp2
      go_end0
      exact ⟨⟨_, rfl⟩, .inl ⟨_, ⟨hexp, by omega⟩, hJ⟩⟩
theorem back_stops (n : Nat) (hn : 1 ≤ n) (Bs b off c : Nat) (ss : List Nat) (A : Option Addr) (w : World) (hl : ss.length ≤ 1000000000) (hA : 0 < ss.length → A = some ⟨b, off, none⟩)
    (hBs : w.cell? ⟨Bs, 0, none⟩ = some (.slice A ss.length c)) (hss : ∀ i (h : i < ss.length), w.cell? ⟨b, off + i, none⟩ = some (.int .i64 (ss[i] : Int))) (h1 : Bs < w.heap.size) (h2 : b < w.heap.size) :
    SeqStopsK Fence.wide n Try.prog 82 #[.pointer (some ⟨Bs, 0, none⟩)] (fun x : Fin ss.length => #[.int .i64 (x.val : Int), .int .i64 (ss[x.val] : Int)]) (Keeps2 b Bs) (fun ys => Exp ss.length ys ∧ ys.length = ss.length) (fun pre => Exp ss.length pre) ss.length w := fun l J Jx W hW _ _ hY h0 =>
  back1_in n hn l Bs b off c ss A hl hA J Jx hY W ((hW.cell (p := ⟨Bs, 0, none⟩) h1).trans hBs) (fun i h => (hW.cell (p := ⟨b, off + i, none⟩) h2).trans (hss i h)) h0
set_option maxHeartbeats 1000000 in
theorem backward_any (A : Option Addr) (n c : Nat) (w : World) :
    Calls Try.prog 67 #[.slice A n c] w fun e w' => e = .returned (.func (.func 82) #[] #[.pointer (some ⟨w.heap.size, 0, none⟩)]) ∧ w' = w.alloc (.cells #[.slice A n c] 71) := by
  go_enter Try.func67, Try.ntmps67
  go_wp2_with fail
  go_ret
  exact ⟨rfl, rfl⟩
end Go.Proofs.Ytdemdmingelamaa.Bw
