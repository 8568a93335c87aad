/- The heap of runs of package merge: Push and Pop, and what container/heap makes of all methods: add and next. -/
import Derived.Test.YtknkdehjgkjljaaMgI
import Derived.Deep.RegionLaw
namespace Go.Proofs.Ytknkdehjgkjljaa.Ce
open Go.RowKit Go.Proofs.Ytknkdehjgkjljaa.Hp

/-- append, as one step of a region that draws its order -/
theorem step_appV {P : Program} {ops : Array Oper} {o : Oper} {a : Act} {w : World} {B e t b : Nat} {z v : Value} {xs : List Value} {K : Act → World → Prop} {Q : Exit → Act → World → Prop} {E : Prop} (T : ET P t e z b) (hz : z.cells.size = 1) (hgd : o.guard = none) (s y : Operand)
    (ho : o.op = .call { callee := .builtin .append, args := #[s, y], argTypes := #[t, t] })
    (hs : a.eval s = v) (hown : Ow w B e v xs) {x : Value} (hy : a.eval y = x) {D : Nat} {ys : List Value} (hr : Rd w D x ys) (h1 : One ys)
    (hlen : xs.length + ys.length ≤ maxLen) (hby : (xs.length + ys.length) * b ≤ 140737488355328) (hB : B ≤ w.heap.size)
    (hK : ∀ v' w', Ow w' B e v' (xs ++ ys) → w.grownBy w' v.ownBlock → (v'.ownBlock = v.ownBlock ∨ v'.ownBlock = some w.heap.size) → K (a.put o.dst v') w') :
    if Region.wanted o (yielded ops a.tmps) = true then Oper.wp P o a w K Q else E := by
  have hw : Region.wanted o (yielded ops a.tmps) = true := by simp [Region.wanted, hgd]
  rw [if_pos hw]
  obtain ⟨v', w', hrun, h2, h3, h4⟩ := run_app (P := P) T hz o.type hown hr h1 hlen hby hB
  unfold Oper.wp
  simp [execOp, ho, resolve, invoke, builtin, hs, hy, hrun, Result.andThen]
  exact hK v' w' h2 h3 h4
theorem assert_run (x : Value) (xT : TypeId) (w : World) : (Instr.typeAssert (.iface 43 x) xT 43 false).run Try.prog w = .ok x w := by
  simp [Instr.typeAssert, run_underlying Try.underlying43]
theorem range_snoc (a : Nat → Rn) (n : Nat) (x : Rn) : ((List.range (n + 1)).map fun k => ((fun k => if k = n then x else a k) k).p) = ((List.range n).map fun k => (a k).p) ++ [x.p] := by
  rw [List.range_succ, List.map_append]
  congr 1
  · refine List.map_congr_left fun k hk => ?_
    have := List.mem_range.1 hk
    simp only
    rw [if_neg (by omega)]
  · simp
/-- the box's block isn't the slice's -/
theorem box_apart {w : World} {B bh : Nat} {u v : Value} {xs : List Value} (h1 : w.heap[bh]? = some (.cells #[u] 41 (0, 0))) (h2 : Ow w B 43 v xs) : v.ownBlock ≠ some bh := fun e => by
  rcases h2.2 with ⟨rfl, -⟩ | ⟨g, cap, cur, rfl, -, hh, -⟩
  · cases e
  · have e1 : g = bh := by injection e
    subst e1
    rw [h1] at hh
    injection hh with hh
    injection hh with _ ht _
    exact absurd ht (by decide)
theorem run_apart {w : World} {B b : Nat} {u u' v : Value} {xs : List Value} (h1 : w.heap[b]? = some (.cells #[u, u'] 45 (0, 0))) (h2 : Ow w B 43 v xs) : v.ownBlock ≠ some b := fun e => by
  rcases h2.2 with ⟨rfl, -⟩ | ⟨g, cap, cur, rfl, -, hh, -⟩
  · cases e
  · have e1 : g = b := by injection e
    subst e1
    rw [h1] at hh
    injection hh with hh
    injection hh with _ ht _
    exact absurd ht (by decide)
theorem RunAt.grown {w0 w w' : World} {x : Rn} {B : Nat} {v : Value} {xs : List Value} (h : RunAt w0 x w) (ho : Ow w B 43 v xs) (hg : w.grownBy w' v.ownBlock) : RunAt w0 x w' := by
  obtain ⟨cv, h1, h2⟩ := h.h
  exact h.keep (hg.block _ h.lt fun e => run_apart h1 ho e.symm)
/-- the box is stored -/
theorem RunAt.box {w0 w : World} {x : Rn} {bh : Nat} {u : Value} (h : RunAt w0 x w) (hb : w.heap[bh]? = some (.cells #[u] 41 (0, 0))) (v : Value) : RunAt w0 x (w.setCell ⟨bh, 0, none⟩ v) := by
  obtain ⟨cv, h1, h2⟩ := h.h
  refine h.keep (Below.heap_setCell _ _ _ _ fun e => ?_)
  have e : x.blk = bh := e
  rw [← e, h1] at hb
  injection hb with hb
  injection hb with _ ht _
  exact absurd ht (by decide)
theorem box_set {w : World} {bh : Nat} {u : Value} (hb : w.heap[bh]? = some (.cells #[u] 41 (0, 0))) (v : Value) : (w.setCell ⟨bh, 0, none⟩ v).heap[bh]? = some (.cells #[v] 41 (0, 0)) := by
  unfold World.setCell
  simp [Array.getElem?_modify, hb]
theorem ow_box {w : World} {B bh : Nat} {u v : Value} {xs : List Value} (h : Ow w B 43 v xs) (hb : w.heap[bh]? = some (.cells #[u] 41 (0, 0))) (y : Value) : Ow (w.setCell ⟨bh, 0, none⟩ y) B 43 v xs :=
  h.kept (grownBy_setCell w bh 0 y) fun k hk e => by
    injection e with e
    subst e
    exact box_apart hb h hk
/-- one run more -/
theorem push_end {w0 w wa w3 : World} {bh n : Nat} {a : Nat → Rn} {x : Rn} {u v3 : Value} {xs ys : List Value} (hge : w0.heap.size ≤ bh) (hr : ∀ k, k < n → RunAt w0 (a k) w) (hx : RunAt w0 x w) (hbl : Below w0.heap.size w0 w)
    (hab : Below w.heap.size w wa) (h1 : Ow wa w0.heap.size 43 u xs) (hg : wa.grownBy w3 u.ownBlock) (hb3 : w3.heap[bh]? = some (.cells #[u] 41 (0, 0))) (ho : Ow w3 w0.heap.size 43 v3 ys) (hys : ((List.range (n + 1)).map fun k => ((fun k => if k = n then x else a k) k).p) = ys) :
    HeapAt w0 bh (fun k => if k = n then x else a k) (n + 1) (w3.setCell ⟨bh, 0, none⟩ v3) ∧ Kt w (w3.setCell ⟨bh, 0, none⟩ v3) := by
  have hrun : ∀ y : Rn, RunAt w0 y w → RunAt w0 y (w3.setCell ⟨bh, 0, none⟩ v3) := fun y hy => ((hy.bel hab).grown h1 hg).box hb3 v3
  have hsz : w0.heap.size ≤ wa.heap.size := Nat.le_trans hbl.size hab.size
  refine ⟨⟨hge, ⟨v3, box_set hb3 v3, ?_⟩, fun k hk => ?_, ?_⟩, ?_⟩
  · rw [hys]
    exact ow_box ho hb3 v3
  · show RunAt w0 (if k = n then x else a k) _
    split
    · exact hrun x hx
    · exact hrun _ (hr k (by omega))
  · exact (((bwstep hbl hab).grown hg hsz h1.ge)).trans ((bwgrown (B := w0.heap.size) (grownBy_setCell w3 bh 0 v3) (fun k hk => by injection hk with hk; omega) (by have := hg.size; omega)))
  · exact ((Kt.bel hab).trans (Kt.ow h1 hg)).trans (Kt.set (p := ⟨bh, 0, none⟩) hb3 (.inl rfl) v3)
set_option maxHeartbeats 4000000 in
set_option maxRecDepth 100000 in
theorem rpush_any (w0 : World) (bh : Nat) (a : Nat → Rn) (n : Nat) (x : Rn) (w : World) (h : HeapAt w0 bh a n w) (hx : RunAt w0 x w) (hn : n ≤ 100000000) :
    Calls Try.prog 62 #[.pointer (some ⟨bh, 0, none⟩), .iface 43 x.p] w fun e w' => (∃ u, e = .returned u) ∧ HeapAt w0 bh (fun k => if k = n then x else a k) (n + 1) w' ∧ Kt w w' := by
  obtain ⟨v, hb, ho⟩ := h.sl
  have hbl := (Array.getElem?_eq_some_iff.1 hb).1
  have c0 := cell_of_row _ _ 0 _ _ _ hb
  have hfz : w.frozen? ⟨bh, 0, none⟩ = false := by simp [World.frozen?, hb]
  have hge := h.ge
  have HR := Lib.hid h.run
  have HBL := Lib.hid h.bel
  have HX := Lib.hid hx
  have HO := Lib.hid ho
  have HBX := Lib.hid hb
  have hpv : x.p = .pointer (some ⟨x.blk, 0, none⟩) := rfl
  obtain ⟨A, c, rfl, hc, hm⟩ := ho.rd.shape
  simp only [List.length_map, List.length_range] at *
  clear h hx ho hb
  have hlen : ((List.range n).map fun k => (a k).p).length + [x.p].length ≤ maxLen := by simp [maxLen]; omega
  have hby : (((List.range n).map fun k => (a k).p).length + [x.p].length) * 8 ≤ 140737488355328 := by simp; omega
  have hone : One [x.p] := fun u hu => by rw [List.mem_singleton.1 hu]; rfl
  have HRS := Lib.hid (range_snoc a n x)
  generalize hL : (List.range n).map (fun k => (a k).p) = xs at *
  clear hL
  rw [hpv] at hlen hby hone HRS
  rw [hpv]
  have hbw1 := (bwalloc (bwrefl w) (.cells #[.pointer (some ⟨x.blk, 0, none⟩)] 43)).drew
  have h1 := HO.out.below hbw1
  have HB1 := Lib.hid hbw1
  have hsz1 : w0.heap.size ≤ (w.alloc (.cells #[.pointer (some ⟨x.blk, 0, none⟩)] 43)).drew.heap.size := Nat.le_trans HBL.out.size hbw1.size
  have HK : Hid (∀ w3, (w.alloc (.cells #[.pointer (some ⟨x.blk, 0, none⟩)] 43)).drew.grownBy w3 (Value.slice A n c).ownBlock → w3.heap[bh]? = some (.cells #[.slice A n c] 41 (0, 0))) := Lib.hid fun w3 hg => by
    have e1 := (hbw1.block bh hbl).trans HBX.out
    exact (hg.block bh (Array.getElem?_eq_some_iff.1 e1).1 fun e => box_apart e1 h1 e.symm).trans e1
  clear hbw1
  have hx1 := (Rd.newW (xs := [.pointer (some ⟨x.blk, 0, none⟩)]) w 43 #[.pointer (some ⟨x.blk, 0, none⟩)] rfl (by simp [maxLen]) rfl)
  have hta := fun xT w => assert_run (.pointer (some ⟨x.blk, 0, none⟩)) xT w
  go_enter Try.func62, Try.ntmps62
  go_wp2_with fail
  go_region_law (refine step_appV runsT rfl rfl (.tmp 7) (.tmp 10) rfl (by simp [Act.eval]) h1 (by simp [Act.eval]) hx1 hone hlen hby hsz1 ?_; intro v3 w3 ho3 hg3 _; have hb3 := HK.out w3 hg3; have c03 := cell_of_row _ _ 0 _ _ _ hb3; have f03 : w3.frozen? ⟨bh, 0, none⟩ = false := (by simp [World.frozen?, hb3]); obtain ⟨A3, c3, rfl, -, -⟩ := ho3.rd.shape; have HB3 := Lib.hid hb3; have HO3 := Lib.hid ho3; have HG3 := Lib.hid hg3; clear hb3 ho3 hg3)
  all_goals
    go_end0
    have hnl : (xs ++ [Value.pointer (some ⟨x.blk, 0, none⟩)]).length = xs.length + 1 := by simp
    rw [hnl] at HO3
    exact ⟨⟨_, rfl⟩, push_end hge HR.out HX.out HBL.out HB1.out h1 HG3.out HB3.out HO3.out HRS.out⟩
/-- the last one is cut off -/
theorem ow_cut {w : World} {B e n m c : Nat} {A : Option Addr} {xs : List Value} (h : Ow w B e (.slice A n c) xs) (hm : m ≤ xs.length) : Ow w B e (.slice A m c) (xs.take m) := by
  obtain ⟨h1, h2⟩ := h
  have hl : (xs.take m).length = m := by simp; omega
  refine ⟨by rw [hl, Nat.mul_one], ?_⟩
  rw [hl]
  rcases h2 with ⟨he, hn⟩ | ⟨g, cap, cur, he, hbg, hg, hnc, hcm, hcs, htake⟩
  · injection he with e1 e2 e3
    subst e1 e2 e3
    exact .inl ⟨by rw [show m = 0 by omega], by omega⟩
  · injection he with e1 e2 e3
    subst e1 e2 e3
    refine .inr ⟨g, c, cur, rfl, hbg, hg, by omega, hcm, hcs, ?_⟩
    rw [Nat.mul_one] at htake ⊢
    rw [← htake, List.take_take, Nat.min_eq_left hm]
theorem range_take (a : Nat → Rn) (n : Nat) : ((List.range (n + 1)).map fun k => (a k).p).take n = (List.range n).map fun k => (a k).p := by
  rw [List.range_succ, List.map_append]
  exact List.take_left' (by simp)
set_option maxHeartbeats 4000000 in
set_option maxRecDepth 100000 in
theorem rpop_any (w0 : World) (bh : Nat) (a : Nat → Rn) (n : Nat) (w : World) (h : HeapAt w0 bh a (n + 1) w) (hn : n ≤ 100000000) :
    Calls Try.prog 61 #[.pointer (some ⟨bh, 0, none⟩)] w fun e w' => e = .returned (.iface 43 (a n).p) ∧ RunAt w0 (a n) w' ∧ HeapAt w0 bh a n w' ∧ Kt w w' := by
  obtain ⟨v, hb, ho⟩ := h.sl
  have c0 := cell_of_row _ _ 0 _ _ _ hb
  have hfz : w.frozen? ⟨bh, 0, none⟩ = false := by simp [World.frozen?, hb]
  obtain ⟨A, c, rfl, hc, hm⟩ := ho.rd.shape
  simp only [List.length_map, List.length_range] at *
  unfold maxLen at hm
  obtain ⟨g, rfl, -, -, hgn, -, -⟩ := ho.at_ (k := n) (by simp)
  simp only [List.getElem_map, List.getElem_range] at hgn
  have hoc := ow_cut ho (m := n) (by simp)
  rw [range_take] at hoc
  have HE : Hid (RunAt w0 (a n) (w.setCell ⟨bh, 0, none⟩ (.slice (some ⟨g, 0, none⟩) n c)) ∧ HeapAt w0 bh a n (w.setCell ⟨bh, 0, none⟩ (.slice (some ⟨g, 0, none⟩) n c)) ∧ Kt w (w.setCell ⟨bh, 0, none⟩ (.slice (some ⟨g, 0, none⟩) n c))) := Lib.hid <| by
    refine ⟨(h.run n (by omega)).box hb _, ⟨h.ge, ⟨_, box_set hb _, ow_box hoc hb _⟩, fun k hk => (h.run k (by omega)).box hb _, ?_⟩, Kt.set (p := ⟨bh, 0, none⟩) hb (.inl rfl) _⟩
    exact h.bel.trans (bwgrown (B := w0.heap.size) (grownBy_setCell w bh 0 _) (fun k hk => by injection hk with hk; have := h.ge; omega) h.bel.size)
  have hw : IntKind.i64.wrap (((n + 1 : Nat) : Int) - 1) = (n : Int) := by rw [IntKind.wrap_i64]; omega
  unfold Rn.p at hgn ⊢
  clear h hb ho hoc
  have h1 : (n : Int) < ((n + 1 : Nat) : Int) := by omega
  have h2 : (0 : Int) ≤ (n : Int) := by omega
  go_enter Try.func61, Try.ntmps61
  go_wp2_with fail
  go_ret
  exact ⟨rfl, HE.out⟩
end Go.Proofs.Ytknkdehjgkjljaa.Ce
