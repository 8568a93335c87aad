/- The heap of runs of package merge, by container/heap: add and next. -/
import Derived.Test.YtknkdehjgkjljaaMgJ
import Derived.Shelf.Abstract
namespace Go.Proofs.Ytknkdehjgkjljaa.Ce
open Go.RowKit Go.Proofs.Ytknkdehjgkjljaa.Hp

theorem Hst.of {w0 w1 w w' : World} {bh n : Nat} {a b : Nat → Rn} {m : Nat} (h : Hst w0 w1 bh a n w) (hb : HeapAt w0 bh b m w') (k : Kt w w') : Hst w0 w1 bh b m w' := ⟨hb, h.2.trans k⟩
theorem Hst.up {w0 w1 w w' : World} {bh n : Nat} {a : Nat → Rn} (h : Hst w0 w1 bh a n w) (hb : Below w.heap.size w w') : Hst w0 w1 bh a n w' := ⟨h.1.up hb, h.2.trans (Kt.bel hb)⟩
theorem uRuns : Try.prog.underlying 41 = some (.slice 43) := Try.underlying41
/-- two places exchanged -/
theorem HeapAt.swap {w0 w w' : World} {bh n i j : Nat} {a : Nat → Rn} {v : Value} (h : HeapAt w0 bh a n w) (hb : w.heap[bh]? = some (.cells #[v] 41 (0, 0))) (ho : Ow w w0.heap.size 43 v ((List.range n).map fun k => (a k).p)) (hi : i < n) (hj : j < n)
    (ho' : Ow w' w0.heap.size 43 v ((List.range n).map fun k => (Hp.swp a i j k).p)) (hg : w.grownBy w' v.ownBlock) : HeapAt w0 bh (Hp.swp a i j) n w' ∧ Kt w w' := by
  refine ⟨⟨h.ge, ⟨v, ?_, ho'⟩, fun k hk => ?_, ?_⟩, Kt.ow ho hg⟩
  · exact (hg.block bh (Array.getElem?_eq_some_iff.1 hb).1 fun e => box_apart hb ho e.symm).trans hb
  · have hr : ∀ m, m < n → RunAt w0 (a m) w' := fun m hm => (h.run m hm).grown ho hg
    unfold Hp.swp
    split
    · exact hr j hj
    · split
      · exact hr i hi
      · exact hr k hk
  · exact h.bel.grown hg h.bel.size ho.ge
theorem iface_runs (w0 w1 : World) (bh : Nat) : Hp.Iface (Hst w0 w1 bh) 39 (.pointer (some ⟨bh, 0, none⟩)) rlt where
  len a n w h := by
    obtain ⟨v, h1, h2⟩ := h.1.sl
    refine ⟨_, v, enters_of Try.func25 (by kernel_rfl) rfl, Hp.meth_val mLen pRuns (Hp.load_one uRuns h1), (rlen_any w0 a n v w h2).mono ?_⟩
    rintro e w' ⟨rfl, rfl⟩
    exact ⟨rfl, h⟩
  less a n w i j h hi hj := by
    obtain ⟨v, h1, h2⟩ := h.1.sl
    refine ⟨_, v, enters_of Try.func60 (by kernel_rfl) rfl, Hp.meth_val mLess pRuns (Hp.load_one uRuns h1), (rless_any w0 a n i j v w h2 h.1.run h.1.bel hi hj).mono ?_⟩
    rintro e w' ⟨rfl, hb⟩
    exact ⟨rfl, h.up hb⟩
  swap a n w i j h hi hj := by
    obtain ⟨v, h1, h2⟩ := h.1.sl
    refine ⟨_, v, enters_of Try.func63 (by kernel_rfl) rfl, Hp.meth_val mSwap pRuns (Hp.load_one uRuns h1), (rswap_any _ a n i j v w h2 hi hj).mono ?_⟩
    rintro e w' ⟨hu, ho, hg⟩
    obtain ⟨k1, k2⟩ := h.1.swap h1 h2 hi hj ho hg
    exact ⟨hu, h.of k1 k2⟩
/-- what Push takes and Pop hands out: a run that stands -/
def RunV (w0 : World) (x : Rn) (v : Value) (w : World) : Prop := v = .iface 43 x.p ∧ RunAt w0 x w
theorem iface_push (w0 w1 : World) (bh : Nat) : Hp.IfacePush (Hst w0 w1 bh) (RunV w0) 39 (.pointer (some ⟨bh, 0, none⟩)) where
  push a n w x v hn h hx := by
    obtain ⟨rfl, hx⟩ := hx
    refine ⟨_, _, enters_of Try.func62 (by kernel_rfl) rfl, Hp.meth_ptr mPush pRuns, (rpush_any w0 bh a n x w h.1 hx hn).mono ?_⟩
    rintro e w' ⟨hu, k1, k2⟩
    exact ⟨hu, h.of k1 k2⟩
theorem iface_pop (w0 w1 : World) (bh : Nat) : Hp.IfacePop (Hst w0 w1 bh) (RunV w0) 39 (.pointer (some ⟨bh, 0, none⟩)) where
  pop a n w hn h := by
    refine ⟨_, _, enters_of Try.func61 (by kernel_rfl) rfl, Hp.meth_ptr mPop pRuns, (rpop_any w0 bh a n w h.1 hn).mono ?_⟩
    rintro e w' ⟨rfl, k0, k1, k2⟩
    exact ⟨_, rfl, ⟨rfl, k0⟩, h.of k1 k2⟩
/-- the heap at bh holds these runs -/
def Hl (w0 : World) (bh : Nat) (es : List Rn) (w : World) : Prop := ∃ a, HeapAt w0 bh a es.length w ∧ Hp.Heap (Hp.leB rlt) a 0 es.length ∧ ((List.range es.length).map a).Perm es
section
variable {w0 w w' : World} {bh : Nat} {es : List Rn}
theorem Hl.up (h : Hl w0 bh es w) (hb : Below w.heap.size w w') : Hl w0 bh es w' := by
  obtain ⟨a, h1, h2, h3⟩ := h
  exact ⟨a, h1.up hb, h2, h3⟩
theorem Hl.bel (h : Hl w0 bh es w) : Below w0.heap.size w0 w := by
  obtain ⟨a, h1, -, -⟩ := h
  exact h1.bel
theorem Hl.run (h : Hl w0 bh es w) : ∀ x ∈ es, RunAt w0 x w := fun x hx => by
  obtain ⟨a, h1, -, h3⟩ := h
  obtain ⟨k, hk, rfl⟩ := List.mem_map.1 (h3.mem_iff.2 hx)
  exact h1.run k (List.mem_range.1 hk)
/-- a block that is a run of another place -/
theorem RunAt.other {x y : Rn} (h : RunAt w0 x w) (k : RunAt w0 y w) (hp : y.place ≠ x.place) : y.blk ≠ x.blk := fun e => by
  obtain ⟨c1, h1, -⟩ := h.h
  obtain ⟨c2, h2, -⟩ := k.h
  rw [e, h1] at h2
  injection h2 with h2
  injection h2 with h2 _ _
  simp at h2
  omega
/-- a run's cells are stored anew -/
theorem Hl.set (h : Hl w0 bh es w) {x : Rn} (hx : RunAt w0 x w) (hp : ∀ y ∈ es, y.place ≠ x.place) (v : Value) : Hl w0 bh es (w.setCell ⟨x.blk, 0, none⟩ v) ∧ Kt w (w.setCell ⟨x.blk, 0, none⟩ v) := by
  obtain ⟨a, h1, h2, h3⟩ := h
  obtain ⟨cv, hc, -⟩ := hx.h
  obtain ⟨sv, hb, ho⟩ := h1.sl
  have hset := grownBy_setCell w x.blk 0 v
  refine ⟨⟨a, ⟨h1.ge, ⟨sv, ?_, ?_⟩, fun k hk => ?_, ?_⟩, h2, h3⟩, Kt.set (p := ⟨x.blk, 0, none⟩) hc (.inr (.inr rfl)) v⟩
  · refine (Below.heap_setCell _ _ _ _ fun e => ?_).trans hb
    have e : bh = x.blk := e
    rw [e, hc] at hb
    injection hb with hb
    injection hb with _ ht _
    exact absurd ht (by decide)
  · exact ho.kept hset fun k hk e => by
      injection e with e
      subst e
      exact run_apart hc ho hk
  · have hk2 := h1.run k hk
    refine hk2.keep (Below.heap_setCell _ _ _ _ fun e => ?_)
    exact hx.other hk2 (hp _ (h3.mem_iff.1 (List.mem_map.2 ⟨k, List.mem_range.2 hk, rfl⟩))) e
  · exact h1.bel.grown hset h1.bel.size (fun k hk => by injection hk with hk; exact hk ▸ hx.ge)
end
theorem InC.kt {g : Nat} {c : Cl} {w w' : World} (h : InC g c w) (k : Kt w w') : InC g c w' := ⟨(k.block g h.lt fun cs t fz hc => by
  rw [h.h] at hc
  injection hc with hc
  injection hc with _ ht _
  subst ht
  exact ⟨by decide, by decide, by decide⟩).trans h.h⟩
theorem heapPush_any (w0 : World) (bh : Nat) (es : List Rn) (x : Rn) (w : World) (h : Hl w0 bh es w) (hx : RunAt w0 x w) (hn : es.length ≤ 100000000) :
    Calls Try.prog 33 #[.iface 39 (.pointer (some ⟨bh, 0, none⟩)), .iface 43 x.p] w fun e w' => (∃ u, e = .returned u) ∧ Hl w0 bh (x :: es) w' ∧ Kt w w' := by
  obtain ⟨a, h1, h2, h3⟩ := h
  refine (Hp.push_any (iface_runs w0 w bh) (iface_push w0 w bh) rle_ord a es.length x _ w ⟨h1, Kt.refl w⟩ ⟨rfl, hx⟩ h2 hn).mono ?_
  rintro e w' ⟨b, u, rfl, hs, hh, hp⟩
  refine ⟨⟨u, rfl⟩, ⟨b, hs.1, hh, hp.p.trans ?_⟩, hs.2⟩
  rw [List.range_succ, List.map_append]
  refine List.Perm.trans ?_ (h3.cons x)
  have : (List.range es.length).map (fun k => if k = es.length then x else a k) = (List.range es.length).map a := List.map_congr_left fun k hk => by
    have := List.mem_range.1 hk
    rw [if_neg (by omega)]
  rw [this]
  simp only [List.map_cons, List.map_nil, if_pos]
  exact List.perm_append_singleton _ _
theorem heapPop_any (w0 : World) (bh : Nat) (es : List Rn) (w : World) (h : Hl w0 bh es w) (h0 : 0 < es.length) (hn : es.length ≤ 100000000) :
    Calls Try.prog 34 #[.iface 39 (.pointer (some ⟨bh, 0, none⟩))] w fun e w' => ∃ x es', es.Perm (x :: es') ∧ (∀ f ∈ es', Hp.leB rlt x f) ∧ e = .returned (.iface 43 x.p) ∧ RunAt w0 x w' ∧ Hl w0 bh es' w' ∧ Kt w w' := by
  obtain ⟨a, h1, h2, h3⟩ := h
  obtain ⟨n, hn1⟩ : ∃ n, es.length = n + 1 := ⟨es.length - 1, by omega⟩
  rw [hn1] at h1 h2 h3
  refine (Hp.pop_any (iface_runs w0 w bh) (iface_pop w0 w bh) rle_ord a n w ⟨h1, Kt.refl w⟩ h2 (by omega)).mono ?_
  rintro e w' ⟨b, v, rfl, ⟨rfl, hx⟩, hs, hh, hp⟩
  have hl : ((List.range n).map b).length = n := by simp
  have hperm : es.Perm (a 0 :: (List.range n).map b) := by
    refine h3.symm.trans ?_
    refine (Hp.swp_perm a (show 0 < n + 1 by omega) (show n < n + 1 by omega)).symm.trans ?_
    rw [List.range_succ, List.map_append, List.map_singleton, Hp.swp_j]
    exact (List.perm_append_singleton _ _).trans (hp.p.symm.cons _)
  refine ⟨a 0, (List.range n).map b, hperm, fun f hf => ?_, rfl, hx, ⟨b, by rw [hl]; exact hs.1, by rw [hl]; exact hh, by rw [hl]⟩, hs.2⟩
  have hm : f ∈ (List.range (n + 1)).map a := h3.mem_iff.2 (hperm.mem_iff.2 (by simp [hf]))
  obtain ⟨k, hk, rfl⟩ := List.mem_map.1 hm
  exact Hp.Heap.top rle_ord h2 k (List.mem_range.1 hk)
/-- a run more, where it has cells -/
def addR (es : List Rn) (bk place : Nat) : List Cl → List Rn
  | [] => es
  | c :: r => ⟨bk, c, r, place⟩ :: es
set_option maxHeartbeats 1000000 in
set_option maxRecDepth 100000 in
theorem add_any (w0 : World) (bh : Nat) (es : List Rn) (bk place : Nat) (L : List Cl) (cv : Value) (w : World) (h : Hl w0 bh es w) (hb : w.heap[bk]? = some (.cells #[cv, .int .i64 (place : Int)] 45 (0, 0))) (hge : w0.heap.size ≤ bk) (hr : RdL w0 [] cv L) (hn : es.length ≤ 100000000) :
    Calls Try.prog 24 #[.pointer (some ⟨bh, 0, none⟩), .pointer (some ⟨bk, 0, none⟩)] w fun e w' => (∃ u, e = .returned u) ∧ Hl w0 bh (addR es bk place L) w' ∧ Kt w w' := by
  have c0 := cell_of_row _ _ 0 _ _ _ hb
  obtain ⟨A, c, rfl, hc, hm⟩ := hr.shape
  have HH := Lib.hid h
  cases L with
  | nil =>
    clear h hb hr
    go_enter Try.func24, Try.ntmps24
    go_wp2_with fail
    go_end0
    exact ⟨⟨_, rfl⟩, HH.out, Kt.refl _⟩
  | cons d r =>
    have hp := heapPush_any w0 bh es ⟨bk, d, r, place⟩ w h ⟨hge, _, hb, hr⟩ hn
    unfold Rn.p at hp
    have HP := Lib.hid hp
    have hpos : (0 : Int) < ((d :: r).length : Int) := by simp
    generalize (d :: r).length = n at *
    clear h hb hr hp
    go_enter Try.func24, Try.ntmps24
    go_wp2_with fail
    refine HP.out.mono ?_
    rintro e w' ⟨⟨u, rfl⟩, h1, h2⟩
    go_wp2_with fail
    go_end0
    exact ⟨⟨_, rfl⟩, h1, h2⟩
end Go.Proofs.Ytknkdehjgkjljaa.Ce
