/- The heap of runs of package merge: its methods, each by a contract, as container/heap calls them. -/
import Derived.Test.YtknkdehjgkjljaaMgH
import Derived.Deep.RegionHeld3
import Derived.BigQuiet
import Derived.BigRegion
namespace Go.Proofs.Ytknkdehjgkjljaa.Ce
open Go.RowKit Go.Proofs.Ytknkdehjgkjljaa.Hp

theorem pRuns : Try.prog.underlying 39 = some (.pointer 41) := Try.underlying39
theorem mLen : (Try.prog.info? 39).map (fun i => (i.methods.find? (·.name == "Len")).map (fun m => (m.path.toList, m.func))) = some (some ([], some (25, false))) := by kernel_rfl
theorem mLess : (Try.prog.info? 39).map (fun i => (i.methods.find? (·.name == "Less")).map (fun m => (m.path.toList, m.func))) = some (some ([], some (60, false))) := by kernel_rfl
theorem mSwap : (Try.prog.info? 39).map (fun i => (i.methods.find? (·.name == "Swap")).map (fun m => (m.path.toList, m.func))) = some (some ([], some (63, false))) := by kernel_rfl
theorem mPop : (Try.prog.info? 39).map (fun i => (i.methods.find? (·.name == "Pop")).map (fun m => (m.path.toList, m.func))) = some (some ([], some (61, true))) := by kernel_rfl
theorem mPush : (Try.prog.info? 39).map (fun i => (i.methods.find? (·.name == "Push")).map (fun m => (m.path.toList, m.func))) = some (some ([], some (62, true))) := by kernel_rfl

theorem rlen_any (w0 : World) (a : Nat → Rn) (n : Nat) (v : Value) (w : World) (hv : Ow w w0.heap.size 43 v ((List.range n).map fun k => (a k).p)) :
    Calls Try.prog 25 #[v] w fun e w' => e = .returned (.int .i64 (n : Int)) ∧ w = w' := by
  obtain ⟨A, c, rfl, hc, hm⟩ := hv.rd.shape
  simp only [List.length_map, List.length_range] at *
  clear hv
  go_enter Try.func25, Try.ntmps25
  go_wp2
  go_ret
  exact ⟨rfl, rfl⟩

/-! two runs side by side -/
def or2 (a b : Int) : Int := if a ≠ 0 then a else b
theorem or2_rlt (x y : Rn) : decide (or2 (ccmp x.c y.c) (icmp (x.place : Int) (y.place : Int)) < 0) = rlt x y := by
  unfold or2 rlt
  refine decide_eq_decide.2 ?_
  rcases ccmp_cases x.c y.c with ⟨e, -⟩ | ⟨e, -⟩ | ⟨e, -⟩
  · rw [e]; simp
  · rw [e]
    rcases icmp_cases (x.place : Int) (y.place : Int) with ⟨q, k⟩ | ⟨q, k⟩ | ⟨q, k⟩
    · rw [q]; simp; omega
    · rw [q]; simp; omega
    · rw [q]; simp; omega
  · rw [e]; simp
set_option maxHeartbeats 2000000 in
theorem or2_any (v : Value) (a b : Int) (B : Nat) (w : World) (hv : Rd w B v [.int .i64 a, .int .i64 b]) : Calls Try.prog 35 #[v] w fun e w' => e = .returned (.int .i64 (or2 a b)) ∧ w = w' := by
  obtain ⟨bk, off, cc, rfl, h3, hm, -, hc⟩ := hv.at_ (by simp)
  simp only [List.length_cons, List.length_nil, Nat.zero_add, Nat.reduceAdd] at h3 ⊢
  have c0 := hc 0 _ rfl
  have c1 := hc 1 _ rfl
  rw [Nat.add_zero] at c0
  clear hc hv
  have HR0 : Hid (a ≠ 0 → a = or2 a b) := Lib.hid fun h => by simp [or2, h]
  have HR1 : Hid (a = 0 → b = or2 a b) := Lib.hid fun h1 => by simp [or2, h1]
  unfold maxLen at hm
  generalize or2 a b = r at *
  go_enter Try.func35, Try.ntmps35
  go_wp2_with fail
  go_loop [5, 8] (fun _ i => ∃ k : Nat, k ≤ 2 ∧ i = .int .i64 (k : Int) ∧ (1 ≤ k → a = 0) ∧ (2 ≤ k → b = 0)) (fun _ i => 2 - (intOf i).toNat)
  case atStart => exact ⟨0, by omega, rfl, by omega, by omega⟩
  case round =>
    obtain ⟨k, hk, rfl, k1, k2⟩ := hrel
    have h0 : k = 0 ∨ k = 1 ∨ k = 2 := by omega
    rcases h0 with h0 | h0 | h0
    · obtain rfl : k = 0 := by omega
      by_cases hz : a = 0
      · go_wp2_with fail
        go_round
        case rel => exact ⟨1, by omega, by go_num, fun _ => hz, by omega⟩
        case measure => simp [intOf]
      · go_wp2_with fail
        go_ret
        exact ⟨ret1 (vi (HR0.out hz)), rfl⟩
    · obtain rfl : k = 1 := by omega
      by_cases hz : b = 0
      · go_wp2_with fail
        go_round
        case rel => exact ⟨2, by omega, by go_num, fun _ => k1 (by omega), fun _ => hz⟩
        case measure => simp [intOf]
      · go_wp2_with fail
        go_ret
        exact ⟨ret1 (vi (HR1.out (k1 (by omega)))), rfl⟩
    · obtain rfl : k = 2 := by omega
      have hz := k2 (by omega)
      have hr := HR1.out (k1 (by omega))
      go_wp2_with fail
      go_ret
      exact ⟨ret1 (vi (hz.symm.trans hr)), rfl⟩
theorem or2_new (x y : Int) (w : World) (t : Nat) : Calls Try.prog 35 #[.slice (some ⟨w.heap.size, 0, none⟩) 2 2] (w.alloc (.cells #[.int .i64 x, .int .i64 y] t)) fun e w' => e = .returned (.int .i64 (or2 x y)) ∧ (w.alloc (.cells #[.int .i64 x, .int .i64 y] t)) = w' :=
  or2_any _ x y _ _ (Rd.new w t _ rfl (by simp [maxLen]) rfl)
/-- two runs and their first cells, in whatever later world -/
def RunAt2 (x y : Rn) (b1 o1 c1 b2 o2 c2 : Nat) (w0 w' : World) : Prop :=
  w'.cell? ⟨x.blk, 0, none⟩ = some (.slice (some ⟨b1, o1, none⟩) (x.rest.length + 1) c1) ∧ w'.cell? ⟨x.blk, 1, none⟩ = some (.int .i64 (x.place : Int)) ∧ w'.cell? ⟨y.blk, 0, none⟩ = some (.slice (some ⟨b2, o2, none⟩) (y.rest.length + 1) c2) ∧ w'.cell? ⟨y.blk, 1, none⟩ = some (.int .i64 (y.place : Int)) ∧ w'.cell? ⟨b1, o1, none⟩ = some (.string x.c.row) ∧ w'.cell? ⟨b1, o1 + 1, none⟩ = some (.string x.c.col) ∧ w'.cell? ⟨b1, o1 + 2, none⟩ = some (.int .i64 x.c.at_) ∧ w'.cell? ⟨b1, o1 + 3, none⟩ = some (.string x.c.val) ∧ w'.cell? ⟨b1, o1 + 4, none⟩ = some (.bool x.c.gone) ∧ w'.cell? ⟨b2, o2, none⟩ = some (.string y.c.row) ∧ w'.cell? ⟨b2, o2 + 1, none⟩ = some (.string y.c.col) ∧ w'.cell? ⟨b2, o2 + 2, none⟩ = some (.int .i64 y.c.at_) ∧ w'.cell? ⟨b2, o2 + 3, none⟩ = some (.string y.c.val) ∧ w'.cell? ⟨b2, o2 + 4, none⟩ = some (.bool y.c.gone) ∧ Below w0.heap.size w0 w'
theorem RunAt2.bel {x y : Rn} {b1 o1 c1 b2 o2 c2 : Nat} {w0 w' : World} (h : RunAt2 x y b1 o1 c1 b2 o2 c2 w0 w') : Below w0.heap.size w0 w' := h.2.2.2.2.2.2.2.2.2.2.2.2.2.2
/-- a run opened -/
theorem RunAt.open_ {w0 w : World} {x : Rn} (h : RunAt w0 x w) (hb : Below w0.heap.size w0 w) : ∃ b o c, x.rest.length + 1 ≤ c ∧ c ≤ maxLen ∧ w.heap[x.blk]? = some (.cells #[.slice (some ⟨b, o, none⟩) (x.rest.length + 1) c, .int .i64 (x.place : Int)] 45 (0, 0)) ∧ RdL w0 [] (.slice (some ⟨b, o, none⟩) (x.rest.length + 1) c) (x.c :: x.rest) ∧ b < w.heap.size ∧ FiveAt b o x.c w := by
  obtain ⟨cv, h1, h2⟩ := h.h
  obtain ⟨A, c, rfl, hc, hm⟩ := h2.shape
  obtain ⟨b, o, rfl, hbl, -, -⟩ := h2.open_ (by simp)
  have h3 := (h2.bel hb).at_ (k := 0) (f := x.c) rfl
  rw [Nat.zero_mul, Nat.add_zero] at h3
  rw [List.length_cons] at h1 h2 hc
  exact ⟨b, o, c, hc, hm, h1, h2, h3.2, h3.1⟩
set_option maxHeartbeats 4000000 in
set_option maxRecDepth 100000 in
theorem rless_any (w0 : World) (a : Nat → Rn) (n i j : Nat) (v : Value) (w : World) (ho : Ow w w0.heap.size 43 v ((List.range n).map fun k => (a k).p)) (hr : ∀ k, k < n → RunAt w0 (a k) w) (hb : Below w0.heap.size w0 w) (hi : i < n) (hj : j < n) :
    Calls Try.prog 60 #[v, .int .i64 (i : Int), .int .i64 (j : Int)] w fun e w' => e = .returned (.bool (rlt (a i) (a j))) ∧ Below w.heap.size w w' := by
  obtain ⟨A, c, rfl, hc, hm⟩ := ho.rd.shape
  simp only [List.length_map, List.length_range] at hc ⊢
  unfold maxLen at hm
  obtain ⟨g, rfl, -, -, hgi, -, -⟩ := ho.at_ (k := i) (by simpa using hi)
  obtain ⟨g', hA, -, -, hgj, -, -⟩ := ho.at_ (k := j) (by simpa using hj)
  obtain ⟨rfl⟩ : g = g' := by injection hA with q; injection q
  clear hA
  simp only [List.getElem_map, List.getElem_range] at hgi hgj
  obtain ⟨b1, o1, c1, hc1, hm1, hx1, -, hb1, hf1⟩ := (hr i hi).open_ hb
  obtain ⟨b2, o2, c2, hc2, hm2, hx2, -, hb2, hf2⟩ := (hr j hj).open_ hb
  generalize a i = x at *
  generalize a j = y at *
  have hxl := (Array.getElem?_eq_some_iff.1 hx1).1
  have hyl := (Array.getElem?_eq_some_iff.1 hx2).1
  have HT : Hid (∀ z, Below w.heap.size w z → RunAt2 x y b1 o1 c1 b2 o2 c2 w z) := Lib.hid fun z hz => by
    obtain ⟨p0, p1, p2, p3, p4⟩ := hf1.up hb1 hz
    obtain ⟨q0, q1, q2, q3, q4⟩ := hf2.up hb2 hz
    have e1 := (hz.block _ hxl).trans hx1
    have e2 := (hz.block _ hyl).trans hx2
    exact ⟨cell_of_row _ _ 0 _ _ _ e1, cell_of_row _ _ 1 _ _ _ e1, cell_of_row _ _ 0 _ _ _ e2, cell_of_row _ _ 1 _ _ _ e2, p0, p1, p2, p3, p4, q0, q1, q2, q3, q4, hz⟩
  unfold Rn.p at hgi hgj
  unfold maxLen at hm1 hm2
  have HRL := Lib.hid (or2_rlt x y)
  clear hr hb ho hf1 hf2 hx1 hx2 hxl hyl
  have hi1 : (i : Int) < (n : Int) := by omega
  have hj1 : (j : Int) < (n : Int) := by omega
  go_enter Try.func60, Try.ntmps60
  go_wp2_with fail
  go_quiet (fail)
  have HB := Lib.hid (bwN (w := w) nq)
  generalize w.drewN nq = wz at *
  have HS := HT.out wz HB.out
  have HTz : Hid (RunAt2 x y b1 o1 c1 b2 o2 c2 w wz.drew) := Lib.hid (HT.out _ (bwstep HB.out (Below.refl _ _).drew))
  have HU : Hid (∀ u z : World, RunAt2 x y b1 o1 c1 b2 o2 c2 w u → Below u.heap.size u z → RunAt2 x y b1 o1 c1 b2 o2 c2 w z) := Lib.hid fun u z hu hz => HT.out z (bwstep hu.bel hz)
  clear HS hgi hgj HT
  go_wp2_with fail
  go_region_held3 (fun w' => w'.cell? ⟨x.blk, 0, none⟩ = some (.slice (some ⟨b1, o1, none⟩) (x.rest.length + 1) c1) ∧ w'.cell? ⟨x.blk, 1, none⟩ = some (.int .i64 (x.place : Int)) ∧ w'.cell? ⟨y.blk, 0, none⟩ = some (.slice (some ⟨b2, o2, none⟩) (y.rest.length + 1) c2) ∧ w'.cell? ⟨y.blk, 1, none⟩ = some (.int .i64 (y.place : Int)) ∧ w'.cell? ⟨b1, o1, none⟩ = some (.string x.c.row) ∧ w'.cell? ⟨b1, o1 + 1, none⟩ = some (.string x.c.col) ∧ w'.cell? ⟨b1, o1 + 2, none⟩ = some (.int .i64 x.c.at_) ∧ w'.cell? ⟨b1, o1 + 3, none⟩ = some (.string x.c.val) ∧ w'.cell? ⟨b1, o1 + 4, none⟩ = some (.bool x.c.gone) ∧ w'.cell? ⟨b2, o2, none⟩ = some (.string y.c.row) ∧ w'.cell? ⟨b2, o2 + 1, none⟩ = some (.string y.c.col) ∧ w'.cell? ⟨b2, o2 + 2, none⟩ = some (.int .i64 y.c.at_) ∧ w'.cell? ⟨b2, o2 + 3, none⟩ = some (.string y.c.val) ∧ w'.cell? ⟨b2, o2 + 4, none⟩ = some (.bool y.c.gone) ∧ Below w.heap.size w w') (first | exact HTz.out | assumption | exact HU.out _ _ (by assumption) (by assumption) | exact HU.out _ _ (by assumption) (bwalloc (bwrefl _) _) | exact HU.out _ _ (by assumption) (bwalloc (bwrefl _) _).drew)
    (first
      | (go_at_call 27; refine (compare_any x.c y.c _).mono ?_; rintro e wn ⟨rfl, hbn⟩)
      | (go_at_call 37; refine (cmpI_any _ _ _).mono ?_; rintro e wn ⟨rfl, rfl⟩)
      | (go_at_call 35; refine (or2_new _ _ _ _).mono ?_; rintro e wn ⟨rfl, rfl⟩))
  all_goals
    go_wp2_with fail
    go_ret
    exact ⟨by first | exact ret1 (vb HRL.out) | (rw [← HRL.out]; simp), bwalloc (bwstep HB.out (bwstep (Below.refl _ _).drew hbn)) _⟩
theorem range_swap (f : Nat → Value) (n i j : Nat) : (((List.range n).map f).set i (f j)).set j (f i) = (List.range n).map (Hp.swp f i j) := by
  refine List.ext_getElem (by simp) fun k h1 h2 => ?_
  simp only [List.getElem_set, List.getElem_map, List.getElem_range]
  unfold Hp.swp
  by_cases e1 : j = k
  · subst e1
    by_cases e2 : j = i
    · subst e2; simp
    · simp [e2]
  · by_cases e2 : i = k
    · subst e2; simp [e1]
    · rw [if_neg e1, if_neg e2, if_neg (fun q => e2 q.symm), if_neg (fun q => e1 q.symm)]
theorem swp_p (a : Nat → Rn) (i j : Nat) : (fun k => (Hp.swp a i j k).p) = Hp.swp (fun k => (a k).p) i j := by
  funext k
  unfold Hp.swp
  split
  · rfl
  · split <;> rfl
/-- two places of the heap's slice exchanged -/
theorem ow_swap {w : World} {B n c i j g : Nat} {m : Nat} {a : Nat → Rn} (h : Ow w B 43 (.slice (some ⟨g, 0, none⟩) m c) ((List.range n).map fun k => (a k).p)) (hi : i < n) (hj : j < n) :
    Ow ((w.setCell ⟨g, i, none⟩ (a j).p).setCell ⟨g, j, none⟩ (a i).p) B 43 (.slice (some ⟨g, 0, none⟩) m c) ((List.range n).map fun k => (Hp.swp a i j k).p) := by
  obtain ⟨g1, hA1, _, _, _, _, hset1⟩ := h.at_ (k := i) (by simpa using hi)
  obtain ⟨rfl⟩ : g = g1 := by injection hA1 with q; injection q
  obtain ⟨g2, hA2, _, _, _, _, hset2⟩ := (hset1 (a j).p).at_ (k := j) (by simpa using hj)
  obtain ⟨rfl⟩ : g = g2 := by injection hA2 with q; injection q
  have := hset2 (a i).p
  rw [range_swap (fun k => (a k).p) n i j] at this
  rw [swp_p]
  exact this
theorem Ow.blockT {w : World} {B e n c g : Nat} {xs : List Value} (h : Ow w B e (.slice (some ⟨g, 0, none⟩) n c) xs) : ∃ cs, w.heap[g]? = some (.cells cs e (0, 0)) := by
  rcases h.2 with ⟨he, -⟩ | ⟨g', cap, cur, he, -, hh, -⟩
  · cases he
  · injection he with e1 _ _
    injection e1 with e1
    injection e1 with e1
    subst e1
    exact ⟨_, hh⟩
set_option maxHeartbeats 4000000 in
set_option maxRecDepth 100000 in
theorem rswap_any (B : Nat) (a : Nat → Rn) (n i j : Nat) (v : Value) (w : World) (ho : Ow w B 43 v ((List.range n).map fun k => (a k).p)) (hi : i < n) (hj : j < n) :
    Calls Try.prog 63 #[v, .int .i64 (i : Int), .int .i64 (j : Int)] w fun e w' => (∃ u, e = .returned u) ∧ Ow w' B 43 v ((List.range n).map fun k => (Hp.swp a i j k).p) ∧ w.grownBy w' v.ownBlock := by
  obtain ⟨A, c, rfl, hc, hm⟩ := ho.rd.shape
  simp only [List.length_map, List.length_range] at hc ho ⊢
  unfold maxLen at hm
  obtain ⟨g, rfl, -, -, hgi, hfi, -⟩ := ho.at_ (k := i) (by simpa using hi)
  obtain ⟨g', hA, -, -, hgj, hfj, -⟩ := ho.at_ (k := j) (by simpa using hj)
  obtain ⟨rfl⟩ : g = g' := by injection hA with q; injection q
  clear hA
  simp only [List.getElem_map, List.getElem_range] at hgi hgj
  have hsw := ow_swap ho hi hj
  have HG : Hid (w.grownBy ((w.setCell ⟨g, i, none⟩ (a j).p).setCell ⟨g, j, none⟩ (a i).p) (some g)) := Lib.hid ((grownBy_setCell w g i _).trans (grownBy_setCell _ g j _))
  have HS := Lib.hid hsw
  clear hsw ho
  generalize hxx : (a i).p = x at *
  generalize hyy : (a j).p = y at *
  obtain ⟨bx, rfl⟩ : ∃ bx, x = .pointer (some ⟨bx, 0, none⟩) := ⟨_, hxx.symm⟩
  obtain ⟨bY, rfl⟩ : ∃ bY, y = .pointer (some ⟨bY, 0, none⟩) := ⟨_, hyy.symm⟩
  have hi1 : (i : Int) < (n : Int) := by omega
  have hj1 : (j : Int) < (n : Int) := by omega
  by_cases hij : i = j
  · subst hij
    have e1 : bx = bY := by
      rw [hxx] at hyy
      injection hyy with q
      injection q with q
      injection q
    subst e1
    clear hxx hyy
    go_enter Try.func63, Try.ntmps63
    go_wp2_with fail
    go_region
    go_wp2_with fail
    go_end0
    exact ⟨⟨_, rfl⟩, HS.out.below (bwN 1), (show w.grownBy _ (some g) from HG.out).trans ⟨rfl, rfl, rfl, by simp [World.drew, World.setCell], fun _ _ _ => rfl⟩⟩
  · have hji : ¬ j = i := fun e => hij e.symm
    clear hxx hyy
    go_enter Try.func63, Try.ntmps63
    go_wp2_with fail
    go_region
    go_wp2_with fail
    go_end0
    exact ⟨⟨_, rfl⟩, HS.out.below (bwN 1), (show w.grownBy _ (some g) from HG.out).trans ⟨rfl, rfl, rfl, by simp [World.drew, World.setCell], fun _ _ _ => rfl⟩⟩
end Go.Proofs.Ytknkdehjgkjljaa.Ce
