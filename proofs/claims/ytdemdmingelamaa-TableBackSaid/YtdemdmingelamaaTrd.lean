/- The contract of read of package table. -/
import Derived.Test.YtdemdmingelamaaTrp
import Derived.Test.YtdemdmingelamaaTbi
import Derived.Test.YtdemdmingelamaaCsA
import Derived.Test.YtdemdmingelamaaBkG
namespace Go.Proofs.Ytdemdmingelamaa.Ce
open Go.RowKit Frm Go.Shelf
attribute [local go_sem] Oper.semAt_some

/-- what is turned holds neither cells nor slices of cells -/
def Foreign (w : World) (row : Option Nat) : Prop := ∀ r, row = some r → ∀ cur t fz, w.heap[r]? = some (.cells cur t fz) → t ≠ 22 ∧ t ≠ 42
theorem foreign_not {w : World} {row : Option Nat} (h : ∀ r, row = some r → ∃ o : Obj, w.heap[r]? = some o ∧ o.isCells = false) : Foreign w row := fun r e cur t fz hc => by
  obtain ⟨o, ho, hn⟩ := h r e
  rw [hc] at ho
  cases ho
  cases hn
theorem foreign_box {w : World} {g t : Nat} {v : Value} (h : Boxed w g t v) (h1 : t ≠ 22) (h2 : t ≠ 42) : Foreign w (some g) := fun r e cur t' fz hc => by
  cases e
  rw [show w.heap[g]? = _ from h] at hc
  cases hc
  exact ⟨h1, h2⟩
theorem OwL.keptF {w w' : World} {B : Nat} {u : Value} {L : List Cl} {row : Option Nat} (h : OwL w B u L) (hg : w.grownBy w' row) (hf : Foreign w row) : OwL w' B u L := by
  refine h.keptR hg fun k hk hr => ?_
  rcases h.2 with ⟨rfl, -⟩ | ⟨g, cap, cur, rfl, -, hh, -⟩
  · cases hk
  · cases hk
    exact (hf g hr cur _ _ hh).2 rfl
theorem OwB.keptF {w w' : World} {B : Nat} {v : Value} {vs : List Value} {LL : List (List Cl)} {row : Option Nat} (h : OwB w B v vs LL) (hg : w.grownBy w' row) (hf : Foreign w row) : OwB w' B v vs LL := by
  refine ⟨h.out.kept hg fun k hk hr => ?_, h.len, fun j u L hu hL => (h.row j u L hu hL).keptF hg hf⟩
  rcases h.out.2 with ⟨rfl, -⟩ | ⟨g, cap, cur, rfl, -, hh, -⟩
  · cases hk
  · cases hk
    exact (hf g hr cur _ _ hh).1 rfl
/-- a row is stored -/
theorem OwB.set_ {w : World} {B i : Nat} {A : Option Addr} {n c : Nat} {u : Value} {vs : List Value} {LL : List (List Cl)} {L : List Cl} (h : OwB w B (.slice A n c) vs LL) (hu : OwL w B u L) (hi : i < LL.length) :
    ∃ g, A = some ⟨g, 0, none⟩ ∧ B ≤ g ∧ g < w.heap.size ∧ (∃ v0, w.cell? ⟨g, i, none⟩ = some v0) ∧ w.frozen? ⟨g, i, none⟩ = false ∧ OwB (w.setCell ⟨g, i, none⟩ u) B (.slice A n c) (vs.set i u) (LL.set i L) := by
  have hvl := h.len
  obtain ⟨g, rfl, h1, h2, h3, h4, h5⟩ := h.out.at_ (k := i) (by omega)
  refine ⟨g, rfl, h1, h2, ⟨_, h3⟩, h4, h5 u, by rw [List.length_set, List.length_set, hvl], fun j x M hx hM => ?_⟩
  have hg := grownBy_setCell w g i u
  have hk : ∀ {y : Value} {N : List Cl}, OwL w B y N → OwL (w.setCell ⟨g, i, none⟩ u) B y N := fun {y N} hy => hy.keptR hg fun q hq e => by
    cases e
    exact ow_apart h.out hy _ hq rfl
  by_cases e : i = j
  · subst e
    rw [List.getElem?_set_self (by omega)] at hx hM
    cases hx
    cases hM
    exact hk hu
  · rw [List.getElem?_set_ne e] at hx hM
    exact hk (h.row j x M hx hM)
theorem wpList_makeR {ops : Array Oper} {rest : List Oper} {o : Oper} {a : Act} {w : World} {Q : Exit → Act → World → Prop} (hgd : o.guard = none) (l c : Operand)
    (ho : o.op = .makeSlice 39 l c) (n : Nat) {kl kc : IntKind} (hl : a.eval l = .int kl (n : Int)) (hc : a.eval c = .int kc (n : Int)) (hn : n ≤ 1000000000)
    (h : ∀ w', OwB w' w.heap.size (.slice (some ⟨w.heap.size, 0, none⟩) n n) (List.replicate n (.slice none 0 0)) (List.replicate n []) → Below w.heap.size w w' → wpList Try.prog ops Q rest (a.put o.dst (.slice (some ⟨w.heap.size, 0, none⟩) n n)) w') :
    wpList Try.prog ops Q (o :: rest) a w := by
  obtain ⟨i, hi, hi0, hi1, hi2⟩ := info_parts rowsC_T.info
  refine wpList_make_full w hgd l c _ ho w.heap.size _ i (.slice none 0 0) 1 rowsC_T.ht hi hi0 hi1 kl kc _ _ n hl hc rfl rfl (by rw [hi2]; omega) (by simp [maxLen]; omega) (Nat.le_refl _) ?_
  intro w' hown hgr
  refine h w' ⟨?_, by simp, fun j u L hu hL => ?_⟩ ((Below.refl _ _).grown hgr (Nat.le_refl _) (by simp))
  · have e1 : (madeCells (Value.slice none 0 0).cells (n * 1)).toList = List.replicate n (.slice none 0 0) := by
      show (madeCells #[.slice none 0 0] (n * 1)).toList = _
      rw [madeCells_one]
    unfold Ow
    rw [e1] at hown
    simpa using hown
  · rw [List.getElem?_replicate] at hu hL
    split at hu
    · next hj =>
      rw [if_pos hj] at hL
      cases hu
      cases hL
      exact OwL.nil _ _
    · cases hu
theorem keepsFrom_below {B : Nat} {W W' : World} (hb : Below W.heap.size W W') : KeepsFrom B W W' := ⟨hb.size, fun k _ _ hk _ => (hb.block k (Array.getElem?_eq_some_iff.1 hk).1).trans hk⟩
theorem boxed_bel {W W' : World} {g t : Nat} {v : Value} (h : Boxed W g t v) (hb : Below W.heap.size W W') : Boxed W' g t v := (hb.block g h.lt).trans h
theorem boxed_two {W : World} {g k t u : Nat} {a b a' b' : Value} (h : Boxed W g t a) (h' : Boxed W k u b) (hne : g ≠ k) : Boxed ((W.setCell ⟨g, 0, none⟩ a').setCell ⟨k, 0, none⟩ b') g t a' ∧ Boxed ((W.setCell ⟨g, 0, none⟩ a').setCell ⟨k, 0, none⟩ b') k u b' :=
  ⟨(h.set a').other hne b', (h'.other hne.symm a').set b'⟩
theorem keeps_two {B : Nat} {W W1 : World} {a b : Value} {p q : Addr} (h : KeepsFrom B W W1) : KeepsFrom B W ((W1.setCell p a).setCell q b) :=
  (h.trans ((KeepsOthers.setCell W1 p a).from B)).trans ((KeepsOthers.setCell _ q b).from B)
/-- what is told -/
def ReadEnd (l : List UInt8) (ss : List Nat) (w : World) (e : Ending) (w' : World) : Prop :=
  ((∃ y LL, e = .returned (.tuple #[y, .bool true]) ∧ RdB w' y LL ∧ LL.length = ss.length ∧ (∀ M ∈ LL, Sorted M ∧ M ≠ []) ∧ (flatC LL.flatten).length ≤ l.length ∧ ∀ L0, Blks l ss L0 → LL = L0) ∨
    ((¬ ∃ L0, Blks l ss L0) ∧ e = .returned (.tuple #[.slice none 0 0, .bool false]))) ∧ Below w.heap.size w w'
/-- between two rounds -/
def RdI (w : World) (n0 n1 Bt B4 B5 Bg B6 B7 : Nat) (vb : Value) (l : List UInt8) (ss : List Nat) (pre : List (Fin ss.length)) (W : World) : Prop :=
  (∃ (LL : List (List Cl)) (vs : List Value) (E : Nat), (Boxed W Bt 26 vb ∧ Boxed W B4 39 (.slice none 0 0) ∧ Boxed W B5 4 (.bool false) ∧ Boxed W B6 39 (.slice (some ⟨Bg, 0, none⟩) ss.length ss.length) ∧ Boxed W B7 3 (.int .i64 (E : Int))) ∧
    OwB W n0 (.slice (some ⟨Bg, 0, none⟩) ss.length ss.length) vs LL ∧ LL.length = ss.length ∧ E ≤ l.length ∧ (Bw.Exp ss.length pre → ReadTo l ss pre.length LL E)) ∧ Below n0 w W ∧ n1 ≤ W.heap.size
/-- a round has left -/
def RdX (w : World) (n0 B4 B5 : Nat) (l : List UInt8) (ss : List Nat) (c : Code) (pre : List (Fin ss.length)) (W : World) : Prop :=
  (c = .ret ∧ Boxed W B4 39 (.slice none 0 0) ∧ Boxed W B5 4 (.bool false) ∧ (Bw.Exp ss.length pre → ¬ ∃ L0, Blks l ss L0)) ∧ Below n0 w W
theorem rdI_own {w : World} {n0 n1 Bt B4 B5 Bg B6 B7 B : Nat} {vb : Value} {l : List UInt8} {ss : List Nat} (hn : n0 ≤ w.heap.size) (hB : n0 ≤ B) (h1 : Bt < B) (h2 : B4 < B) (h3 : B5 < B) (h4 : B6 < B) (h5 : B7 < B) : OwnFrom B (RdI w n0 n1 Bt B4 B5 Bg B6 B7 vb l ss) := by
  rintro pre W W' row ⟨⟨LL, vs, E, ⟨b1, b2, b3, b4, b5⟩, ho, hl, hE, hP⟩, hb, hn1⟩ hg hr
  have hne : ∀ k, k < B → some k ≠ row := fun k hk e => by
    have := (hr k e.symm).1
    omega
  refine ⟨⟨LL, vs, E, ⟨b1.kept hg (hne _ h1), b2.kept hg (hne _ h2), b3.kept hg (hne _ h3), b4.kept hg (hne _ h4), b5.kept hg (hne _ h5)⟩, ho.keptF hg (foreign_not fun r e => (hr r e).2), hl, hE, hP⟩, hb.grown hg (Nat.le_trans hn hb.size) (fun k e => Nat.le_trans hB (hr k e).1), Nat.le_trans hn1 hg.size⟩
theorem rdX_own {w : World} {n0 B4 B5 B : Nat} {l : List UInt8} {ss : List Nat} (hn : n0 ≤ w.heap.size) (hB : n0 ≤ B) (h2 : B4 < B) (h3 : B5 < B) (c : Code) : OwnFrom B (RdX w n0 B4 B5 l ss c) := by
  rintro pre W W' row ⟨⟨hc, b2, b3, hP⟩, hb⟩ hg hr
  have hne : ∀ k, k < B → some k ≠ row := fun k hk e => by
    have := (hr k e.symm).1
    omega
  exact ⟨⟨hc, b2.kept hg (hne _ h2), b3.kept hg (hne _ h3), hP⟩, hb.grown hg (Nat.le_trans hn hb.size) fun k e => Nat.le_trans hB (hr k e).1⟩
set_option maxHeartbeats 800000 in
set_option maxRecDepth 100000 in
theorem read_any (v x : Value) (l : List UInt8) (ss : List Nat) (B D : Nat) (w : World) (hr : Rd w B v (l.map bv)) (hB : B ≤ w.heap.size) (hl : l.length ≤ 1000000) (hss : ∀ s ∈ ss, s ≤ 4294967295) (hsl : ss.length ≤ 1000000) (hx : Rd w D x (ss.map Blm.nvB)) (hD : D ≤ w.heap.size) :
    Calls Try.prog 46 #[v, x] w (ReadEnd l ss w) := by
  obtain ⟨A, c, rfl, hc, hm⟩ := hr.shapeM
  obtain ⟨Ax, cx, rfl, hcx, hmx⟩ := hx.shapeM
  unfold maxLen at hm hmx
  refine (callsIn_wide (n := 5)).1 ?_
  refine callsIn_of_wp_marks Try.func46 rfl trivial ?_ rfl
  refine wpIn_wide.2 ?_
  simp only [Try.ntmps46, List.size_toArray, List.length_cons, List.length_nil, Nat.reduceAdd, Nat.reduceSub, Array.replicate_succ, Array.replicate_zero, List.push_toArray, List.append_toArray, List.nil_append, List.cons_append]
  have bT0 : Boxed (((w.alloc (.cells #[.slice A l.length c] 26)).alloc (.cells #[.slice none 0 0] 39)).alloc (.cells #[.bool false] 4)) w.heap.size 26 (.slice A l.length c) := ((Boxed.new w _ _).alloc _).alloc _
  have b40 : Boxed (((w.alloc (.cells #[.slice A l.length c] 26)).alloc (.cells #[.slice none 0 0] 39)).alloc (.cells #[.bool false] 4)) (w.heap.size + 1) 39 (.slice none 0 0) := by
    have := (Boxed.new (w.alloc (.cells #[.slice A l.length c] 26)) 39 (.slice none 0 0)).alloc (.cells #[.bool false] 4)
    rwa [World.size_alloc] at this
  have b50 : Boxed (((w.alloc (.cells #[.slice A l.length c] 26)).alloc (.cells #[.slice none 0 0] 39)).alloc (.cells #[.bool false] 4)) (w.heap.size + 1 + 1) 4 (.bool false) := by
    have := Boxed.new ((w.alloc (.cells #[.slice A l.length c] 26)).alloc (.cells #[.slice none 0 0] 39)) 4 (.bool false)
    rwa [World.size_alloc, World.size_alloc] at this
  have hb00 : Below w.heap.size w (((w.alloc (.cells #[.slice A l.length c] 26)).alloc (.cells #[.slice none 0 0] 39)).alloc (.cells #[.bool false] 4)) := bwalloc (bwalloc (bwalloc (Below.refl _ _) _) _) _
  have hsz0 : (((w.alloc (.cells #[.slice A l.length c] 26)).alloc (.cells #[.slice none 0 0] 39)).alloc (.cells #[.bool false] 4)).heap.size = w.heap.size + 1 + 1 + 1 := by simp
  have HBT := Lib.hid bT0
  have HB4 := Lib.hid b40
  have HB5 := Lib.hid b50
  have HB00 := Lib.hid hb00
  have HSZ := Lib.hid hsz0
  have HR := Lib.hid hr
  have HX := Lib.hid hx
  clear bT0 b40 b50 hb00 hsz0 hr hx
  go_wp2_with (refine wpList_makeR rfl (.tmp 14) (.tmp 14) rfl ss.length rfl rfl (by omega) ?_; intro w2 ho2 hb2; have hcT := fun o => ((boxed_bel HBT.out hb2).alloc o).cell)
  refine (Bw.backward_any Ax ss.length cx _).mono ?_
  rintro e w3 ⟨rfl, rfl⟩
  go_wp2_with fail
  refine (wpIn_wide (n := 5)).1 ?_
  obtain ⟨W3, hW3⟩ : ∃ W3, (((w.alloc (.cells #[.slice A l.length c] 26)).alloc (.cells #[.slice none 0 0] 39)).alloc (.cells #[.bool false] 4)) = W3 := ⟨_, rfl⟩
  rw [hW3] at HBT HB4 HB5 HB00 HSZ ho2 hb2
  have hsz3 := HSZ.out
  have hsz2 := hb2.size
  obtain ⟨W0, hW0⟩ : ∃ W0, ((w2.alloc (.cells #[.slice (some ⟨w.heap.size + 1 + 1 + 1, 0, none⟩) ss.length ss.length] 39)).alloc (.cells #[.int .i64 (l.length : Int)] 3)).alloc (.cells #[.slice Ax ss.length cx] 71) = W0 := ⟨_, rfl⟩
  have hs0 : W0.heap.size = w2.heap.size + 3 := by rw [← hW0]; simp
  have hgrow : w2.heap.size > w.heap.size + 3 := by
    have h9 : W3.heap.size < w2.heap.size := (ho2.out.lt W3.heap.size rfl).2
    omega
  have b6 : Boxed W0 w2.heap.size 39 (.slice (some ⟨w.heap.size + 1 + 1 + 1, 0, none⟩) ss.length ss.length) := by rw [← hW0]; exact ((Boxed.new w2 _ _).alloc _).alloc _
  have b7 : Boxed W0 (w2.heap.size + 1) 3 (.int .i64 (l.length : Int)) := by
    rw [← hW0]
    have := (Boxed.new (w2.alloc (.cells #[.slice (some ⟨w.heap.size + 1 + 1 + 1, 0, none⟩) ss.length ss.length] 39)) 3 (.int .i64 (l.length : Int))).alloc (.cells #[.slice Ax ss.length cx] 71)
    rwa [World.size_alloc] at this
  have bS : Boxed W0 (w2.heap.size + 1 + 1) 71 (.slice Ax ss.length cx) := by
    rw [← hW0]
    have := Boxed.new ((w2.alloc (.cells #[.slice (some ⟨w.heap.size + 1 + 1 + 1, 0, none⟩) ss.length ss.length] 39)).alloc (.cells #[.int .i64 (l.length : Int)] 3)) 71 (.slice Ax ss.length cx)
    rwa [World.size_alloc, World.size_alloc] at this
  have hb20 : Below w2.heap.size w2 W0 := by rw [← hW0]; exact bwalloc (bwalloc (bwalloc (Below.refl _ _) _) _) _
  have bT := boxed_bel (boxed_bel HBT.out hb2) hb20
  have b4 := boxed_bel (boxed_bel HB4.out hb2) hb20
  have b5 := boxed_bel (boxed_bel HB5.out hb2) hb20
  have ho0 := ho2.below hb20
  have hb0 : Below w.heap.size w W0 := bwstep (bwstep HB00.out hb2) hb20
  rw [hsz3] at ho0
  have ho0 := ho0.mono (B' := w.heap.size) (by omega)
  rw [hW0]
  clear hW0 ho2 hb2 hb20 hcT hW3 HBT HB4 HB5 HB00 HSZ
  obtain ⟨b, off, hbA, hbl, hcell⟩ : ∃ b off, (0 < ss.length → Ax = some ⟨b, off, none⟩) ∧ b < w2.heap.size + 3 ∧ (b < w.heap.size ∨ b = w2.heap.size + 1 + 1) ∧ ∀ i (h : i < ss.length), W0.cell? ⟨b, off + i, none⟩ = some (.int .i64 (ss[i] : Int)) := by
    by_cases hp : 0 < ss.length
    · obtain ⟨b, off, c', e', -, -, hb, hcc⟩ := HX.out.at_ (by simpa using hp)
      injection e' with e1 _ _
      refine ⟨b, off, fun _ => e1, by omega, .inl (by omega), fun i h => ?_⟩
      have := hcc i (.int .i64 (ss[i] : Int)) (by rw [List.getElem?_map, List.getElem?_eq_getElem h]; rfl)
      exact (hb0.cell (p := ⟨b, off + i, none⟩) (by show b < w.heap.size; omega)).trans this
    · exact ⟨w2.heap.size + 1 + 1, 0, fun h => absurd h hp, by omega, .inr rfl, fun i h => absurd h (by omega)⟩
  obtain ⟨hbor, hcell⟩ := hcell
  refine wpIn_rangeFunc_ownG rfl (by omega) (gf := 82) (lb := #[.pointer (some ⟨w2.heap.size + 1 + 1, 0, none⟩)]) rfl trivial (enters_of Try.func82 (by kernel_rfl) rfl)
    (Bw.back_stops 4 (by omega) (w2.heap.size + 1 + 1) b off cx ss Ax W0 (by omega) hbA bS.cell hcell (by omega) (by omega))
    (fun h k' => Bw.Keeps2.trans h k') (fun W q o o' hq hh _ _ => ⟨World.putObj_heap_other (by omega), World.putObj_heap_other (by omega)⟩) (Below.refl _ _) (fun _ => rfl)
    (RdI w w.heap.size W0.heap.size w.heap.size (w.heap.size + 1) (w.heap.size + 1 + 1) (w.heap.size + 1 + 1 + 1) w2.heap.size (w2.heap.size + 1) (.slice A l.length c) l ss)
    (RdX w w.heap.size (w.heap.size + 1) (w.heap.size + 1 + 1) l ss)
    (rdI_own (Nat.le_refl _) (by omega) (by omega) (by omega) (by omega) (by omega) (by omega))
    (rdX_own (Nat.le_refl _) (by omega) (by omega) (by omega))
    ⟨⟨_, _, l.length, ⟨bT, b4, b5, b6, b7⟩, ho0, by simp, Nat.le_refl _, fun _ => readTo_zero (by simp)⟩, hb0, Nat.le_refl _⟩
    (fun x => { tmps := #[.slice A l.length c, .slice Ax ss.length cx, .pointer (some ⟨w.heap.size, 0, none⟩), undef, .pointer (some ⟨w.heap.size + 1, 0, none⟩), .pointer (some ⟨w.heap.size + 1 + 1, 0, none⟩), .pointer (some ⟨w2.heap.size, 0, none⟩), .pointer (some ⟨w2.heap.size + 1, 0, none⟩), .int .i64 (x.val : Int), .int .i64 (ss[x.val] : Int), undef, undef, undef,
      .slice Ax ss.length cx, .int .i64 (ss.length : Int), .slice (some ⟨w.heap.size + 1 + 1 + 1, 0, none⟩) ss.length ss.length, .slice A l.length c, .int .i64 (l.length : Int), .slice Ax ss.length cx, .func (.func 82) #[] #[.pointer (some ⟨w2.heap.size + 1 + 1, 0, none⟩)], .int .i64 (x.val : Int), .int .i64 (ss[x.val] : Int), undef, undef, undef, undef, undef, undef, undef, undef, undef, undef, undef, undef, undef, undef, undef, undef, undef, undef, undef, undef], defers := [] }) ?assign ?body ?done ?stop
  case assign =>
    intro l x W K hK
    gi_wp2
    exact hK
  case body =>
    rintro lp pre x W ⟨⟨LL, vs, E, ⟨q1, q2, q3, q4, q5⟩, ho, hn, hE, hP⟩, hbW, hW0W⟩ hlt
    obtain ⟨i, hi⟩ := x
    obtain ⟨s, hs⟩ : ∃ s, ss[i] = s := ⟨_, rfl⟩
    dsimp only
    rw [hs]
    have hsm : s ≤ 4294967295 := by rw [← hs]; exact hss _ (List.getElem_mem hi)
    have hX : Bw.Exp ss.length (pre ++ [⟨i, hi⟩]) → Bw.Exp ss.length pre ∧ i = ss.length - 1 - pre.length := fun h => h.last
    have c1 := q1.cell
    have c4 := q2.cell
    have c5 := q3.cell
    have c6 := q4.cell
    have c7 := q5.cell
    have f4 := q2.frozen
    have f5 := q3.frozen
    have f5' := (q3.other (B' := w.heap.size + 1) (by omega) (.slice none 0 0)).frozen
    have c5' := (q3.other (B' := w.heap.size + 1) (by omega) (.slice none 0 0)).cell
    by_cases hsE : s ≤ E
    · have hno : (¬ ∃ M m, BlkAt ((l.take E).drop s) M m) → Bw.Exp ss.length (pre ++ [⟨i, hi⟩]) → ¬ ∃ L0, Blks l ss L0 := fun hb hx => (hP (hX hx).1).none hlt (hX hx).2 hi (by rw [hs]; exact fun h => hb h.2)
      have hyes : ∀ {M m}, BlkAt ((l.take E).drop s) M m → Bw.Exp ss.length (pre ++ [⟨i, hi⟩]) → ReadTo l ss (pre ++ [(⟨i, hi⟩ : Fin ss.length)]).length (LL.set i M) s := fun {M m} hb hx => by
        have := (hP (hX hx).1).step hn hlt (hX hx).2 hi hE (by rw [hs]; exact hb)
        rw [List.length_append, List.length_singleton]
        rwa [hs] at this
      have hRW : Rd W B (.slice A l.length c) (l.map bv) := HR.out.below (hbW.mono hB)
      have hBW : B ≤ W.heap.size := Nat.le_trans hB hbW.size
      have hg := fun sv (hr : Rd W B sv (((l.take E).drop s).map bv)) => bget_any sv ((l.take E).drop s) W B hr hBW (by rw [List.length_drop, List.length_take]; omega)
      have HNO := Lib.hid hno
      have HYES : Hid (∀ M m, BlkAt ((l.take E).drop s) M m → Bw.Exp ss.length (pre ++ [⟨i, hi⟩]) → ReadTo l ss (pre ++ [(⟨i, hi⟩ : Fin ss.length)]).length (LL.set i M) s) := Lib.hid fun M m h => hyes h
      have hi1 : (0 : Int) ≤ (s : Int) := by omega
      have hi2 : (s : Int) ≤ (E : Int) := by omega
      have hi3 : (E : Int) ≤ (c : Int) := by omega
      have hi4 : (E : Int) ≤ (l.length : Int) := by omega
      have hi5 : (0 : Int) ≤ (i : Int) := by omega
      have hi6 : (i : Int) < (ss.length : Int) := by omega
      have hi7 : ¬ (s : Int) > (E : Int) := by omega
      have HO := Lib.hid ho
      have HBW := Lib.hid hbW
      have HQ := Lib.hid (And.intro q1 (And.intro q2 (And.intro q3 (And.intro q4 q5))))
      have HG := Lib.hid hg
      have HRW := Lib.hid hRW
      have HN := Lib.hid hn
      -- behind the call
      have htail : ∀ (sv : Value), Rd W B sv (((l.take E).drop s).map bv) → Calls Try.prog 68 #[sv] W (GetEnd ((l.take E).drop s) W) := fun sv hr => HG.out sv hr
      by_cases hcs : c = s
      · subst hcs
        obtain rfl : E = c := by omega
        have hsv := HRW.out.midEnd (lo := E) (hi := E) hsE hE
        rw [← List.map_take, ← List.map_drop] at hsv
        have hcall := htail _ hsv
        clear q1 q2 q3 q4 q5 ho hn hE hP hbW hX hno hyes hRW hBW hg hs htail hsv
        gi_wp2_with fail
        refine ⟨trivial, ?_⟩
        gi_at_call 68
        refine (CallsIn.inRound lp (callsIn_wide.2 hcall)).mono ?_
        rintro e W1 ⟨(⟨M, m, x1, y1, hB1, rfl, hox, hoy⟩ | ⟨hnb, rfl⟩), hb1⟩
        · obtain ⟨r1, r2, r3, r4, r5⟩ := HQ.out
          obtain ⟨Am, cm, rfl, -, -⟩ := (hox.rd (S := []) (fun _ h => by cases h)).shape
          have d6 := (boxed_bel r4 hb1).cell
          have hsz1 := HBW.out.size
          obtain ⟨g, eg, hg1, hg2, ⟨v0, hg3⟩, hg4, ho1⟩ := (HO.out.below hb1).set_ (hox.mono hsz1) (by rw [HN.out]; exact hi)
          injection eg with eg
          injection eg with eg _
          subst eg
          have hgc := grownBy_setCell W1 (w.heap.size + 1 + 1 + 1) i (.slice Am M.length cm)
          have t7 := (boxed_bel r5 hb1).kept hgc (by simp <;> omega)
          have k7 := t7.cell
          have z7 := t7.frozen
          have u1 := ((boxed_bel r1 hb1).kept hgc (by simp <;> omega)).other (B' := w2.heap.size + 1) (by omega) (.int .i64 (E : Int))
          have u2 := ((boxed_bel r2 hb1).kept hgc (by simp <;> omega)).other (B' := w2.heap.size + 1) (by omega) (.int .i64 (E : Int))
          have u3 := ((boxed_bel r3 hb1).kept hgc (by simp <;> omega)).other (B' := w2.heap.size + 1) (by omega) (.int .i64 (E : Int))
          have u4 := ((boxed_bel r4 hb1).kept hgc (by simp <;> omega)).other (B' := w2.heap.size + 1) (by omega) (.int .i64 (E : Int))
          have u5 := t7.set (.int .i64 (E : Int))
          have ho2 := ho1.keptF (grownBy_setCell' _ (w2.heap.size + 1) (.int .i64 (E : Int))) (foreign_box t7 (by decide) (by decide))
          have hkf := keeps_two (B := W0.heap.size) (a := .slice Am M.length cm) (b := .int .i64 (E : Int)) (p := ⟨w.heap.size + 1 + 1 + 1, i, none⟩) (q := ⟨w2.heap.size + 1, 0, none⟩) (keepsFrom_below (B := W0.heap.size) hb1)
          have keep : ∀ j, j < W0.heap.size → (j < w.heap.size ∨ j = w2.heap.size + 1 + 1) → ((W1.setCell ⟨w.heap.size + 1 + 1 + 1, i, none⟩ (.slice Am M.length cm)).setCell ⟨w2.heap.size + 1, 0, none⟩ (.int .i64 (E : Int))).heap[j]? = W.heap[j]? := fun j h1 h2 => by
            have e0 := hb1.block j (by omega)
            have e1 := hgc.block j (by have := hb1.size; omega) (by simp; omega)
            have e2 := (grownBy_setCell' (W1.setCell ⟨w.heap.size + 1 + 1 + 1, i, none⟩ (.slice Am M.length cm)) (w2.heap.size + 1) (.int .i64 (E : Int))).block j (by have := hb1.size; have := hgc.size; omega) (by simp; omega)
            exact (e2.trans e1).trans e0
          have hbb := ((bwstep HBW.out hb1).setCell (p := ⟨w.heap.size + 1 + 1 + 1, i, none⟩) (by show w.heap.size ≤ w.heap.size + 1 + 1 + 1; omega) (.slice Am M.length cm)).setCell (p := ⟨w2.heap.size + 1, 0, none⟩) (by show w.heap.size ≤ w2.heap.size + 1; omega) (.int .i64 (E : Int))
          have hz := hb1.size
          have hyy := HYES.out M m hB1
          have HALL := Lib.hid (And.intro hkf (And.intro (keep b (by omega) hbor) (And.intro (keep (w2.heap.size + 1 + 1) (by omega) (.inr rfl)) (And.intro u1 (And.intro u2 (And.intro u3 (And.intro u4 (And.intro u5 (And.intro ho2 (And.intro hbb hyy))))))))))
          have hWF : W0.heap.size ≤ ((W1.setCell ⟨w.heap.size + 1 + 1 + 1, i, none⟩ (.slice Am M.length cm)).setCell ⟨w2.heap.size + 1, 0, none⟩ (.int .i64 (E : Int))).heap.size := by simp; omega
          have HWF := Lib.hid hWF
          have hLL : (LL.set i M).length = ss.length := by rw [List.length_set]; exact HN.out
          have HLL := Lib.hid hLL
          have hsl2 : E ≤ l.length := by omega
          clear r1 r2 r3 r4 r5 hgc t7 u1 u2 u3 u4 u5 ho1 ho2 hkf keep hbb hyy hcall hb1 hz hox hoy hB1 hWF hLL
          gi_wp2
          obtain ⟨y1, y2, y3, y4, y5, y6, y7, y8, y9, y10, y11⟩ := HALL.out
          exact ⟨y1, ⟨y2, y3⟩, ⟨_, _, E, ⟨y4, y5, y6, y7, y8⟩, y9, HLL.out, hsl2, y11⟩, y10, HWF.out⟩
        · obtain ⟨r1, r2, r3, r4, r5⟩ := HQ.out
          have s2 := boxed_bel r2 hb1
          have s3 := boxed_bel r3 hb1
          have f4 := s2.frozen
          have c4 := s2.cell
          have f5' := (s3.other (B' := w.heap.size + 1) (by omega) (.slice none 0 0)).frozen
          have c5' := (s3.other (B' := w.heap.size + 1) (by omega) (.slice none 0 0)).cell
          obtain ⟨t2, t3⟩ := boxed_two (a' := .slice none 0 0) (b' := .bool false) s2 s3 (by omega)
          have hbb := ((bwstep HBW.out hb1).setCell (p := ⟨w.heap.size + 1, 0, none⟩) (by show w.heap.size ≤ w.heap.size + 1; omega) (.slice none 0 0)).setCell (p := ⟨w.heap.size + 1 + 1, 0, none⟩) (by show w.heap.size ≤ w.heap.size + 1 + 1; omega) (.bool false)
          have hnn := HNO.out hnb
          have hkf := keeps_two (B := W0.heap.size) (a := .slice none 0 0) (b := .bool false) (p := ⟨w.heap.size + 1, 0, none⟩) (q := ⟨w.heap.size + 1 + 1, 0, none⟩) (keepsFrom_below (B := W0.heap.size) hb1)
          clear r1 r2 r3 r4 r5 s2 s3 hcall hb1
          gi_wp2
          exact ⟨hkf, ⟨rfl, t2, t3, hnn⟩, hbb⟩
      · have hsv := HRW.out.mid (lo := s) (hi := E) hsE hE hcs
        rw [← List.map_take, ← List.map_drop] at hsv
        have hcall := htail _ hsv
        clear q1 q2 q3 q4 q5 ho hn hE hP hbW hX hno hyes hRW hBW hg hs htail hsv
        gi_wp2_with fail
        refine ⟨trivial, ?_⟩
        gi_at_call 68
        refine (CallsIn.inRound lp (callsIn_wide.2 hcall)).mono ?_
        rintro e W1 ⟨(⟨M, m, x1, y1, hB1, rfl, hox, hoy⟩ | ⟨hnb, rfl⟩), hb1⟩
        · obtain ⟨r1, r2, r3, r4, r5⟩ := HQ.out
          obtain ⟨Am, cm, rfl, -, -⟩ := (hox.rd (S := []) (fun _ h => by cases h)).shape
          have d6 := (boxed_bel r4 hb1).cell
          have hsz1 := HBW.out.size
          obtain ⟨g, eg, hg1, hg2, ⟨v0, hg3⟩, hg4, ho1⟩ := (HO.out.below hb1).set_ (hox.mono hsz1) (by rw [HN.out]; exact hi)
          injection eg with eg
          injection eg with eg _
          subst eg
          have hgc := grownBy_setCell W1 (w.heap.size + 1 + 1 + 1) i (.slice Am M.length cm)
          have t7 := (boxed_bel r5 hb1).kept hgc (by simp <;> omega)
          have k7 := t7.cell
          have z7 := t7.frozen
          have u1 := ((boxed_bel r1 hb1).kept hgc (by simp <;> omega)).other (B' := w2.heap.size + 1) (by omega) (.int .i64 (s : Int))
          have u2 := ((boxed_bel r2 hb1).kept hgc (by simp <;> omega)).other (B' := w2.heap.size + 1) (by omega) (.int .i64 (s : Int))
          have u3 := ((boxed_bel r3 hb1).kept hgc (by simp <;> omega)).other (B' := w2.heap.size + 1) (by omega) (.int .i64 (s : Int))
          have u4 := ((boxed_bel r4 hb1).kept hgc (by simp <;> omega)).other (B' := w2.heap.size + 1) (by omega) (.int .i64 (s : Int))
          have u5 := t7.set (.int .i64 (s : Int))
          have ho2 := ho1.keptF (grownBy_setCell' _ (w2.heap.size + 1) (.int .i64 (s : Int))) (foreign_box t7 (by decide) (by decide))
          have hkf := keeps_two (B := W0.heap.size) (a := .slice Am M.length cm) (b := .int .i64 (s : Int)) (p := ⟨w.heap.size + 1 + 1 + 1, i, none⟩) (q := ⟨w2.heap.size + 1, 0, none⟩) (keepsFrom_below (B := W0.heap.size) hb1)
          have keep : ∀ j, j < W0.heap.size → (j < w.heap.size ∨ j = w2.heap.size + 1 + 1) → ((W1.setCell ⟨w.heap.size + 1 + 1 + 1, i, none⟩ (.slice Am M.length cm)).setCell ⟨w2.heap.size + 1, 0, none⟩ (.int .i64 (s : Int))).heap[j]? = W.heap[j]? := fun j h1 h2 => by
            have e0 := hb1.block j (by omega)
            have e1 := hgc.block j (by have := hb1.size; omega) (by simp; omega)
            have e2 := (grownBy_setCell' (W1.setCell ⟨w.heap.size + 1 + 1 + 1, i, none⟩ (.slice Am M.length cm)) (w2.heap.size + 1) (.int .i64 (s : Int))).block j (by have := hb1.size; have := hgc.size; omega) (by simp; omega)
            exact (e2.trans e1).trans e0
          have hbb := ((bwstep HBW.out hb1).setCell (p := ⟨w.heap.size + 1 + 1 + 1, i, none⟩) (by show w.heap.size ≤ w.heap.size + 1 + 1 + 1; omega) (.slice Am M.length cm)).setCell (p := ⟨w2.heap.size + 1, 0, none⟩) (by show w.heap.size ≤ w2.heap.size + 1; omega) (.int .i64 (s : Int))
          have hz := hb1.size
          have hyy := HYES.out M m hB1
          have HALL := Lib.hid (And.intro hkf (And.intro (keep b (by omega) hbor) (And.intro (keep (w2.heap.size + 1 + 1) (by omega) (.inr rfl)) (And.intro u1 (And.intro u2 (And.intro u3 (And.intro u4 (And.intro u5 (And.intro ho2 (And.intro hbb hyy))))))))))
          have hWF : W0.heap.size ≤ ((W1.setCell ⟨w.heap.size + 1 + 1 + 1, i, none⟩ (.slice Am M.length cm)).setCell ⟨w2.heap.size + 1, 0, none⟩ (.int .i64 (s : Int))).heap.size := by simp; omega
          have HWF := Lib.hid hWF
          have hLL : (LL.set i M).length = ss.length := by rw [List.length_set]; exact HN.out
          have HLL := Lib.hid hLL
          have hsl2 : s ≤ l.length := by omega
          clear r1 r2 r3 r4 r5 hgc t7 u1 u2 u3 u4 u5 ho1 ho2 hkf keep hbb hyy hcall hb1 hz hox hoy hB1 hWF hLL
          gi_wp2
          obtain ⟨y1, y2, y3, y4, y5, y6, y7, y8, y9, y10, y11⟩ := HALL.out
          exact ⟨y1, ⟨y2, y3⟩, ⟨_, _, s, ⟨y4, y5, y6, y7, y8⟩, y9, HLL.out, hsl2, y11⟩, y10, HWF.out⟩
        · obtain ⟨r1, r2, r3, r4, r5⟩ := HQ.out
          have s2 := boxed_bel r2 hb1
          have s3 := boxed_bel r3 hb1
          have f4 := s2.frozen
          have c4 := s2.cell
          have f5' := (s3.other (B' := w.heap.size + 1) (by omega) (.slice none 0 0)).frozen
          have c5' := (s3.other (B' := w.heap.size + 1) (by omega) (.slice none 0 0)).cell
          obtain ⟨t2, t3⟩ := boxed_two (a' := .slice none 0 0) (b' := .bool false) s2 s3 (by omega)
          have hbb := ((bwstep HBW.out hb1).setCell (p := ⟨w.heap.size + 1, 0, none⟩) (by show w.heap.size ≤ w.heap.size + 1; omega) (.slice none 0 0)).setCell (p := ⟨w.heap.size + 1 + 1, 0, none⟩) (by show w.heap.size ≤ w.heap.size + 1 + 1; omega) (.bool false)
          have hnn := HNO.out hnb
          have hkf := keeps_two (B := W0.heap.size) (a := .slice none 0 0) (b := .bool false) (p := ⟨w.heap.size + 1, 0, none⟩) (q := ⟨w.heap.size + 1 + 1, 0, none⟩) (keepsFrom_below (B := W0.heap.size) hb1)
          clear r1 r2 r3 r4 r5 s2 s3 hcall hb1
          gi_wp2
          exact ⟨hkf, ⟨rfl, t2, t3, hnn⟩, hbb⟩
    · have hno : Bw.Exp ss.length (pre ++ [⟨i, hi⟩]) → ¬ ∃ L0, Blks l ss L0 := fun hx => (hP (hX hx).1).none hlt (hX hx).2 hi (by rw [hs]; exact fun h => hsE h.1)
      have hi7 : (s : Int) > (E : Int) := by omega
      obtain ⟨t2, t3⟩ := boxed_two (a' := .slice none 0 0) (b' := .bool false) q2 q3 (by omega)
      have hbb := (hbW.setCell (p := ⟨w.heap.size + 1, 0, none⟩) (by show w.heap.size ≤ w.heap.size + 1; omega) (.slice none 0 0)).setCell (p := ⟨w.heap.size + 1 + 1, 0, none⟩) (by show w.heap.size ≤ w.heap.size + 1 + 1; omega) (.bool false)
      have hkf := keeps_two (B := W0.heap.size) (a := .slice none 0 0) (b := .bool false) (p := ⟨w.heap.size + 1, 0, none⟩) (q := ⟨w.heap.size + 1 + 1, 0, none⟩) (KeepsFrom.refl W0.heap.size W)
      have HNN := Lib.hid hno
      clear q1 q2 q3 q4 q5 ho hn hE hP hbW hX hno hs hsE
      gi_wp2
      exact ⟨hkf, ⟨rfl, t2, t3, HNN.out⟩, hbb⟩
  case done =>
    rintro F ys W hF ⟨hexp, hlen⟩ ⟨⟨LL, vs, E, ⟨q1, q2, q3, q4, q5⟩, ho, hn, hE, hP⟩, hbW, -⟩ hK
    have hP := hP hexp
    rw [hlen] at hP
    have HP := Lib.hid hP.all
    have HN := Lib.hid hn
    have k6 := q4.cell
    have f4 := q2.frozen
    have f5 := q3.frozen
    have g4 := q2.cell
    have g5 := q3.cell
    have HO := Lib.hid ho
    have HBW := Lib.hid hbW
    clear hexp hP hn ho hbW
    go_wp2_with fail
    obtain ⟨r4, r5⟩ := boxed_two (a' := .slice (some ⟨w.heap.size + 1 + 1 + 1, 0, none⟩) ss.length ss.length) (b' := .bool true) q2 q3 (by omega)
    have hK1 := (KeepsOthers.setCell W ⟨w.heap.size + 1, 0, none⟩ (.slice (some ⟨w.heap.size + 1 + 1 + 1, 0, none⟩) ss.length ss.length)).same F _ hK rfl
    have hK2 := (KeepsOthers.setCell (W.setCell ⟨w.heap.size + 1, 0, none⟩ (.slice (some ⟨w.heap.size + 1 + 1 + 1, 0, none⟩) ss.length ss.length)) ⟨w.heap.size + 1 + 1, 0, none⟩ (.bool true)).same F _ hK1 rfl
    have ho1 := HO.out.keptF (grownBy_setCell' W (w.heap.size + 1) (.slice (some ⟨w.heap.size + 1 + 1 + 1, 0, none⟩) ss.length ss.length)) (foreign_box q2 (by decide) (by decide))
    have ho2 := ho1.keptF (grownBy_setCell' _ (w.heap.size + 1 + 1) (.bool true)) (foreign_box (q3.other (by omega) _) (by decide) (by decide))
    have ho3 := ho2.keptF (grownBy_putObj' _ F (.deferred none)) (foreign_not fun r e => by cases e; exact ⟨_, hK2, rfl⟩)
    have hbb := ((HBW.out.setCell (p := ⟨w.heap.size + 1, 0, none⟩) (by show w.heap.size ≤ w.heap.size + 1; omega) (.slice (some ⟨w.heap.size + 1 + 1 + 1, 0, none⟩) ss.length ss.length)).setCell (p := ⟨w.heap.size + 1 + 1, 0, none⟩) (by show w.heap.size ≤ w.heap.size + 1 + 1; omega) (.bool true)).trans (belowK_b (w := w) (Nat.le_refl _) _ F _ (.deferred none) (by omega) hK2 rfl rfl)
    have hc4 := cell_kept r4.cell (grownBy_putObj' _ F (.deferred none)) (fun r e => by cases e; exact ⟨_, hK2, rfl⟩)
    have hc5 := cell_kept r5.cell (grownBy_putObj' _ F (.deferred none)) (fun r e => by cases e; exact ⟨_, hK2, rfl⟩)
    refine ⟨by simp, .inl ⟨_, _, rfl, run_takeDeferred hK2, ?_⟩⟩
    refine ⟨.tuple #[.slice (some ⟨w.heap.size + 1 + 1 + 1, 0, none⟩) ss.length ss.length, .bool true], ?_, .inl ⟨_, LL, rfl, ho3.rd, HN.out, HP.out.1, HP.out.2.1, HP.out.2.2⟩, hbb⟩
    simp [results, Try.f46, go_sem, hc4, hc5]
  case stop =>
    rintro F c0 pre W hF hpre ⟨⟨rfl, q2, q3, hno⟩, hbW⟩ hK
    have hno := hno hpre
    gi_wp2
    refine ⟨by simp, .inl ⟨_, _, rfl, run_takeDeferred hK, ?_⟩⟩
    have hc4 := cell_kept q2.cell (grownBy_putObj' _ F (.deferred none)) (fun r e => by cases e; exact ⟨_, hK, rfl⟩)
    have hc5 := cell_kept q3.cell (grownBy_putObj' _ F (.deferred none)) (fun r e => by cases e; exact ⟨_, hK, rfl⟩)
    refine ⟨.tuple #[.slice none 0 0, .bool false], ?_, .inr ⟨hno, rfl⟩, hbW.trans (belowK_b (w := w) (Nat.le_refl _) W F _ _ (by omega) hK rfl rfl)⟩
    simp [results, Try.f46, go_sem, hc4, hc5]
end Go.Proofs.Ytdemdmingelamaa.Ce
