/- The contract of next of package merge. -/
import Derived.Test.YtknkdehjgkjljaaMgK
namespace Go.Proofs.Ytknkdehjgkjljaa.Ce
open Go.RowKit Go.Proofs.Ytknkdehjgkjljaa.Hp

/-- a cell alone is handed back -/
theorem res1 {fn : Func} {p : Tmp} {tmps : Array Value} {g : Nat} {c : Cl} {w : World} (h : fn.results = #[.cell p 35]) (hp : tmps.getD p undef = .pointer (some ⟨g, 0, none⟩)) (hi : InC g c w) :
    (results fn tmps).run Try.prog w = .ok c.v w := by
  have hp' : tmps[p]?.getD undef = .pointer (some ⟨g, 0, none⟩) := by simpa using hp
  simp [results, h, hp', asAddr, run_loadV w _ c hi.all]
theorem run_set {w : World} {b : Nat} {u u' : Value} (hb : w.heap[b]? = some (.cells #[u, u'] 45 (0, 0))) (v : Value) : (w.setCell ⟨b, 0, none⟩ v).heap[b]? = some (.cells #[v, u'] 45 (0, 0)) := by
  unfold World.setCell
  simp [Array.getElem?_modify, hb]
/-- a cell's variable is stored: the heap stays -/
theorem Hl.cell {w0 w w' : World} {bh g : Nat} {es : List Rn} {c c0 : Cl} (h : Hl w0 bh es w) (hi : InC g c0 w) (hs : SetC g c w w') (hg : w0.heap.size ≤ g) : Hl w0 bh es w' := by
  obtain ⟨a, h1, h2, h3⟩ := h
  obtain ⟨sv, hb, ho⟩ := h1.sl
  have hgb : w.grownBy w' (some g) := ⟨hs.b.os, hs.b.tape, hs.b.output, Nat.le_of_eq hs.z.symm, fun k _ hne => hs.o k fun e => hne (by rw [e])⟩
  have hii := hi.h
  refine ⟨a, ⟨h1.ge, ⟨sv, (hs.o bh fun e => ?_).trans hb, ho.kept hgb fun k hk e => ?_⟩, fun k hk => (h1.run k hk).keep (hs.o _ fun e => ?_), h1.bel.grown hgb h1.bel.size (fun k hk => by injection hk with hk; omega)⟩, h2, h3⟩
  · rw [e, hii] at hb
    injection hb with hb
    injection hb with _ ht _
    exact absurd ht (by decide)
  · injection e with e
    subst e
    rcases ho.2 with ⟨rfl, -⟩ | ⟨g', cap, cur, rfl, -, hh, -⟩
    · cases hk
    · have e1 : g' = g := by injection hk
      subst e1
      rw [hh] at hii
      injection hii with hii
      injection hii with _ ht _
      exact absurd ht (by decide)
  · obtain ⟨cv, hc, -⟩ := (h1.run k hk).h
    rw [e, hii] at hc
    injection hc with hc
    injection hc with _ ht _
    exact absurd ht (by decide)
theorem Kt.cell {w w5 w6 : World} {g : Nat} {c : Cl} (h : Kt w w5) (hs : SetC g c w5 w6) (hg : w.heap.size ≤ g) : Kt w w6 :=
  ⟨hs.b.os.trans h.os, hs.b.tape.trans h.tape, hs.b.output.trans h.output, by rw [hs.z]; exact h.size, fun k hk ht => (hs.o k (by omega)).trans (h.block k hk ht)⟩
/-- what next leaves -/
def NextEnd (w0 : World) (bh : Nat) (es : List Rn) (w : World) (e : Ending) (w' : World) : Prop :=
  ∃ x es', es.Perm (x :: es') ∧ (∀ f ∈ es', Hp.leB rlt x f) ∧ e = .returned x.c.v ∧ Hl w0 bh (addR es' x.blk x.place x.rest) w' ∧ Kt w w'
set_option maxHeartbeats 4000000 in
set_option maxRecDepth 100000 in
theorem next_any (w0 : World) (bh : Nat) (es : List Rn) (w : World) (h : Hl w0 bh es w) (hu : (es.map Rn.place).Nodup) (h0 : 0 < es.length) (hn : es.length ≤ 100000000) :
    Calls Try.prog 26 #[.pointer (some ⟨bh, 0, none⟩)] w (NextEnd w0 bh es w) := by
  have HH := Lib.hid h
  have HU := Lib.hid hu
  have hbw0 := h.bel.size
  clear h hu
  go_enter Try.func26, Try.ntmps26
  go_wp2_with (refine allocC rfl rfl ?_)
  constructor
  intro w1 hI1 hb1 hz1
  have hp := heapPop_any w0 bh es w1 (HH.out.up hb1) h0 hn
  have HI1 := Lib.hid hI1
  have HB1 := Lib.hid hb1
  clear hI1 hb1 hz1 HH
  go_wp2_with fail
  refine hp.mono ?_
  rintro e w2 ⟨x, es', hpm, hle, rfl, hx, hl, hk⟩
  have HPM := Lib.hid hpm
  have HLE := Lib.hid hle
  have HI2 := Lib.hid (HI1.out.kt hk)
  have HKT := Lib.hid ((Kt.bel HB1.out).trans hk)
  have hta := fun xT w => assert_run (.pointer (some ⟨x.blk, 0, none⟩)) xT w
  obtain ⟨b, o, c, hc, hm, hxb, hrd, hbl, hfv⟩ := hx.open_ hl.bel
  have hne : ∀ y ∈ es', y.place ≠ x.place := fun y hy q => by
    have := ((hpm.map Rn.place).nodup_iff.1 HU.out)
    simp only [List.map_cons] at this
    exact (List.nodup_cons.1 this).1 (q ▸ List.mem_map.2 ⟨y, hy, rfl⟩)
  have hes : es'.length + 1 = es.length := by rw [hpm.length_eq]; rfl
  have HX := Lib.hid hx
  have HXB := Lib.hid hxb
  have HRD := Lib.hid hrd
  have HL := Lib.hid hl
  have HNE := Lib.hid hne
  have hxl := (Array.getElem?_eq_some_iff.1 hxb).1
  have c0 := cell_of_row _ _ 0 _ _ _ hxb
  have hpv : x.p = .pointer (some ⟨x.blk, 0, none⟩) := rfl
  unfold maxLen at hm
  have HFV := Lib.hid hfv
  obtain ⟨f0, f1, f2, f3, f4⟩ := hfv
  clear hp HI1 HB1 HU hpm hle hx hl hk hxb hrd hne
  rw [hpv]
  have hh1 : (0 : Int) < ((x.rest.length + 1 : Nat) : Int) := by omega
  go_wp2_with (first | (refine loadV (c := x.c) rfl (.tmp 13) rfl ⟨b, o, none⟩ rfl HFV.out.all ?_) | (refine allocC rfl rfl ?_))
  constructor
  intro w3 hI3 hb3 hz3
  have hne3 : w.heap.size ≠ w2.heap.size := by have := HI2.out.lt; omega
  go_wp2_with (refine storeC (c := x.c) rfl (.tmp 4) (.tmp 14) rfl rfl rfl hI3 ?_)
  constructor
  intro w4 hs4
  have hb24 := hs4.bel hb3 (Nat.le_refl _)
  have HB24 := Lib.hid hb24
  have HX4 := Lib.hid hs4.i
  have HI4 := Lib.hid (hs4.up (HI2.out.up hb3) hne3)
  have HL4 := Lib.hid (HL.out.up hb24)
  have HR4 := Lib.hid (HX.out.bel hb24)
  have hxb4 := (hb24.block _ hxl).trans HXB.out
  have HXB4 := Lib.hid hxb4
  have c04 := cell_of_row _ _ 0 _ _ _ hxb4
  have f04 : w4.frozen? ⟨x.blk, 0, none⟩ = false := by simp [World.frozen?, hxb4]
  have hne4 : w.heap.size ≠ w2.heap.size := hne3
  have hadd : ∀ sv, RdL w0 [] sv x.rest → Calls Try.prog 24 #[.pointer (some ⟨bh, 0, none⟩), .pointer (some ⟨x.blk, 0, none⟩)] (w4.setCell ⟨x.blk, 0, none⟩ sv) fun e w' => (∃ u, e = .returned u) ∧ Hl w0 bh (addR es' x.blk x.place x.rest) w' ∧ Kt w w' ∧ InC w2.heap.size x.c w' ∧ InC w.heap.size Cl.zero w' := fun sv hsv => by
    obtain ⟨k1, k2⟩ := HL4.out.set HR4.out HNE.out sv
    refine (add_any w0 bh es' x.blk x.place x.rest sv _ k1 (run_set HXB4.out sv) HR4.out.ge hsv (by omega)).mono ?_
    rintro e w' ⟨h1, h2, h3⟩
    have hk := k2.trans h3
    exact ⟨h1, h2, (HKT.out.trans (Kt.bel HB24.out)).trans hk, HX4.out.kt hk, HI4.out.kt hk⟩
  have HADD := Lib.hid hadd
  clear hI3 hb3 hz3 hs4 hb24 hxb4 c0 f0 f1 f2 f3 f4 HX HXB HL HI2 HFV hadd HL4 HR4 HX4 HI4
  by_cases hc1 : c = 1
  · subst hc1
    obtain hr0 : x.rest.length = 0 := by omega
    have HRE : Hid (RdL w0 [] (.slice (some ⟨b, o, none⟩) 0 0) x.rest) := Lib.hid (by rw [List.eq_nil_of_length_eq_zero hr0]; exact RdL.none_ (by simp [maxLen]))
    rw [hr0]
    rw [hr0] at c04
    go_wp2_with fail
    refine (HADD.out _ HRE.out).mono ?_
    rintro e w5 ⟨⟨u5, rfl⟩, hl5, hk5, hx5, hi5⟩
    have HE := Lib.hid (And.intro hl5 hk5)
    go_wp2_with (first | (refine loadC rfl (.tmp 4) rfl rfl hx5 ?_) | (refine storeC (c := x.c) rfl (.tmp 2) (.tmp 26) rfl rfl rfl hi5 ?_))
    constructor
    intro w6 hs6
    go_wp2_with fail
    exact bodyPost_ret (res1 Try.results26 rfl hs6.i) rfl ⟨x, es', HPM.out, HLE.out, rfl, HE.out.1.cell hi5 hs6 hbw0, HE.out.2.cell hs6 (Nat.le_refl _)⟩
  · have HRE : Hid (RdL w0 [] (.slice (some ⟨b, o + 5, none⟩) x.rest.length (c - 1)) x.rest) := Lib.hid (by
      have := HRD.out.from_ (k := 1) (by simp)
      rw [Nat.one_mul, Nat.add_sub_cancel] at this
      exact this)
    go_wp2_with fail
    refine (HADD.out _ HRE.out).mono ?_
    rintro e w5 ⟨⟨u5, rfl⟩, hl5, hk5, hx5, hi5⟩
    have HE := Lib.hid (And.intro hl5 hk5)
    go_wp2_with (first | (refine loadC rfl (.tmp 4) rfl rfl hx5 ?_) | (refine storeC (c := x.c) rfl (.tmp 2) (.tmp 26) rfl rfl rfl hi5 ?_))
    constructor
    intro w6 hs6
    go_wp2_with fail
    exact bodyPost_ret (res1 Try.results26 rfl hs6.i) rfl ⟨x, es', HPM.out, HLE.out, rfl, HE.out.1.cell hi5 hs6 hbw0, HE.out.2.cell hs6 (Nat.le_refl _)⟩
end Go.Proofs.Ytknkdehjgkjljaa.Ce
