/- The contract of the reference function Put of layer 7. -/
import Derived.Test.YtblejjjifokmgaaRfA
import Derived.Sort.Walk0
namespace Go.Proofs.Ytblejjjifokmgaa
open Go.RowKit Go.Maps Dk

/-- the box's cells, in whatever later world -/
theorem boxCells {W X : World} {b : Nat} {f : Rf} {t : Nat} (h : W.heap[b]? = some (.cells #[.string f.fl.nm, f.v, .int .i64 (f.fl.s : Int)] t (0, 0))) (hk : X.heap[b]? = W.heap[b]?) :
    X.cell? ⟨b, 0, none⟩ = some (.string f.fl.nm) ∧ X.cell? ⟨b, 1, none⟩ = some f.v ∧ X.cell? ⟨b, 2, none⟩ = some (.int .i64 (f.fl.s : Int)) := by
  rw [← hk] at h
  exact ⟨by rw [cell_of_row X b 0 _ _ (0, 0) h]; rfl, by rw [cell_of_row X b 1 _ _ (0, 0) h]; rfl, by rw [cell_of_row X b 2 _ _ (0, 0) h]; rfl⟩
/-- what the last statement of Put has when it begins -/
structure PutS (w W : World) (v : Value) (L : List Rf) (S : List Nat) (f : Rf) (k : Nat) : Prop where
  bel : Below w.heap.size w W
  hz : w.heap.size < W.heap.size
  hh : W.heap[w.heap.size]? = some (.cells #[.string f.fl.nm, f.v, .int .i64 (f.fl.s : Int)] 58 (0, 0))
  rd : RdF W S v L
  kl : k ≤ L.length
  lt : ∀ (j : Nat) (g : Rf), j < k → L[j]? = some g → rk g < rk f
  ge : ∀ g : Rf, L[k]? = some g → ¬ rk g < rk f
  hs : Srt rk L
  ne : ∀ y ∈ L, rk y ≠ rk f
  one : f.v.oneCell' = true
theorem PutS.ans {w W : World} {v : Value} {L : List Rf} {S : List Nat} {f : Rf} {k : Nat} (h : PutS w W v L S f k) : ins rk f L = (L.take k ++ [f]) ++ L.drop k := by
  rw [ins_at (k := rk) f k h.kl (fun j hj hjk => h.lt j L[j] hjk (List.getElem?_eq_getElem hj)) (fun hk => h.ge _ (List.getElem?_eq_getElem hk)) h.ne]
  simp
set_option maxHeartbeats 2000000 in
set_option maxRecDepth 100000 in
theorem rput_any (v : Value) (L : List Rf) (S : List Nat) (f : Rf) (w : World) (hv : RdF w S v L) (hf1 : f.v.oneCell' = true) (hL : L.length ≤ 1000000) (hs : Srt rk L) (hne : ∀ y ∈ L, rk y ≠ rk f) :
    Calls Try.prog 24 #[v, .agg #[.string f.fl.nm, f.v, .int .i64 (f.fl.s : Int)]] w fun e w' => (∃ v', e = .returned v' ∧ OwF w' w.heap.size v' (ins rk f L)) ∧ Below w.heap.size w w' := by
  obtain ⟨A, c, rfl, hc, hm⟩ := hv.c.shape
  unfold maxLen at hm
  have hb0 := bwalloc (bwrefl w) (.cells #[.string f.fl.nm, f.v, .int .i64 (f.fl.s : Int)] 58)
  have q0 : (w.alloc (.cells #[.string f.fl.nm, f.v, .int .i64 (f.fl.s : Int)] 58)).cell? ⟨w.heap.size, 0, none⟩ = some (.string f.fl.nm) := by
    rw [cell_of_row _ w.heap.size 0 _ _ (0, 0) (heap_alloc_new w _)]; rfl
  have HV := Lib.hid (hv.bel hb0)
  have HB := Lib.hid hb0
  have HNE := Lib.hid hne
  have hh : (w.alloc (.cells #[.string f.fl.nm, f.v, .int .i64 (f.fl.s : Int)] 58)).heap[w.heap.size]? = some (.cells #[.string f.fl.nm, f.v, .int .i64 (f.fl.s : Int)] 58 (0, 0)) := heap_alloc_new w _
  have hz : w.heap.size < (w.alloc (.cells #[.string f.fl.nm, f.v, .int .i64 (f.fl.s : Int)] 58)).heap.size := by simp
  have HH := Lib.hid hh
  have HZ := Lib.hid hz
  clear hb0 hne hh hz
  go_enter Try.func24, Try.ntmps24
  go_wp2_with fail
  generalize w.alloc (.cells #[.string f.fl.nm, f.v, .int .i64 (f.fl.s : Int)] 58) = wb at *
  go_loopw [5] (fun i wr => ∃ k : Nat, k ≤ L.length ∧ i = .int .i64 (k : Int) ∧ (∀ (j : Nat) (g : Rf), j < k → L[j]? = some g → rk g < rk f) ∧ Below wb.heap.size wb wr) (fun i _ => L.length - (intOf i).toNat)
  case atStart => exact ⟨0, Nat.zero_le _, rfl, fun j g hj => by omega, Below.refl _ _⟩
  case round =>
    obtain ⟨k, hk, rfl, hj, hbk⟩ := hrel
    have HJ := Lib.hid hj
    clear hj
    have hq := (hbk.cell (p := ⟨w.heap.size, 0, none⟩) HZ.out).trans q0
    by_cases hlt : k < L.length
    · obtain ⟨b, off, rfl, -, -⟩ := HV.out.c.open_ (by omega)
      have hfk : L[k]? = some L[k] := List.getElem?_eq_getElem hlt
      obtain ⟨c0, -, -⟩ := (HV.out.bel hbk).c.at_ hfk
      have HFK := Lib.hid hfk
      clear hfk
      generalize L[k] = g at *
      by_cases he : rk g < rk f
      · have hbl : Op.bytesLess g.fl.nm.toList f.fl.nm.toList = true := by
          rw [bytesLess_eq, Lib.toList_data, Lib.toList_data]
          exact decide_eq_true he
        have HE := Lib.hid he
        clear he
        go_wp2_with fail
        go_quiet (fail)
        go_wp2_with fail
        go_roundw
        case rel =>
          refine ⟨k + 1, by omega, by go_num, fun j g' hj hg => ?_, below_drewN hbk _⟩
          by_cases hjk : j = k
          · subst hjk
            rw [HFK.out] at hg
            injection hg with hg
            subst hg
            exact HE.out
          · exact HJ.out j g' (by omega) hg
        case measure => simp [intOf]; omega
      · have hbl : Op.bytesLess g.fl.nm.toList f.fl.nm.toList = false := by
          rw [bytesLess_eq, Lib.toList_data, Lib.toList_data]
          exact decide_eq_false he
        have HE0 := Lib.hid he
        clear he
        go_wp2_with fail
        go_quiet (fail)
        go_wp2_with fail
        have hb9 := below_drewN hbk nq
        have PS0 : PutS w (wr.drewN nq) _ L S f k := ⟨HB.out.trans (hb9.mono HB.out.size), Nat.lt_of_lt_of_le HZ.out hb9.size, (hb9.block _ HZ.out).trans HH.out, HV.out.bel hb9, hk, HJ.out, fun g' hg' => by rw [HFK.out] at hg'; injection hg' with hg'; subst hg'; exact HE0.out, hs, HNE.out, hf1⟩
        have PS := Lib.hid PS0
        have k0 : (0 : Int) ≤ (k : Int) := by omega
        have k1 : (k : Int) ≤ (c : Int) := by omega
        have k2 : (k : Int) ≤ (L.length : Int) := by omega
        have k5 : k ≤ c := by omega
        have k6 : ¬ c = k := by omega
        generalize wr.drewN nq = W at *
        clear PS0 hb9 hq c0 hbl
        have hbz := PS.out.hz
        have hB := PS.out.bel
        have hsW := hB.size
        have hhW := PS.out.hh
        obtain ⟨Lt, hLt⟩ : ∃ Lt, Lt = L.take k := ⟨_, rfl⟩
        obtain ⟨Ld, hLd⟩ : ∃ Ld, Ld = L.drop k := ⟨_, rfl⟩
        have HANS : Hid (ins rk f L = (Lt ++ [f]) ++ Ld) := by rw [hLt, hLd]; exact PS.out.ans
        have o1 : ∀ g ∈ Lt, g.v.oneCell' = true := fun g hg => one3 PS.out.rd g (List.mem_of_mem_take (hLt ▸ hg))
        have o3 : ∀ g ∈ Ld, g.v.oneCell' = true := fun g hg => one3 PS.out.rd g (List.mem_of_mem_drop (hLd ▸ hg))
        have o2 : ∀ g ∈ [f], g.v.oneCell' = true := fun g hg => by rw [List.mem_singleton.1 hg]; exact hf1
        have l1 : ([] : List Rf).length + Lt.length ≤ 1000000000 := by rw [hLt]; simp; omega
        have l2 : Lt.length + [f].length ≤ 1000000000 := by rw [hLt]; simp; omega
        have l3 : (Lt ++ [f]).length + Ld.length ≤ 1000000000 := by rw [hLt, hLd]; simp; omega
        have r1 : RdC W S (.slice (some ⟨b, off, none⟩) k c) Lt := by rw [hLt]; exact PS.out.rd.c.to_ PS.out.kl
        have r3 : RdC W S (.slice (some ⟨b, off + k * 3, none⟩) (L.length - k) (c - k)) Ld := by rw [hLd]; exact PS.out.rd.c.from_ PS.out.kl
        have bE := (bwalloc (bwrefl W) (.cells #[] 58))
        have bF := (bwalloc (bwrefl W) (.cells #[.string f.fl.nm, f.v, .int .i64 (f.fl.s : Int)] 58))
        have bEF := bwalloc bE (.cells #[.string f.fl.nm, f.v, .int .i64 (f.fl.s : Int)] 58)
        have bFE := bwalloc bF (.cells #[] 58)
        obtain ⟨a0, a1, a2⟩ := boxCells (X := W) hhW rfl
        obtain ⟨b0, b1, b2⟩ := boxCells (X := W.alloc (.cells #[] 58)) hhW (bE.block _ hbz)
        have e1 : OwF (W.alloc (.cells #[] 58)).drew W.heap.size (.slice (some ⟨W.heap.size, 0, none⟩) 0 0) [] := OwF.empty W (Nat.le_refl _) _ rfl
        have e2 : OwF ((W.alloc (.cells #[] 58)).alloc (.cells #[.string f.fl.nm, f.v, .int .i64 (f.fl.s : Int)] 58)).drew W.heap.size (.slice (some ⟨W.heap.size, 0, none⟩) 0 0) [] := e1.below (bwalloc (bwrefl _) (.cells #[.string f.fl.nm, f.v, .int .i64 (f.fl.s : Int)] 58))
        have e3 : OwF ((W.alloc (.cells #[.string f.fl.nm, f.v, .int .i64 (f.fl.s : Int)] 58)).alloc (.cells #[] 58)).drew W.heap.size (.slice (some ⟨W.heap.size + 1, 0, none⟩) 0 0) [] := by
          have := OwF.empty (B := W.heap.size) (W.alloc (.cells #[.string f.fl.nm, f.v, .int .i64 (f.fl.s : Int)] 58)) bF.size _ rfl
          have e : (W.alloc (.cells #[.string f.fl.nm, f.v, .int .i64 (f.fl.s : Int)] 58)).heap.size = W.heap.size + 1 := by simp
          rw [e] at this
          exact this
        have x2 : RdC ((W.alloc (.cells #[] 58)).alloc (.cells #[.string f.fl.nm, f.v, .int .i64 (f.fl.s : Int)] 58)).drew [W.heap.size] (.slice (some ⟨W.heap.size + 1, 0, none⟩) 1 1) [f] := by
          have := RdC.one (W.alloc (.cells #[] 58)) [W.heap.size] f (by simp) 58
          have e : (W.alloc (.cells #[] 58)).heap.size = W.heap.size + 1 := by simp
          rw [e] at this
          exact this
        have x3 : RdC ((W.alloc (.cells #[.string f.fl.nm, f.v, .int .i64 (f.fl.s : Int)] 58)).alloc (.cells #[] 58)).drew [W.heap.size + 1] (.slice (some ⟨W.heap.size, 0, none⟩) 1 1) [f] := (RdC.one W [W.heap.size + 1] f (by simp) 58).bel (bwalloc (bwrefl _) (.cells #[] 58)).drew
        have q1 := r1.bel bE
        have q2 := r1.bel bEF
        have q3 := r1.bel bFE
        have s1 := bE.size
        have s2 := bEF.size
        have s3 := bFE.size
        have y1 := bE.drew
        have y2 := bEF.drew
        have y3 := bFE.drew
        have HBW := Lib.hid hB
        have HR3 := Lib.hid (fun (Z : World) (hb : Below W.heap.size W Z) => r3.bel hb)
        have HHW := Lib.hid hhW
        have HBZ := Lib.hid hbz
        have HX2 := Lib.hid x2
        have HX3 := Lib.hid x3
        clear r1 r3 hLt hLd PS bF bE bFE bEF hhW hbz x2 x3 hB
        go_region_law (first
          | (refine step_appF rfl (.tmp 22) (.tmp 25) rfl (by simp [Act.eval]) e1 (by simp [Act.eval]) q1 o1 l1 s1 ?_; intro v1 w1 p1 g1 h1; rw [List.nil_append] at p1; have z1 := y1.grown g1 y1.size (fun q hq => (e1.lt q hq).1); obtain ⟨d0, d1, d2⟩ := boxCells (X := w1) HHW.out (z1.block _ HBZ.out); have bF1 := bwalloc (bwrefl w1) (.cells #[.string f.fl.nm, f.v, .int .i64 (f.fl.s : Int)] 58); have p1 := p1.below bF1; have xf := RdC.one w1 [] f (by simp) 58; have z1 := z1.alloc z1.size (.cells #[.string f.fl.nm, f.v, .int .i64 (f.fl.s : Int)] 58); have t1 := z1.size; clear g1 h1)
          | (refine step_appF rfl (.tmp 22) (.tmp 25) rfl (by simp [Act.eval]) e2 (by simp [Act.eval]) q2 o1 l1 s2 ?_; intro v1 w1 p1 g1 h1; rw [List.nil_append] at p1; have z1 := y2.grown g1 y2.size (fun q hq => (e2.lt q hq).1); have xf := HX2.out.up (Kp.grown (S := [W.heap.size]) g1 fun k e => List.mem_singleton.2 (Option.some.inj e).symm) (fun _ hk => .inl hk); have t1 := z1.size; clear g1 h1)
          | (refine step_appF rfl (.tmp 22) (.tmp 25) rfl (by simp [Act.eval]) e3 (by simp [Act.eval]) q3 o1 l1 s3 ?_; intro v1 w1 p1 g1 h1; rw [List.nil_append] at p1; have z1 := y3.grown g1 y3.size (fun q hq => (e3.lt q hq).1); have xf := HX3.out.up (Kp.grown (S := [W.heap.size + 1]) g1 fun k e => List.mem_singleton.2 (Option.some.inj e).symm) (fun _ hk => .inl hk); have t1 := z1.size; clear g1 h1)
          | (refine step_appF rfl (.tmp 26) (.tmp 28) rfl (by simp [Act.eval]) p1 (by simp [Act.eval]) xf o2 l2 t1 ?_; intro v2 w2 p2 g2 h2; have z2 := z1.grown g2 z1.size (fun q hq => (p1.lt q hq).1); have r3 := HR3.out _ z2; have t2 := z2.size; clear g2 h2)
          | (refine step_appF rfl (.tmp 29) (.tmp 32) rfl (by simp [Act.eval]) p2 (by simp [Act.eval]) r3 o3 l3 t2 ?_; intro v3 w3 p3 g3 h3; have HZ3 := Lib.hid (z2.grown g3 z2.size (fun q hq => (p2.lt q hq).1)); have HP3 := Lib.hid p3; clear g3 h3 p3))
        all_goals (go_wp2_with fail; go_ret; exact ⟨⟨_, rfl, by rw [HANS.out]; exact HP3.out.mono hsW⟩, HBW.out.trans (HZ3.out.mono hsW)⟩)
    · obtain rfl : k = L.length := by omega
      by_cases hck : c = L.length
      · subst hck
        go_wp2_with fail
        go_quiet (fail)
        go_wp2_with fail
        have hb9 := below_drewN hbk nq
        have PS0 : PutS w (wr.drewN nq) _ L S f L.length := ⟨HB.out.trans (hb9.mono HB.out.size), Nat.lt_of_lt_of_le HZ.out hb9.size, (hb9.block _ HZ.out).trans HH.out, HV.out.bel hb9, Nat.le_refl _, HJ.out, (fun g' hg' => by rw [List.getElem?_eq_none (Nat.le_refl _)] at hg'; cases hg'), hs, HNE.out, hf1⟩
        have PS := Lib.hid PS0
        have k0 : (0 : Int) ≤ (L.length : Int) := by omega
        have k1 : (L.length : Int) ≤ (L.length : Int) := by omega
        have k5 : L.length ≤ L.length := by omega
        generalize wr.drewN nq = W at *
        clear PS0 hb9 hq
        have hbz := PS.out.hz
        have hB := PS.out.bel
        have hsW := hB.size
        have hhW := PS.out.hh
        obtain ⟨Lt, hLt⟩ : ∃ Lt, Lt = L.take L.length := ⟨_, rfl⟩
        obtain ⟨Ld, hLd⟩ : ∃ Ld, Ld = L.drop L.length := ⟨_, rfl⟩
        have HANS : Hid (ins rk f L = (Lt ++ [f]) ++ Ld) := by rw [hLt, hLd]; exact PS.out.ans
        have o1 : ∀ g ∈ Lt, g.v.oneCell' = true := fun g hg => one3 PS.out.rd g (List.mem_of_mem_take (hLt ▸ hg))
        have o3 : ∀ g ∈ Ld, g.v.oneCell' = true := fun g hg => one3 PS.out.rd g (List.mem_of_mem_drop (hLd ▸ hg))
        have o2 : ∀ g ∈ [f], g.v.oneCell' = true := fun g hg => by rw [List.mem_singleton.1 hg]; exact hf1
        have l1 : ([] : List Rf).length + Lt.length ≤ 1000000000 := by rw [hLt]; simp; omega
        have l2 : Lt.length + [f].length ≤ 1000000000 := by rw [hLt]; simp; omega
        have l3 : (Lt ++ [f]).length + Ld.length ≤ 1000000000 := by rw [hLt, hLd]; simp; omega
        have r1 : RdC W S (.slice A L.length L.length) Lt := by rw [hLt]; exact PS.out.rd.c.to_ PS.out.kl
        have r3 : RdC W S (.slice A 0 0) Ld := by rw [hLd]; exact by rw [List.drop_length]; exact RdC.none_ (by unfold maxLen; omega)
        have bE := (bwalloc (bwrefl W) (.cells #[] 58))
        have bF := (bwalloc (bwrefl W) (.cells #[.string f.fl.nm, f.v, .int .i64 (f.fl.s : Int)] 58))
        have bEF := bwalloc bE (.cells #[.string f.fl.nm, f.v, .int .i64 (f.fl.s : Int)] 58)
        have bFE := bwalloc bF (.cells #[] 58)
        obtain ⟨a0, a1, a2⟩ := boxCells (X := W) hhW rfl
        obtain ⟨b0, b1, b2⟩ := boxCells (X := W.alloc (.cells #[] 58)) hhW (bE.block _ hbz)
        have e1 : OwF (W.alloc (.cells #[] 58)).drew W.heap.size (.slice (some ⟨W.heap.size, 0, none⟩) 0 0) [] := OwF.empty W (Nat.le_refl _) _ rfl
        have e2 : OwF ((W.alloc (.cells #[] 58)).alloc (.cells #[.string f.fl.nm, f.v, .int .i64 (f.fl.s : Int)] 58)).drew W.heap.size (.slice (some ⟨W.heap.size, 0, none⟩) 0 0) [] := e1.below (bwalloc (bwrefl _) (.cells #[.string f.fl.nm, f.v, .int .i64 (f.fl.s : Int)] 58))
        have e3 : OwF ((W.alloc (.cells #[.string f.fl.nm, f.v, .int .i64 (f.fl.s : Int)] 58)).alloc (.cells #[] 58)).drew W.heap.size (.slice (some ⟨W.heap.size + 1, 0, none⟩) 0 0) [] := by
          have := OwF.empty (B := W.heap.size) (W.alloc (.cells #[.string f.fl.nm, f.v, .int .i64 (f.fl.s : Int)] 58)) bF.size _ rfl
          have e : (W.alloc (.cells #[.string f.fl.nm, f.v, .int .i64 (f.fl.s : Int)] 58)).heap.size = W.heap.size + 1 := by simp
          rw [e] at this
          exact this
        have x2 : RdC ((W.alloc (.cells #[] 58)).alloc (.cells #[.string f.fl.nm, f.v, .int .i64 (f.fl.s : Int)] 58)).drew [W.heap.size] (.slice (some ⟨W.heap.size + 1, 0, none⟩) 1 1) [f] := by
          have := RdC.one (W.alloc (.cells #[] 58)) [W.heap.size] f (by simp) 58
          have e : (W.alloc (.cells #[] 58)).heap.size = W.heap.size + 1 := by simp
          rw [e] at this
          exact this
        have x3 : RdC ((W.alloc (.cells #[.string f.fl.nm, f.v, .int .i64 (f.fl.s : Int)] 58)).alloc (.cells #[] 58)).drew [W.heap.size + 1] (.slice (some ⟨W.heap.size, 0, none⟩) 1 1) [f] := (RdC.one W [W.heap.size + 1] f (by simp) 58).bel (bwalloc (bwrefl _) (.cells #[] 58)).drew
        have q1 := r1.bel bE
        have q2 := r1.bel bEF
        have q3 := r1.bel bFE
        have s1 := bE.size
        have s2 := bEF.size
        have s3 := bFE.size
        have y1 := bE.drew
        have y2 := bEF.drew
        have y3 := bFE.drew
        have HBW := Lib.hid hB
        have HR3 := Lib.hid (fun (Z : World) (hb : Below W.heap.size W Z) => r3.bel hb)
        have HHW := Lib.hid hhW
        have HBZ := Lib.hid hbz
        have HX2 := Lib.hid x2
        have HX3 := Lib.hid x3
        clear r1 r3 hLt hLd PS bF bE bFE bEF hhW hbz x2 x3 hB
        go_region_law (first
          | (refine step_appF rfl (.tmp 22) (.tmp 25) rfl (by simp [Act.eval]) e1 (by simp [Act.eval]) q1 o1 l1 s1 ?_; intro v1 w1 p1 g1 h1; rw [List.nil_append] at p1; have z1 := y1.grown g1 y1.size (fun q hq => (e1.lt q hq).1); obtain ⟨d0, d1, d2⟩ := boxCells (X := w1) HHW.out (z1.block _ HBZ.out); have bF1 := bwalloc (bwrefl w1) (.cells #[.string f.fl.nm, f.v, .int .i64 (f.fl.s : Int)] 58); have p1 := p1.below bF1; have xf := RdC.one w1 [] f (by simp) 58; have z1 := z1.alloc z1.size (.cells #[.string f.fl.nm, f.v, .int .i64 (f.fl.s : Int)] 58); have t1 := z1.size; clear g1 h1)
          | (refine step_appF rfl (.tmp 22) (.tmp 25) rfl (by simp [Act.eval]) e2 (by simp [Act.eval]) q2 o1 l1 s2 ?_; intro v1 w1 p1 g1 h1; rw [List.nil_append] at p1; have z1 := y2.grown g1 y2.size (fun q hq => (e2.lt q hq).1); have xf := HX2.out.up (Kp.grown (S := [W.heap.size]) g1 fun k e => List.mem_singleton.2 (Option.some.inj e).symm) (fun _ hk => .inl hk); have t1 := z1.size; clear g1 h1)
          | (refine step_appF rfl (.tmp 22) (.tmp 25) rfl (by simp [Act.eval]) e3 (by simp [Act.eval]) q3 o1 l1 s3 ?_; intro v1 w1 p1 g1 h1; rw [List.nil_append] at p1; have z1 := y3.grown g1 y3.size (fun q hq => (e3.lt q hq).1); have xf := HX3.out.up (Kp.grown (S := [W.heap.size + 1]) g1 fun k e => List.mem_singleton.2 (Option.some.inj e).symm) (fun _ hk => .inl hk); have t1 := z1.size; clear g1 h1)
          | (refine step_appF rfl (.tmp 26) (.tmp 28) rfl (by simp [Act.eval]) p1 (by simp [Act.eval]) xf o2 l2 t1 ?_; intro v2 w2 p2 g2 h2; have z2 := z1.grown g2 z1.size (fun q hq => (p1.lt q hq).1); have r3 := HR3.out _ z2; have t2 := z2.size; clear g2 h2)
          | (refine step_appF rfl (.tmp 29) (.tmp 32) rfl (by simp [Act.eval]) p2 (by simp [Act.eval]) r3 o3 l3 t2 ?_; intro v3 w3 p3 g3 h3; have HZ3 := Lib.hid (z2.grown g3 z2.size (fun q hq => (p2.lt q hq).1)); have HP3 := Lib.hid p3; clear g3 h3 p3))
        all_goals (go_wp2_with fail; go_ret; exact ⟨⟨_, rfl, by rw [HANS.out]; exact HP3.out.mono hsW⟩, HBW.out.trans (HZ3.out.mono hsW)⟩)
      · cases A with
        | none =>
          go_wp2_with fail
          go_quiet (fail)
          go_wp2_with fail
          have hb9 := below_drewN hbk nq
          have PS0 : PutS w (wr.drewN nq) _ L S f L.length := ⟨HB.out.trans (hb9.mono HB.out.size), Nat.lt_of_lt_of_le HZ.out hb9.size, (hb9.block _ HZ.out).trans HH.out, HV.out.bel hb9, Nat.le_refl _, HJ.out, (fun g' hg' => by rw [List.getElem?_eq_none (Nat.le_refl _)] at hg'; cases hg'), hs, HNE.out, hf1⟩
          have PS := Lib.hid PS0
          have k0 : (0 : Int) ≤ (L.length : Int) := by omega
          have k1 : (L.length : Int) ≤ (c : Int) := by omega
          have k5 : L.length ≤ c := by omega
          generalize wr.drewN nq = W at *
          clear PS0 hb9 hq
          have hbz := PS.out.hz
          have hB := PS.out.bel
          have hsW := hB.size
          have hhW := PS.out.hh
          obtain ⟨Lt, hLt⟩ : ∃ Lt, Lt = L.take L.length := ⟨_, rfl⟩
          obtain ⟨Ld, hLd⟩ : ∃ Ld, Ld = L.drop L.length := ⟨_, rfl⟩
          have HANS : Hid (ins rk f L = (Lt ++ [f]) ++ Ld) := by rw [hLt, hLd]; exact PS.out.ans
          have o1 : ∀ g ∈ Lt, g.v.oneCell' = true := fun g hg => one3 PS.out.rd g (List.mem_of_mem_take (hLt ▸ hg))
          have o3 : ∀ g ∈ Ld, g.v.oneCell' = true := fun g hg => one3 PS.out.rd g (List.mem_of_mem_drop (hLd ▸ hg))
          have o2 : ∀ g ∈ [f], g.v.oneCell' = true := fun g hg => by rw [List.mem_singleton.1 hg]; exact hf1
          have l1 : ([] : List Rf).length + Lt.length ≤ 1000000000 := by rw [hLt]; simp; omega
          have l2 : Lt.length + [f].length ≤ 1000000000 := by rw [hLt]; simp; omega
          have l3 : (Lt ++ [f]).length + Ld.length ≤ 1000000000 := by rw [hLt, hLd]; simp; omega
          have r1 : RdC W S (.slice none L.length c) Lt := by rw [hLt]; exact PS.out.rd.c.to_ PS.out.kl
          have r3 : RdC W S (.slice none 0 (c - L.length)) Ld := by rw [hLd]; exact by rw [List.drop_length]; exact RdC.none_ (by unfold maxLen; omega)
          have bE := (bwalloc (bwrefl W) (.cells #[] 58))
          have bF := (bwalloc (bwrefl W) (.cells #[.string f.fl.nm, f.v, .int .i64 (f.fl.s : Int)] 58))
          have bEF := bwalloc bE (.cells #[.string f.fl.nm, f.v, .int .i64 (f.fl.s : Int)] 58)
          have bFE := bwalloc bF (.cells #[] 58)
          obtain ⟨a0, a1, a2⟩ := boxCells (X := W) hhW rfl
          obtain ⟨b0, b1, b2⟩ := boxCells (X := W.alloc (.cells #[] 58)) hhW (bE.block _ hbz)
          have e1 : OwF (W.alloc (.cells #[] 58)).drew W.heap.size (.slice (some ⟨W.heap.size, 0, none⟩) 0 0) [] := OwF.empty W (Nat.le_refl _) _ rfl
          have e2 : OwF ((W.alloc (.cells #[] 58)).alloc (.cells #[.string f.fl.nm, f.v, .int .i64 (f.fl.s : Int)] 58)).drew W.heap.size (.slice (some ⟨W.heap.size, 0, none⟩) 0 0) [] := e1.below (bwalloc (bwrefl _) (.cells #[.string f.fl.nm, f.v, .int .i64 (f.fl.s : Int)] 58))
          have e3 : OwF ((W.alloc (.cells #[.string f.fl.nm, f.v, .int .i64 (f.fl.s : Int)] 58)).alloc (.cells #[] 58)).drew W.heap.size (.slice (some ⟨W.heap.size + 1, 0, none⟩) 0 0) [] := by
            have := OwF.empty (B := W.heap.size) (W.alloc (.cells #[.string f.fl.nm, f.v, .int .i64 (f.fl.s : Int)] 58)) bF.size _ rfl
            have e : (W.alloc (.cells #[.string f.fl.nm, f.v, .int .i64 (f.fl.s : Int)] 58)).heap.size = W.heap.size + 1 := by simp
            rw [e] at this
            exact this
          have x2 : RdC ((W.alloc (.cells #[] 58)).alloc (.cells #[.string f.fl.nm, f.v, .int .i64 (f.fl.s : Int)] 58)).drew [W.heap.size] (.slice (some ⟨W.heap.size + 1, 0, none⟩) 1 1) [f] := by
            have := RdC.one (W.alloc (.cells #[] 58)) [W.heap.size] f (by simp) 58
            have e : (W.alloc (.cells #[] 58)).heap.size = W.heap.size + 1 := by simp
            rw [e] at this
            exact this
          have x3 : RdC ((W.alloc (.cells #[.string f.fl.nm, f.v, .int .i64 (f.fl.s : Int)] 58)).alloc (.cells #[] 58)).drew [W.heap.size + 1] (.slice (some ⟨W.heap.size, 0, none⟩) 1 1) [f] := (RdC.one W [W.heap.size + 1] f (by simp) 58).bel (bwalloc (bwrefl _) (.cells #[] 58)).drew
          have q1 := r1.bel bE
          have q2 := r1.bel bEF
          have q3 := r1.bel bFE
          have s1 := bE.size
          have s2 := bEF.size
          have s3 := bFE.size
          have y1 := bE.drew
          have y2 := bEF.drew
          have y3 := bFE.drew
          have HBW := Lib.hid hB
          have HR3 := Lib.hid (fun (Z : World) (hb : Below W.heap.size W Z) => r3.bel hb)
          have HHW := Lib.hid hhW
          have HBZ := Lib.hid hbz
          have HX2 := Lib.hid x2
          have HX3 := Lib.hid x3
          clear r1 r3 hLt hLd PS bF bE bFE bEF hhW hbz x2 x3 hB
          go_region_law (first
            | (refine step_appF rfl (.tmp 22) (.tmp 25) rfl (by simp [Act.eval]) e1 (by simp [Act.eval]) q1 o1 l1 s1 ?_; intro v1 w1 p1 g1 h1; rw [List.nil_append] at p1; have z1 := y1.grown g1 y1.size (fun q hq => (e1.lt q hq).1); obtain ⟨d0, d1, d2⟩ := boxCells (X := w1) HHW.out (z1.block _ HBZ.out); have bF1 := bwalloc (bwrefl w1) (.cells #[.string f.fl.nm, f.v, .int .i64 (f.fl.s : Int)] 58); have p1 := p1.below bF1; have xf := RdC.one w1 [] f (by simp) 58; have z1 := z1.alloc z1.size (.cells #[.string f.fl.nm, f.v, .int .i64 (f.fl.s : Int)] 58); have t1 := z1.size; clear g1 h1)
            | (refine step_appF rfl (.tmp 22) (.tmp 25) rfl (by simp [Act.eval]) e2 (by simp [Act.eval]) q2 o1 l1 s2 ?_; intro v1 w1 p1 g1 h1; rw [List.nil_append] at p1; have z1 := y2.grown g1 y2.size (fun q hq => (e2.lt q hq).1); have xf := HX2.out.up (Kp.grown (S := [W.heap.size]) g1 fun k e => List.mem_singleton.2 (Option.some.inj e).symm) (fun _ hk => .inl hk); have t1 := z1.size; clear g1 h1)
            | (refine step_appF rfl (.tmp 22) (.tmp 25) rfl (by simp [Act.eval]) e3 (by simp [Act.eval]) q3 o1 l1 s3 ?_; intro v1 w1 p1 g1 h1; rw [List.nil_append] at p1; have z1 := y3.grown g1 y3.size (fun q hq => (e3.lt q hq).1); have xf := HX3.out.up (Kp.grown (S := [W.heap.size + 1]) g1 fun k e => List.mem_singleton.2 (Option.some.inj e).symm) (fun _ hk => .inl hk); have t1 := z1.size; clear g1 h1)
            | (refine step_appF rfl (.tmp 26) (.tmp 28) rfl (by simp [Act.eval]) p1 (by simp [Act.eval]) xf o2 l2 t1 ?_; intro v2 w2 p2 g2 h2; have z2 := z1.grown g2 z1.size (fun q hq => (p1.lt q hq).1); have r3 := HR3.out _ z2; have t2 := z2.size; clear g2 h2)
            | (refine step_appF rfl (.tmp 29) (.tmp 32) rfl (by simp [Act.eval]) p2 (by simp [Act.eval]) r3 o3 l3 t2 ?_; intro v3 w3 p3 g3 h3; have HZ3 := Lib.hid (z2.grown g3 z2.size (fun q hq => (p2.lt q hq).1)); have HP3 := Lib.hid p3; clear g3 h3 p3))
          all_goals (go_wp2_with fail; go_ret; exact ⟨⟨_, rfl, by rw [HANS.out]; exact HP3.out.mono hsW⟩, HBW.out.trans (HZ3.out.mono hsW)⟩)
        | some a =>
          obtain ⟨b, off, o⟩ := a
          go_wp2_with fail
          go_quiet (fail)
          go_wp2_with fail
          have hb9 := below_drewN hbk nq
          have PS0 : PutS w (wr.drewN nq) _ L S f L.length := ⟨HB.out.trans (hb9.mono HB.out.size), Nat.lt_of_lt_of_le HZ.out hb9.size, (hb9.block _ HZ.out).trans HH.out, HV.out.bel hb9, Nat.le_refl _, HJ.out, (fun g' hg' => by rw [List.getElem?_eq_none (Nat.le_refl _)] at hg'; cases hg'), hs, HNE.out, hf1⟩
          have PS := Lib.hid PS0
          have k0 : (0 : Int) ≤ (L.length : Int) := by omega
          have k1 : (L.length : Int) ≤ (c : Int) := by omega
          have k5 : L.length ≤ c := by omega
          generalize wr.drewN nq = W at *
          clear PS0 hb9 hq
          have hbz := PS.out.hz
          have hB := PS.out.bel
          have hsW := hB.size
          have hhW := PS.out.hh
          obtain ⟨Lt, hLt⟩ : ∃ Lt, Lt = L.take L.length := ⟨_, rfl⟩
          obtain ⟨Ld, hLd⟩ : ∃ Ld, Ld = L.drop L.length := ⟨_, rfl⟩
          have HANS : Hid (ins rk f L = (Lt ++ [f]) ++ Ld) := by rw [hLt, hLd]; exact PS.out.ans
          have o1 : ∀ g ∈ Lt, g.v.oneCell' = true := fun g hg => one3 PS.out.rd g (List.mem_of_mem_take (hLt ▸ hg))
          have o3 : ∀ g ∈ Ld, g.v.oneCell' = true := fun g hg => one3 PS.out.rd g (List.mem_of_mem_drop (hLd ▸ hg))
          have o2 : ∀ g ∈ [f], g.v.oneCell' = true := fun g hg => by rw [List.mem_singleton.1 hg]; exact hf1
          have l1 : ([] : List Rf).length + Lt.length ≤ 1000000000 := by rw [hLt]; simp; omega
          have l2 : Lt.length + [f].length ≤ 1000000000 := by rw [hLt]; simp; omega
          have l3 : (Lt ++ [f]).length + Ld.length ≤ 1000000000 := by rw [hLt, hLd]; simp; omega
          have r1 : RdC W S (.slice (some ⟨b, off, o⟩) L.length c) Lt := by rw [hLt]; exact PS.out.rd.c.to_ PS.out.kl
          have r3 : RdC W S (.slice ((some ⟨b, off, o⟩ : Option Addr).map fun x => x.add (L.length * 3)) 0 (c - L.length)) Ld := by rw [hLd]; exact by rw [List.drop_length]; exact RdC.none_ (by unfold maxLen; omega)
          have bE := (bwalloc (bwrefl W) (.cells #[] 58))
          have bF := (bwalloc (bwrefl W) (.cells #[.string f.fl.nm, f.v, .int .i64 (f.fl.s : Int)] 58))
          have bEF := bwalloc bE (.cells #[.string f.fl.nm, f.v, .int .i64 (f.fl.s : Int)] 58)
          have bFE := bwalloc bF (.cells #[] 58)
          obtain ⟨a0, a1, a2⟩ := boxCells (X := W) hhW rfl
          obtain ⟨b0, b1, b2⟩ := boxCells (X := W.alloc (.cells #[] 58)) hhW (bE.block _ hbz)
          have e1 : OwF (W.alloc (.cells #[] 58)).drew W.heap.size (.slice (some ⟨W.heap.size, 0, none⟩) 0 0) [] := OwF.empty W (Nat.le_refl _) _ rfl
          have e2 : OwF ((W.alloc (.cells #[] 58)).alloc (.cells #[.string f.fl.nm, f.v, .int .i64 (f.fl.s : Int)] 58)).drew W.heap.size (.slice (some ⟨W.heap.size, 0, none⟩) 0 0) [] := e1.below (bwalloc (bwrefl _) (.cells #[.string f.fl.nm, f.v, .int .i64 (f.fl.s : Int)] 58))
          have e3 : OwF ((W.alloc (.cells #[.string f.fl.nm, f.v, .int .i64 (f.fl.s : Int)] 58)).alloc (.cells #[] 58)).drew W.heap.size (.slice (some ⟨W.heap.size + 1, 0, none⟩) 0 0) [] := by
            have := OwF.empty (B := W.heap.size) (W.alloc (.cells #[.string f.fl.nm, f.v, .int .i64 (f.fl.s : Int)] 58)) bF.size _ rfl
            have e : (W.alloc (.cells #[.string f.fl.nm, f.v, .int .i64 (f.fl.s : Int)] 58)).heap.size = W.heap.size + 1 := by simp
            rw [e] at this
            exact this
          have x2 : RdC ((W.alloc (.cells #[] 58)).alloc (.cells #[.string f.fl.nm, f.v, .int .i64 (f.fl.s : Int)] 58)).drew [W.heap.size] (.slice (some ⟨W.heap.size + 1, 0, none⟩) 1 1) [f] := by
            have := RdC.one (W.alloc (.cells #[] 58)) [W.heap.size] f (by simp) 58
            have e : (W.alloc (.cells #[] 58)).heap.size = W.heap.size + 1 := by simp
            rw [e] at this
            exact this
          have x3 : RdC ((W.alloc (.cells #[.string f.fl.nm, f.v, .int .i64 (f.fl.s : Int)] 58)).alloc (.cells #[] 58)).drew [W.heap.size + 1] (.slice (some ⟨W.heap.size, 0, none⟩) 1 1) [f] := (RdC.one W [W.heap.size + 1] f (by simp) 58).bel (bwalloc (bwrefl _) (.cells #[] 58)).drew
          have q1 := r1.bel bE
          have q2 := r1.bel bEF
          have q3 := r1.bel bFE
          have s1 := bE.size
          have s2 := bEF.size
          have s3 := bFE.size
          have y1 := bE.drew
          have y2 := bEF.drew
          have y3 := bFE.drew
          have HBW := Lib.hid hB
          have HR3 := Lib.hid (fun (Z : World) (hb : Below W.heap.size W Z) => r3.bel hb)
          have HHW := Lib.hid hhW
          have HBZ := Lib.hid hbz
          have HX2 := Lib.hid x2
          have HX3 := Lib.hid x3
          clear r1 r3 hLt hLd PS bF bE bFE bEF hhW hbz x2 x3 hB
          go_region_law (first
            | (refine step_appF rfl (.tmp 22) (.tmp 25) rfl (by simp [Act.eval]) e1 (by simp [Act.eval]) q1 o1 l1 s1 ?_; intro v1 w1 p1 g1 h1; rw [List.nil_append] at p1; have z1 := y1.grown g1 y1.size (fun q hq => (e1.lt q hq).1); obtain ⟨d0, d1, d2⟩ := boxCells (X := w1) HHW.out (z1.block _ HBZ.out); have bF1 := bwalloc (bwrefl w1) (.cells #[.string f.fl.nm, f.v, .int .i64 (f.fl.s : Int)] 58); have p1 := p1.below bF1; have xf := RdC.one w1 [] f (by simp) 58; have z1 := z1.alloc z1.size (.cells #[.string f.fl.nm, f.v, .int .i64 (f.fl.s : Int)] 58); have t1 := z1.size; clear g1 h1)
            | (refine step_appF rfl (.tmp 22) (.tmp 25) rfl (by simp [Act.eval]) e2 (by simp [Act.eval]) q2 o1 l1 s2 ?_; intro v1 w1 p1 g1 h1; rw [List.nil_append] at p1; have z1 := y2.grown g1 y2.size (fun q hq => (e2.lt q hq).1); have xf := HX2.out.up (Kp.grown (S := [W.heap.size]) g1 fun k e => List.mem_singleton.2 (Option.some.inj e).symm) (fun _ hk => .inl hk); have t1 := z1.size; clear g1 h1)
            | (refine step_appF rfl (.tmp 22) (.tmp 25) rfl (by simp [Act.eval]) e3 (by simp [Act.eval]) q3 o1 l1 s3 ?_; intro v1 w1 p1 g1 h1; rw [List.nil_append] at p1; have z1 := y3.grown g1 y3.size (fun q hq => (e3.lt q hq).1); have xf := HX3.out.up (Kp.grown (S := [W.heap.size + 1]) g1 fun k e => List.mem_singleton.2 (Option.some.inj e).symm) (fun _ hk => .inl hk); have t1 := z1.size; clear g1 h1)
            | (refine step_appF rfl (.tmp 26) (.tmp 28) rfl (by simp [Act.eval]) p1 (by simp [Act.eval]) xf o2 l2 t1 ?_; intro v2 w2 p2 g2 h2; have z2 := z1.grown g2 z1.size (fun q hq => (p1.lt q hq).1); have r3 := HR3.out _ z2; have t2 := z2.size; clear g2 h2)
            | (refine step_appF rfl (.tmp 29) (.tmp 32) rfl (by simp [Act.eval]) p2 (by simp [Act.eval]) r3 o3 l3 t2 ?_; intro v3 w3 p3 g3 h3; have HZ3 := Lib.hid (z2.grown g3 z2.size (fun q hq => (p2.lt q hq).1)); have HP3 := Lib.hid p3; clear g3 h3 p3))
          all_goals (go_wp2_with fail; go_ret; exact ⟨⟨_, rfl, by rw [HANS.out]; exact HP3.out.mono hsW⟩, HBW.out.trans (HZ3.out.mono hsW)⟩)
end Go.Proofs.Ytblejjjifokmgaa
