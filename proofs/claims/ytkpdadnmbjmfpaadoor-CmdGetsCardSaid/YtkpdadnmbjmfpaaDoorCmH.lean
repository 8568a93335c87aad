/- The contract of the reference's Get of layer 15. -/
import Derived.Test.YtkpdadnmbjmfpaaDoorCmG
import Derived.Deep.Cut
import Derived.Deep.CutRange
namespace Go.Proofs.YtkpdadnmbjmfpaaDoor.Ce
open Go.RowKit

theorem s16_of {g : Nat} {c : Cm} {w z : World} (h : cmD.In g c z) (h2 : ∃ c0, cmD.In w.heap.size c0 z) (b : Below w.heap.size w z) : cmD.In g c z ∧ z.cell? ⟨g, 0, none⟩ = some (.int .i64 c.client) ∧ z.cell? ⟨g, 1, none⟩ = some (.int .i64 c.seq) ∧ z.cell? ⟨g, 2, none⟩ = some (.int .i64 c.kind) ∧ z.cell? ⟨g, 3, none⟩ = some (.string c.row) ∧ z.cell? ⟨g, 4, none⟩ = some (.string c.col) ∧ z.cell? ⟨g, 5, none⟩ = some (.string c.to_) ∧ z.cell? ⟨g, 6, none⟩ = some (.int .i64 c.at_) ∧ z.cell? ⟨g, 7, none⟩ = some (.string c.value) ∧ z.cell? ⟨g, 8, none⟩ = some (.string c.expect) ∧ z.cell? ⟨g, 9, none⟩ = some (.bool c.has) ∧ (∃ c0, cmD.In w.heap.size c0 z) ∧ Below w.heap.size w z :=
  have a := CmAt.of h
  ⟨h, a.c0, a.c1, a.c2, a.c3, a.c4, a.c5, a.c6, a.c7, a.c8, a.c9, h2, b⟩
theorem s16_up {g : Nat} {c : Cm} {w z z' : World} (h : cmD.In g c z ∧ z.cell? ⟨g, 0, none⟩ = some (.int .i64 c.client) ∧ z.cell? ⟨g, 1, none⟩ = some (.int .i64 c.seq) ∧ z.cell? ⟨g, 2, none⟩ = some (.int .i64 c.kind) ∧ z.cell? ⟨g, 3, none⟩ = some (.string c.row) ∧ z.cell? ⟨g, 4, none⟩ = some (.string c.col) ∧ z.cell? ⟨g, 5, none⟩ = some (.string c.to_) ∧ z.cell? ⟨g, 6, none⟩ = some (.int .i64 c.at_) ∧ z.cell? ⟨g, 7, none⟩ = some (.string c.value) ∧ z.cell? ⟨g, 8, none⟩ = some (.string c.expect) ∧ z.cell? ⟨g, 9, none⟩ = some (.bool c.has) ∧ (∃ c0, cmD.In w.heap.size c0 z) ∧ Below w.heap.size w z) (hb : Below z.heap.size z z') : cmD.In g c z' ∧ z'.cell? ⟨g, 0, none⟩ = some (.int .i64 c.client) ∧ z'.cell? ⟨g, 1, none⟩ = some (.int .i64 c.seq) ∧ z'.cell? ⟨g, 2, none⟩ = some (.int .i64 c.kind) ∧ z'.cell? ⟨g, 3, none⟩ = some (.string c.row) ∧ z'.cell? ⟨g, 4, none⟩ = some (.string c.col) ∧ z'.cell? ⟨g, 5, none⟩ = some (.string c.to_) ∧ z'.cell? ⟨g, 6, none⟩ = some (.int .i64 c.at_) ∧ z'.cell? ⟨g, 7, none⟩ = some (.string c.value) ∧ z'.cell? ⟨g, 8, none⟩ = some (.string c.expect) ∧ z'.cell? ⟨g, 9, none⟩ = some (.bool c.has) ∧ (∃ c0, cmD.In w.heap.size c0 z') ∧ Below w.heap.size w z' :=
  have q := h.2.2.2.2.2.2.2.2.2.2.2
  s16_of (h.1.up hb) (q.1.elim fun c0 k => ⟨c0, k.up hb⟩) (bwstep q.2 hb)
set_option maxHeartbeats 2000000 in
set_option maxRecDepth 100000 in
theorem rget_any (s : ByteArray) (w : World) (hs : s.size ≤ 1000000) : Calls Tryd.prog 16 #[.string s] w (GetEnd s.data.toList w) := by
  have hln : s.data.toList.length = s.size := rfl
  go_enter Tryd.func16, Tryd.ntmps16
  go_wp2_with (refine St.alloc cmOk rfl rfl ?_)
  constructor
  intro w0 hI hb hz
  obtain ⟨x, w1, hcv, hx, hb1, _⟩ := run_bytes (P := Tryd.prog) w0 (src := 9) (dst := 41) (e := 5) s Tryd.underlying9 Tryd.underlying41 Tryd.underlying5 (by simp [maxLen]; omega)
  generalize s.data.toList = l at *
  have hll : l.length ≤ 1000000 := by omega
  clear hln
  have hI1 := hI.up hb1
  have hB1 := bwstep hb hb1
  clear hI hb hb1 hz
  obtain ⟨A, cp, rfl, hcl, hcm⟩ := hx.shapeM
  by_cases h20 : l.length < 20
  · have HN := Lib.hid (no_short h20)
    have h20i : (l.length : Int) < 20 := by omega
    go_wp2_with (refine St.store cmOk (c := Cm.zero) rfl (.tmp 2) (.tmp 17) rfl rfl rfl hI1 ?_)
    constructor
    intro w2 hs2
    have HS := Lib.hid hs2
    clear hs2
    go_wp2_with fail
    refine bodyPost_ret (St.res2 cmOk Tryd.results16 rfl HS.out.i) rfl ⟨⟨Cm.zero, false, rfl, by simp, fun _ => HN.out⟩, HS.out.bel hB1 (Nat.le_refl _)⟩
  · have h20i : ¬ (l.length : Int) < 20 := by omega
    have HX := Lib.hid hx
    have HI1 := Lib.hid hI1
    have HB1 := Lib.hid hB1
    have HR := Lib.hid (Rdg.start (s := l) (by omega))
    have hls := HI1.out.lt
    clear hx hI1 hB1
    go_wp2_with fail
    go_loopw [5, 6, 7] (fun v at_ i wr => ∃ (T : List ByteArray) (k : Nat), T.length ≤ 5 ∧ i = .int .i64 (T.length : Int) ∧ at_ = .int .i64 (k : Int) ∧ Rdg l T k ∧ Ow wr w1.heap.size 9 v (T.map sv) ∧ Below w1.heap.size w1 wr) (fun _ _ i _ => 5 - (intOf i).toNat)
    case atStart => exact ⟨[], 20, by simp, rfl, rfl, HR.out, Ow.nil _ _ _, Below.refl _ _⟩
    case round =>
      clear HR
      obtain ⟨T, k, hT, rfl, rfl, hrd, ho, hbw⟩ := hrel
      by_cases hlt : T.length < 5
      · by_cases hok : textOk (l.drop k)
        · have hnx := hrd.next hok
          have hle := hnx.le
          have h4 := (ok_size hok).2.2.2.1
          have hcall := fun W hW hr => rtextAt_any (.slice A l.length cp) l k w1.heap.size W hW hr (by have := hrd.le; omega) (by omega)
          generalize textThere (l.drop k) = t at *
          generalize textSize (l.drop k) = n at *
          have HN := Lib.hid hnx
          have HO := Lib.hid ho
          have HBW := Lib.hid hbw
          have hn0 : ¬ (n : Int) = 0 := by omega
          have hTl : (T.map sv).length ≤ 5 := by simpa using hT
          clear ho hbw hnx hrd hok
          obtain ⟨wo, hwo⟩ : ∃ wo, wo = wr := ⟨_, rfl⟩
          subst hwo
          go_wp2_with fail
          refine (hcall _ HBW.out.size (HX.out.below HBW.out)).mono ?_
          rintro e w3 ⟨rfl, hb3⟩
          have HB3 := Lib.hid (bwstep HBW.out hb3)
          have ho3 := HO.out.below hb3
          have hbe : ∀ o, Below w3.heap.size w3 (w3.alloc o) := fun o => bwalloc (Below.refl _ _) o
          have hbs := HB3.out.size
          clear hb3 hcall
          go_wp2_with (at_builtin; refine wpList_app textT rfl rfl (.tmp 31) (.tmp 33) rfl rfl (ho3.below (hbe _)) rfl (Rd.newW (xs := [t].map sv) _ _ _ rfl (by simp [maxLen]) rfl) (one_sv _) (by simp [maxLen]; omega) (by simp; omega) (Nat.le_trans hbs (hbe _).size) ?_; intro v2 w4 ho4 hg4 _; have HB4 := Lib.hid ((HB3.out.trans ((hbe _).mono hbs)).grown hg4 (Nat.le_trans hbs (hbe _).size) ho3.ge); have HO4 := Lib.hid ho4; clear ho4 hg4 ho3)
          go_roundw
          case rel => exact ⟨T ++ [t], k + n, by simp; omega, vi (by simp), vi (by omega), HN.out, by rw [List.map_append]; exact HO4.out, HB4.out⟩
          case measure => simp [intOf]; omega
        · have HN := Lib.hid (hrd.no hlt hok)
          have h0 := no_size hok
          have hcall := fun W hW hr => rtextAt_any (.slice A l.length cp) l k w1.heap.size W hW hr (by have := hrd.le; omega) (by omega)
          rw [h0.1] at hcall
          generalize textThere (l.drop k) = t at *
          have HBW := Lib.hid hbw
          clear ho hbw hrd hok h0
          obtain ⟨wo, hwo⟩ : ∃ wo, wo = wr := ⟨_, rfl⟩
          subst hwo
          go_wp2_with fail
          refine (hcall _ HBW.out.size (HX.out.below HBW.out)).mono ?_
          rintro e w3 ⟨rfl, hb3⟩
          have HB3 := Lib.hid (bwstep HB1.out (bwstep HBW.out hb3))
          have hI3 := HI1.out.up (bwstep HBW.out hb3)
          clear hb3 hcall
          go_wp2_with (refine St.store cmOk (c := Cm.zero) rfl (.tmp 2) (.tmp 30) rfl rfl rfl hI3 ?_)
          constructor
          intro w4 hs4
          have HS := Lib.hid hs4
          clear hs4 hI3
          go_wp2_with fail
          refine bodyPost_ret (St.res2 cmOk Tryd.results16 rfl HS.out.i) rfl ⟨⟨Cm.zero, false, rfl, by simp, fun _ => HN.out⟩, HS.out.bel HB3.out (Nat.le_refl _)⟩
      · obtain ⟨t0, t1, t2, t3, t4, rfl⟩ := five_texts (show T.length = 5 by omega)
        have hgi := got_iff hrd (by omega)
        have hkl := hrd.le
        have h0 := fun W hr => rat_ok (.slice A l.length cp) l 0 w1.heap.size W hr (by omega) (by omega)
        have h1 := fun W hr => rat_ok (.slice A l.length cp) l 4 w1.heap.size W hr (by omega) (by omega)
        have h2 := fun W hr => rat_ok (.slice A l.length cp) l 8 w1.heap.size W hr (by omega) (by omega)
        have h3 := fun W hr => rat_ok (.slice A l.length cp) l 12 w1.heap.size W hr (by omega) (by omega)
        have h4 := fun W hr => rat_ok (.slice A l.length cp) l 16 w1.heap.size W hr (by omega) (by omega)
        obtain ⟨cc, hcc⟩ : ∃ cc, cc = gotC l t0 t1 t2 t3 t4 := ⟨_, rfl⟩
        rw [← hcc] at hgi
        have HCC : Hid (#[Value.int .i64 (numOf (l.drop 0)), .int .i64 (numOf (l.drop 4)), .int .i64 (numOf (l.drop 8)), .string t0, .string t1, .string t2, .int .i64 (numOf (l.drop 12)), .string t3, .string t4, .bool ((numOf (l.drop 16) : Int) == 1)] = cc.cs) := Lib.hid (by rw [hcc]; rfl)
        clear hcc hrd
        generalize numOf (l.drop 0) = n0 at *
        generalize numOf (l.drop 4) = n1 at *
        generalize numOf (l.drop 8) = n2 at *
        generalize numOf (l.drop 12) = n3 at *
        generalize numOf (l.drop 16) = n4 at *
        have HGI := Lib.hid hgi
        clear hgi hT hlt
        obtain ⟨A5, c5, rfl, -, -⟩ := ho.rd.shapeM
        obtain ⟨b5, o5, rfl, hb5, hc5⟩ := ho.rd.cellM (by simp)
        have d0 := hc5 0 (by simp)
        have d1 := hc5 1 (by simp)
        have d2 := hc5 2 (by simp)
        have d3 := hc5 3 (by simp)
        have d4 := hc5 4 (by simp)
        simp only [sv, List.getElem_cons_zero, List.getElem_cons_succ, Nat.add_zero] at d0 d1 d2 d3 d4
        have HBW := Lib.hid hbw
        clear ho hbw hc5
        obtain ⟨wo, hwo⟩ : ∃ wo, wo = wr := ⟨_, rfl⟩
        subst hwo
        go_wp2_with fail
        refine (h4 _ (HX.out.below HBW.out)).mono ?_
        rintro e w3 ⟨rfl, hb3⟩
        have HB3 := Lib.hid (bwstep HBW.out hb3)
        have e0 := (hb3.cell (p := ⟨b5, o5, none⟩) hb5).trans d0
        have e1 := (hb3.cell (p := ⟨b5, o5 + 1, none⟩) hb5).trans d1
        have e2 := (hb3.cell (p := ⟨b5, o5 + 2, none⟩) hb5).trans d2
        have e3 := (hb3.cell (p := ⟨b5, o5 + 3, none⟩) hb5).trans d3
        have e4 := (hb3.cell (p := ⟨b5, o5 + 4, none⟩) hb5).trans d4
        have hb53 : b5 < w3.heap.size := Nat.lt_of_lt_of_le hb5 hb3.size
        clear d0 d1 d2 d3 d4 hb3 h4 hb5
        have hu : ∀ W, Below w3.heap.size w3 W → Rd W w1.heap.size (.slice A l.length cp) (l.map bv) := fun W hW => HX.out.below (HB3.out.trans (hW.mono HB3.out.size))
        have HU : Hid (∀ z z', (z.cell? ⟨b5, o5, none⟩ = some (.string t0) ∧ z.cell? ⟨b5, o5 + 1, none⟩ = some (.string t1) ∧ z.cell? ⟨b5, o5 + 2, none⟩ = some (.string t2) ∧ z.cell? ⟨b5, o5 + 3, none⟩ = some (.string t3) ∧ z.cell? ⟨b5, o5 + 4, none⟩ = some (.string t4) ∧ Below w3.heap.size w3 z) → Below z.heap.size z z' → (z'.cell? ⟨b5, o5, none⟩ = some (.string t0) ∧ z'.cell? ⟨b5, o5 + 1, none⟩ = some (.string t1) ∧ z'.cell? ⟨b5, o5 + 2, none⟩ = some (.string t2) ∧ z'.cell? ⟨b5, o5 + 3, none⟩ = some (.string t3) ∧ z'.cell? ⟨b5, o5 + 4, none⟩ = some (.string t4) ∧ Below w3.heap.size w3 z')) := Lib.hid fun z z' h hb => by
          obtain ⟨f0, f1, f2, f3, f4, f5⟩ := h
          have hl : b5 < z.heap.size := Nat.lt_of_lt_of_le hb53 f5.size
          exact ⟨(hb.cell (p := ⟨b5, o5, none⟩) hl).trans f0, (hb.cell (p := ⟨b5, o5 + 1, none⟩) hl).trans f1, (hb.cell (p := ⟨b5, o5 + 2, none⟩) hl).trans f2, (hb.cell (p := ⟨b5, o5 + 3, none⟩) hl).trans f3, (hb.cell (p := ⟨b5, o5 + 4, none⟩) hl).trans f4, bwstep f5 hb⟩
        have HV : Hid (∀ z z' g, (z.cell? ⟨b5, o5, none⟩ = some (.string t0) ∧ z.cell? ⟨b5, o5 + 1, none⟩ = some (.string t1) ∧ z.cell? ⟨b5, o5 + 2, none⟩ = some (.string t2) ∧ z.cell? ⟨b5, o5 + 3, none⟩ = some (.string t3) ∧ z.cell? ⟨b5, o5 + 4, none⟩ = some (.string t4) ∧ Below w3.heap.size w3 z) → w3.heap.size ≤ g → cmD.Set g cc z z' → (z'.cell? ⟨b5, o5, none⟩ = some (.string t0) ∧ z'.cell? ⟨b5, o5 + 1, none⟩ = some (.string t1) ∧ z'.cell? ⟨b5, o5 + 2, none⟩ = some (.string t2) ∧ z'.cell? ⟨b5, o5 + 3, none⟩ = some (.string t3) ∧ z'.cell? ⟨b5, o5 + 4, none⟩ = some (.string t4) ∧ Below w3.heap.size w3 z')) := Lib.hid fun z z' g h hg hs => by
          obtain ⟨f0, f1, f2, f3, f4, f5⟩ := h
          have ho := hs.o b5 (by omega)
          have hc : ∀ i, z'.cell? ⟨b5, i, none⟩ = z.cell? ⟨b5, i, none⟩ := fun i => by simp only [World.cell?, ho]
          exact ⟨(hc _).trans f0, (hc _).trans f1, (hc _).trans f2, (hc _).trans f3, (hc _).trans f4, hs.bel f5 hg⟩
        have HT0 := Lib.hid (And.intro e0 (And.intro e1 (And.intro e2 (And.intro e3 (And.intro e4 (Below.refl w3.heap.size w3))))))
        have HT := Lib.hid (HU.out _ _ ⟨e0, e1, e2, e3, e4, Below.refl _ _⟩ ((Below.refl w3.heap.size w3).drew))
        clear e0 e1 e2 e3 e4
        go_upto_region 15 with fail
        go_cut [11] from 40 to 66 (fun p wx => ∃ g, p = .pointer (some ⟨g, 0, none⟩) ∧ w3.heap.size ≤ g ∧ Hid (cmD.In g cc wx) ∧ Below w3.heap.size w3 wx)
        case first =>
          refine wp_region_held_drew (S := fun z => z.cell? ⟨b5, o5, none⟩ = some (.string t0) ∧ z.cell? ⟨b5, o5 + 1, none⟩ = some (.string t1) ∧ z.cell? ⟨b5, o5 + 2, none⟩ = some (.string t2) ∧ z.cell? ⟨b5, o5 + 3, none⟩ = some (.string t3) ∧ z.cell? ⟨b5, o5 + 4, none⟩ = some (.string t4) ∧ Below w3.heap.size w3 z) (by kernel_rfl) HT.out (fun hHeld => ?_)
          clear HT
          generalize w3.drew = wz at *
          refine wpAnyH_take (i := 0) (oi := _) (v := ?vr0) (by simp only [List.getElem?_toArray, List.getElem?_cons_zero]; rfl) (by kernel_rfl) (by kernel_rfl) (by kernel_rfl) (by intro _ _ _ h; exact h) (Or.inl ⟨by rfl, ?hyr0⟩) (by assumption) ?restr0
          case hyr0 =>
            intro z hSz
            (try dsimp only at hSz)
            go_simp
            try with_reducible rfl
          ((try simp only [Act.put]); (try simp only [List.setIfInBounds_toArray]); (try simp only [List.set_cons_succ]); (try simp only [List.set_cons_zero]))
          refine wpAnyH_take (i := 2) (oi := _) (v := ?vr2) (by simp only [List.getElem?_toArray, List.getElem?_cons_succ, List.getElem?_cons_zero]; rfl) (by kernel_rfl) (by kernel_rfl) (by kernel_rfl) (by intro _ _ _ h; exact h) (Or.inl ⟨by rfl, ?hyr2⟩) (by assumption) ?restr2
          case hyr2 =>
            intro z hSz
            (try dsimp only at hSz)
            go_simp
            try with_reducible rfl
          ((try simp only [Act.put]); (try simp only [List.setIfInBounds_toArray]); (try simp only [List.set_cons_succ]); (try simp only [List.set_cons_zero]))
          refine wpAnyH_take (i := 4) (oi := _) (v := ?vr4) (by simp only [List.getElem?_toArray, List.getElem?_cons_succ, List.getElem?_cons_zero]; rfl) (by kernel_rfl) (by kernel_rfl) (by kernel_rfl) (by intro _ _ _ h; exact h) (Or.inl ⟨by rfl, ?hyr4⟩) (by assumption) ?restr4
          case hyr4 =>
            intro z hSz
            (try dsimp only at hSz)
            go_simp
            try with_reducible rfl
          ((try simp only [Act.put]); (try simp only [List.setIfInBounds_toArray]); (try simp only [List.set_cons_succ]); (try simp only [List.set_cons_zero]))
          refine wpAnyH_take (i := 6) (oi := _) (v := ?vr6) (by simp only [List.getElem?_toArray, List.getElem?_cons_succ, List.getElem?_cons_zero]; rfl) (by kernel_rfl) (by kernel_rfl) (by kernel_rfl) (by intro _ _ _ h; exact h) (Or.inl ⟨by rfl, ?hyr6⟩) (by assumption) ?restr6
          case hyr6 =>
            intro z hSz
            (try dsimp only at hSz)
            go_simp
            try with_reducible rfl
          ((try simp only [Act.put]); (try simp only [List.setIfInBounds_toArray]); (try simp only [List.set_cons_succ]); (try simp only [List.set_cons_zero]))
          refine wpAnyH_take (i := 8) (oi := _) (v := ?vr8) (by simp only [List.getElem?_toArray, List.getElem?_cons_succ, List.getElem?_cons_zero]; rfl) (by kernel_rfl) (by kernel_rfl) (by kernel_rfl) (by intro _ _ _ h; exact h) (Or.inl ⟨by rfl, ?hyr8⟩) (by assumption) ?restr8
          case hyr8 =>
            intro z hSz
            (try dsimp only at hSz)
            go_simp
            try with_reducible rfl
          ((try simp only [Act.put]); (try simp only [List.setIfInBounds_toArray]); (try simp only [List.set_cons_succ]); (try simp only [List.set_cons_zero]))
          refine wpAnyH_take (i := 9) (oi := _) (v := ?vr9) (by simp only [List.getElem?_toArray, List.getElem?_cons_succ, List.getElem?_cons_zero]; rfl) (by kernel_rfl) (by kernel_rfl) (by kernel_rfl) (by intro _ _ _ h; exact h) (Or.inl ⟨by rfl, ?hyr9⟩) (by assumption) ?restr9
          case hyr9 =>
            intro z hSz
            (try dsimp only at hSz)
            go_simp
            try with_reducible rfl
          ((try simp only [Act.put]); (try simp only [List.setIfInBounds_toArray]); (try simp only [List.set_cons_succ]); (try simp only [List.set_cons_zero]))
          refine wpAnyH_take (i := 10) (oi := _) (v := ?vr10) (by simp only [List.getElem?_toArray, List.getElem?_cons_succ, List.getElem?_cons_zero]; rfl) (by kernel_rfl) (by kernel_rfl) (by kernel_rfl) (by intro _ _ _ h; exact h) (Or.inl ⟨by rfl, ?hyr10⟩) (by assumption) ?restr10
          case hyr10 =>
            intro z hSz
            (try dsimp only at hSz)
            go_simp
            try with_reducible rfl
          ((try simp only [Act.put]); (try simp only [List.setIfInBounds_toArray]); (try simp only [List.set_cons_succ]); (try simp only [List.set_cons_zero]))
          refine wpAnyH_take (i := 11) (oi := _) (v := ?vr11) (by simp only [List.getElem?_toArray, List.getElem?_cons_succ, List.getElem?_cons_zero]; rfl) (by kernel_rfl) (by kernel_rfl) (by kernel_rfl) (by intro _ _ _ h; exact h) (Or.inl ⟨by rfl, ?hyr11⟩) (by assumption) ?restr11
          case hyr11 =>
            intro z hSz
            (try dsimp only at hSz)
            go_simp
            try with_reducible rfl
          ((try simp only [Act.put]); (try simp only [List.setIfInBounds_toArray]); (try simp only [List.set_cons_succ]); (try simp only [List.set_cons_zero]))
          refine wpAnyH_take (i := 12) (oi := _) (v := ?vr12) (by simp only [List.getElem?_toArray, List.getElem?_cons_succ, List.getElem?_cons_zero]; rfl) (by kernel_rfl) (by kernel_rfl) (by kernel_rfl) (by intro _ _ _ h; exact h) (Or.inl ⟨by rfl, ?hyr12⟩) (by assumption) ?restr12
          case hyr12 =>
            intro z hSz
            (try dsimp only at hSz)
            go_simp
            try with_reducible rfl
          ((try simp only [Act.put]); (try simp only [List.setIfInBounds_toArray]); (try simp only [List.set_cons_succ]); (try simp only [List.set_cons_zero]))
          refine wpAnyH_take (i := 13) (oi := _) (v := ?vr13) (by simp only [List.getElem?_toArray, List.getElem?_cons_succ, List.getElem?_cons_zero]; rfl) (by kernel_rfl) (by kernel_rfl) (by kernel_rfl) (by intro _ _ _ h; exact h) (Or.inl ⟨by rfl, ?hyr13⟩) (by assumption) ?restr13
          case hyr13 =>
            intro z hSz
            (try dsimp only at hSz)
            go_simp
            try with_reducible rfl
          ((try simp only [Act.put]); (try simp only [List.setIfInBounds_toArray]); (try simp only [List.set_cons_succ]); (try simp only [List.set_cons_zero]))
          refine wpAnyH_take (i := 14) (oi := _) (v := ?vr14) (by simp only [List.getElem?_toArray, List.getElem?_cons_succ, List.getElem?_cons_zero]; rfl) (by kernel_rfl) (by kernel_rfl) (by kernel_rfl) (by intro _ _ _ h; exact h) (Or.inl ⟨by rfl, ?hyr14⟩) (by assumption) ?restr14
          case hyr14 =>
            intro z hSz
            (try dsimp only at hSz)
            go_simp
            try with_reducible rfl
          ((try simp only [Act.put]); (try simp only [List.setIfInBounds_toArray]); (try simp only [List.set_cons_succ]); (try simp only [List.set_cons_zero]))
          refine wpAnyH_take (i := 15) (oi := _) (v := ?vr15) (by simp only [List.getElem?_toArray, List.getElem?_cons_succ, List.getElem?_cons_zero]; rfl) (by kernel_rfl) (by kernel_rfl) (by kernel_rfl) (by intro _ _ _ h; exact h) (Or.inl ⟨by rfl, ?hyr15⟩) (by assumption) ?restr15
          case hyr15 =>
            intro z hSz
            (try dsimp only at hSz)
            go_simp
            try with_reducible rfl
          ((try simp only [Act.put]); (try simp only [List.setIfInBounds_toArray]); (try simp only [List.set_cons_succ]); (try simp only [List.set_cons_zero]))
          refine wpAnyH_take (i := 16) (oi := _) (v := ?vr16) (by simp only [List.getElem?_toArray, List.getElem?_cons_succ, List.getElem?_cons_zero]; rfl) (by kernel_rfl) (by kernel_rfl) (by kernel_rfl) (by intro _ _ _ h; exact h) (Or.inl ⟨by rfl, ?hyr16⟩) (by assumption) ?restr16
          case hyr16 =>
            intro z hSz
            (try dsimp only at hSz)
            go_simp
            try with_reducible rfl
          ((try simp only [Act.put]); (try simp only [List.setIfInBounds_toArray]); (try simp only [List.set_cons_succ]); (try simp only [List.set_cons_zero]))
          refine wpAnyH_take (i := 17) (oi := _) (v := ?vr17) (by simp only [List.getElem?_toArray, List.getElem?_cons_succ, List.getElem?_cons_zero]; rfl) (by kernel_rfl) (by kernel_rfl) (by kernel_rfl) (by intro _ _ _ h; exact h) (Or.inl ⟨by rfl, ?hyr17⟩) (by assumption) ?restr17
          case hyr17 =>
            intro z hSz
            (try dsimp only at hSz)
            go_simp
            try with_reducible rfl
          ((try simp only [Act.put]); (try simp only [List.setIfInBounds_toArray]); (try simp only [List.set_cons_succ]); (try simp only [List.set_cons_zero]))
          refine wpAnyH_take (i := 18) (oi := _) (v := ?vr18) (by simp only [List.getElem?_toArray, List.getElem?_cons_succ, List.getElem?_cons_zero]; rfl) (by kernel_rfl) (by kernel_rfl) (by kernel_rfl) (by intro _ _ _ h; exact h) (Or.inl ⟨by rfl, ?hyr18⟩) (by assumption) ?restr18
          case hyr18 =>
            intro z hSz
            (try dsimp only at hSz)
            go_simp
            try with_reducible rfl
          ((try simp only [Act.put]); (try simp only [List.setIfInBounds_toArray]); (try simp only [List.set_cons_succ]); (try simp only [List.set_cons_zero]))
          refine wpAnyH_take (i := 19) (oi := _) (v := ?vr19) (by simp only [List.getElem?_toArray, List.getElem?_cons_succ, List.getElem?_cons_zero]; rfl) (by kernel_rfl) (by kernel_rfl) (by kernel_rfl) (by intro _ _ _ h; exact h) (Or.inl ⟨by rfl, ?hyr19⟩) (by assumption) ?restr19
          case hyr19 =>
            intro z hSz
            (try dsimp only at hSz)
            go_simp
            try with_reducible rfl
          ((try simp only [Act.put]); (try simp only [List.setIfInBounds_toArray]); (try simp only [List.set_cons_succ]); (try simp only [List.set_cons_zero]))
          refine wpAnyH_take (i := 20) (oi := _) (v := ?vr20) (by simp only [List.getElem?_toArray, List.getElem?_cons_succ, List.getElem?_cons_zero]; rfl) (by kernel_rfl) (by kernel_rfl) (by kernel_rfl) (by intro _ _ _ h; exact h) (Or.inl ⟨by rfl, ?hyr20⟩) (by assumption) ?restr20
          case hyr20 =>
            intro z hSz
            (try dsimp only at hSz)
            go_simp
            try with_reducible rfl
          ((try simp only [Act.put]); (try simp only [List.setIfInBounds_toArray]); (try simp only [List.set_cons_succ]); (try simp only [List.set_cons_zero]))
          refine wpAnyH_take (i := 21) (oi := _) (v := ?vr21) (by simp only [List.getElem?_toArray, List.getElem?_cons_succ, List.getElem?_cons_zero]; rfl) (by kernel_rfl) (by kernel_rfl) (by kernel_rfl) (by intro _ _ _ h; exact h) (Or.inl ⟨by rfl, ?hyr21⟩) (by assumption) ?restr21
          case hyr21 =>
            intro z hSz
            (try dsimp only at hSz)
            go_simp
            try with_reducible rfl
          ((try simp only [Act.put]); (try simp only [List.setIfInBounds_toArray]); (try simp only [List.set_cons_succ]); (try simp only [List.set_cons_zero]))
          refine wpAnyH_take (i := 22) (oi := _) (v := ?vr22) (by simp only [List.getElem?_toArray, List.getElem?_cons_succ, List.getElem?_cons_zero]; rfl) (by kernel_rfl) (by kernel_rfl) (by kernel_rfl) (by intro _ _ _ h; exact h) (Or.inl ⟨by rfl, ?hyr22⟩) (by assumption) ?restr22
          case hyr22 =>
            intro z hSz
            (try dsimp only at hSz)
            go_simp
            try with_reducible rfl
          ((try simp only [Act.put]); (try simp only [List.setIfInBounds_toArray]); (try simp only [List.set_cons_succ]); (try simp only [List.set_cons_zero]))
          refine wpAnyH_take (i := 23) (oi := _) (v := ?vr23) (by simp only [List.getElem?_toArray, List.getElem?_cons_succ, List.getElem?_cons_zero]; rfl) (by kernel_rfl) (by kernel_rfl) (by kernel_rfl) (by intro _ _ _ h; exact h) (Or.inl ⟨by rfl, ?hyr23⟩) (by assumption) ?restr23
          case hyr23 =>
            intro z hSz
            (try dsimp only at hSz)
            go_simp
            try with_reducible rfl
          ((try simp only [Act.put]); (try simp only [List.setIfInBounds_toArray]); (try simp only [List.set_cons_succ]); (try simp only [List.set_cons_zero]))
          refine wpAnyH_take (i := 24) (oi := _) (v := ?vr24) (by simp only [List.getElem?_toArray, List.getElem?_cons_succ, List.getElem?_cons_zero]; rfl) (by kernel_rfl) (by kernel_rfl) (by kernel_rfl) (by intro _ _ _ h; exact h) (Or.inl ⟨by rfl, ?hyr24⟩) (by assumption) ?restr24
          case hyr24 =>
            intro z hSz
            (try dsimp only at hSz)
            go_simp
            try with_reducible rfl
          ((try simp only [Act.put]); (try simp only [List.setIfInBounds_toArray]); (try simp only [List.set_cons_succ]); (try simp only [List.set_cons_zero]))
          refine wpAnyH_ready (rs := [1, 26]) (by kernel_rfl) (by simp) ?_
          refine AllReadyH.cons (o := _) (by simp only [List.getElem?_toArray, List.getElem?_cons_succ, List.getElem?_cons_zero]; rfl) (fun K hK => ?_) ?_
          · go_simp
            go_at_call 26
            refine (h0 _ (hu _ (And.right (And.right (And.right (And.right (And.right hHeld))))))).mono ?_
            rintro e wa0 ⟨rfl, hb0⟩
            refine hK.out _ _ (HU.out _ _ hHeld hb0) (fun hHeld => ?_)
            clear hb0
            clear hK K
            ((try simp only [Act.put]); (try simp only [List.setIfInBounds_toArray]); (try simp only [List.set_cons_succ]); (try simp only [List.set_cons_zero]))
            refine wpAnyH_ready (rs := [3, 26]) (by kernel_rfl) (by simp) ?_
            refine AllReadyH.cons (o := _) (by simp only [List.getElem?_toArray, List.getElem?_cons_succ, List.getElem?_cons_zero]; rfl) (fun K hK => ?_) ?_
            · go_simp
              go_at_call 26
              refine (h1 _ (hu _ (And.right (And.right (And.right (And.right (And.right hHeld))))))).mono ?_
              rintro e wa1 ⟨rfl, hb1⟩
              refine hK.out _ _ (HU.out _ _ hHeld hb1) (fun hHeld => ?_)
              clear hb1
              clear hK K
              ((try simp only [Act.put]); (try simp only [List.setIfInBounds_toArray]); (try simp only [List.set_cons_succ]); (try simp only [List.set_cons_zero]))
              refine wpAnyH_ready (rs := [5, 26]) (by kernel_rfl) (by simp) ?_
              refine AllReadyH.cons (o := _) (by simp only [List.getElem?_toArray, List.getElem?_cons_succ, List.getElem?_cons_zero]; rfl) (fun K hK => ?_) ?_
              · go_simp
                go_at_call 26
                refine (h2 _ (hu _ (And.right (And.right (And.right (And.right (And.right hHeld))))))).mono ?_
                rintro e wa2 ⟨rfl, hb2⟩
                refine hK.out _ _ (HU.out _ _ hHeld hb2) (fun hHeld => ?_)
                clear hb2
                clear hK K
                ((try simp only [Act.put]); (try simp only [List.setIfInBounds_toArray]); (try simp only [List.set_cons_succ]); (try simp only [List.set_cons_zero]))
                refine wpAnyH_ready (rs := [7, 26]) (by kernel_rfl) (by simp) ?_
                refine AllReadyH.cons (o := _) (by simp only [List.getElem?_toArray, List.getElem?_cons_succ, List.getElem?_cons_zero]; rfl) (fun K hK => ?_) ?_
                · go_simp
                  go_at_call 26
                  refine (h3 _ (hu _ (And.right (And.right (And.right (And.right (And.right hHeld))))))).mono ?_
                  rintro e wa3 ⟨rfl, hb3⟩
                  refine hK.out _ _ (HU.out _ _ hHeld hb3) (fun hHeld => ?_)
                  clear hb3
                  clear hK K
                  ((try simp only [Act.put]); (try simp only [List.setIfInBounds_toArray]); (try simp only [List.set_cons_succ]); (try simp only [List.set_cons_zero]))
                  refine wpAnyH_take (i := 25) (oi := _) (v := ?vn025) (by simp only [List.getElem?_toArray, List.getElem?_cons_succ, List.getElem?_cons_zero]; rfl) (by kernel_rfl) (by kernel_rfl) (by kernel_rfl) (by intro _ _ _ h; exact h) (Or.inl ⟨by rfl, ?hyn025⟩) (by assumption) ?restn025
                  case hyn025 =>
                    intro z hSz
                    (try dsimp only at hSz)
                    go_simp
                    try with_reducible rfl
                  ((try simp only [Act.put]); (try simp only [List.setIfInBounds_toArray]); (try simp only [List.set_cons_succ]); (try simp only [List.set_cons_zero]))
                  refine wpAnyH_ready (rs := [26]) (by kernel_rfl) (by simp) ?_
                  refine AllReadyH.cons (o := _) (by simp only [List.getElem?_toArray, List.getElem?_cons_succ, List.getElem?_cons_zero]; rfl) (fun K hK => ?_) ?_
                  · go_simp
                    have HSg := Lib.hid (Below.size (And.right (And.right (And.right (And.right (And.right hHeld))))))
                    have HIg := Lib.hid (St.Sp.In.new cmD wa3 Cm.zero)
                    refine hK.out _ _ (HU.out _ _ hHeld (bwalloc (Below.refl _ _) _)) (fun hHeld => ?_)
                    clear hK K
                    ((try simp only [Act.put]); (try simp only [List.setIfInBounds_toArray]); (try simp only [List.set_cons_succ]); (try simp only [List.set_cons_zero]))
                    refine wpAnyH_ready (rs := [27]) (by kernel_rfl) (by simp) ?_
                    refine AllReadyH.cons (o := _) (by simp only [List.getElem?_toArray, List.getElem?_cons_succ, List.getElem?_cons_zero]; rfl) (fun K hK => ?_) ?_
                    · rw [if_pos (by rfl)]
                      refine St.wp_storeS cmOk (c := cc) (c0 := Cm.zero) (.tmp 11) (.tmp 65) rfl rfl (congrArg Value.agg HCC.out) HIg.out ?_
                      intro w6 hs6
                      have HI6 := Lib.hid hs6.i
                      refine hK.out _ _ (HV.out _ _ _ hHeld HSg.out hs6) (fun hHeld => ?_)
                      clear hK K hs6
                      ((try simp only [Act.put]); (try simp only [List.setIfInBounds_toArray]); (try simp only [List.set_cons_succ]); (try simp only [List.set_cons_zero]))
                      refine wpAnyH_done (by kernel_rfl) ?_ _
                      have HB6 := Lib.hid (And.right (And.right (And.right (And.right (And.right hHeld)))))
                      clear hHeld
                      go_wp2_with fail
                      go_meet
                      case rel => exact ⟨_, rfl, HSg.out, HI6, HB6.out⟩
                    exact AllReadyH.nil
                  exact AllReadyH.nil
                refine AllReadyH.cons (o := _) (by simp only [List.getElem?_toArray, List.getElem?_cons_succ, List.getElem?_cons_zero]; rfl) (fun K hK => ?_) ?_
                · go_simp
                  have HSg := Lib.hid (Below.size (And.right (And.right (And.right (And.right (And.right hHeld))))))
                  have HIg := Lib.hid (St.Sp.In.new cmD wa2 Cm.zero)
                  refine hK.out _ _ (HU.out _ _ hHeld (bwalloc (Below.refl _ _) _)) (fun hHeld => ?_)
                  clear hK K
                  ((try simp only [Act.put]); (try simp only [List.setIfInBounds_toArray]); (try simp only [List.set_cons_succ]); (try simp only [List.set_cons_zero]))
                  refine wpAnyH_ready (rs := [7]) (by kernel_rfl) (by simp) ?_
                  refine AllReadyH.cons (o := _) (by simp only [List.getElem?_toArray, List.getElem?_cons_succ, List.getElem?_cons_zero]; rfl) (fun K hK => ?_) ?_
                  · go_simp
                    go_at_call 26
                    refine (h3 _ (hu _ (And.right (And.right (And.right (And.right (And.right hHeld))))))).mono ?_
                    rintro e wa3 ⟨rfl, hb3⟩
                    have HIg := Lib.hid (HIg.out.up hb3)
                    refine hK.out _ _ (HU.out _ _ hHeld hb3) (fun hHeld => ?_)
                    clear hb3
                    clear hK K
                    ((try simp only [Act.put]); (try simp only [List.setIfInBounds_toArray]); (try simp only [List.set_cons_succ]); (try simp only [List.set_cons_zero]))
                    refine wpAnyH_take (i := 25) (oi := _) (v := ?vn125) (by simp only [List.getElem?_toArray, List.getElem?_cons_succ, List.getElem?_cons_zero]; rfl) (by kernel_rfl) (by kernel_rfl) (by kernel_rfl) (by intro _ _ _ h; exact h) (Or.inl ⟨by rfl, ?hyn125⟩) (by assumption) ?restn125
                    case hyn125 =>
                      intro z hSz
                      (try dsimp only at hSz)
                      go_simp
                      try with_reducible rfl
                    ((try simp only [Act.put]); (try simp only [List.setIfInBounds_toArray]); (try simp only [List.set_cons_succ]); (try simp only [List.set_cons_zero]))
                    refine wpAnyH_ready (rs := [27]) (by kernel_rfl) (by simp) ?_
                    refine AllReadyH.cons (o := _) (by simp only [List.getElem?_toArray, List.getElem?_cons_succ, List.getElem?_cons_zero]; rfl) (fun K hK => ?_) ?_
                    · rw [if_pos (by rfl)]
                      refine St.wp_storeS cmOk (c := cc) (c0 := Cm.zero) (.tmp 11) (.tmp 65) rfl rfl (congrArg Value.agg HCC.out) HIg.out ?_
                      intro w6 hs6
                      have HI6 := Lib.hid hs6.i
                      refine hK.out _ _ (HV.out _ _ _ hHeld HSg.out hs6) (fun hHeld => ?_)
                      clear hK K hs6
                      ((try simp only [Act.put]); (try simp only [List.setIfInBounds_toArray]); (try simp only [List.set_cons_succ]); (try simp only [List.set_cons_zero]))
                      refine wpAnyH_done (by kernel_rfl) ?_ _
                      have HB6 := Lib.hid (And.right (And.right (And.right (And.right (And.right hHeld)))))
                      clear hHeld
                      go_wp2_with fail
                      go_meet
                      case rel => exact ⟨_, rfl, HSg.out, HI6, HB6.out⟩
                    exact AllReadyH.nil
                  exact AllReadyH.nil
                exact AllReadyH.nil
              refine AllReadyH.cons (o := _) (by simp only [List.getElem?_toArray, List.getElem?_cons_succ, List.getElem?_cons_zero]; rfl) (fun K hK => ?_) ?_
              · go_simp
                have HSg := Lib.hid (Below.size (And.right (And.right (And.right (And.right (And.right hHeld))))))
                have HIg := Lib.hid (St.Sp.In.new cmD wa1 Cm.zero)
                refine hK.out _ _ (HU.out _ _ hHeld (bwalloc (Below.refl _ _) _)) (fun hHeld => ?_)
                clear hK K
                ((try simp only [Act.put]); (try simp only [List.setIfInBounds_toArray]); (try simp only [List.set_cons_succ]); (try simp only [List.set_cons_zero]))
                refine wpAnyH_ready (rs := [5]) (by kernel_rfl) (by simp) ?_
                refine AllReadyH.cons (o := _) (by simp only [List.getElem?_toArray, List.getElem?_cons_succ, List.getElem?_cons_zero]; rfl) (fun K hK => ?_) ?_
                · go_simp
                  go_at_call 26
                  refine (h2 _ (hu _ (And.right (And.right (And.right (And.right (And.right hHeld))))))).mono ?_
                  rintro e wa2 ⟨rfl, hb2⟩
                  have HIg := Lib.hid (HIg.out.up hb2)
                  refine hK.out _ _ (HU.out _ _ hHeld hb2) (fun hHeld => ?_)
                  clear hb2
                  clear hK K
                  ((try simp only [Act.put]); (try simp only [List.setIfInBounds_toArray]); (try simp only [List.set_cons_succ]); (try simp only [List.set_cons_zero]))
                  refine wpAnyH_ready (rs := [7]) (by kernel_rfl) (by simp) ?_
                  refine AllReadyH.cons (o := _) (by simp only [List.getElem?_toArray, List.getElem?_cons_succ, List.getElem?_cons_zero]; rfl) (fun K hK => ?_) ?_
                  · go_simp
                    go_at_call 26
                    refine (h3 _ (hu _ (And.right (And.right (And.right (And.right (And.right hHeld))))))).mono ?_
                    rintro e wa3 ⟨rfl, hb3⟩
                    have HIg := Lib.hid (HIg.out.up hb3)
                    refine hK.out _ _ (HU.out _ _ hHeld hb3) (fun hHeld => ?_)
                    clear hb3
                    clear hK K
                    ((try simp only [Act.put]); (try simp only [List.setIfInBounds_toArray]); (try simp only [List.set_cons_succ]); (try simp only [List.set_cons_zero]))
                    refine wpAnyH_take (i := 25) (oi := _) (v := ?vn225) (by simp only [List.getElem?_toArray, List.getElem?_cons_succ, List.getElem?_cons_zero]; rfl) (by kernel_rfl) (by kernel_rfl) (by kernel_rfl) (by intro _ _ _ h; exact h) (Or.inl ⟨by rfl, ?hyn225⟩) (by assumption) ?restn225
                    case hyn225 =>
                      intro z hSz
                      (try dsimp only at hSz)
                      go_simp
                      try with_reducible rfl
                    ((try simp only [Act.put]); (try simp only [List.setIfInBounds_toArray]); (try simp only [List.set_cons_succ]); (try simp only [List.set_cons_zero]))
                    refine wpAnyH_ready (rs := [27]) (by kernel_rfl) (by simp) ?_
                    refine AllReadyH.cons (o := _) (by simp only [List.getElem?_toArray, List.getElem?_cons_succ, List.getElem?_cons_zero]; rfl) (fun K hK => ?_) ?_
                    · rw [if_pos (by rfl)]
                      refine St.wp_storeS cmOk (c := cc) (c0 := Cm.zero) (.tmp 11) (.tmp 65) rfl rfl (congrArg Value.agg HCC.out) HIg.out ?_
                      intro w6 hs6
                      have HI6 := Lib.hid hs6.i
                      refine hK.out _ _ (HV.out _ _ _ hHeld HSg.out hs6) (fun hHeld => ?_)
                      clear hK K hs6
                      ((try simp only [Act.put]); (try simp only [List.setIfInBounds_toArray]); (try simp only [List.set_cons_succ]); (try simp only [List.set_cons_zero]))
                      refine wpAnyH_done (by kernel_rfl) ?_ _
                      have HB6 := Lib.hid (And.right (And.right (And.right (And.right (And.right hHeld)))))
                      clear hHeld
                      go_wp2_with fail
                      go_meet
                      case rel => exact ⟨_, rfl, HSg.out, HI6, HB6.out⟩
                    exact AllReadyH.nil
                  exact AllReadyH.nil
                exact AllReadyH.nil
              exact AllReadyH.nil
            refine AllReadyH.cons (o := _) (by simp only [List.getElem?_toArray, List.getElem?_cons_succ, List.getElem?_cons_zero]; rfl) (fun K hK => ?_) ?_
            · go_simp
              have HSg := Lib.hid (Below.size (And.right (And.right (And.right (And.right (And.right hHeld))))))
              have HIg := Lib.hid (St.Sp.In.new cmD wa0 Cm.zero)
              refine hK.out _ _ (HU.out _ _ hHeld (bwalloc (Below.refl _ _) _)) (fun hHeld => ?_)
              clear hK K
              ((try simp only [Act.put]); (try simp only [List.setIfInBounds_toArray]); (try simp only [List.set_cons_succ]); (try simp only [List.set_cons_zero]))
              refine wpAnyH_ready (rs := [3]) (by kernel_rfl) (by simp) ?_
              refine AllReadyH.cons (o := _) (by simp only [List.getElem?_toArray, List.getElem?_cons_succ, List.getElem?_cons_zero]; rfl) (fun K hK => ?_) ?_
              · go_simp
                go_at_call 26
                refine (h1 _ (hu _ (And.right (And.right (And.right (And.right (And.right hHeld))))))).mono ?_
                rintro e wa1 ⟨rfl, hb1⟩
                have HIg := Lib.hid (HIg.out.up hb1)
                refine hK.out _ _ (HU.out _ _ hHeld hb1) (fun hHeld => ?_)
                clear hb1
                clear hK K
                ((try simp only [Act.put]); (try simp only [List.setIfInBounds_toArray]); (try simp only [List.set_cons_succ]); (try simp only [List.set_cons_zero]))
                refine wpAnyH_ready (rs := [5]) (by kernel_rfl) (by simp) ?_
                refine AllReadyH.cons (o := _) (by simp only [List.getElem?_toArray, List.getElem?_cons_succ, List.getElem?_cons_zero]; rfl) (fun K hK => ?_) ?_
                · go_simp
                  go_at_call 26
                  refine (h2 _ (hu _ (And.right (And.right (And.right (And.right (And.right hHeld))))))).mono ?_
                  rintro e wa2 ⟨rfl, hb2⟩
                  have HIg := Lib.hid (HIg.out.up hb2)
                  refine hK.out _ _ (HU.out _ _ hHeld hb2) (fun hHeld => ?_)
                  clear hb2
                  clear hK K
                  ((try simp only [Act.put]); (try simp only [List.setIfInBounds_toArray]); (try simp only [List.set_cons_succ]); (try simp only [List.set_cons_zero]))
                  refine wpAnyH_ready (rs := [7]) (by kernel_rfl) (by simp) ?_
                  refine AllReadyH.cons (o := _) (by simp only [List.getElem?_toArray, List.getElem?_cons_succ, List.getElem?_cons_zero]; rfl) (fun K hK => ?_) ?_
                  · go_simp
                    go_at_call 26
                    refine (h3 _ (hu _ (And.right (And.right (And.right (And.right (And.right hHeld))))))).mono ?_
                    rintro e wa3 ⟨rfl, hb3⟩
                    have HIg := Lib.hid (HIg.out.up hb3)
                    refine hK.out _ _ (HU.out _ _ hHeld hb3) (fun hHeld => ?_)
                    clear hb3
                    clear hK K
                    ((try simp only [Act.put]); (try simp only [List.setIfInBounds_toArray]); (try simp only [List.set_cons_succ]); (try simp only [List.set_cons_zero]))
                    refine wpAnyH_take (i := 25) (oi := _) (v := ?vn325) (by simp only [List.getElem?_toArray, List.getElem?_cons_succ, List.getElem?_cons_zero]; rfl) (by kernel_rfl) (by kernel_rfl) (by kernel_rfl) (by intro _ _ _ h; exact h) (Or.inl ⟨by rfl, ?hyn325⟩) (by assumption) ?restn325
                    case hyn325 =>
                      intro z hSz
                      (try dsimp only at hSz)
                      go_simp
                      try with_reducible rfl
                    ((try simp only [Act.put]); (try simp only [List.setIfInBounds_toArray]); (try simp only [List.set_cons_succ]); (try simp only [List.set_cons_zero]))
                    refine wpAnyH_ready (rs := [27]) (by kernel_rfl) (by simp) ?_
                    refine AllReadyH.cons (o := _) (by simp only [List.getElem?_toArray, List.getElem?_cons_succ, List.getElem?_cons_zero]; rfl) (fun K hK => ?_) ?_
                    · rw [if_pos (by rfl)]
                      refine St.wp_storeS cmOk (c := cc) (c0 := Cm.zero) (.tmp 11) (.tmp 65) rfl rfl (congrArg Value.agg HCC.out) HIg.out ?_
                      intro w6 hs6
                      have HI6 := Lib.hid hs6.i
                      refine hK.out _ _ (HV.out _ _ _ hHeld HSg.out hs6) (fun hHeld => ?_)
                      clear hK K hs6
                      ((try simp only [Act.put]); (try simp only [List.setIfInBounds_toArray]); (try simp only [List.set_cons_succ]); (try simp only [List.set_cons_zero]))
                      refine wpAnyH_done (by kernel_rfl) ?_ _
                      have HB6 := Lib.hid (And.right (And.right (And.right (And.right (And.right hHeld)))))
                      clear hHeld
                      go_wp2_with fail
                      go_meet
                      case rel => exact ⟨_, rfl, HSg.out, HI6, HB6.out⟩
                    exact AllReadyH.nil
                  exact AllReadyH.nil
                exact AllReadyH.nil
              exact AllReadyH.nil
            exact AllReadyH.nil
          refine AllReadyH.cons (o := _) (by simp only [List.getElem?_toArray, List.getElem?_cons_succ, List.getElem?_cons_zero]; rfl) (fun K hK => ?_) ?_
          · go_simp
            have HSg := Lib.hid (Below.size (And.right (And.right (And.right (And.right (And.right hHeld))))))
            have HIg := Lib.hid (St.Sp.In.new cmD wz Cm.zero)
            refine hK.out _ _ (HU.out _ _ hHeld (bwalloc (Below.refl _ _) _)) (fun hHeld => ?_)
            clear hK K
            ((try simp only [Act.put]); (try simp only [List.setIfInBounds_toArray]); (try simp only [List.set_cons_succ]); (try simp only [List.set_cons_zero]))
            refine wpAnyH_ready (rs := [1]) (by kernel_rfl) (by simp) ?_
            refine AllReadyH.cons (o := _) (by simp only [List.getElem?_toArray, List.getElem?_cons_succ, List.getElem?_cons_zero]; rfl) (fun K hK => ?_) ?_
            · go_simp
              go_at_call 26
              refine (h0 _ (hu _ (And.right (And.right (And.right (And.right (And.right hHeld))))))).mono ?_
              rintro e wa0 ⟨rfl, hb0⟩
              have HIg := Lib.hid (HIg.out.up hb0)
              refine hK.out _ _ (HU.out _ _ hHeld hb0) (fun hHeld => ?_)
              clear hb0
              clear hK K
              ((try simp only [Act.put]); (try simp only [List.setIfInBounds_toArray]); (try simp only [List.set_cons_succ]); (try simp only [List.set_cons_zero]))
              refine wpAnyH_ready (rs := [3]) (by kernel_rfl) (by simp) ?_
              refine AllReadyH.cons (o := _) (by simp only [List.getElem?_toArray, List.getElem?_cons_succ, List.getElem?_cons_zero]; rfl) (fun K hK => ?_) ?_
              · go_simp
                go_at_call 26
                refine (h1 _ (hu _ (And.right (And.right (And.right (And.right (And.right hHeld))))))).mono ?_
                rintro e wa1 ⟨rfl, hb1⟩
                have HIg := Lib.hid (HIg.out.up hb1)
                refine hK.out _ _ (HU.out _ _ hHeld hb1) (fun hHeld => ?_)
                clear hb1
                clear hK K
                ((try simp only [Act.put]); (try simp only [List.setIfInBounds_toArray]); (try simp only [List.set_cons_succ]); (try simp only [List.set_cons_zero]))
                refine wpAnyH_ready (rs := [5]) (by kernel_rfl) (by simp) ?_
                refine AllReadyH.cons (o := _) (by simp only [List.getElem?_toArray, List.getElem?_cons_succ, List.getElem?_cons_zero]; rfl) (fun K hK => ?_) ?_
                · go_simp
                  go_at_call 26
                  refine (h2 _ (hu _ (And.right (And.right (And.right (And.right (And.right hHeld))))))).mono ?_
                  rintro e wa2 ⟨rfl, hb2⟩
                  have HIg := Lib.hid (HIg.out.up hb2)
                  refine hK.out _ _ (HU.out _ _ hHeld hb2) (fun hHeld => ?_)
                  clear hb2
                  clear hK K
                  ((try simp only [Act.put]); (try simp only [List.setIfInBounds_toArray]); (try simp only [List.set_cons_succ]); (try simp only [List.set_cons_zero]))
                  refine wpAnyH_ready (rs := [7]) (by kernel_rfl) (by simp) ?_
                  refine AllReadyH.cons (o := _) (by simp only [List.getElem?_toArray, List.getElem?_cons_succ, List.getElem?_cons_zero]; rfl) (fun K hK => ?_) ?_
                  · go_simp
                    go_at_call 26
                    refine (h3 _ (hu _ (And.right (And.right (And.right (And.right (And.right hHeld))))))).mono ?_
                    rintro e wa3 ⟨rfl, hb3⟩
                    have HIg := Lib.hid (HIg.out.up hb3)
                    refine hK.out _ _ (HU.out _ _ hHeld hb3) (fun hHeld => ?_)
                    clear hb3
                    clear hK K
                    ((try simp only [Act.put]); (try simp only [List.setIfInBounds_toArray]); (try simp only [List.set_cons_succ]); (try simp only [List.set_cons_zero]))
                    refine wpAnyH_take (i := 25) (oi := _) (v := ?vn425) (by simp only [List.getElem?_toArray, List.getElem?_cons_succ, List.getElem?_cons_zero]; rfl) (by kernel_rfl) (by kernel_rfl) (by kernel_rfl) (by intro _ _ _ h; exact h) (Or.inl ⟨by rfl, ?hyn425⟩) (by assumption) ?restn425
                    case hyn425 =>
                      intro z hSz
                      (try dsimp only at hSz)
                      go_simp
                      try with_reducible rfl
                    ((try simp only [Act.put]); (try simp only [List.setIfInBounds_toArray]); (try simp only [List.set_cons_succ]); (try simp only [List.set_cons_zero]))
                    refine wpAnyH_ready (rs := [27]) (by kernel_rfl) (by simp) ?_
                    refine AllReadyH.cons (o := _) (by simp only [List.getElem?_toArray, List.getElem?_cons_succ, List.getElem?_cons_zero]; rfl) (fun K hK => ?_) ?_
                    · rw [if_pos (by rfl)]
                      refine St.wp_storeS cmOk (c := cc) (c0 := Cm.zero) (.tmp 11) (.tmp 65) rfl rfl (congrArg Value.agg HCC.out) HIg.out ?_
                      intro w6 hs6
                      have HI6 := Lib.hid hs6.i
                      refine hK.out _ _ (HV.out _ _ _ hHeld HSg.out hs6) (fun hHeld => ?_)
                      clear hK K hs6
                      ((try simp only [Act.put]); (try simp only [List.setIfInBounds_toArray]); (try simp only [List.set_cons_succ]); (try simp only [List.set_cons_zero]))
                      refine wpAnyH_done (by kernel_rfl) ?_ _
                      have HB6 := Lib.hid (And.right (And.right (And.right (And.right (And.right hHeld)))))
                      clear hHeld
                      go_wp2_with fail
                      go_meet
                      case rel => exact ⟨_, rfl, HSg.out, HI6, HB6.out⟩
                    exact AllReadyH.nil
                  exact AllReadyH.nil
                exact AllReadyH.nil
              exact AllReadyH.nil
            exact AllReadyH.nil
          exact AllReadyH.nil
        case rest =>
          obtain ⟨g, rfl, hg, hIc, hbc⟩ := hcut
          have HB3' := Lib.hid (bwstep HB1.out HB3.out)
          have HBc := Lib.hid (bwstep HB3'.out hbc)
          have HNE : Hid (g ≠ w.heap.size) := Lib.hid (by have := HB3.out.size; omega)
          have HT := Lib.hid (s16_of (w := w) (z := wc.drew) (hIc.out.kept rfl) ⟨Cm.zero, ((HI1.out.up HB3.out).up hbc).kept rfl⟩ (bwstep HBc.out (Below.refl _ _).drew))
          have hrr := fun w => rright15_any cc w
          clear hIc hbc
          by_cases hk : k = l.length
          · have hki : ((k : Int) == l.length) = true := by simp [hk]
            by_cases h4 : n4 ≤ 1
            · have h4i : (n4 : Int) ≤ 1 := by omega
              have HR : Hid ((decide cc.Right = true → IsCmd l cc) ∧ (decide cc.Right = false → ∀ c, ¬ IsCmd l c)) := Lib.hid ⟨fun h => (HGI.out cc).2 ⟨rfl, hk, h4, (of_decide_eq_true h : cc.Right)⟩, fun h c q => (of_decide_eq_false h : ¬ cc.Right) ((HGI.out c).1 q).2.2.2⟩
              clear hk h4
              go_wp2_with fail
              refine wp_region_held_drew (S := fun z => cmD.In g cc z ∧ z.cell? ⟨g, 0, none⟩ = some (.int .i64 cc.client) ∧ z.cell? ⟨g, 1, none⟩ = some (.int .i64 cc.seq) ∧ z.cell? ⟨g, 2, none⟩ = some (.int .i64 cc.kind) ∧ z.cell? ⟨g, 3, none⟩ = some (.string cc.row) ∧ z.cell? ⟨g, 4, none⟩ = some (.string cc.col) ∧ z.cell? ⟨g, 5, none⟩ = some (.string cc.to_) ∧ z.cell? ⟨g, 6, none⟩ = some (.int .i64 cc.at_) ∧ z.cell? ⟨g, 7, none⟩ = some (.string cc.value) ∧ z.cell? ⟨g, 8, none⟩ = some (.string cc.expect) ∧ z.cell? ⟨g, 9, none⟩ = some (.bool cc.has) ∧ (∃ c0, cmD.In w.heap.size c0 z) ∧ Below w.heap.size w z) (by kernel_rfl) HT.out (fun hHeld => ?_)
              refine wpAnyH_take (i := 0) (oi := _) (v := ?vp0) (by simp only [List.getElem?_toArray, List.getElem?_cons_zero]; rfl) (by kernel_rfl) (by kernel_rfl) (by kernel_rfl) (by intro _ _ _ h; exact h) (Or.inl ⟨by rfl, ?hyp0⟩) (by assumption) ?restp0
              case hyp0 =>
                intro z hSz
                (try dsimp only at hSz)
                go_simp
                try with_reducible rfl
              ((try simp only [Act.put]); (try simp only [List.setIfInBounds_toArray]); (try simp only [List.set_cons_succ]); (try simp only [List.set_cons_zero]))
              refine wpAnyH_take (i := 1) (oi := _) (v := ?vp1) (by simp only [List.getElem?_toArray, List.getElem?_cons_succ, List.getElem?_cons_zero]; rfl) (by kernel_rfl) (by kernel_rfl) (by kernel_rfl) (by intro _ _ _ h; exact h) (Or.inl ⟨by rfl, ?hyp1⟩) (by assumption) ?restp1
              case hyp1 =>
                intro z hSz
                (try dsimp only at hSz)
                go_simp
                try with_reducible rfl
              ((try simp only [Act.put]); (try simp only [List.setIfInBounds_toArray]); (try simp only [List.set_cons_succ]); (try simp only [List.set_cons_zero]))
              refine wpAnyH_take (i := 2) (oi := _) (v := ?vp2) (by simp only [List.getElem?_toArray, List.getElem?_cons_succ, List.getElem?_cons_zero]; rfl) (by kernel_rfl) (by kernel_rfl) (by kernel_rfl) (by intro _ _ _ h; exact h) (Or.inl ⟨by rfl, ?hyp2⟩) (by assumption) ?restp2
              case hyp2 =>
                intro z hSz
                (try dsimp only at hSz)
                go_simp
                try with_reducible rfl
              ((try simp only [Act.put]); (try simp only [List.setIfInBounds_toArray]); (try simp only [List.set_cons_succ]); (try simp only [List.set_cons_zero]))
              refine wpAnyH_take (i := 3) (oi := _) (v := ?vp3) (by simp only [List.getElem?_toArray, List.getElem?_cons_succ, List.getElem?_cons_zero]; rfl) (by kernel_rfl) (by kernel_rfl) (by kernel_rfl) (by intro _ _ _ h; exact h) (Or.inl ⟨by rfl, ?hyp3⟩) (by assumption) ?restp3
              case hyp3 =>
                intro z hSz
                (try dsimp only at hSz)
                go_simp
                try with_reducible rfl
              ((try simp only [Act.put]); (try simp only [List.setIfInBounds_toArray]); (try simp only [List.set_cons_succ]); (try simp only [List.set_cons_zero]))
              refine wpAnyH_take (i := 4) (oi := _) (v := ?vp4) (by simp only [List.getElem?_toArray, List.getElem?_cons_succ, List.getElem?_cons_zero]; rfl) (by kernel_rfl) (by kernel_rfl) (by kernel_rfl) (by intro _ _ _ h; exact h) (Or.inl ⟨by rfl, ?hyp4⟩) (by assumption) ?restp4
              case hyp4 =>
                intro z hSz
                (try dsimp only at hSz)
                go_simp
                try with_reducible rfl
              ((try simp only [Act.put]); (try simp only [List.setIfInBounds_toArray]); (try simp only [List.set_cons_succ]); (try simp only [List.set_cons_zero]))
              refine wpAnyH_take (i := 5) (oi := _) (v := ?vp5) (by simp only [List.getElem?_toArray, List.getElem?_cons_succ, List.getElem?_cons_zero]; rfl) (by kernel_rfl) (by kernel_rfl) (by kernel_rfl) (by intro _ _ _ h; exact h) (Or.inl ⟨by rfl, ?hyp5⟩) (by assumption) ?restp5
              case hyp5 =>
                intro z hSz
                (try dsimp only at hSz)
                go_simp
                try with_reducible rfl
              ((try simp only [Act.put]); (try simp only [List.setIfInBounds_toArray]); (try simp only [List.set_cons_succ]); (try simp only [List.set_cons_zero]))
              refine wpAnyH_take (i := 6) (oi := _) (v := ?vp6) (by simp only [List.getElem?_toArray, List.getElem?_cons_succ, List.getElem?_cons_zero]; rfl) (by kernel_rfl) (by kernel_rfl) (by kernel_rfl) (by intro _ _ _ h; exact h) (Or.inl ⟨by rfl, ?hyp6⟩) (by assumption) ?restp6
              case hyp6 =>
                intro z hSz
                (try dsimp only at hSz)
                go_simp
                try with_reducible rfl
              ((try simp only [Act.put]); (try simp only [List.setIfInBounds_toArray]); (try simp only [List.set_cons_succ]); (try simp only [List.set_cons_zero]))
              refine wpAnyH_take (i := 7) (oi := _) (v := ?vp7) (by simp only [List.getElem?_toArray, List.getElem?_cons_succ, List.getElem?_cons_zero]; rfl) (by kernel_rfl) (by kernel_rfl) (by kernel_rfl) (by intro _ _ _ h; exact h) (Or.inl ⟨by rfl, ?hyp7⟩) (by assumption) ?restp7
              case hyp7 =>
                intro z hSz
                (try dsimp only at hSz)
                go_simp
                try with_reducible rfl
              ((try simp only [Act.put]); (try simp only [List.setIfInBounds_toArray]); (try simp only [List.set_cons_succ]); (try simp only [List.set_cons_zero]))
              refine wpAnyH_take (i := 8) (oi := _) (v := ?vp8) (by simp only [List.getElem?_toArray, List.getElem?_cons_succ, List.getElem?_cons_zero]; rfl) (by kernel_rfl) (by kernel_rfl) (by kernel_rfl) (by intro _ _ _ h; exact h) (Or.inl ⟨by rfl, ?hyp8⟩) (by assumption) ?restp8
              case hyp8 =>
                intro z hSz
                (try dsimp only at hSz)
                go_simp
                try with_reducible rfl
              ((try simp only [Act.put]); (try simp only [List.setIfInBounds_toArray]); (try simp only [List.set_cons_succ]); (try simp only [List.set_cons_zero]))
              refine wpAnyH_take (i := 9) (oi := _) (v := ?vp9) (by simp only [List.getElem?_toArray, List.getElem?_cons_succ, List.getElem?_cons_zero]; rfl) (by kernel_rfl) (by kernel_rfl) (by kernel_rfl) (by intro _ _ _ h; exact h) (Or.inl ⟨by rfl, ?hyp9⟩) (by assumption) ?restp9
              case hyp9 =>
                intro z hSz
                (try dsimp only at hSz)
                go_simp
                try with_reducible rfl
              ((try simp only [Act.put]); (try simp only [List.setIfInBounds_toArray]); (try simp only [List.set_cons_succ]); (try simp only [List.set_cons_zero]))
              refine wpAnyH_take (i := 10) (oi := _) (v := ?vp10) (by simp only [List.getElem?_toArray, List.getElem?_cons_succ, List.getElem?_cons_zero]; rfl) (by kernel_rfl) (by kernel_rfl) (by kernel_rfl) (by intro _ _ _ h; exact h) (Or.inl ⟨by rfl, ?hyp10⟩) (by assumption) ?restp10
              case hyp10 =>
                intro z hSz
                (try dsimp only at hSz)
                go_simp
                try with_reducible rfl
              ((try simp only [Act.put]); (try simp only [List.setIfInBounds_toArray]); (try simp only [List.set_cons_succ]); (try simp only [List.set_cons_zero]))
              refine wpAnyH_ready (rs := [11]) (by kernel_rfl) (by simp) ?_
              refine AllReadyH.cons (o := _) (by simp only [List.getElem?_toArray, List.getElem?_cons_succ, List.getElem?_cons_zero]; rfl) (fun K hK => ?_) AllReadyH.nil
              go_simp
              go_at_call 11
              refine (hrr _).mono ?_
              rintro e wx ⟨rfl, hbx⟩
              refine hK.out _ _ (s16_up hHeld hbx) (fun hHeld => ?_)
              clear hK K
              ((try simp only [Act.put]); (try simp only [List.setIfInBounds_toArray]); (try simp only [List.set_cons_succ]); (try simp only [List.set_cons_zero]))
              refine wpAnyH_take (i := 12) (oi := _) (v := ?vp12) (by simp only [List.getElem?_toArray, List.getElem?_cons_succ, List.getElem?_cons_zero]; rfl) (by kernel_rfl) (by kernel_rfl) (by kernel_rfl) (by intro _ _ _ h; exact h) (Or.inl ⟨by rfl, ?hyp12⟩) (by assumption) ?restp12
              case hyp12 =>
                intro z hSz
                (try dsimp only at hSz)
                go_simp
                try with_reducible rfl
              ((try simp only [Act.put]); (try simp only [List.setIfInBounds_toArray]); (try simp only [List.set_cons_succ]); (try simp only [List.set_cons_zero]))
              refine wpAnyH_ready (rs := [13]) (by kernel_rfl) (by simp) ?_
              refine AllReadyH.cons (o := _) (by simp only [List.getElem?_toArray, List.getElem?_cons_succ, List.getElem?_cons_zero]; rfl) (fun K hK => ?_) AllReadyH.nil
              rw [if_pos (by rfl)]
              obtain ⟨c0, hc0⟩ := hHeld.2.2.2.2.2.2.2.2.2.2.2.1
              refine St.wp_storeS cmOk (c := cc) (c0 := c0) (.tmp 2) (.tmp 66) rfl rfl rfl hc0 ?_
              intro w6 hs6
              have HI6 := Lib.hid hs6.i
              have HB6 := Lib.hid (hs6.bel hHeld.2.2.2.2.2.2.2.2.2.2.2.2 (Nat.le_refl _))
              refine hK.out _ _ (s16_of (hs6.up hHeld.1 HNE.out) ⟨_, hs6.i⟩ HB6.out) (fun hHeld => ?_)
              clear hK K
              ((try simp only [Act.put]); (try simp only [List.setIfInBounds_toArray]); (try simp only [List.set_cons_succ]); (try simp only [List.set_cons_zero]))
              refine wpAnyH_take (i := 14) (oi := _) (v := ?vp14) (by simp only [List.getElem?_toArray, List.getElem?_cons_succ, List.getElem?_cons_zero]; rfl) (by kernel_rfl) (by kernel_rfl) (by kernel_rfl) (by intro _ _ _ h; exact h) (Or.inl ⟨by rfl, ?hyp14⟩) (by assumption) ?restp14
              case hyp14 =>
                intro z hSz
                (try dsimp only at hSz)
                go_simp
                try with_reducible rfl
              ((try simp only [Act.put]); (try simp only [List.setIfInBounds_toArray]); (try simp only [List.set_cons_succ]); (try simp only [List.set_cons_zero]))
              refine wpAnyH_done (by kernel_rfl) ?_ _
              clear hHeld
              go_wp2_with fail
              refine bodyPost_ret (St.res2 cmOk Tryd.results16 rfl HI6.out) rfl ⟨⟨cc, _, rfl, HR.out.1, HR.out.2⟩, HB6.out⟩
            · have h4i : decide ((n4 : Int) ≤ 1) = false := decide_eq_false (by omega)
              have HR : Hid (∀ c, ¬ IsCmd l c) := Lib.hid fun c q => h4 ((HGI.out c).1 q).2.2.1
              clear hk h4 hrr
              go_wp2_with fail
              refine wp_region_held_drew (S := fun z => cmD.In g cc z ∧ z.cell? ⟨g, 0, none⟩ = some (.int .i64 cc.client) ∧ z.cell? ⟨g, 1, none⟩ = some (.int .i64 cc.seq) ∧ z.cell? ⟨g, 2, none⟩ = some (.int .i64 cc.kind) ∧ z.cell? ⟨g, 3, none⟩ = some (.string cc.row) ∧ z.cell? ⟨g, 4, none⟩ = some (.string cc.col) ∧ z.cell? ⟨g, 5, none⟩ = some (.string cc.to_) ∧ z.cell? ⟨g, 6, none⟩ = some (.int .i64 cc.at_) ∧ z.cell? ⟨g, 7, none⟩ = some (.string cc.value) ∧ z.cell? ⟨g, 8, none⟩ = some (.string cc.expect) ∧ z.cell? ⟨g, 9, none⟩ = some (.bool cc.has) ∧ (∃ c0, cmD.In w.heap.size c0 z) ∧ Below w.heap.size w z) (by kernel_rfl) HT.out (fun hHeld => ?_)
              refine wpAnyH_take (i := 0) (oi := _) (v := ?vq0) (by simp only [List.getElem?_toArray, List.getElem?_cons_zero]; rfl) (by kernel_rfl) (by kernel_rfl) (by kernel_rfl) (by intro _ _ _ h; exact h) (Or.inl ⟨by rfl, ?hyq0⟩) (by assumption) ?restq0
              case hyq0 =>
                intro z hSz
                (try dsimp only at hSz)
                go_simp
                try with_reducible rfl
              ((try simp only [Act.put]); (try simp only [List.setIfInBounds_toArray]); (try simp only [List.set_cons_succ]); (try simp only [List.set_cons_zero]))
              refine wpAnyH_take (i := 1) (oi := _) (v := ?vq1) (by simp only [List.getElem?_toArray, List.getElem?_cons_succ, List.getElem?_cons_zero]; rfl) (by kernel_rfl) (by kernel_rfl) (by kernel_rfl) (by intro _ _ _ h; exact h) (Or.inl ⟨by rfl, ?hyq1⟩) (by assumption) ?restq1
              case hyq1 =>
                intro z hSz
                (try dsimp only at hSz)
                go_simp
                try with_reducible rfl
              ((try simp only [Act.put]); (try simp only [List.setIfInBounds_toArray]); (try simp only [List.set_cons_succ]); (try simp only [List.set_cons_zero]))
              refine wpAnyH_take (i := 2) (oi := _) (v := ?vq2) (by simp only [List.getElem?_toArray, List.getElem?_cons_succ, List.getElem?_cons_zero]; rfl) (by kernel_rfl) (by kernel_rfl) (by kernel_rfl) (by intro _ _ _ h; exact h) (Or.inl ⟨by rfl, ?hyq2⟩) (by assumption) ?restq2
              case hyq2 =>
                intro z hSz
                (try dsimp only at hSz)
                go_simp
                try with_reducible rfl
              ((try simp only [Act.put]); (try simp only [List.setIfInBounds_toArray]); (try simp only [List.set_cons_succ]); (try simp only [List.set_cons_zero]))
              refine wpAnyH_take (i := 3) (oi := _) (v := ?vq3) (by simp only [List.getElem?_toArray, List.getElem?_cons_succ, List.getElem?_cons_zero]; rfl) (by kernel_rfl) (by kernel_rfl) (by kernel_rfl) (by intro _ _ _ h; exact h) (Or.inl ⟨by rfl, ?hyq3⟩) (by assumption) ?restq3
              case hyq3 =>
                intro z hSz
                (try dsimp only at hSz)
                go_simp
                try with_reducible rfl
              ((try simp only [Act.put]); (try simp only [List.setIfInBounds_toArray]); (try simp only [List.set_cons_succ]); (try simp only [List.set_cons_zero]))
              refine wpAnyH_take (i := 4) (oi := _) (v := ?vq4) (by simp only [List.getElem?_toArray, List.getElem?_cons_succ, List.getElem?_cons_zero]; rfl) (by kernel_rfl) (by kernel_rfl) (by kernel_rfl) (by intro _ _ _ h; exact h) (Or.inl ⟨by rfl, ?hyq4⟩) (by assumption) ?restq4
              case hyq4 =>
                intro z hSz
                (try dsimp only at hSz)
                go_simp
                try with_reducible rfl
              ((try simp only [Act.put]); (try simp only [List.setIfInBounds_toArray]); (try simp only [List.set_cons_succ]); (try simp only [List.set_cons_zero]))
              refine wpAnyH_take (i := 5) (oi := _) (v := ?vq5) (by simp only [List.getElem?_toArray, List.getElem?_cons_succ, List.getElem?_cons_zero]; rfl) (by kernel_rfl) (by kernel_rfl) (by kernel_rfl) (by intro _ _ _ h; exact h) (Or.inl ⟨by rfl, ?hyq5⟩) (by assumption) ?restq5
              case hyq5 =>
                intro z hSz
                (try dsimp only at hSz)
                go_simp
                try with_reducible rfl
              ((try simp only [Act.put]); (try simp only [List.setIfInBounds_toArray]); (try simp only [List.set_cons_succ]); (try simp only [List.set_cons_zero]))
              refine wpAnyH_take (i := 6) (oi := _) (v := ?vq6) (by simp only [List.getElem?_toArray, List.getElem?_cons_succ, List.getElem?_cons_zero]; rfl) (by kernel_rfl) (by kernel_rfl) (by kernel_rfl) (by intro _ _ _ h; exact h) (Or.inl ⟨by rfl, ?hyq6⟩) (by assumption) ?restq6
              case hyq6 =>
                intro z hSz
                (try dsimp only at hSz)
                go_simp
                try with_reducible rfl
              ((try simp only [Act.put]); (try simp only [List.setIfInBounds_toArray]); (try simp only [List.set_cons_succ]); (try simp only [List.set_cons_zero]))
              refine wpAnyH_take (i := 7) (oi := _) (v := ?vq7) (by simp only [List.getElem?_toArray, List.getElem?_cons_succ, List.getElem?_cons_zero]; rfl) (by kernel_rfl) (by kernel_rfl) (by kernel_rfl) (by intro _ _ _ h; exact h) (Or.inl ⟨by rfl, ?hyq7⟩) (by assumption) ?restq7
              case hyq7 =>
                intro z hSz
                (try dsimp only at hSz)
                go_simp
                try with_reducible rfl
              ((try simp only [Act.put]); (try simp only [List.setIfInBounds_toArray]); (try simp only [List.set_cons_succ]); (try simp only [List.set_cons_zero]))
              refine wpAnyH_take (i := 8) (oi := _) (v := ?vq8) (by simp only [List.getElem?_toArray, List.getElem?_cons_succ, List.getElem?_cons_zero]; rfl) (by kernel_rfl) (by kernel_rfl) (by kernel_rfl) (by intro _ _ _ h; exact h) (Or.inl ⟨by rfl, ?hyq8⟩) (by assumption) ?restq8
              case hyq8 =>
                intro z hSz
                (try dsimp only at hSz)
                go_simp
                try with_reducible rfl
              ((try simp only [Act.put]); (try simp only [List.setIfInBounds_toArray]); (try simp only [List.set_cons_succ]); (try simp only [List.set_cons_zero]))
              refine wpAnyH_take (i := 9) (oi := _) (v := ?vq9) (by simp only [List.getElem?_toArray, List.getElem?_cons_succ, List.getElem?_cons_zero]; rfl) (by kernel_rfl) (by kernel_rfl) (by kernel_rfl) (by intro _ _ _ h; exact h) (Or.inl ⟨by rfl, ?hyq9⟩) (by assumption) ?restq9
              case hyq9 =>
                intro z hSz
                (try dsimp only at hSz)
                go_simp
                try with_reducible rfl
              ((try simp only [Act.put]); (try simp only [List.setIfInBounds_toArray]); (try simp only [List.set_cons_succ]); (try simp only [List.set_cons_zero]))
              refine wpAnyH_take (i := 10) (oi := _) (v := undef) (by simp only [List.getElem?_toArray, List.getElem?_cons_succ, List.getElem?_cons_zero]; rfl) (by kernel_rfl) (by kernel_rfl) (by kernel_rfl) (by intro _ _ _ h; exact h) (Or.inr ⟨by rfl, rfl⟩) (by assumption) ?_
              ((try simp only [Act.put]); (try simp only [List.setIfInBounds_toArray]); (try simp only [List.set_cons_succ]); (try simp only [List.set_cons_zero]))
              refine wpAnyH_take (i := 11) (oi := _) (v := undef) (by simp only [List.getElem?_toArray, List.getElem?_cons_succ, List.getElem?_cons_zero]; rfl) (by kernel_rfl) (by kernel_rfl) (by kernel_rfl) (by intro _ _ _ h; exact h) (Or.inr ⟨by rfl, rfl⟩) (by assumption) ?_
              ((try simp only [Act.put]); (try simp only [List.setIfInBounds_toArray]); (try simp only [List.set_cons_succ]); (try simp only [List.set_cons_zero]))
              refine wpAnyH_take (i := 12) (oi := _) (v := ?vq12) (by simp only [List.getElem?_toArray, List.getElem?_cons_succ, List.getElem?_cons_zero]; rfl) (by kernel_rfl) (by kernel_rfl) (by kernel_rfl) (by intro _ _ _ h; exact h) (Or.inl ⟨by rfl, ?hyq12⟩) (by assumption) ?restq12
              case hyq12 =>
                intro z hSz
                (try dsimp only at hSz)
                go_simp
                try with_reducible rfl
              ((try simp only [Act.put]); (try simp only [List.setIfInBounds_toArray]); (try simp only [List.set_cons_succ]); (try simp only [List.set_cons_zero]))
              refine wpAnyH_ready (rs := [13]) (by kernel_rfl) (by simp) ?_
              refine AllReadyH.cons (o := _) (by simp only [List.getElem?_toArray, List.getElem?_cons_succ, List.getElem?_cons_zero]; rfl) (fun K hK => ?_) AllReadyH.nil
              rw [if_pos (by rfl)]
              obtain ⟨c0, hc0⟩ := hHeld.2.2.2.2.2.2.2.2.2.2.2.1
              refine St.wp_storeS cmOk (c := cc) (c0 := c0) (.tmp 2) (.tmp 66) rfl rfl rfl hc0 ?_
              intro w6 hs6
              have HI6 := Lib.hid hs6.i
              have HB6 := Lib.hid (hs6.bel hHeld.2.2.2.2.2.2.2.2.2.2.2.2 (Nat.le_refl _))
              refine hK.out _ _ (s16_of (hs6.up hHeld.1 HNE.out) ⟨_, hs6.i⟩ HB6.out) (fun hHeld => ?_)
              clear hK K
              ((try simp only [Act.put]); (try simp only [List.setIfInBounds_toArray]); (try simp only [List.set_cons_succ]); (try simp only [List.set_cons_zero]))
              refine wpAnyH_take (i := 14) (oi := _) (v := ?vq14) (by simp only [List.getElem?_toArray, List.getElem?_cons_succ, List.getElem?_cons_zero]; rfl) (by kernel_rfl) (by kernel_rfl) (by kernel_rfl) (by intro _ _ _ h; exact h) (Or.inl ⟨by rfl, ?hyq14⟩) (by assumption) ?restq14
              case hyq14 =>
                intro z hSz
                (try dsimp only at hSz)
                go_simp
                try with_reducible rfl
              ((try simp only [Act.put]); (try simp only [List.setIfInBounds_toArray]); (try simp only [List.set_cons_succ]); (try simp only [List.set_cons_zero]))
              refine wpAnyH_done (by kernel_rfl) ?_ _
              clear hHeld
              go_wp2_with fail
              refine bodyPost_ret (St.res2 cmOk Tryd.results16 rfl HI6.out) rfl ⟨⟨cc, _, rfl, by simp, fun _ => HR.out⟩, HB6.out⟩
          · have hki : ((k : Int) == l.length) = false := by simp; omega
            have HR : Hid (∀ c, ¬ IsCmd l c) := Lib.hid fun c q => hk ((HGI.out c).1 q).2.1
            clear hk hrr
            go_wp2_with fail
            refine wp_region_held_drew (S := fun z => cmD.In g cc z ∧ z.cell? ⟨g, 0, none⟩ = some (.int .i64 cc.client) ∧ z.cell? ⟨g, 1, none⟩ = some (.int .i64 cc.seq) ∧ z.cell? ⟨g, 2, none⟩ = some (.int .i64 cc.kind) ∧ z.cell? ⟨g, 3, none⟩ = some (.string cc.row) ∧ z.cell? ⟨g, 4, none⟩ = some (.string cc.col) ∧ z.cell? ⟨g, 5, none⟩ = some (.string cc.to_) ∧ z.cell? ⟨g, 6, none⟩ = some (.int .i64 cc.at_) ∧ z.cell? ⟨g, 7, none⟩ = some (.string cc.value) ∧ z.cell? ⟨g, 8, none⟩ = some (.string cc.expect) ∧ z.cell? ⟨g, 9, none⟩ = some (.bool cc.has) ∧ (∃ c0, cmD.In w.heap.size c0 z) ∧ Below w.heap.size w z) (by kernel_rfl) HT.out (fun hHeld => ?_)
            refine wpAnyH_take (i := 0) (oi := _) (v := ?vo0) (by simp only [List.getElem?_toArray, List.getElem?_cons_zero]; rfl) (by kernel_rfl) (by kernel_rfl) (by kernel_rfl) (by intro _ _ _ h; exact h) (Or.inl ⟨by rfl, ?hyo0⟩) (by assumption) ?resto0
            case hyo0 =>
              intro z hSz
              (try dsimp only at hSz)
              go_simp
              try with_reducible rfl
            ((try simp only [Act.put]); (try simp only [List.setIfInBounds_toArray]); (try simp only [List.set_cons_succ]); (try simp only [List.set_cons_zero]))
            refine wpAnyH_take (i := 1) (oi := _) (v := ?vo1) (by simp only [List.getElem?_toArray, List.getElem?_cons_succ, List.getElem?_cons_zero]; rfl) (by kernel_rfl) (by kernel_rfl) (by kernel_rfl) (by intro _ _ _ h; exact h) (Or.inl ⟨by rfl, ?hyo1⟩) (by assumption) ?resto1
            case hyo1 =>
              intro z hSz
              (try dsimp only at hSz)
              go_simp
              try with_reducible rfl
            ((try simp only [Act.put]); (try simp only [List.setIfInBounds_toArray]); (try simp only [List.set_cons_succ]); (try simp only [List.set_cons_zero]))
            refine wpAnyH_take (i := 2) (oi := _) (v := ?vo2) (by simp only [List.getElem?_toArray, List.getElem?_cons_succ, List.getElem?_cons_zero]; rfl) (by kernel_rfl) (by kernel_rfl) (by kernel_rfl) (by intro _ _ _ h; exact h) (Or.inl ⟨by rfl, ?hyo2⟩) (by assumption) ?resto2
            case hyo2 =>
              intro z hSz
              (try dsimp only at hSz)
              go_simp
              try with_reducible rfl
            ((try simp only [Act.put]); (try simp only [List.setIfInBounds_toArray]); (try simp only [List.set_cons_succ]); (try simp only [List.set_cons_zero]))
            refine wpAnyH_take (i := 3) (oi := _) (v := ?vo3) (by simp only [List.getElem?_toArray, List.getElem?_cons_succ, List.getElem?_cons_zero]; rfl) (by kernel_rfl) (by kernel_rfl) (by kernel_rfl) (by intro _ _ _ h; exact h) (Or.inl ⟨by rfl, ?hyo3⟩) (by assumption) ?resto3
            case hyo3 =>
              intro z hSz
              (try dsimp only at hSz)
              go_simp
              try with_reducible rfl
            ((try simp only [Act.put]); (try simp only [List.setIfInBounds_toArray]); (try simp only [List.set_cons_succ]); (try simp only [List.set_cons_zero]))
            refine wpAnyH_take (i := 4) (oi := _) (v := ?vo4) (by simp only [List.getElem?_toArray, List.getElem?_cons_succ, List.getElem?_cons_zero]; rfl) (by kernel_rfl) (by kernel_rfl) (by kernel_rfl) (by intro _ _ _ h; exact h) (Or.inl ⟨by rfl, ?hyo4⟩) (by assumption) ?resto4
            case hyo4 =>
              intro z hSz
              (try dsimp only at hSz)
              go_simp
              try with_reducible rfl
            ((try simp only [Act.put]); (try simp only [List.setIfInBounds_toArray]); (try simp only [List.set_cons_succ]); (try simp only [List.set_cons_zero]))
            refine wpAnyH_take (i := 5) (oi := _) (v := ?vo5) (by simp only [List.getElem?_toArray, List.getElem?_cons_succ, List.getElem?_cons_zero]; rfl) (by kernel_rfl) (by kernel_rfl) (by kernel_rfl) (by intro _ _ _ h; exact h) (Or.inl ⟨by rfl, ?hyo5⟩) (by assumption) ?resto5
            case hyo5 =>
              intro z hSz
              (try dsimp only at hSz)
              go_simp
              try with_reducible rfl
            ((try simp only [Act.put]); (try simp only [List.setIfInBounds_toArray]); (try simp only [List.set_cons_succ]); (try simp only [List.set_cons_zero]))
            refine wpAnyH_take (i := 6) (oi := _) (v := undef) (by simp only [List.getElem?_toArray, List.getElem?_cons_succ, List.getElem?_cons_zero]; rfl) (by kernel_rfl) (by kernel_rfl) (by kernel_rfl) (by intro _ _ _ h; exact h) (Or.inr ⟨by rfl, rfl⟩) (by assumption) ?_
            ((try simp only [Act.put]); (try simp only [List.setIfInBounds_toArray]); (try simp only [List.set_cons_succ]); (try simp only [List.set_cons_zero]))
            refine wpAnyH_take (i := 7) (oi := _) (v := undef) (by simp only [List.getElem?_toArray, List.getElem?_cons_succ, List.getElem?_cons_zero]; rfl) (by kernel_rfl) (by kernel_rfl) (by kernel_rfl) (by intro _ _ _ h; exact h) (Or.inr ⟨by rfl, rfl⟩) (by assumption) ?_
            ((try simp only [Act.put]); (try simp only [List.setIfInBounds_toArray]); (try simp only [List.set_cons_succ]); (try simp only [List.set_cons_zero]))
            refine wpAnyH_take (i := 8) (oi := _) (v := ?vo8) (by simp only [List.getElem?_toArray, List.getElem?_cons_succ, List.getElem?_cons_zero]; rfl) (by kernel_rfl) (by kernel_rfl) (by kernel_rfl) (by intro _ _ _ h; exact h) (Or.inl ⟨by rfl, ?hyo8⟩) (by assumption) ?resto8
            case hyo8 =>
              intro z hSz
              (try dsimp only at hSz)
              go_simp
              try with_reducible rfl
            ((try simp only [Act.put]); (try simp only [List.setIfInBounds_toArray]); (try simp only [List.set_cons_succ]); (try simp only [List.set_cons_zero]))
            refine wpAnyH_take (i := 9) (oi := _) (v := ?vo9) (by simp only [List.getElem?_toArray, List.getElem?_cons_succ, List.getElem?_cons_zero]; rfl) (by kernel_rfl) (by kernel_rfl) (by kernel_rfl) (by intro _ _ _ h; exact h) (Or.inl ⟨by rfl, ?hyo9⟩) (by assumption) ?resto9
            case hyo9 =>
              intro z hSz
              (try dsimp only at hSz)
              go_simp
              try with_reducible rfl
            ((try simp only [Act.put]); (try simp only [List.setIfInBounds_toArray]); (try simp only [List.set_cons_succ]); (try simp only [List.set_cons_zero]))
            refine wpAnyH_take (i := 10) (oi := _) (v := undef) (by simp only [List.getElem?_toArray, List.getElem?_cons_succ, List.getElem?_cons_zero]; rfl) (by kernel_rfl) (by kernel_rfl) (by kernel_rfl) (by intro _ _ _ h; exact h) (Or.inr ⟨by rfl, rfl⟩) (by assumption) ?_
            ((try simp only [Act.put]); (try simp only [List.setIfInBounds_toArray]); (try simp only [List.set_cons_succ]); (try simp only [List.set_cons_zero]))
            refine wpAnyH_take (i := 11) (oi := _) (v := undef) (by simp only [List.getElem?_toArray, List.getElem?_cons_succ, List.getElem?_cons_zero]; rfl) (by kernel_rfl) (by kernel_rfl) (by kernel_rfl) (by intro _ _ _ h; exact h) (Or.inr ⟨by rfl, rfl⟩) (by assumption) ?_
            ((try simp only [Act.put]); (try simp only [List.setIfInBounds_toArray]); (try simp only [List.set_cons_succ]); (try simp only [List.set_cons_zero]))
            refine wpAnyH_take (i := 12) (oi := _) (v := ?vo12) (by simp only [List.getElem?_toArray, List.getElem?_cons_succ, List.getElem?_cons_zero]; rfl) (by kernel_rfl) (by kernel_rfl) (by kernel_rfl) (by intro _ _ _ h; exact h) (Or.inl ⟨by rfl, ?hyo12⟩) (by assumption) ?resto12
            case hyo12 =>
              intro z hSz
              (try dsimp only at hSz)
              go_simp
              try with_reducible rfl
            ((try simp only [Act.put]); (try simp only [List.setIfInBounds_toArray]); (try simp only [List.set_cons_succ]); (try simp only [List.set_cons_zero]))
            refine wpAnyH_ready (rs := [13]) (by kernel_rfl) (by simp) ?_
            refine AllReadyH.cons (o := _) (by simp only [List.getElem?_toArray, List.getElem?_cons_succ, List.getElem?_cons_zero]; rfl) (fun K hK => ?_) AllReadyH.nil
            rw [if_pos (by rfl)]
            obtain ⟨c0, hc0⟩ := hHeld.2.2.2.2.2.2.2.2.2.2.2.1
            refine St.wp_storeS cmOk (c := cc) (c0 := c0) (.tmp 2) (.tmp 66) rfl rfl rfl hc0 ?_
            intro w6 hs6
            have HI6 := Lib.hid hs6.i
            have HB6 := Lib.hid (hs6.bel hHeld.2.2.2.2.2.2.2.2.2.2.2.2 (Nat.le_refl _))
            refine hK.out _ _ (s16_of (hs6.up hHeld.1 HNE.out) ⟨_, hs6.i⟩ HB6.out) (fun hHeld => ?_)
            clear hK K
            ((try simp only [Act.put]); (try simp only [List.setIfInBounds_toArray]); (try simp only [List.set_cons_succ]); (try simp only [List.set_cons_zero]))
            refine wpAnyH_take (i := 14) (oi := _) (v := ?vo14) (by simp only [List.getElem?_toArray, List.getElem?_cons_succ, List.getElem?_cons_zero]; rfl) (by kernel_rfl) (by kernel_rfl) (by kernel_rfl) (by intro _ _ _ h; exact h) (Or.inl ⟨by rfl, ?hyo14⟩) (by assumption) ?resto14
            case hyo14 =>
              intro z hSz
              (try dsimp only at hSz)
              go_simp
              try with_reducible rfl
            ((try simp only [Act.put]); (try simp only [List.setIfInBounds_toArray]); (try simp only [List.set_cons_succ]); (try simp only [List.set_cons_zero]))
            refine wpAnyH_done (by kernel_rfl) ?_ _
            clear hHeld
            go_wp2_with fail
            refine bodyPost_ret (St.res2 cmOk Tryd.results16 rfl HI6.out) rfl ⟨⟨cc, _, rfl, by simp, fun _ => HR.out⟩, HB6.out⟩
end Go.Proofs.YtkpdadnmbjmfpaaDoor.Ce
