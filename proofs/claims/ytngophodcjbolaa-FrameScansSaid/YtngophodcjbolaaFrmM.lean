/- The statement FrameScans: its walk, to the end. -/
import Derived.Test.YtngophodcjbolaaFrmK
namespace Go.Proofs.Ytngophodcjbolaa
open Go.RowKit Crc Frm

set_option maxHeartbeats 4000000 in
set_option maxRecDepth 100000 in
theorem frameScans_walk (x : Value) (b : List UInt8) (w : World) (hx : Rd w w.heap.size x (b.map bv)) (_hl : b.length ≤ 140737488351232) :
    Calls Try.prog 4 #[x] w fun e w' => e = .returned (.bool true) ∧ Below w.heap.size w w' := by
  obtain ⟨A, c, rfl, hc, hm⟩ := hx.shapeM
  unfold maxLen at hm
  by_cases hl : b.length ≤ 5000
  · obtain ⟨R, m, hs⟩ := scan_ex b.length b (Nat.le_refl _)
    have hR := hs.2.1
    go_enter Try.func4, Try.ntmps4
    go_wp2_with fail
    refine (fawake_ok _).mono ?_
    rintro e w1 ⟨rfl, hb1⟩
    have x1 := hx.up hb1
    go_wp2_with fail
    refine (scan_any _ b m R w1 x1 hs (by omega)).mono ?_
    rintro e w2 ⟨⟨v2, vs2, rfl, h2⟩, hb2⟩
    have x2 := x1.up hb2
    have hbb := bwstep hb1 hb2
    clear x1 hb1 hb2
    go_wp2_with fail
    refine (rscan_any _ b m R w2 x2 hs (by omega)).mono ?_
    rintro e w3 ⟨⟨v3, vs3, rfl, h3⟩, hb3⟩
    have x3 := x2.up hb3
    have r2 := h2.rd.up hb3
    have hbb := bwstep hbb hb3
    have r3 := h3.rd
    obtain ⟨A3, c3, rfl, hc3, hm3⟩ := r3.shape
    clear x2 h2 h3 hb3
    unfold maxLen at hm3
    have hss : sameL R R = true := by simp [sameL]
    cases R with
    | nil =>
      have hno : ¬ Whole b := by
        have := hs.1
        rw [flat_nil, List.nil_append] at this
        rw [this]
        exact hs.2.2
      clear hs
      go_wp2_with fail
      refine (cut_no _ b _ _ x3 (Nat.le_refl _) hno (by omega)).mono ?_
      rintro e w4 ⟨⟨y, z, rfl, hy, hz⟩, hb4⟩
      have r2 := r2.up hb4
      have r3 := r3.up hb4
      have hbb := bwstep hbb hb4
      obtain ⟨Ay, cy, rfl, -, -⟩ := hy.rd.shapeM
      obtain ⟨Az, cz, rfl, -, -⟩ := hz.rd.shapeM
      clear x3 hy hz hb4
      go_wp2_with fail
      refine (Calls.bel (rfsame_any _ _ [] [] _ _ _ r2 r3)).mono ?_
      rintro e w5 ⟨rfl, hb5⟩
      rw [hss]
      have hbb := bwstep hbb hb5
      clear hb5 r2 r3
      go_wp2_with fail
      go_ret
      exact ⟨rfl, hbb⟩
    | cons r R' =>
      have hr5 := hR r List.mem_cons_self
      obtain ⟨t, ht⟩ : ∃ t, t = flat R' ++ m := ⟨_, rfl⟩
      have hb : b = frm r ++ t := by rw [hs.1, flat_cons, List.append_assoc, ht]
      have g0 : gl (r :: R') 0 = r := rfl
      have hN : 0 < (r :: R').length := by simp
      generalize r :: R' = R at *
      obtain ⟨⟨g1, g2, g3, g4, g5⟩, hn, h4, h12⟩ := whole_frm r t hr5
      rw [← hb] at h12
      have hlen : b.length = 12 + r.length + t.length := by rw [hb, List.length_append, frm_len]
      have hle : 12 + r.length ≤ b.length := by omega
      have HBq := Lib.hid hb
      clear g1 g2 g3 g4 g5 hn h4 hlen hb
      clear hs hR ht
      obtain ⟨b0, off, rfl, -, -⟩ := hx.cellM (by omega)
      have hN' : (0 : Int) < (R.length : Int) := by omega
      by_cases hcc : c = 12 + r.length
      · obtain rfl : t = [] := by
          have h1 := congrArg List.length h12
          rw [List.length_drop, List.length_append] at h1
          exact List.eq_nil_of_length_eq_zero (by omega)
        have xrest : Rd w w.heap.size (.slice (some ⟨b0, off, none⟩) 0 0) (([] : List UInt8).map bv) := ⟨_, 0, rfl, Nat.le_refl _, by simp [maxLen], fun h => absurd h (by simp)⟩
        have hct := eq_true hcc
        have hcl : c ≤ 12 + r.length := by omega
        have hbl : b.length ≤ 12 + r.length := by omega
        clear hcc h12
        go_wp2_with fail
        refine (cut_ok _ b r [] _ _ x3 (Nat.le_refl _) HBq.out hr5 (by omega)).mono ?_
        rintro e w4 ⟨⟨y, z, rfl, hy, hz⟩, hb4⟩
        have r2 := r2.up hb4
        have r3 := r3.up hb4
        have hy := hy.rd
        have hz := hz.rd
        have hbb := bwstep hbb hb4
        obtain ⟨Ay, cy, rfl, -, -⟩ := hy.shapeM
        obtain ⟨Az, cz, rfl, -, -⟩ := hz.shapeM
        clear x3 hb4
        go_wp2_with fail
        refine (Calls.bel (rfsame_any _ _ R R _ _ _ r2 r3)).mono ?_
        rintro e w5 ⟨rfl, hb5⟩
        rw [hss]
        have r3 := r3.up hb5
        have hy := hy.up hb5
        have hz := hz.up hb5
        have hbb := bwstep hbb hb5
        obtain ⟨b3, o3, rfl, -⟩ := r3.open_ hN
        obtain ⟨A6, c6, hcell6, h6c, h6m, r6⟩ := r3.row hN
        rw [g0] at hcell6 h6c r6
        rw [Nat.add_zero] at hcell6
        unfold maxLen at h6m
        clear r2 r3 hb5
        go_wp2_with fail
        refine (rsame_any _ _ r r _ _ _ hy r6).mono ?_
        rintro e w6 ⟨rfl, rfl⟩
        rw [sameB_self]
        clear hcell6 r6 hy
        have hrest := xrest.up hbb
        go_wp2_with fail
        refine (rsame_any _ _ [] [] _ _ _ hz hrest).mono ?_
        rintro e w7 ⟨rfl, rfl⟩
        rw [sameB_self]
        go_wp2_with fail
        go_ret
        exact ⟨rfl, hbb⟩
      · have xrest : Rd w w.heap.size (.slice (some ⟨b0, off + (12 + r.length), none⟩) (b.length - (12 + r.length)) (c - (12 + r.length))) (t.map bv) := by
          have := hx.fromC (lo := 12 + r.length) hle hcc
          rw [← List.map_drop, ← List.drop_drop, h12, List.drop_left] at this
          exact this
        clear h12
        go_wp2_with fail
        refine (cut_ok _ b r t _ _ x3 (Nat.le_refl _) HBq.out hr5 (by omega)).mono ?_
        rintro e w4 ⟨⟨y, z, rfl, hy, hz⟩, hb4⟩
        have r2 := r2.up hb4
        have r3 := r3.up hb4
        have hy := hy.rd
        have hz := hz.rd
        have hbb := bwstep hbb hb4
        obtain ⟨Ay, cy, rfl, -, -⟩ := hy.shapeM
        obtain ⟨Az, cz, rfl, -, -⟩ := hz.shapeM
        clear x3 hb4
        go_wp2_with fail
        refine (Calls.bel (rfsame_any _ _ R R _ _ _ r2 r3)).mono ?_
        rintro e w5 ⟨rfl, hb5⟩
        rw [hss]
        have r3 := r3.up hb5
        have hy := hy.up hb5
        have hz := hz.up hb5
        have hbb := bwstep hbb hb5
        obtain ⟨b3, o3, rfl, -⟩ := r3.open_ hN
        obtain ⟨A6, c6, hcell6, h6c, h6m, r6⟩ := r3.row hN
        rw [g0] at hcell6 h6c r6
        rw [Nat.add_zero] at hcell6
        unfold maxLen at h6m
        clear r2 r3 hb5
        go_wp2_with fail
        refine (rsame_any _ _ r r _ _ _ hy r6).mono ?_
        rintro e w6 ⟨rfl, rfl⟩
        rw [sameB_self]
        clear hcell6 r6 hy
        have hrest := xrest.up hbb
        go_wp2_with fail
        refine (rsame_any _ _ t t _ _ _ hz hrest).mono ?_
        rintro e w7 ⟨rfl, rfl⟩
        rw [sameB_self]
        go_wp2_with fail
        go_ret
        exact ⟨rfl, hbb⟩
  · go_enter Try.func4, Try.ntmps4
    go_wp2_with fail
    refine (fawake_ok _).mono ?_
    rintro e w1 ⟨rfl, hb1⟩
    go_wp2_with fail
    refine (fawake_ok _).mono ?_
    rintro e w2 ⟨rfl, hb2⟩
    go_wp2_with fail
    go_ret
    exact ⟨rfl, bwstep hb1 hb2⟩
end Go.Proofs.Ytngophodcjbolaa
