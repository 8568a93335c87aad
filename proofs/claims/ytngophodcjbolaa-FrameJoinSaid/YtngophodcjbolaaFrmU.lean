/- The statement FrameJoin: its walk, to the end. -/
import Derived.Test.YtngophodcjbolaaFrmK
namespace Go.Proofs.Ytngophodcjbolaa
open Go.RowKit Crc Frm

/-- the rows' values -/
theorem RdM.vals {w : World} {B n : Nat} {x : Value} {g : Nat → List UInt8} (h : RdM w B x n g) :
    ∃ xs : List Value, Rd w B x xs ∧ xs.length = n ∧ One xs ∧ ∀ j (hj : j < xs.length), Rd w B xs[j] ((g j).map bv) := by
  obtain ⟨vs, h1, h2⟩ := h
  refine ⟨(List.range n).map vs, h1, by simp, fun u hu => ?_, fun j hj => ?_⟩
  · obtain ⟨j, hj, rfl⟩ := List.mem_map.1 hu
    obtain ⟨A, c, e, -⟩ := (h2 j (List.mem_range.1 hj)).shape
    rw [e]
    rfl
  · have hj' : j < n := by simpa using hj
    rw [List.getElem_map, List.getElem_range]
    exact h2 j hj'
theorem RdM.ofVals {w : World} {B : Nat} {x : Value} {g : Nat → List UInt8} {xs : List Value} (h : Rd w B x xs) (hr : ∀ j (hj : j < xs.length), Rd w B xs[j] ((g j).map bv)) : RdM w B x xs.length g := by
  refine ⟨fun i => xs.getD i undef, ?_, fun j hj => ?_⟩
  · have e : (List.range xs.length).map (fun i => xs.getD i undef) = xs := by
      apply List.ext_getElem
      · simp
      · intro i h1 h2
        simp [List.getD, h2]
    rw [e]
    exact h
  · have e : xs.getD j undef = xs[j] := by simp [List.getD, hj]
    show Rd w B (xs.getD j undef) _
    rw [e]
    exact hr j hj
theorem gl_app {L M : List (List UInt8)} {j : Nat} : gl (L ++ M) j = if j < L.length then gl L j else gl M (j - L.length) := by
  unfold gl
  by_cases h : j < L.length
  · rw [if_pos h, List.getD_eq_getElem?_getD, List.getD_eq_getElem?_getD, List.getElem?_append_left h]
  · rw [if_neg h, List.getD_eq_getElem?_getD, List.getD_eq_getElem?_getD, List.getElem?_append_right (by omega)]
theorem RdM.app {w : World} {B D : Nat} {v : Value} {xs ys : List Value} {L M : List (List UInt8)} (h : Rd w B v (xs ++ ys)) (hx : xs.length = L.length) (hy : ys.length = M.length)
    (h1 : ∀ j (hj : j < xs.length), Rd w D xs[j] ((gl L j).map bv)) (h2 : ∀ j (hj : j < ys.length), Rd w D ys[j] ((gl M j).map bv)) (hD : D ≤ B) : RdM w B v (L ++ M).length (gl (L ++ M)) := by
  have e : (L ++ M).length = (xs ++ ys).length := by rw [List.length_append, List.length_append, hx, hy]
  rw [e]
  refine RdM.ofVals h fun j hj => ?_
  rw [gl_app]
  by_cases hj1 : j < L.length
  · rw [if_pos hj1, List.getElem_append_left (by omega)]
    exact (h1 j (by omega)).mono hD
  · rw [if_neg hj1, List.getElem_append_right (by omega)]
    have := h2 (j - xs.length) (by rw [List.length_append] at hj; omega)
    rw [← hx]
    exact this.mono hD
set_option maxHeartbeats 2000000 in
set_option maxRecDepth 100000 in
theorem frameJoin_walk (x : Value) (n : Nat) (g : Nat → List UInt8) (y : Value) (n' : Nat) (g' : Nat → List UInt8) (w : World) (hx : RdM w w.heap.size x n g) (hz : ∀ i, i < n → (g i).length ≤ 140737488351232)
    (hy : RdM w w.heap.size y n' g') (hz' : ∀ i, i < n' → (g' i).length ≤ 140737488351232) :
    Calls Try.prog 8 #[x, y] w fun e w' => e = .returned (.bool true) ∧ Below w.heap.size w w' := by
  obtain ⟨L, hL, hLz⟩ := hx.list hz
  obtain ⟨M, hM, hMz⟩ := hy.list hz'
  clear hx hz hy hz'
  obtain ⟨A, c, rfl, hc, hm⟩ := hL.shape
  obtain ⟨A', c', rfl, hc', hm'⟩ := hM.shape
  unfold maxLen at hm hm'
  go_enter Try.func8, Try.ntmps8
  go_wp2_with fail
  refine (fawake_ok _).mono ?_
  rintro e w1 ⟨rfl, hb1⟩
  go_wp2_with fail
  refine (rffew_any _ L _ _ (hL.up hb1) hLz).mono ?_
  rintro e w2 ⟨⟨qq, rfl, hq⟩, rfl⟩
  cases qq
  · go_wp2_with fail
    refine (fawake_ok _).mono ?_
    rintro e w3 ⟨rfl, hb3⟩
    go_wp2_with fail
    go_ret
    exact ⟨rfl, bwstep hb1 hb3⟩
  · obtain ⟨h100, h5⟩ := hq rfl
    clear hq
    go_wp2_with fail
    refine (rffew_any _ M _ _ (hM.up hb1) hMz).mono ?_
    rintro e w2 ⟨⟨qq, rfl, hq⟩, rfl⟩
    cases qq
    · go_wp2_with fail
      refine (fawake_ok _).mono ?_
      rintro e w3 ⟨rfl, hb3⟩
      go_wp2_with fail
      go_ret
      exact ⟨rfl, bwstep hb1 hb3⟩
    · obtain ⟨h100', h5'⟩ := hq rfl
      clear hq
      have hrows := few_rows h5
      have hrows' := few_rows h5'
      have hfl := flat_len L
      have hfl' := flat_len M
      obtain ⟨bL, hbL⟩ : ∃ b, b = flat L := ⟨_, rfl⟩
      obtain ⟨bM, hbM⟩ : ∃ b, b = flat M := ⟨_, rfl⟩
      have halL := fun (W : World) (h : RdM W W.heap.size (.slice A L.length c) L.length (gl L)) => all_any _ L W h hrows (by omega)
      have halM := fun (W : World) (h : RdM W W.heap.size (.slice A' M.length c') M.length (gl M)) => all_any _ M W h hrows' (by omega)
      have hsc : Scanned (bL ++ bM) (L ++ M) [] := by rw [hbL, hbM]; exact scanned_join hrows hrows'
      have hRrows := hsc.2.1
      have hFL := hsc.1
      rw [← hbL] at halL hfl
      rw [← hbM] at halM hfl'
      have hlL : bL.length ≤ 6200 := by omega
      have hlM : bM.length ≤ 6200 := by omega
      obtain ⟨b, hb⟩ : ∃ b, b = bL ++ bM := ⟨_, rfl⟩
      have hbl : b.length ≤ 12400 := by rw [hb, List.length_append]; omega
      have HF := Lib.hid (show b = flat (L ++ M) by rw [hb, hFL, List.append_nil])
      have HB := Lib.hid hb
      have HSC := Lib.hid (show Scanned b (L ++ M) [] by rw [hb]; exact hsc)
      clear hfl hfl' hbL hbM hsc hFL hb
      have hLa := (hL.up hb1)
      have hMa := (hM.up hb1)
      have e0 := bwalloc (bwrefl w2) (.cells #[] 5)
      have oE := Ow.empty w2 (Nat.le_refl _) 5
      have hL0 := hLa.up e0
      clear hL hM
      go_wp2_with fail
      refine (halL _ hL0).mono ?_
      rintro e w3 ⟨⟨v3, rfl, h3⟩, hb3⟩
      have oE := oE.below hb3
      have hb3 := bwstep e0 hb3
      have k3 := h3.rd
      have hsz3 := hb3.size
      have hl0 : ([] : List UInt8).length + bL.length ≤ 140737488355328 := by simp; omega
      clear h3 hL0 e0
      go_wp2_with (at_builtin; refine wpList_appB bytesT rfl (.tmp 26) (.tmp 28) rfl rfl oE rfl k3 hl0 hsz3 ?_; intro v4 w4 h4 g4 _; have hb4 := hb3.grown g4 hsz3 oE.ge; rw [List.nil_append] at h4; clear g4 oE k3 hl0 hb3 hsz3)
      refine (halM _ (hMa.up hb4)).mono ?_
      rintro e w5 ⟨⟨v5, rfl, h5⟩, hb5⟩
      have h4 := h4.below hb5
      have hb5 := bwstep hb4 hb5
      have k5 := h5.rd
      have hsz5 := hb5.size
      have hl1 : bL.length + bM.length ≤ 140737488355328 := by omega
      clear h5 hb4
      obtain ⟨xs, hxr, hxl, hxo, hxw⟩ := hLa.vals
      obtain ⟨ys, hyr, hyl, hyo, hyw⟩ := hMa.vals
      have hc1 : ([] : List Value).length + xs.length ≤ maxLen := by simp [maxLen]; omega
      have hc2 : (([] : List Value).length + xs.length) * 24 ≤ 140737488355328 := by simp; omega
      have hc3 : xs.length + ys.length ≤ maxLen := by simp [maxLen]; omega
      have hc4 : (xs.length + ys.length) * 24 ≤ 140737488355328 := by omega
      go_wp2_with (first
        | (at_builtin; refine wpList_app rowsT rfl rfl (.tmp 35) (.tmp 36) rfl rfl h8 rfl hy8 hyo hc3 hc4 hb8.size ?_; intro v9 w9 h9 g9 _; have hb9 := hb8.grown g9 hb8.size h8.ge; clear g9)
        | (at_builtin; refine wpList_app rowsT rfl rfl (.tmp 33) (.tmp 34) rfl rfl (Ow.new (xs := []) w6 #[] rfl (by simp [maxLen]) rfl (Nat.le_refl _)) rfl hx6 hxo hc1 hc2 (by simp) ?_; intro v8 w8 h8 g8 _; have hb8 := Ow.emptyG g8; rw [List.nil_append] at h8; have hy8 := hyr.below (bwstep hb6 hb8); clear g8)
        | (at_builtin; refine wpList_appB bytesT rfl (.tmp 29) (.tmp 31) rfl rfl h4 rfl k5 hl1 hsz5 ?_; intro v6 w6 h6 g6 _; have hb6 := hb5.grown g6 hsz5 h4.ge; have ka6 := h6.rd; have hx6 := hxr.below (hb6.alloc hb6.size (.cells #[] 25)); clear g6 h6 h4 k5 hl1 hsz5 hb5))
      have ka9 := ka6.up hb9
      rw [← HB.out] at ka9
      have hw9 : RdM w9 w9.heap.size v9 (L ++ M).length (gl (L ++ M)) := RdM.app (D := w2.heap.size) h9.rd hxl hyl (fun j hj => (hxw j hj).below (bwstep hb6 hb9)) (fun j hj => (hyw j hj).below (bwstep hb6 hb9)) (Nat.le_trans hb6.size hb9.size)
      have hbb := bwstep hb1 (bwstep hb6 hb9)
      have hRl : (L ++ M).length ≤ 200 := by rw [List.length_append]; omega
      clear hb9 h9 hb8 h8 hy8 hx6 ka6 hb6 hxr hxl hxo hxw hyr hyl hyo hyw hc1 hc2 hc3 hc4 hLa hMa halL halM
      have hRR : sameL (L ++ M) (L ++ M) = true := by simp [sameL]
      generalize L ++ M = R at *
      obtain ⟨A6, c6, rfl, hc6, hm6⟩ := ka9.shapeM
      obtain ⟨A9, c9, rfl, hc9, hm9⟩ := hw9.shape
      unfold maxLen at hm6 hm9
      refine (scan_any _ b [] R _ ka9 HSC.out (by omega)).mono ?_
      rintro e w10 ⟨⟨v10, vs10, rfl, h10⟩, hb10⟩
      rw [← HF.out]
      have ka := ka9.up hb10
      have hw := hw9.up hb10
      have hbb := bwstep hbb hb10
      clear ka9 hw9 hb10
      go_wp2_with fail
      refine (Calls.bel (rfsame_any _ _ R R _ _ _ h10.rd hw)).mono ?_
      rintro e w11 ⟨rfl, hb11⟩
      rw [hRR]
      have ka := ka.up hb11
      have hw := hw.up hb11
      have hbb := bwstep hbb hb11
      clear h10 hb11
      have HD := Lib.hid (show b = flat (R.drop 0) by rw [HF.out]; rfl)
      go_wp2_with fail
      go_loopw [5, 9, 10, 11, 12] (fun p i _ _ _ wr => ∃ (k : Nat) (t : List UInt8), k ≤ R.length ∧ i = .int .i64 (k : Int) ∧ Rd wr wr.heap.size p (t.map bv) ∧ Hid (t = flat (R.drop k)) ∧ t.length ≤ 12400 ∧ Below w11.heap.size w11 wr) (fun _ i _ _ _ _ => R.length - (intOf i).toNat)
      case atStart => exact ⟨0, b, by omega, rfl, ka, HD, hbl, bwrefl _⟩
      case round =>
        clear ka
        obtain ⟨k, t, hk, rfl, ka, HT, htl, hbw⟩ := hrel
        obtain ⟨At, ct, rfl, -, -⟩ := ka.shapeM
        by_cases hlt : k < R.length
        · obtain ⟨t2, ht2⟩ : ∃ t2, t2 = flat (R.drop (k + 1)) := ⟨_, rfl⟩
          obtain ⟨b9, o9, rfl, -⟩ := (hw.up hbw).open_ (by omega)
          have hr5 := hRrows _ (List.getElem_mem hlt)
          have e1 : t = frm R[k] ++ t2 := by rw [HT.out, ht2, flat_drop R k hlt]
          have hl2 : t2.length ≤ 12400 := by rw [e1, List.length_append] at htl; omega
          have hct := cut_ok _ t R[k] t2 _ _ ka (Nat.le_refl _) e1 hr5 (by omega)
          have HT2 := Lib.hid ht2
          have hge := gl_at R hlt
          generalize R[k] = r at *
          clear e1 ht2
          go_wp2_with fail
          refine hct.mono ?_
          rintro e w12 ⟨⟨p, q, rfl, hp, hq⟩, hb12⟩
          have hbw := bwstep hbw hb12
          obtain ⟨Ap, cp, rfl, -, -⟩ := hp.rd.shapeM
          obtain ⟨Aq, cq, rfl, -, -⟩ := hq.rd.shapeM
          obtain ⟨A7, c7, hcell, h7c, h7m, h7⟩ := (hw.up hbw).row hlt
          rw [hge] at hcell h7c h7
          have hqr := hq.rd
          clear hct ka hb12
          go_wp2_with fail
          refine (rsame_any _ _ r r _ _ _ hp.rd h7).mono ?_
          rintro e w13 ⟨rfl, rfl⟩
          rw [sameB_self]
          clear hp h7 hcell
          go_wp2_with fail
          go_roundw
          case rel => exact ⟨k + 1, t2, by omega, by go_num, hqr, HT2, hl2, hbw⟩
          case measure => simp [intOf]; omega
        · obtain rfl : k = R.length := by omega
          obtain rfl : t = [] := by rw [HT.out, List.drop_length, flat_nil]
          have h9 := bwstep hbb hbw
          go_wp2_with fail
          go_ret
          exact ⟨rfl, h9⟩
end Go.Proofs.Ytngophodcjbolaa
