/- The walk of MergeSame. -/
import Derived.Test.YtknkdehjgkjljaaMl1
namespace Go.Proofs.Ytknkdehjgkjljaa
open Go.RowKit Ce

theorem Ce.OwL.shp {w : World} {B : Nat} {v : Value} {L : List Cl} (h : OwL w B v L) : (v = .slice none 0 0 ∧ L = []) ∨ ∃ g c, v = .slice (some ⟨g, 0, none⟩) L.length c ∧ L.length ≤ c ∧ c ≤ maxLen := by
  obtain ⟨A, c, e, h1, h2⟩ := h.rd0.shape
  rcases h.2 with ⟨he, hn⟩ | ⟨g, cap, cur, he, -, -, -⟩
  · exact .inl ⟨he, List.eq_nil_of_length_eq_zero hn⟩
  · rw [e] at he
    injection he with e1 e2 e3
    subst e1
    exact .inr ⟨g, c, e, h1, h2⟩
theorem Ce.all_self {S : List Cl} (h : Srt S) : allP [S, S] = S := by
  rw [allP_cons, all_one h]
  exact over_sub h h fun x hx => hx
theorem Ce.all_parts {S : List Cl} (h : Srt S) (k : Nat) : allP [S.drop k, S, S.take k] = S := by
  have h1 : Srt (S.drop k) := h.sublist (List.drop_sublist k S)
  have h2 : Srt (S.take k) := h.sublist (List.take_sublist k S)
  rw [allP_cons, allP_cons, all_one h2, over_sup h h2 fun x hx => List.mem_of_mem_take hx]
  exact over_sub h h1 fun x hx => List.mem_of_mem_drop hx
/-- the contracts that the last region of MergeSame wants, in whatever world behind w4 -/
structure Ce.SameC (w4 : World) (x3 x4 y1 y3 : Value) (S : List Cl) (now : Int) : Prop where
  two : ∀ wx, Below w4.heap.size w4 wx → Calls Try.prog 14 #[.slice (some ⟨wx.heap.size, 0, none⟩) 2 2] (wx.alloc (.cells #[x3, x3] 27)) fun e w2 => (∃ x, e = .returned x ∧ RdL w2 [] x S) ∧ Below w4.heap.size w4 w2
  three : ∀ wx, Below w4.heap.size w4 wx → Calls Try.prog 14 #[.slice (some ⟨wx.heap.size, 0, none⟩) 3 3] (wx.alloc (.cells #[y1, x3, y3] 27)) fun e w2 => (∃ x, e = .returned x ∧ RdL w2 [] x S) ∧ Below w4.heap.size w4 w2
  vis : ∀ wx, Below w4.heap.size w4 wx → Calls Try.prog 20 #[x4, .int .i64 now] wx fun e w2 => (∃ x, e = .returned x ∧ RdL w2 [] x (visP now S)) ∧ Below w4.heap.size w4 w2
  cln : ∀ wx, Below w4.heap.size w4 wx → Calls Try.prog 18 #[x4, .int .i64 now] wx fun e w2 => (∃ x, e = .returned x ∧ RdL w2 [] x (visP now S)) ∧ Below w4.heap.size w4 w2
  sameS : ∀ x wx, RdL wx [] x S → Below w4.heap.size w4 wx → Calls Try.prog 13 #[x, x3] wx fun e w2 => e = .returned (.bool true) ∧ Below w4.heap.size w4 w2
  sameV : ∀ x wx, RdL wx [] x (visP now S) → Below w4.heap.size w4 wx → Calls Try.prog 13 #[x, x4] wx fun e w2 => e = .returned (.bool true) ∧ Below w4.heap.size w4 w2
theorem Ce.SameC.of {w4 : World} {x3 x4 y1 y3 : Value} {S : List Cl} {now : Int} {k : Nat} (hs : Srt S) (hl : S.length ≤ 80) (h3 : RdL w4 [] x3 S) (h4 : RdL w4 [] x4 (visP now S)) (h1 : RdL w4 [] y1 (S.drop k)) (h0 : RdL w4 [] y3 (S.take k)) : SameC w4 x3 x4 y1 y3 S now := by
  have hd : Srt (S.drop k) := hs.sublist (List.drop_sublist k S)
  have ht : Srt (S.take k) := hs.sublist (List.take_sublist k S)
  have hv := srt_vis hs now
  have hvl := Nat.le_trans (vis_len S now) hl
  refine ⟨fun wx hb => ?_, fun wx hb => ?_, fun wx hb => ?_, fun wx hb => ?_, fun x wx hx hb => ?_, fun x wx hx hb => ?_⟩
  · refine (all_any _ [S, S] _ (RdB.two wx (h3.bel hb) (h3.bel hb) _) (fun M hM => ?_) (by simp; omega) (by simp)).mono ?_
    · rcases List.mem_cons.1 hM with rfl | hM
      · exact hs
      · rw [List.mem_singleton.1 hM]; exact hs
    · rintro e w2 ⟨⟨x, rfl, hx⟩, hb2⟩
      rw [all_self hs] at hx
      exact ⟨⟨x, rfl, hx.rd0⟩, bwstep (bwalloc hb _) hb2⟩
  · refine (all_any _ [S.drop k, S, S.take k] _ (RdB.three wx (h1.bel hb) (h3.bel hb) (h0.bel hb) _) (fun M hM => ?_) (by simp; omega) (by simp)).mono ?_
    · rcases List.mem_cons.1 hM with rfl | hM
      · exact hd
      · rcases List.mem_cons.1 hM with rfl | hM
        · exact hs
        · rw [List.mem_singleton.1 hM]; exact ht
    · rintro e w2 ⟨⟨x, rfl, hx⟩, hb2⟩
      rw [all_parts hs] at hx
      exact ⟨⟨x, rfl, hx.rd0⟩, bwstep (bwalloc hb _) hb2⟩
  · refine (vis_any _ _ now wx (h4.bel hb) hv (by omega)).mono ?_
    rintro e w2 ⟨⟨x, rfl, hx⟩, hb2⟩
    rw [vis_vis hs] at hx
    exact ⟨⟨x, rfl, hx.rd0⟩, bwstep hb hb2⟩
  · refine (clean_any _ _ now wx (h4.bel hb) hv (by omega)).mono ?_
    rintro e w2 ⟨⟨x, rfl, hx⟩, hb2⟩
    rw [clean_vis hs] at hx
    exact ⟨⟨x, rfl, hx.rd0⟩, bwstep hb hb2⟩
  · refine (rsameL_self x x3 S wx hx (h3.bel hb) (by omega)).mono ?_
    rintro e w2 ⟨rfl, hb2⟩
    exact ⟨rfl, bwstep hb hb2⟩
  · refine (rsameL_self x x4 (visP now S) wx hx (h4.bel hb) (by omega)).mono ?_
    rintro e w2 ⟨rfl, hb2⟩
    exact ⟨rfl, bwstep hb hb2⟩
set_option maxHeartbeats 8000000 in
set_option maxRecDepth 100000 in
theorem mergeSame_walk (v : Value) (L : List Cl) (a1 now : Int) (w : World) (hv : RdL w [] v L) (w1 : (Lit.int .u8 a1).wf = true) (_w2 : (Lit.int .i64 now).wf = true) : Calls Try.prog 9 #[v, .int .u8 a1, .int .i64 now] w fun e w' => e = .returned (.bool true) ∧ Below w.heap.size w w' := by
  obtain ⟨t, rfl, ht⟩ : ∃ t : Nat, a1 = (t : Int) ∧ t < 256 := by
    have := bounds_u8 w1
    exact ⟨a1.toNat, by omega, by omega⟩
  clear w1
  have HV := Lib.hid hv
  clear hv
  go_enter Try.func9, Try.ntmps9
  go_wp2_with fail
  refine (awake13_ok _).mono ?_
  rintro e w1 ⟨rfl, hb1⟩
  have HK1 := Lib.hid hb1
  clear hb1
  go_wp2_with fail
  refine (efew_any _ L _ (HV.out.bel HK1.out)).mono ?_
  rintro e w2 ⟨⟨q, rfl, hq⟩, hb2⟩
  have HK2 := Lib.hid (bwstep HK1.out hb2)
  clear hb2 HK1
  cases q
  · clear hq
    go_wp2_with fail
    refine (awake13_ok _).mono ?_
    rintro e w9 ⟨rfl, hb9⟩
    have H9 := Lib.hid (bwstep HK2.out hb9)
    clear hb9
    go_wp2_with fail
    go_ret
    exact ⟨rfl, H9.out⟩
  · obtain ⟨hl80, hok⟩ := hq rfl
    have HOK := Lib.hid hok
    have hsc := sortC_ok hok
    clear hq hok
    by_cases hnow : 4294967295 < now
    · clear hsc
      go_wp2_with fail
      refine (awake13_ok _).mono ?_
      rintro e w9 ⟨rfl, hb9⟩
      have H9 := Lib.hid (bwstep HK2.out hb9)
      clear hb9
      go_wp2_with fail
      go_ret
      exact ⟨rfl, H9.out⟩
    · go_wp2_with fail
      refine (rsort_any v L _ (HV.out.bel HK2.out) HOK.out (by omega)).mono ?_
      rintro e w3 ⟨⟨x3, rfl, hx3⟩, hb3⟩
      have HB3 := Lib.hid (bwstep HK2.out hb3)
      have hs3 : (sortC L).length ≤ 80 := Nat.le_trans hsc.2.2 hl80
      have HSS := Lib.hid hsc.1
      have HSO := Lib.hid hsc.2.1
      generalize sortC L = S at *
      have HX := Lib.hid (hx3.rd (S := []) (fun _ h => by cases h))
      clear hsc hb3
      obtain ⟨k, hk⟩ : ∃ k : Nat, t % (S.length + 1) = k := ⟨_, rfl⟩
      have hkl : k < S.length + 1 := hk ▸ Nat.mod_lt _ (by omega)
      have hkm : (t : Int) % ((S.length : Int) + 1) = (k : Int) := by rw [← hk, Int.natCast_emod]; rfl
      have hkt : Int.tmod (t : Int) ((S.length : Int) + 1) = (k : Int) := by rw [Int.tmod_eq_emod_of_nonneg (by omega)]; exact hkm
      have hn0 : ¬ (S.length : Int) + 1 = 0 := by omega
      have hn1 : (((S.length : Int) + 1) == 0) = false := by rw [beq_eq_false_iff_ne]; omega
      have hwn : IntKind.i64.wrap ((S.length : Int) + 1) = (S.length : Int) + 1 := by rw [IntKind.wrap_i64]; omega
      have hh3 : (0 : Int) ≤ (k : Int) := by omega
      clear hk
      rcases hx3.shp with ⟨rfl, hS⟩ | ⟨g3, c3, rfl, hc3, hm3⟩
      · subst hS
        obtain rfl : k = 0 := by simpa using hkl
        clear hx3 hkm hkt hn0 hn1 hwn hkl
        go_wp2_with fail
        refine (vis_any _ _ now _ HX.out HSS.out (by omega)).mono ?_
        rintro e w4 ⟨⟨x4, rfl, hx4⟩, hb4⟩
        have hxa := HX.out.bel hb4
        have HC := Lib.hid (SameC.of (k := 0) HSS.out hs3 hxa hx4.rd0 (show RdL w4 [] (.slice none 0 0) [] from RdL.nil _ _) (show RdL w4 [] (.slice none 0 0) [] from RdL.nil _ _))
        have HB4 := Lib.hid (bwstep HB3.out hb4)
        have HD : Hid (Below w4.heap.size w4 w4.drew) := Lib.hid (Below.refl _ _).drew
        clear hx4 hb4 hxa
        go_wp2_with fail
        go_region_held3 (fun w' => Below w4.heap.size w4 w') (first | exact HD.out | assumption | (exact bwalloc (by assumption) _))
          (first
            | (go_at_call 13; refine (HC.out.sameV _ _ hp7 hq7).mono ?_; rintro e wp8 ⟨rfl, hq8⟩)
            | (go_at_call 18; refine (HC.out.cln _ hq6).mono ?_; rintro e wp7 ⟨⟨x7, rfl, hp7⟩, hq7⟩)
            | (go_at_call 13; refine (HC.out.sameV _ _ hp5 hq5).mono ?_; rintro e wp6 ⟨rfl, hq6⟩)
            | (go_at_call 20; refine (HC.out.vis _ hq4).mono ?_; rintro e wp5 ⟨⟨x5, rfl, hp5⟩, hq5⟩)
            | (go_at_call 13; refine (HC.out.sameS _ _ hp3 hq3).mono ?_; rintro e wp4 ⟨rfl, hq4⟩)
            | (go_at_call 14; refine (HC.out.three _ hq2).mono ?_; rintro e wp3 ⟨⟨x3', rfl, hp3⟩, hq3⟩)
            | (go_at_call 13; refine (HC.out.sameS _ _ hp1 hq1).mono ?_; rintro e wp2 ⟨rfl, hq2⟩)
            | (go_at_call 14; refine (HC.out.two _ HD.out).mono ?_; rintro e wp1 ⟨⟨x1, rfl, hp1⟩, hq1⟩))
        all_goals
          go_wp2_with fail
          go_ret
          exact ⟨rfl, bwstep HB4.out hq8⟩
      · unfold maxLen at hm3
        have hk5 : (k : Int) ≤ (S.length : Int) := by omega
        have hk6 : (k : Int) ≤ (c3 : Int) := by omega
        have hk7 : (S.length : Int) ≤ (c3 : Int) := by omega
        clear hx3
        by_cases hck : c3 = k
        · have hSn : S.length = k := by omega
          have HY1 : Hid (∀ w4, RdL w4 [] (.slice (some ⟨g3, 0, none⟩) 0 0) (S.drop k)) := Lib.hid fun w4 => by
            rw [← hSn, List.drop_length]
            exact RdL.none_ (by simp [maxLen])
          clear hSn
          subst hck
          go_wp2_with fail
          refine (vis_any _ _ now _ HX.out HSS.out (by omega)).mono ?_
          rintro e w4 ⟨⟨x4, rfl, hx4⟩, hb4⟩
          have hxa := HX.out.bel hb4
          have HC := Lib.hid (SameC.of (k := c3) HSS.out hs3 hxa hx4.rd0 (HY1.out _) (hxa.to_ (by omega)))
          have HB4 := Lib.hid (bwstep HB3.out hb4)
          have HD : Hid (Below w4.heap.size w4 w4.drew) := Lib.hid (Below.refl _ _).drew
          clear hx4 hb4 hxa
          go_wp2_with fail
          go_region_held3 (fun w' => Below w4.heap.size w4 w') (first | exact HD.out | assumption | (exact bwalloc (by assumption) _))
            (first
              | (go_at_call 13; refine (HC.out.sameV _ _ hp7 hq7).mono ?_; rintro e wp8 ⟨rfl, hq8⟩)
              | (go_at_call 18; refine (HC.out.cln _ hq6).mono ?_; rintro e wp7 ⟨⟨x7, rfl, hp7⟩, hq7⟩)
              | (go_at_call 13; refine (HC.out.sameV _ _ hp5 hq5).mono ?_; rintro e wp6 ⟨rfl, hq6⟩)
              | (go_at_call 20; refine (HC.out.vis _ hq4).mono ?_; rintro e wp5 ⟨⟨x5, rfl, hp5⟩, hq5⟩)
              | (go_at_call 13; refine (HC.out.sameS _ _ hp3 hq3).mono ?_; rintro e wp4 ⟨rfl, hq4⟩)
              | (go_at_call 14; refine (HC.out.three _ hq2).mono ?_; rintro e wp3 ⟨⟨x3', rfl, hp3⟩, hq3⟩)
              | (go_at_call 13; refine (HC.out.sameS _ _ hp1 hq1).mono ?_; rintro e wp2 ⟨rfl, hq2⟩)
              | (go_at_call 14; refine (HC.out.two _ HD.out).mono ?_; rintro e wp1 ⟨⟨x1, rfl, hp1⟩, hq1⟩))
          all_goals
            go_wp2_with fail
            go_ret
            exact ⟨rfl, bwstep HB4.out hq8⟩
        · have HY1 : Hid (∀ w4, RdL w4 [] (.slice (some ⟨g3, 0, none⟩) S.length c3) S → RdL w4 [] (.slice (some ⟨g3, k * 5, none⟩) (S.length - k) (c3 - k)) (S.drop k)) := Lib.hid fun w4 h => by
            have := h.from_ (k := k) (by omega)
            rwa [Nat.zero_add] at this
          go_wp2_with fail
          refine (vis_any _ _ now _ HX.out HSS.out (by omega)).mono ?_
          rintro e w4 ⟨⟨x4, rfl, hx4⟩, hb4⟩
          have hxa := HX.out.bel hb4
          have HC := Lib.hid (SameC.of (k := k) HSS.out hs3 hxa hx4.rd0 (HY1.out _ hxa) (hxa.to_ (by omega)))
          have HB4 := Lib.hid (bwstep HB3.out hb4)
          have HD : Hid (Below w4.heap.size w4 w4.drew) := Lib.hid (Below.refl _ _).drew
          clear hx4 hb4 hxa
          go_wp2_with fail
          go_region_held3 (fun w' => Below w4.heap.size w4 w') (first | exact HD.out | assumption | (exact bwalloc (by assumption) _))
            (first
              | (go_at_call 13; refine (HC.out.sameV _ _ hp7 hq7).mono ?_; rintro e wp8 ⟨rfl, hq8⟩)
              | (go_at_call 18; refine (HC.out.cln _ hq6).mono ?_; rintro e wp7 ⟨⟨x7, rfl, hp7⟩, hq7⟩)
              | (go_at_call 13; refine (HC.out.sameV _ _ hp5 hq5).mono ?_; rintro e wp6 ⟨rfl, hq6⟩)
              | (go_at_call 20; refine (HC.out.vis _ hq4).mono ?_; rintro e wp5 ⟨⟨x5, rfl, hp5⟩, hq5⟩)
              | (go_at_call 13; refine (HC.out.sameS _ _ hp3 hq3).mono ?_; rintro e wp4 ⟨rfl, hq4⟩)
              | (go_at_call 14; refine (HC.out.three _ hq2).mono ?_; rintro e wp3 ⟨⟨x3', rfl, hp3⟩, hq3⟩)
              | (go_at_call 13; refine (HC.out.sameS _ _ hp1 hq1).mono ?_; rintro e wp2 ⟨rfl, hq2⟩)
              | (go_at_call 14; refine (HC.out.two _ HD.out).mono ?_; rintro e wp1 ⟨⟨x1, rfl, hp1⟩, hq1⟩))
          all_goals
            go_wp2_with fail
            go_ret
            exact ⟨rfl, bwstep HB4.out hq8⟩
end Go.Proofs.Ytknkdehjgkjljaa
