/- The walk of MergeSteps. -/
import Derived.Test.YtknkdehjgkjljaaMl1
import Derived.Test.YtknkdehjgkjljaaRowB
namespace Go.Proofs.Ytknkdehjgkjljaa
open Go.RowKit Ce

theorem Ce.Lists.take {SL : List (List Cl)} (h : Lists SL) (k : Nat) : (∀ M ∈ SL.take k, Srt M) ∧ (SL.take k).flatten.length ≤ 1000000 ∧ (SL.take k).length ≤ 1000000 := by
  have h1 := h.fl
  have h2 := h.n
  have e : SL.flatten.length = (SL.take k).flatten.length + (SL.drop k).flatten.length := by
    rw [← List.length_append, ← List.flatten_append, List.take_append_drop]
  exact ⟨fun M hM => h.srt M (List.mem_of_mem_take hM), by omega, by rw [List.length_take]; omega⟩
theorem Ce.Lists.drop {SL : List (List Cl)} (h : Lists SL) (k : Nat) : (∀ M ∈ SL.drop k, Srt M) ∧ (SL.drop k).flatten.length ≤ 1000000 ∧ (SL.drop k).length ≤ 1000000 := by
  have h1 := h.fl
  have h2 := h.n
  exact ⟨fun M hM => h.srt M (List.mem_of_mem_drop hM), Nat.le_trans (flatten_drop_le SL k) (by omega), by rw [List.length_drop]; omega⟩
theorem Ce.mid_one {SL : List (List Cl)} {k : Nat} {M : List Cl} (h : SL[k]? = some M) : (SL.take (k + 1)).drop k = [M] := by
  obtain ⟨hl, rfl⟩ := List.getElem?_eq_some_iff.1 h
  rw [List.take_succ_eq_append_getElem hl, List.drop_left' (by simp; omega)]
/-- the slices that two are made of -/
theorem Ce.two_lists {SL : List (List Cl)} (h : Lists SL) (k : Nat) : allP [allP (SL.take k), allP (SL.drop k)] = allP SL ∧ (∀ M ∈ [allP (SL.take k), allP (SL.drop k)], Srt M) ∧ [allP (SL.take k), allP (SL.drop k)].flatten.length ≤ 1000000 := by
  refine ⟨?_, fun M hM => ?_, ?_⟩
  · rw [all_two fun M hM => h.srt M (List.mem_of_mem_take hM), List.take_append_drop]
  · rcases List.mem_cons.1 hM with rfl | hM
    · exact srt_all _
    · rw [List.mem_singleton.1 hM]
      exact srt_all _
  · have h1 := all_len (SL.take k)
    have h2 := all_len (SL.drop k)
    have e : SL.flatten.length = (SL.take k).flatten.length + (SL.drop k).flatten.length := by
      rw [← List.length_append, ← List.flatten_append, List.take_append_drop]
    have := h.fl
    simp
    omega
set_option maxHeartbeats 8000000 in
set_option maxRecDepth 100000 in
theorem mergeSteps_walk (v : Value) (LL : List (List Cl)) (a1 : Int) (w : World) (hv : RdB w v LL) (hz : ∀ M ∈ LL, M.length < 2199023255552) (hy : LL.length ≤ 140737488351232) (w1 : (Lit.int .u8 a1).wf = true) : Calls Try.prog 7 #[v, .int .u8 a1] w fun e w' => e = .returned (.bool true) ∧ Below w.heap.size w w' := by
  obtain ⟨t, rfl, ht⟩ : ∃ t : Nat, a1 = (t : Int) ∧ t < 256 := by
    have := bounds_u8 w1
    exact ⟨a1.toNat, by omega, by omega⟩
  clear w1
  have HV := Lib.hid hv
  obtain ⟨Av, cv, rfl, hcv, hmv⟩ := hv.shape
  clear hv
  go_enter Try.func7, Try.ntmps7
  go_wp2_with fail
  refine (awake13_ok _).mono ?_
  rintro e w1 ⟨rfl, hb1⟩
  have HK1 := Lib.hid hb1
  clear hb1
  go_wp2_with fail
  refine (rfew13_any _ LL _ (HV.out.bel HK1.out) hz hy).mono ?_
  rintro e w2 ⟨⟨q, rfl, hq⟩, hb2⟩
  have HK2 := Lib.hid (bwstep HK1.out hb2)
  clear hb2 HK1
  cases q
  · clear hq
    go_wp2_with fail
    refine (awake13_ok _).mono ?_
    rintro e w9 ⟨rfl, hb9⟩
    have H9 := Lib.hid (bwstep HK2.out hb9)
    clear hb9
    go_wp2_with fail
    go_ret
    exact ⟨rfl, H9.out⟩
  · have hfew : Few13 LL := hq rfl
    have HLS := Lib.hid (few_sorts hfew)
    have HOK := Lib.hid (fun M hM => (hfew.2.2 M hM).2)
    have HLE := Lib.hid (fun M hM => (hfew.2.2 M hM).1)
    have hn20 := hfew.1
    clear hq hfew
    rcases Nat.eq_zero_or_pos LL.length with h00 | h00
    · have h01 : (LL.length : Int) = 0 := by omega
      go_wp2_with fail
      refine (awake13_ok _).mono ?_
      rintro e w9 ⟨rfl, hb9⟩
      have H9 := Lib.hid (bwstep HK2.out hb9)
      clear hb9
      go_wp2_with fail
      go_ret
      exact ⟨rfl, H9.out⟩
    · have h01 : ((LL.length : Int) == 0) = false := by rw [beq_eq_false_iff_ne]; omega
      have h02 : ¬ (LL.length : Int) = 0 := by omega
      go_wp2_with fail
      refine (rsorts_any _ LL _ (HV.out.bel HK2.out) HOK.out (fun M hM => Nat.le_trans (HLE.out M hM) (by decide)) (by omega)).mono ?_
      rintro e w3 ⟨⟨x3, vs, rfl, hx3⟩, hb3⟩
      have HB3 := Lib.hid (bwstep HK2.out hb3)
      have HX := Lib.hid hx3.rd
      have hln : (LL.map sortC).length = LL.length := by simp
      have h03 : 0 < (LL.map sortC).length := by omega
      generalize LL.map sortC = SL at *
      clear hb3 h00 h01 h02 hln
      obtain ⟨A3, c3, rfl, hc3, hm3⟩ := HX.out.shape
      unfold maxLen at hm3
      obtain ⟨b3, o3, rfl, hbl3⟩ := HX.out.open_ h03
      obtain ⟨k, hk⟩ : ∃ k : Nat, t % SL.length = k := ⟨_, rfl⟩
      have hkl : k < SL.length := hk ▸ Nat.mod_lt _ h03
      have hkm : (t : Int) % (SL.length : Int) = (k : Int) := by rw [← hk, Int.natCast_emod]
      have hkt : Int.tmod (t : Int) (SL.length : Int) = (k : Int) := by rw [Int.tmod_eq_emod_of_nonneg (by omega)]; exact hkm
      have hn0 : ¬ (SL.length : Int) = 0 := by omega
      have hfk : SL[k]? = some (SL[k]'hkl) := List.getElem?_eq_getElem _
      generalize SL[k]'hkl = M at hfk
      have HFK := Lib.hid hfk
      clear hx3 hk
      have HHK := Lib.hid hkl
      have hh3 : (0 : Int) ≤ (k : Int) := by omega
      have hh4 : (k : Int) < (SL.length : Int) := by omega
      have hck : ¬ c3 = k := by omega
      have hsn := HLS.out.n
      have hk5 : (k : Int) ≤ (SL.length : Int) := by omega
      have hk6 : (k : Int) ≤ (c3 : Int) := by omega
      have hk7 : (SL.length : Int) ≤ (c3 : Int) := by omega
      have HT1 : Hid (∀ w', Below w3.heap.size w3 w' → Calls Try.prog 14 #[.slice (some ⟨b3, o3, none⟩) k c3] w' fun e w2 => (∃ A c, e = .returned (.slice A (allP (SL.take k)).length c) ∧ OwL w2 w'.heap.size (.slice A (allP (SL.take k)).length c) (allP (SL.take k))) ∧ Below w'.heap.size w' w2) := Lib.hid fun w' hb => by
        obtain ⟨q1, q2, q3⟩ := HLS.out.take k
        refine (all_any _ (SL.take k) w' ((HX.out.bel hb).cutTo (by omega)) q1 q2 q3).mono ?_
        rintro e w2 ⟨⟨x, rfl, hx⟩, hb2⟩
        obtain ⟨A, c, rfl, -, -⟩ := hx.rd0.shape
        exact ⟨⟨A, c, rfl, hx⟩, hb2⟩
      have HT2 : Hid (∀ w', Below w3.heap.size w3 w' → Calls Try.prog 14 #[.slice (some ⟨b3, o3 + k, none⟩) (SL.length - k) (c3 - k)] w' fun e w2 => (∃ A c, e = .returned (.slice A (allP (SL.drop k)).length c) ∧ OwL w2 w'.heap.size (.slice A (allP (SL.drop k)).length c) (allP (SL.drop k))) ∧ Below w'.heap.size w' w2) := Lib.hid fun w' hb => by
        obtain ⟨q1, q2, q3⟩ := HLS.out.drop k
        refine (all_any _ (SL.drop k) w' ((HX.out.bel hb).fromC (by omega) hck) q1 q2 q3).mono ?_
        rintro e w2 ⟨⟨x, rfl, hx⟩, hb2⟩
        obtain ⟨A, c, rfl, -, -⟩ := hx.rd0.shape
        exact ⟨⟨A, c, rfl, hx⟩, hb2⟩
      have HD : Hid (Below w3.heap.size w3 w3.drew) := Lib.hid (Below.refl _ _).drew
      generalize hn1 : (allP (SL.take k)).length = n1 at *
      generalize hn2 : (allP (SL.drop k)).length = n2 at *
      clear hn1 hn2
      clear hfk
      go_wp2_with fail
      go_region_held3 (fun w' => Below w3.heap.size w3 w') (first | exact HD.out | assumption | (exact bwstep (by assumption) (by assumption)) | (exact bwalloc (by assumption) _))
        (first
          | (go_at_call 14; refine (HT2.out _ hBa).mono ?_; rintro e wb ⟨⟨Ab, cb, rfl, hxb⟩, hbb⟩; have hXa := hxa.rd0.bel hbb; have hXb := hxb.rd0; have hBb := bwstep hBa hbb; clear hbb hxb hxa)
          | (go_at_call 14; refine (HT1.out _ HD.out).mono ?_; rintro e wa ⟨⟨Aa, ca, rfl, hxa⟩, hba⟩; have hBa := bwstep HD.out hba; clear hba))
      all_goals
        obtain ⟨e1, e2, e3⟩ := two_lists HLS.out k
        have hrb := RdB.two wb hXa hXb 27
        have hb5 := bwalloc hBb (.cells #[.slice Aa n1 ca, .slice Ab n2 cb] 27)
        clear hXa hXb hBa hBb
        generalize wb.alloc (.cells #[.slice Aa n1 ca, .slice Ab n2 cb] 27) = w5 at *
        generalize wb.heap.size = g5 at *
        have HAA : Hid (∀ w', Below w5.heap.size w5 w' → Calls Try.prog 14 #[.slice (some ⟨g5, 0, none⟩) 2 2] w' fun e w2 => (∃ x, e = .returned x ∧ RdL w2 [] x (allP SL)) ∧ Below w'.heap.size w' w2) := Lib.hid fun w' hb => by
          refine (all_any _ _ w' (hrb.bel hb) e2 e3 (by simp)).mono ?_
          rintro e w2 ⟨⟨x, rfl, hx⟩, hb2⟩
          rw [e1] at hx
          exact ⟨⟨x, rfl, hx.rd0⟩, hb2⟩
        have HAS : Hid (∀ w', Below w5.heap.size w5 w' → Calls Try.prog 14 #[.slice (some ⟨b3, o3, none⟩) SL.length c3] w' fun e w2 => (∃ x, e = .returned x ∧ RdL w2 [] x (allP SL)) ∧ Below w'.heap.size w' w2) := Lib.hid fun w' hb => by
          refine (all_any _ SL w' (HX.out.bel (bwstep hb5 hb)) HLS.out.srt (Nat.le_trans HLS.out.fl (by decide)) (Nat.le_trans HLS.out.n (by decide))).mono ?_
          rintro e w2 ⟨⟨x, rfl, hx⟩, hb2⟩
          exact ⟨⟨x, rfl, hx.rd0⟩, hb2⟩
        have HAM : Hid (∀ w', Below w5.heap.size w5 w' → Calls Try.prog 14 #[.slice (some ⟨b3, o3 + k, none⟩) 1 (c3 - k)] w' fun e w2 => (∃ x, e = .returned x ∧ RdL w2 [] x M) ∧ Below w'.heap.size w' w2) := Lib.hid fun w' hb => by
          have hm1 := (HX.out.bel (bwstep hb5 hb)).midC (lo := k) (hi := k + 1) (by omega) (by omega) hck
          rw [mid_one HFK.out, Nat.add_sub_cancel_left] at hm1
          have hms := HLS.out.srt M (List.mem_of_getElem? HFK.out)
          have hml := HLS.out.le M (List.mem_of_getElem? HFK.out)
          refine (all_any _ [M] w' hm1 (fun A hA => by rw [List.mem_singleton.1 hA]; exact hms) (by simp; omega) (by simp)).mono ?_
          rintro e w2 ⟨⟨x, rfl, hx⟩, hb2⟩
          rw [all_one hms] at hx
          exact ⟨⟨x, rfl, hx.rd0⟩, hb2⟩
        have hml := HLS.out.le M (List.mem_of_getElem? HFK.out)
        have hal := all_len2 HLS.out
        obtain ⟨A1, c1, hc1, hcl1, hcm1, hr1⟩ := HX.out.row HFK.out
        have HM1 := Lib.hid hr1
        have hb3b := hbl3
        have HCE : Hid (∀ z, Below w5.heap.size w5 z → (z.cell? ⟨b3, o3 + k, none⟩ = some (.slice A1 M.length c1) ∧ Below w5.heap.size w5 z)) := Lib.hid fun z hz => ⟨((bwstep hb5 hz).cell (p := ⟨b3, o3 + k, none⟩) hb3b).trans hc1, hz⟩
        have HT := Lib.hid (HCE.out _ (Below.refl _ _).drew)
        have HD5 : Hid (Below w5.heap.size w5 w5.drew) := Lib.hid (Below.refl _ _).drew
        have HB5 := Lib.hid hb5
        have hww1 : IntKind.i64.wrap ((k : Int) + 1) = (k : Int) + 1 := by rw [IntKind.wrap_i64]; omega
        have hww2 : (k : Int) + 1 ≤ (c3 : Int) := by omega
        have hww3 : (k : Int) ≤ (k : Int) + 1 := by omega
        have hww4 : ((k : Int) + 1).toNat = k + 1 := by omega
        have hww5 : (0 : Int) ≤ (k : Int) + 1 := by omega
        clear e1 e2 e3 hrb hb5 hc1 hr1
        go_wp2_with fail
        go_region_held3 (fun w' => w'.cell? ⟨b3, o3 + k, none⟩ = some (.slice A1 M.length c1) ∧ Below w5.heap.size w5 w') (first | exact HT.out | assumption | (exact HCE.out _ (by assumption)))
          (first
            | (go_at_call 13; refine (rsameL_self _ _ M _ hp4 (HM1.out.bel (bwstep HB5.out hq4)) (by omega)).mono ?_; rintro e wp5 ⟨rfl, hb5⟩; have hq5 := bwstep hq4 hb5; clear hb5 hp4)
            | (go_at_call 14; refine (HAM.out _ hq3).mono ?_; rintro e wp4 ⟨⟨x4, rfl, hp4⟩, hb4⟩; have hq4 := bwstep hq3 hb4; clear hb4)
            | (go_at_call 13; refine (rsameL_self _ _ (allP SL) _ hp1 hp2 (by omega)).mono ?_; rintro e wp3 ⟨rfl, hb3⟩; have hq3 := bwstep hq2 hb3; clear hb3 hp1 hp2)
            | (go_at_call 14; refine (HAS.out _ hq1).mono ?_; rintro e wp2 ⟨⟨x2, rfl, hp2⟩, hb2⟩; have hp1 := hp0.bel hb2; have hq2 := bwstep hq1 hb2; clear hb2 hp0)
            | (go_at_call 14; refine (HAA.out _ HD5.out).mono ?_; rintro e wp1 ⟨⟨x1, rfl, hp0⟩, hb1⟩; have hq1 := bwstep HD5.out hb1; clear hb1))
        all_goals
          go_wp2_with fail
          go_ret
          exact ⟨rfl, bwstep HB3.out (bwstep HB5.out hq5)⟩
end Go.Proofs.Ytknkdehjgkjljaa
