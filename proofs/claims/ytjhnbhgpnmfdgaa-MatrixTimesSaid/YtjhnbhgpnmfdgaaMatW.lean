/- The statements of layer 4: the walk of MatrixProducts. -/
import Derived.Test.YtjhnbhgpnmfdgaaMatV
namespace Go.Proofs.Ytjhnbhgpnmfdgaa
open Go.RowKit
open Mx (rw rw_len rw_get rw_congr dl cod mm dt rws)

/-- a small matrix, in the form of tables -/
theorem few_out {w : World} {B n most : Nat} {v : Value} {g : Nat → List UInt8} (hr : RdM w B v n g) (h : few n g most = true) : ∃ (q : Nat) (a : Mx.M), 0 < n ∧ n ≤ most ∧ 0 < q ∧ q ≤ most ∧ RdM w B v n (fun i => rw q (a i)) ∧ ∀ i, i < n → g i = rw q (a i) := by
  unfold few at h
  simp only [Bool.and_eq_true, decide_eq_true_iff] at h
  obtain ⟨⟨h1, h2⟩, h3⟩ := h
  obtain ⟨r1, r2, r3⟩ := isR_out h2
  have e : ∀ i, i < n → g i = rw (g 0).length (fun j => (g i).getD j 0) := fun i hi => by
    conv => lhs; rw [← Mx.rw_of (g i)]
    rw [r3 i hi]
  exact ⟨(g 0).length, fun i j => (g i).getD j 0, r1, h1, r2, h3, hr.congr e, e⟩
set_option maxHeartbeats 8000000 in
set_option maxRecDepth 100000 in
theorem matrixProducts_walk (v v' : Value) (n n' : Nat) (g g' : Nat → List UInt8) (w : World) (hr : RdM w w.heap.size v n g) (hr' : RdM w w.heap.size v' n' g') :
    Calls Try.prog 3 #[v, v'] w fun e w' => e = .returned (.bool true) ∧ Below w.heap.size w w' := by
  obtain ⟨A, c, rfl, hc, hm⟩ := hr.shape
  obtain ⟨A', c', rfl, hc', hm'⟩ := hr'.shape
  unfold maxLen at hm hm'
  by_cases hsz : n ≤ 12 ∧ n' ≤ 12
  · obtain ⟨hn, hn'⟩ := hsz
    have t1 : ¬ (12 : Int) < n := by omega
    have t2 : ¬ (12 : Int) < n' := by omega
    by_cases hF : few n g 12 = true
    · by_cases hF' : few n' g' 12 = true
      · obtain ⟨q, a, hn0, -, hq0, hq1, ha, -⟩ := few_out hr hF
        obtain ⟨r, b, hn0', -, hr0, hr1, hb, -⟩ := few_out hr' hF'
        have HF1 := Lib.hid hF
        have HF2 := Lib.hid hF'
        clear hF hF'
        go_enter Try.func3, Try.ntmps3
        go_wp2_with fail
        refine (awake_ok _).mono ?_
        rintro e w1 ⟨rfl, hb1⟩
        have hr1 := hr.up hb1
        have hr1' := hr'.up hb1
        have ha1 := ha.up hb1
        have hB1 := hb.up hb1
        clear hr hr' ha hb
        go_wp2_with fail
        refine (right_any _ n g _ _ hr1).mono ?_
        rintro e w2 ⟨rfl, rfl⟩
        go_wp2_with fail
        refine (Calls.bel (rright_any _ n g _ _ hr1)).mono ?_
        rintro e w2 ⟨rfl, hbx⟩
        have hr2 := hr1.up hbx
        have hr2' := hr1'.up hbx
        have ha2 := ha1.up hbx
        have hB2 := hB1.up hbx
        have hb2 := bwstep hb1 hbx
        clear hr1 hr1' ha1 hB1 hb1 hbx
        go_wp2_with fail
        refine (Calls.bel (few_any _ n g 12 _ _ hr2)).mono ?_
        rintro e w3 ⟨rfl, hbx⟩
        rw [HF1.out]
        have hr3' := hr2'.up hbx
        have ha3 := ha2.up hbx
        have hB3 := hB2.up hbx
        have hb3 := bwstep hb2 hbx
        clear hr2 hr2' ha2 hB2 hb2 hbx
        go_wp2_with fail
        refine (Calls.bel (few_any _ n' g' 12 _ _ hr3')).mono ?_
        rintro e w4 ⟨rfl, hbx⟩
        rw [HF2.out]
        have ha4 := ha3.up hbx
        have hB4 := hB3.up hbx
        have hb4 := bwstep hb3 hbx
        clear hr3' ha3 hB3 hb3 hbx
        obtain ⟨ba, offa, rfl, hba⟩ := ha4.open_ hn0
        go_wp2_with fail
        by_cases hq : q = n'
        · subst hq
          refine (mmul_any _ _ n q r a b _ ha4 hB4 hn0 hq0 hr0 (by omega) (by omega)).mono ?_
          rintro e w5 ⟨⟨x, vx, rfl, hx⟩, hbx⟩
          have hx5 := hx.rd
          have ha5 := ha4.up hbx
          have hB5 := hB4.up hbx
          have hb5 := bwstep hb4 hbx
          clear hx ha4 hB4 hb4 hbx
          go_wp2_with fail
          refine (rmmul_any _ _ n q r a b _ ha5 hB5 hn0 hq0 hr0 (by omega) (by omega)).mono ?_
          rintro e w6 ⟨⟨y, vy, rfl, hy⟩, hbx⟩
          have hy6 := hy.rd
          have hx6 := hx5.up hbx
          have ha6 := ha5.up hbx
          have hb6 := bwstep hb5 hbx
          clear hy hx5 ha5 hB5 hb5 hbx
          go_wp2_with fail
          refine (Calls.bel (rsameM_any _ _ n n _ _ _ _ _ hx6 hy6)).mono ?_
          rintro e w7 ⟨rfl, hbx⟩
          rw [sameM_rw fun _ _ _ _ => rfl]
          have ha7 := ha6.up hbx
          have hb7 := bwstep hb6 hbx
          clear hy6 hx6 ha6 hb6 hbx
          go_wp2_with fail
          refine (one_any n _ (by omega) (by omega)).mono ?_
          rintro e w8 ⟨⟨x, vx, rfl, hx⟩, hbx⟩
          have hx8 := hx.rd
          have ha8 := ha7.up hbx
          have hb8 := bwstep hb7 hbx
          clear hx ha7 hb7 hbx
          go_wp2_with fail
          refine (mmul_any _ _ n n q _ a _ hx8 ha8 hn0 hn0 hq0 (by omega) (by omega)).mono ?_
          rintro e w9 ⟨⟨y, vy, rfl, hy⟩, hbx⟩
          have hy9 := hy.rd
          have ha9 := ha8.up hbx
          have hb9 := bwstep hb8 hbx
          clear hy hx8 ha8 hb8 hbx
          go_wp2_with fail
          refine (Calls.bel (rsameM_any _ _ n n _ _ _ _ _ hy9 ha9)).mono ?_
          rintro e w10 ⟨rfl, hbx⟩
          rw [sameM_rw fun i hi j _ => Mx.one_mm a j hi]
          have ha10 := ha9.up hbx
          have hb10 := bwstep hb9 hbx
          clear hy9 ha9 hb9 hbx
          obtain ⟨A0, c0, hcell0, h0c, h0m, h0r⟩ := ha10.rowT (j := 0) hn0
          rw [Nat.add_zero] at hcell0
          clear h0r
          go_wp2_with fail
          refine (one_any q _ (by omega) (by omega)).mono ?_
          rintro e w11 ⟨⟨x', vx', rfl, hx'⟩, hbx⟩
          have hx11 := hx'.rd
          have ha11 := ha10.up hbx
          have hb11 := bwstep hb10 hbx
          clear hx' ha10 hb10 hbx hcell0
          go_wp2_with fail
          refine (mmul_any _ _ n q q a _ _ ha11 hx11 hn0 hq0 hq0 (by omega) (by omega)).mono ?_
          rintro e w12 ⟨⟨z, vz, rfl, hz⟩, hbx⟩
          have hz12 := hz.rd
          have ha12 := ha11.up hbx
          have hb12 := bwstep hb11 hbx
          clear hz hx11 ha11 hb11 hbx
          go_wp2_with fail
          refine (Calls.bel (rsameM_any _ _ n n _ _ _ _ _ hz12 ha12)).mono ?_
          rintro e w13 ⟨rfl, hbx⟩
          rw [sameM_rw fun i _ j hj => Mx.mm_one a i hj]
          have hb13 := bwstep hb12 hbx
          clear hz12 ha12 hb12 hbx
          go_wp2_with fail
          go_ret
          exact ⟨rfl, hb13⟩
        · refine (mmul_no _ _ n q n' r a b _ ha4 hB4 hn0 hq0 hn0' hr0 hq).mono ?_
          rintro e w5 ⟨rfl, rfl⟩
          go_wp2_with fail
          refine (rmmul_no _ _ n q n' _ a _ _ _ ha4 hB4 hn0 hq).mono ?_
          rintro e w5 ⟨rfl, rfl⟩
          go_wp2_with fail
          refine (Calls.bel (rsameM_any _ _ 0 0 (fun _ => []) (fun _ => []) 0 0 _ (RdM.nil _ _ _) (RdM.nil _ _ _))).mono ?_
          rintro e w7 ⟨rfl, hbx⟩
          rw [sameM_true fun _ _ => rfl]
          have ha7 := ha4.up hbx
          have hb7 := bwstep hb4 hbx
          clear ha4 hB4 hb4 hbx
          go_wp2_with fail
          refine (one_any n _ (by omega) (by omega)).mono ?_
          rintro e w8 ⟨⟨x, vx, rfl, hx⟩, hbx⟩
          have hx8 := hx.rd
          have ha8 := ha7.up hbx
          have hb8 := bwstep hb7 hbx
          clear hx ha7 hb7 hbx
          go_wp2_with fail
          refine (mmul_any _ _ n n q _ a _ hx8 ha8 hn0 hn0 hq0 (by omega) (by omega)).mono ?_
          rintro e w9 ⟨⟨y, vy, rfl, hy⟩, hbx⟩
          have hy9 := hy.rd
          have ha9 := ha8.up hbx
          have hb9 := bwstep hb8 hbx
          clear hy hx8 ha8 hb8 hbx
          go_wp2_with fail
          refine (Calls.bel (rsameM_any _ _ n n _ _ _ _ _ hy9 ha9)).mono ?_
          rintro e w10 ⟨rfl, hbx⟩
          rw [sameM_rw fun i hi j _ => Mx.one_mm a j hi]
          have ha10 := ha9.up hbx
          have hb10 := bwstep hb9 hbx
          clear hy9 ha9 hb9 hbx
          obtain ⟨A0, c0, hcell0, h0c, h0m, h0r⟩ := ha10.rowT (j := 0) hn0
          rw [Nat.add_zero] at hcell0
          clear h0r
          go_wp2_with fail
          refine (one_any q _ (by omega) (by omega)).mono ?_
          rintro e w11 ⟨⟨x', vx', rfl, hx'⟩, hbx⟩
          have hx11 := hx'.rd
          have ha11 := ha10.up hbx
          have hb11 := bwstep hb10 hbx
          clear hx' ha10 hb10 hbx hcell0
          go_wp2_with fail
          refine (mmul_any _ _ n q q a _ _ ha11 hx11 hn0 hq0 hq0 (by omega) (by omega)).mono ?_
          rintro e w12 ⟨⟨z, vz, rfl, hz⟩, hbx⟩
          have hz12 := hz.rd
          have ha12 := ha11.up hbx
          have hb12 := bwstep hb11 hbx
          clear hz hx11 ha11 hb11 hbx
          go_wp2_with fail
          refine (Calls.bel (rsameM_any _ _ n n _ _ _ _ _ hz12 ha12)).mono ?_
          rintro e w13 ⟨rfl, hbx⟩
          rw [sameM_rw fun i _ j hj => Mx.mm_one a i hj]
          have hb13 := bwstep hb12 hbx
          clear hz12 ha12 hb12 hbx
          go_wp2_with fail
          go_ret
          exact ⟨rfl, hb13⟩
      · have hF2 : few n' g' 12 = false := by simpa using hF'
        have HF1 := Lib.hid hF
        clear hF hF'
        go_enter Try.func3, Try.ntmps3
        go_wp2_with fail
        refine (awake_ok _).mono ?_
        rintro e w1 ⟨rfl, hb1⟩
        have hr1 := hr.up hb1
        have hr1' := hr'.up hb1
        clear hr hr'
        go_wp2_with fail
        refine (right_any _ n g _ _ hr1).mono ?_
        rintro e w2 ⟨rfl, rfl⟩
        go_wp2_with fail
        refine (Calls.bel (rright_any _ n g _ _ hr1)).mono ?_
        rintro e w2 ⟨rfl, hbx⟩
        have hr2 := hr1.up hbx
        have hr2' := hr1'.up hbx
        have hb2 := bwstep hb1 hbx
        clear hr1 hr1' hb1 hbx
        go_wp2_with fail
        refine (Calls.bel (few_any _ n g 12 _ _ hr2)).mono ?_
        rintro e w3 ⟨rfl, hbx⟩
        rw [HF1.out]
        have hr3' := hr2'.up hbx
        have hb3 := bwstep hb2 hbx
        clear hr2 hr2' hb2 hbx
        go_wp2_with fail
        refine (Calls.bel (few_any _ n' g' 12 _ _ hr3')).mono ?_
        rintro e w4 ⟨rfl, hbx⟩
        rw [hF2]
        have hb4 := bwstep hb3 hbx
        clear hr3' hb3 hbx
        go_wp2_with fail
        go_ret
        exact ⟨rfl, hb4⟩
    · have hF2 : few n g 12 = false := by simpa using hF
      go_enter Try.func3, Try.ntmps3
      go_wp2_with fail
      refine (awake_ok _).mono ?_
      rintro e w1 ⟨rfl, hb1⟩
      have hr1 := hr.up hb1
      clear hr hr'
      go_wp2_with fail
      refine (right_any _ n g _ _ hr1).mono ?_
      rintro e w2 ⟨rfl, rfl⟩
      go_wp2_with fail
      refine (Calls.bel (rright_any _ n g _ _ hr1)).mono ?_
      rintro e w2 ⟨rfl, hb⟩
      have hr2 := hr1.up hb
      have hb2 := bwstep hb1 hb
      clear hr1 hb1 hb
      go_wp2_with fail
      refine (Calls.bel (few_any _ n g 12 _ _ hr2)).mono ?_
      rintro e w3 ⟨rfl, hb⟩
      rw [hF2]
      have hb3 := bwstep hb2 hb
      clear hr2 hb2
      go_wp2_with fail
      go_ret
      exact ⟨rfl, hb3⟩
  · go_enter Try.func3, Try.ntmps3
    go_wp2_with fail
    refine (awake_ok _).mono ?_
    rintro e w1 ⟨rfl, hb1⟩
    by_cases t1 : (12 : Int) < n
    · go_wp2_with fail
      refine (awake_ok _).mono ?_
      rintro e w2 ⟨rfl, hb2⟩
      have hb3 := bwstep hb1 hb2
      go_wp2_with fail
      go_ret
      exact ⟨rfl, hb3⟩
    · have t2 : (12 : Int) < n' := by omega
      go_wp2_with fail
      refine (awake_ok _).mono ?_
      rintro e w2 ⟨rfl, hb2⟩
      have hb3 := bwstep hb1 hb2
      go_wp2_with fail
      go_ret
      exact ⟨rfl, hb3⟩
end Go.Proofs.Ytjhnbhgpnmfdgaa
