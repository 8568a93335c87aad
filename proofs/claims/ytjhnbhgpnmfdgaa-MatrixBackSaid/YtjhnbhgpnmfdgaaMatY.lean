/- The statements of layer 4: the walk of MatrixBack. -/
import Derived.Test.YtjhnbhgpnmfdgaaMatW
import Derived.Test.YtjhnbhgpnmfdgaaMatT
namespace Go.Proofs.Ytjhnbhgpnmfdgaa
open Go.RowKit
open Mx (rw rw_len rw_get rw_congr dl cod mm dt rws)

theorem det_pos (n : Nat) (h0 : 0 < n) (hn : n ≤ 1000000) (v : Value) (W : Mx.M) (w : World) (hr : RdM w w.heap.size v n (fun i => rw n (W i))) :
    Calls Try.prog 18 #[v] w fun e w' => e = .returned (.int .u8 ((dt n (rws n W)).toNat : Int)) ∧ Below w.heap.size w w' := by
  obtain ⟨m, rfl⟩ : ∃ m, n = m + 1 := ⟨n - 1, by omega⟩
  exact det_any m (by omega) v W w hr
set_option maxHeartbeats 16000000 in
set_option maxRecDepth 100000 in
theorem matrixBack_walk (v : Value) (n : Nat) (g : Nat → List UInt8) (w : World) (hr : RdM w w.heap.size v n g) :
    Calls Try.prog 4 #[v] w fun e w' => e = .returned (.bool true) ∧ Below w.heap.size w w' := by
  go_enter Try.func4, Try.ntmps4
  go_wp2_with fail
  refine (awake_ok _).mono ?_
  rintro e wa ⟨rfl, hb⟩
  have h1 := hr.up hb
  clear hr
  go_wp2_with fail
  refine (Calls.bel (few_any _ n g 5 _ _ h1)).mono ?_
  rintro e wb ⟨rfl, hbx⟩
  have k1 := h1.up hbx
  have hbb := bwstep hb hbx
  clear h1 hb hbx
  by_cases f1 : few n g 5 = true
  · rw [f1]
    obtain ⟨q, a, hn, hn', hq, hq', m1, -⟩ := few_out k1 f1
    clear k1 f1
    obtain ⟨A1, c1, rfl, -, -⟩ := m1.shape
    obtain ⟨b1, o1, rfl, hb1⟩ := m1.open_ hn
    by_cases hnq : n = q
    · subst hnq
      go_wp2_with fail
      refine (invert_any _ n a _ m1 hn (by omega)).mono ?_
      rintro e wc ⟨⟨x, vx, X, rfl, hx, hX1, hX2, hd⟩ | ⟨rfl, hd, -⟩, hbx⟩
      · have m1 := m1.up hbx
        have hbb := bwstep hbb hbx
        have x1 := hx.rd
        obtain ⟨A0, c0, hcell0, -, -, -⟩ := m1.rowT (j := 0) hn
        rw [Nat.add_zero] at hcell0
        have HX1 := Lib.hid hX1
        have HX2 := Lib.hid hX2
        have hne : (((dt n (rws n a)).toNat : Int) != 0) = true := bne_iff_ne.2 (fun e => hd (Mx.nat_zero.1 (by omega)))
        clear hx hX1 hX2 hd hbx
        go_wp2_with fail
        clear hcell0
        refine (det_pos n hn (by omega) _ a _ m1).mono ?_
        rintro e wd ⟨rfl, hbx⟩
        have m1 := m1.up hbx
        have x1 := x1.up hbx
        have hbb := bwstep hbb hbx
        clear hbx
        go_wp2_with fail
        refine (rmmul_any _ _ n n n a X _ m1 x1 hn hn hn (by omega) (by omega)).mono ?_
        rintro e we ⟨⟨y, vy, rfl, hy⟩, hbx⟩
        have y1 := hy.rd
        have m1 := m1.up hbx
        have x1 := x1.up hbx
        have hbb := bwstep hbb hbx
        clear hbx hy
        go_wp2_with fail
        refine (one_any n _ (by omega) (by omega)).mono ?_
        rintro e wf ⟨⟨z, vz, rfl, hz⟩, hbx⟩
        have z1 := hz.rd
        have y1 := y1.up hbx
        have m1 := m1.up hbx
        have x1 := x1.up hbx
        have hbb := bwstep hbb hbx
        clear hbx hz
        go_wp2_with fail
        refine (Calls.bel (rsameM_any _ _ n n _ _ _ _ _ y1 z1)).mono ?_
        rintro e wg ⟨rfl, hbx⟩
        rw [sameM_rw HX2.out]
        have m1 := m1.up hbx
        have x1 := x1.up hbx
        have hbb := bwstep hbb hbx
        clear hbx y1 z1
        go_wp2_with fail
        refine (rmmul_any _ _ n n n X a _ x1 m1 hn hn hn (by omega) (by omega)).mono ?_
        rintro e wh ⟨⟨y', vy', rfl, hy⟩, hbx⟩
        have y1 := hy.rd
        have m1 := m1.up hbx
        have hbb := bwstep hbb hbx
        clear hbx hy
        go_wp2_with fail
        refine (one_any n _ (by omega) (by omega)).mono ?_
        rintro e wi ⟨⟨z', vz', rfl, hz⟩, hbx⟩
        have z1 := hz.rd
        have y1 := y1.up hbx
        have hbb := bwstep hbb hbx
        clear hbx hz m1
        go_wp2_with fail
        refine (Calls.bel (rsameM_any _ _ n n _ _ _ _ _ y1 z1)).mono ?_
        rintro e wj ⟨rfl, hbx⟩
        rw [sameM_rw HX1.out]
        have hbb := bwstep hbb hbx
        clear hbx y1 z1
        go_wp2_with fail
        go_ret
        exact ⟨rfl, hbb⟩
      · have m1 := m1.up hbx
        have hbb := bwstep hbb hbx
        obtain ⟨A0, c0, hcell0, -, -, -⟩ := m1.rowT (j := 0) hn
        rw [Nat.add_zero] at hcell0
        clear hbx
        go_wp2_with fail
        clear hcell0
        refine (det_pos n hn (by omega) _ a _ m1).mono ?_
        rintro e wd ⟨rfl, hbx⟩
        have hbb := bwstep hbb hbx
        rw [hd]
        clear m1 hbx hd
        go_wp2_with fail
        go_ret
        exact ⟨rfl, hbb⟩
    · go_wp2_with fail
      refine (invert_no _ n q a _ m1 hn hq hnq).mono ?_
      rintro e wc ⟨rfl, rfl⟩
      obtain ⟨A0, c0, hcell0, -, -, -⟩ := m1.rowT (j := 0) hn
      rw [Nat.add_zero] at hcell0
      have t1 : ((n : Int) != (q : Int)) = true := bne_iff_ne.2 (fun e => hnq (Int.ofNat.inj e))
      clear m1 hnq
      go_wp2_with fail
      go_ret
      exact ⟨rfl, hbb⟩
  · have f1' : few n g 5 = false := by simpa using f1
    rw [f1']
    clear k1 f1
    go_wp2_with fail
    refine (awake_ok _).mono ?_
    rintro e we ⟨rfl, hbx⟩
    have hbb := bwstep hbb hbx
    go_wp2_with fail
    go_ret
    exact ⟨rfl, hbb⟩
end Go.Proofs.Ytjhnbhgpnmfdgaa
