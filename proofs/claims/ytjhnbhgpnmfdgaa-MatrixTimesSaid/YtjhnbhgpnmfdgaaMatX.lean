/- The statements of layer 4: the walk of MatrixTimes. -/
import Derived.Test.YtjhnbhgpnmfdgaaMatW
import Derived.Deep.RegionHeld3
namespace Go.Proofs.Ytjhnbhgpnmfdgaa
open Go.RowKit
open Mx (rw rw_len rw_get rw_congr dl cod mm dt rws)

set_option maxHeartbeats 16000000 in
set_option maxRecDepth 100000 in
theorem matrixTimes_walk (v1 v2 v3 : Value) (n1 n2 n3 : Nat) (g1 g2 g3 : Nat → List UInt8) (w : World) (hr1 : RdM w w.heap.size v1 n1 g1) (hr2 : RdM w w.heap.size v2 n2 g2) (hr3 : RdM w w.heap.size v3 n3 g3) :
    Calls Try.prog 8 #[v1, v2, v3] w fun e w' => e = .returned (.bool true) ∧ Below w.heap.size w w' := by
  go_enter Try.func8, Try.ntmps8
  go_wp2_with fail
  refine (awake_ok _).mono ?_
  rintro e wa ⟨rfl, hb⟩
  have h1 := hr1.up hb
  have h2 := hr2.up hb
  have h3 := hr3.up hb
  clear hr1 hr2 hr3
  go_wp2_with fail
  refine (Calls.bel (few_any _ n1 g1 6 _ _ h1)).mono ?_
  rintro e wb ⟨rfl, hbx⟩
  have k1 := h1.up hbx
  have k2 := h2.up hbx
  have k3 := h3.up hbx
  have hbb := bwstep hb hbx
  clear h1 h2 h3 hb hbx
  by_cases f1 : few n1 g1 6 = true
  · rw [f1]
    obtain ⟨q, a, hn1, hn1', hq, hq', m1, -⟩ := few_out k1 f1
    clear k1 f1
    go_wp2_with fail
    refine (Calls.bel (few_any _ n2 g2 6 _ _ k2)).mono ?_
    rintro e wc ⟨rfl, hbx⟩
    have m1 := m1.up hbx
    have k2 := k2.up hbx
    have k3 := k3.up hbx
    have hbb := bwstep hbb hbx
    clear hbx
    by_cases f2 : few n2 g2 6 = true
    · rw [f2]
      obtain ⟨r, b, hn2, hn2', hr, hr', m2, -⟩ := few_out k2 f2
      clear k2 f2
      go_wp2_with fail
      refine (Calls.bel (few_any _ n3 g3 6 _ _ k3)).mono ?_
      rintro e wd ⟨rfl, hbx⟩
      have m1 := m1.up hbx
      have m2 := m2.up hbx
      have k3 := k3.up hbx
      have hbb := bwstep hbb hbx
      clear hbx
      by_cases f3 : few n3 g3 6 = true
      · rw [f3]
        obtain ⟨s, c, hn3, hn3', hs, hs', m3, -⟩ := few_out k3 f3
        clear k3 f3
        obtain ⟨A1, c1, rfl, -, -⟩ := m1.shape
        obtain ⟨A2, c2, rfl, -, -⟩ := m2.shape
        obtain ⟨A3, c3, rfl, -, -⟩ := m3.shape
        obtain ⟨b1, o1, rfl, hb1⟩ := m1.open_ hn1
        obtain ⟨b2, o2, rfl, hb2⟩ := m2.open_ hn2
        obtain ⟨A10, c10, hcell1, -, -, -⟩ := m1.rowT (j := 0) hn1
        obtain ⟨A20, c20, hcell2, -, -, -⟩ := m2.rowT (j := 0) hn2
        rw [Nat.add_zero] at hcell1 hcell2
        by_cases e1 : q = n2
        · subst e1
          by_cases e2 : r = n3
          · subst e2
            go_wp2_with fail
            clear hcell1 hcell2
            refine (mmul_any _ _ n1 q r a b _ m1 m2 hn1 hq hr (by omega) (by omega)).mono ?_
            rintro e we ⟨⟨x, vx, rfl, hx⟩, hbx⟩
            have x1 := hx.rd
            have m1 := m1.up hbx
            have m2 := m2.up hbx
            have m3 := m3.up hbx
            have hbb := bwstep hbb hbx
            clear hbx hx
            go_wp2_with fail
            refine (mmul_any _ _ q r s b c _ m2 m3 hq hr hs (by omega) (by omega)).mono ?_
            rintro e wf ⟨⟨y, vy, rfl, hy⟩, hbx⟩
            have y1 := hy.rd
            have x1 := x1.up hbx
            have m1 := m1.up hbx
            have m2 := m2.up hbx
            have m3 := m3.up hbx
            have hbb := bwstep hbb hbx
            clear hbx hy
            go_wp2_with fail
            refine (right_any _ n1 _ _ _ x1).mono ?_
            rintro e wg ⟨rfl, rfl⟩
            rw [isR_rw (mm q a b) hn1 hr]
            go_wp2_with fail
            refine (right_any _ q _ _ _ y1).mono ?_
            rintro e wg ⟨rfl, rfl⟩
            rw [isR_rw (mm r b c) hq hs]
            obtain ⟨Ax, cx, rfl, -, -⟩ := x1.shape
            obtain ⟨bx, ox, rfl, hbx⟩ := x1.open_ hn1
            obtain ⟨Ax0, cx0, k4, -, -, -⟩ := x1.rowT (j := 0) hn1
            obtain ⟨Ab0, cb0, k5, -, -, -⟩ := m2.rowT (j := 0) hn2
            rw [Nat.add_zero] at k4 k5
            have l5 : b2 < wf.heap.size := by
              have := World.block_lt_of_cell? wf _ k5
              exact this
            have S0 : wf.drew.cell? ⟨bx, ox, none⟩ = some (.slice Ax0 r cx0) ∧ wf.drew.cell? ⟨b2, o2, none⟩ = some (.slice Ab0 r cb0) ∧ Below wf.heap.size wf wf.drew := ⟨k4, k5, (Below.refl _ _).drew⟩
            have hup : ∀ w1 w2 : World, (w1.cell? ⟨bx, ox, none⟩ = some (.slice Ax0 r cx0) ∧ w1.cell? ⟨b2, o2, none⟩ = some (.slice Ab0 r cb0) ∧ Below wf.heap.size wf w1) → Below w1.heap.size w1 w2 →
                (w2.cell? ⟨bx, ox, none⟩ = some (.slice Ax0 r cx0) ∧ w2.cell? ⟨b2, o2, none⟩ = some (.slice Ab0 r cb0) ∧ Below wf.heap.size wf w2) := fun w1 w2 hS h =>
              ⟨(h.cell (Nat.lt_of_lt_of_le hbx hS.2.2.size)).trans hS.1, (h.cell (Nat.lt_of_lt_of_le l5 hS.2.2.size)).trans hS.2.1, bwstep hS.2.2 h⟩
            have HU := Lib.hid hup
            have HT := Lib.hid S0
            have hn1p : 0 < n1 := hn1
            clear hup S0
            go_wp2_with fail
            go_region_held3 (fun w' => w'.cell? ⟨bx, ox, none⟩ = some (.slice Ax0 r cx0) ∧ w'.cell? ⟨b2, o2, none⟩ = some (.slice Ab0 r cb0) ∧ Below wf.heap.size wf w') (first | exact HT.out | assumption | exact HU.out _ _ (by assumption) (by assumption))
              (first
                | (go_at_call_of 14 (Value.slice (some ⟨bx, ox, none⟩) n1 cx); refine (mmul_any _ _ n1 r s (mm q a b) c _ (x1.up (And.right (And.right (by assumption)))) (m3.up (And.right (And.right (by assumption)))) hn1 hr hs (by omega) (by omega)).mono ?_; rintro e wh ⟨⟨z, vz, rfl, hz⟩, hbz⟩)
                | (go_at_call_of 14 (Value.slice (some ⟨b1, o1, none⟩) n1 c1); refine (mmul_any _ _ n1 q s a (mm r b c) _ (m1.up (And.right (And.right (by assumption)))) (y1.up (And.right (And.right (by assumption)))) hn1 hq hs (by omega) (by omega)).mono ?_; rintro e wi ⟨⟨u, vu, rfl, hu⟩, hbu⟩)
                | (go_at_call 13; refine (Calls.bel (rsameM_any _ _ n1 n1 _ _ _ _ _ (hz.rd.up hbu) hu.rd)).mono ?_; rintro e wj ⟨rfl, hbs⟩; rw [sameM_rw fun i _ j _ => Mx.mm_assoc q r a b c i j]))
            have hb9 : Below wf.heap.size wf _ := And.right (And.right (by assumption))
            go_wp2_with fail
            go_ret
            exact ⟨rfl, bwstep hbb hb9⟩
          · have t2 : ((r : Int) != (n3 : Int)) = true := bne_iff_ne.2 (fun e => e2 (Int.ofNat.inj e))
            clear m1 m2 m3 e2
            go_wp2_with fail
            refine (awake_ok _).mono ?_
            rintro e we ⟨rfl, hbx⟩
            have hbb := bwstep hbb hbx
            go_wp2_with fail
            go_ret
            exact ⟨rfl, hbb⟩
        · have t1 : ((q : Int) != (n2 : Int)) = true := bne_iff_ne.2 (fun e => e1 (Int.ofNat.inj e))
          clear m1 m2 m3 e1 hcell2
          go_wp2_with fail
          refine (awake_ok _).mono ?_
          rintro e we ⟨rfl, hbx⟩
          have hbb := bwstep hbb hbx
          go_wp2_with fail
          go_ret
          exact ⟨rfl, hbb⟩
      · have f3' : few n3 g3 6 = false := by simpa using f3
        rw [f3']
        clear m1 m2 k3 f3
        go_wp2_with fail
        refine (awake_ok _).mono ?_
        rintro e we ⟨rfl, hbx⟩
        have hbb := bwstep hbb hbx
        go_wp2_with fail
        go_ret
        exact ⟨rfl, hbb⟩
    · have f2' : few n2 g2 6 = false := by simpa using f2
      rw [f2']
      clear m1 k2 k3 f2
      go_wp2_with fail
      refine (awake_ok _).mono ?_
      rintro e we ⟨rfl, hbx⟩
      have hbb := bwstep hbb hbx
      go_wp2_with fail
      go_ret
      exact ⟨rfl, hbb⟩
  · have f1' : few n1 g1 6 = false := by simpa using f1
    rw [f1']
    clear k1 k2 k3 f1
    go_wp2_with fail
    refine (awake_ok _).mono ?_
    rintro e we ⟨rfl, hbx⟩
    have hbb := bwstep hbb hbx
    go_wp2_with fail
    go_ret
    exact ⟨rfl, hbb⟩
end Go.Proofs.Ytjhnbhgpnmfdgaa
