/- The statements of layer 5: the walk of CodeDecodes. -/
import Derived.Test.YtfnenehiapibiaaCodE
namespace Go.Proofs.Ytfnenehiapibiaa
open Go.RowKit
open Mx (rw rw_len rw_get rw_congr dl cod mm fm sm)

theorem agr_of_fits {k n : Nat} {g : Nat → List UInt8} {s : ByteArray} (h : Fits k n g s) : agr (hand n g) g (shR k s) = true := by
  unfold agr
  rw [List.all_eq_true]
  exact fun i hi => decide_eq_true (h i hi)
set_option maxHeartbeats 16000000 in
set_option maxRecDepth 100000 in
theorem codeDecodes_walk (K F : Int) (v : Value) (n : Nat) (g : Nat → List UInt8) (w : World) (hr : RdM w w.heap.size v n g) :
    Calls Try.prog 5 #[shp K F, v] w fun e w' => e = .returned (.bool true) ∧ Below w.heap.size w w' := by
  obtain ⟨A, c, rfl, hc, hcm⟩ := hr.shape
  unfold maxLen at hcm
  have hI := InBox.new w K F
  have hb : Below w.heap.size w (w.alloc (.cells #[.int .i64 K, .int .i64 F] 23)) := bwalloc (Below.refl _ _) _
  generalize hw0 : w.alloc (.cells #[.int .i64 K, .int .i64 F] 23) = w0 at *
  go_enter Try.func5, Try.ntmps5
  go_wp2_with (refine boxH rfl (.tmp 0) K F rfl rfl ?_)
  constructor
  go_wp2_with fail
  refine (awake_ok _).mono ?_
  rintro e w1 ⟨rfl, hb1⟩
  have hI1 := hI.below hb1
  have hbb := bwstep hb hb1
  have hr1 := hr.up hbb
  clear hw0 hI hb hb1 hr
  by_cases h10 : n ≤ 10
  · have t10 : ¬ (10 : Int) < (n : Int) := by omega
    go_wp2_with fail
    go_loopw [5] (fun i wr => ∃ j : Nat, j ≤ n ∧ i = .int .i64 (j : Int) ∧ Hid (∀ i, i < j → (g i).length ≤ 600) ∧ wr = w1) (fun i _ => n - (intOf i).toNat)
    case atStart => exact ⟨0, by omega, rfl, Lib.hid (fun i hi => by omega), rfl⟩
    case round =>
      obtain ⟨j, hj, rfl, HA, rfl⟩ := hrel
      by_cases hlt : j < n
      · obtain ⟨b, o, rfl, -⟩ := hr1.open_ (by omega)
        obtain ⟨A3, c3, h3, h3c, h3m, hr3⟩ := hr1.row hlt
        by_cases h6 : (g j).length ≤ 600
        · have t6 : ¬ (600 : Int) < ((g j).length : Int) := by omega
          have HS : Hid (∀ i, i < j + 1 → (g i).length ≤ 600) := Lib.hid fun i hi => by
            by_cases e : i = j
            · subst e; exact h6
            · exact HA.out i (by omega)
          clear hr3 h6
          go_wp2_with fail
          go_roundw
          case rel => exact ⟨j + 1, by omega, by go_num, HS, by first | rfl | trivial⟩
          case measure => simp [intOf]; omega
        · have t6 : (600 : Int) < ((g j).length : Int) := by omega
          clear hr3 h6
          go_wp2_with fail
          go_ret
          exact ⟨rfl, hbb⟩
      · have hg : ∀ i, i < n → (g i).length ≤ 1000 := fun i hi => Nat.le_trans (HA.out i (by omega)) (by omega)
        clear HA hj
        by_cases hS : isShp K F
        · obtain ⟨k, f, rfl, rfl, hN⟩ := shp_nat hS
          obtain ⟨N, hn⟩ : ∃ N, k + 2 * f = N := ⟨_, rfl⟩
          have pRR := fun w => rshpR_any k f w
          rw [decide_eq_true hS] at pRR
          have h7 := hN.2
          have hk1 := hN.1
          by_cases hnN : n = N
          · subst hnN
            have hne := rfn n
            by_cases hk : k ≤ (hand n g).length
            · have tk : ¬ ((hand n g).length : Int) < (k : Int) := by omega
              go_wp2_with (refine wpList_loadS rfl (.tmp 2) rfl rfl hI1 ?_)
              refine (decode_any k f n _ g _ hN hn hr1 hk hg).mono ?_
              rintro e w2 ⟨⟨rfl, -⟩ | ⟨s, rfl, hs, hf, -⟩, hb2⟩
              · have hI2 := hI1.below hb2
                have hbb := bwstep hbb hb2
                have hr2 := hr1.up hb2
                clear hI1 hb2 hr1
                go_wp2_with (refine wpList_loadS rfl (.tmp 2) rfl rfl hI2 ?_)
                refine (pRR _).mono ?_
                rintro e w4 ⟨rfl, hb4⟩
                have hI4 := hI2.below hb4
                have c0 := hI4.c0
                have c1 := hI4.c1
                have hbb := bwstep hbb hb4
                have hr4 := hr2.up hb4
                clear hI2 hb4 pRR hr2
                go_wp2_with fail
                refine (rshpN_ok k f n _ hN hn).mono ?_
                rintro e w5 ⟨rfl, hb5⟩
                have hI5 := hI4.below hb5
                have hbb := bwstep hbb hb5
                have hr5 := hr4.up hb5
                clear hI4 hb5 c0 c1 hr4
                have c0 := hI5.c0
                have hth := fun q : Nat => there_any _ n g _ (w5.drewN q) (hr5.below (bwN' w5 q))
                go_wp2_with fail
                go_quiet (first | (go_at_call 20; exact (hth _).mono fun _ _ ⟨h1, h2⟩ => ⟨h1, _, h2⟩))
                have hI6 : InBox w.heap.size k f (w5.drewN nq) := hI5.below (bwN nq)
                have hbb := bwstep hbb (bwN (w := w5) nq)
                have hr6 := hr5.up (bwN (w := w5) nq)
                have c0 := hI6.c0
                have c1 := hI6.c1
                clear hth hI5 hr5
                go_wp2_with fail
                go_ret
                exact ⟨rfl, hbb⟩
              · have hags := fun w v (hr : RdM w w.heap.size v n g) => agrees_any k f n s v g w hN hn hs hr
                rw [agr_of_fits hf] at hags
                have ts : ((s.size : Int) ≤ 512) := by omega
                clear hf
                have hI2 := hI1.below hb2
                have hbb := bwstep hbb hb2
                have hr2 := hr1.up hb2
                clear hI1 hb2 hr1
                go_wp2_with (refine wpList_loadS rfl (.tmp 2) rfl rfl hI2 ?_)
                refine (pRR _).mono ?_
                rintro e w4 ⟨rfl, hb4⟩
                have hI4 := hI2.below hb4
                have c0 := hI4.c0
                have c1 := hI4.c1
                have hbb := bwstep hbb hb4
                have hr4 := hr2.up hb4
                clear hI2 hb4 pRR hr2
                go_wp2_with fail
                refine (rshpN_ok k f n _ hN hn).mono ?_
                rintro e w5 ⟨rfl, hb5⟩
                have hI5 := hI4.below hb5
                have hbb := bwstep hbb hb5
                have hr5 := hr4.up hb5
                clear hI4 hb5 c0 c1 hr4
                have c0 := hI5.c0
                have hth := fun q : Nat => there_any _ n g _ (w5.drewN q) (hr5.below (bwN' w5 q))
                go_wp2_with fail
                go_quiet (first | (go_at_call 20; exact (hth _).mono fun _ _ ⟨h1, h2⟩ => ⟨h1, _, h2⟩))
                have hI6 : InBox w.heap.size k f (w5.drewN nq) := hI5.below (bwN nq)
                have hbb := bwstep hbb (bwN (w := w5) nq)
                have hr6 := hr5.up (bwN (w := w5) nq)
                have c0 := hI6.c0
                have c1 := hI6.c1
                clear hth hI5 hr5
                go_wp2_with fail
                refine (hags _ _ hr6).mono ?_
                rintro e w7 ⟨rfl, hb7⟩
                go_wp2_with fail
                go_ret
                exact ⟨rfl, bwstep hbb hb7⟩
            · have tk : ((hand n g).length : Int) < (k : Int) := by omega
              go_wp2_with (refine wpList_loadS rfl (.tmp 2) rfl rfl hI1 ?_)
              refine (decode_short k f n _ g _ hN hn hr1 (by omega)).mono ?_
              rintro e w2 ⟨rfl, hb2⟩
              have hI2 := hI1.below hb2
              have hbb := bwstep hbb hb2
              have hr2 := hr1.up hb2
              clear hI1 hb2 hr1
              go_wp2_with (refine wpList_loadS rfl (.tmp 2) rfl rfl hI2 ?_)
              refine (pRR _).mono ?_
              rintro e w4 ⟨rfl, hb4⟩
              have hI4 := hI2.below hb4
              have c0 := hI4.c0
              have c1 := hI4.c1
              have hbb := bwstep hbb hb4
              have hr4 := hr2.up hb4
              clear hI2 hb4 pRR hr2
              go_wp2_with fail
              refine (rshpN_ok k f n _ hN hn).mono ?_
              rintro e w5 ⟨rfl, hb5⟩
              have hI5 := hI4.below hb5
              have hbb := bwstep hbb hb5
              have hr5 := hr4.up hb5
              clear hI4 hb5 c0 c1 hr4
              have c0 := hI5.c0
              have hth := fun q : Nat => there_any _ n g _ (w5.drewN q) (hr5.below (bwN' w5 q))
              go_wp2_with fail
              go_quiet (first | (go_at_call 20; exact (hth _).mono fun _ _ ⟨h1, h2⟩ => ⟨h1, _, h2⟩))
              have hI6 : InBox w.heap.size k f (w5.drewN nq) := hI5.below (bwN nq)
              have hbb := bwstep hbb (bwN (w := w5) nq)
              have hr6 := hr5.up (bwN (w := w5) nq)
              have c0 := hI6.c0
              have c1 := hI6.c1
              clear hth hI5 hr5
              go_wp2_with fail
              go_ret
              exact ⟨rfl, hbb⟩
          · have hne : ((n : Int) != (N : Int)) = true := bne_iff_ne.2 (fun e => hnN (Int.ofNat.inj e))
            go_wp2_with (refine wpList_loadS rfl (.tmp 2) rfl rfl hI1 ?_)
            refine (decode_arg2 k f n N _ g _ hN hn hnN hr1).mono ?_
            rintro e w2 ⟨rfl, hb2⟩
            have hI2 := hI1.below hb2
            have hbb := bwstep hbb hb2
            clear hI1 hb2 hr1
            go_wp2_with (refine wpList_loadS rfl (.tmp 2) rfl rfl hI2 ?_)
            refine (pRR _).mono ?_
            rintro e w4 ⟨rfl, hb4⟩
            have hI4 := hI2.below hb4
            have c0 := hI4.c0
            have c1 := hI4.c1
            have hbb := bwstep hbb hb4
            clear hI2 hb4 pRR
            go_wp2_with fail
            refine (rshpN_ok k f N _ hN hn).mono ?_
            rintro e w5 ⟨rfl, hb5⟩
            go_wp2_with fail
            go_ret
            exact ⟨rfl, bwstep hbb hb5⟩
        · have pRR := fun w => rshpR_any K F w
          rw [decide_eq_false hS] at pRR
          go_wp2_with (refine wpList_loadS rfl (.tmp 2) rfl rfl hI1 ?_)
          refine (decode_arg1 K F _ _ hS).mono ?_
          rintro e w2 ⟨rfl, hb2⟩
          have hI2 := hI1.below hb2
          have hbb := bwstep hbb hb2
          clear hI1 hb2 hr1
          go_wp2_with (refine wpList_loadS rfl (.tmp 2) rfl rfl hI2 ?_)
          refine (pRR _).mono ?_
          rintro e w4 ⟨rfl, hb4⟩
          go_wp2_with fail
          go_ret
          exact ⟨rfl, bwstep hbb hb4⟩
  · have t10 : (10 : Int) < (n : Int) := by omega
    go_wp2_with fail
    refine (awake_ok _).mono ?_
    rintro e w2 ⟨rfl, hb2⟩
    go_wp2_with fail
    go_ret
    exact ⟨rfl, bwstep hbb hb2⟩
end Go.Proofs.Ytfnenehiapibiaa
