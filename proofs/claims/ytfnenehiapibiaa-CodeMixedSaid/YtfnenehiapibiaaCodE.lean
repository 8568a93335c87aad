/- The statements of layer 5: the walk of CodeEncodes. -/
import Derived.Test.YtfnenehiapibiaaCodW
import Derived.Test.YtfnenehiapibiaaMatV
namespace Go.Proofs.Ytfnenehiapibiaa
open Go.RowKit
open Mx (rw rw_len rw_get rw_congr dl cod mm fm sm)

theorem shp_nat {K F : Int} (h : isShp K F) : ∃ k f : Nat, K = (k : Int) ∧ F = (f : Int) ∧ isShN k f := by
  unfold isShp at h
  exact ⟨K.toNat, F.toNat, by omega, by omega, by unfold isShN; omega⟩
set_option maxHeartbeats 16000000 in
set_option maxRecDepth 100000 in
theorem codeEncodes_walk (K F : Int) (s : ByteArray) (w : World) (hs : s.size ≤ 140737488351232) :
    Calls Try.prog 3 #[shp K F, .string s] w fun e w' => e = .returned (.bool true) ∧ Below w.heap.size w w' := by
  have hI := InBox.new w K F
  have hb : Below w.heap.size w (w.alloc (.cells #[.int .i64 K, .int .i64 F] 23)) := bwalloc (Below.refl _ _) _
  generalize hw0 : w.alloc (.cells #[.int .i64 K, .int .i64 F] 23) = w0 at *
  go_enter Try.func3, Try.ntmps3
  go_wp2_with (refine boxH rfl (.tmp 0) K F rfl rfl ?_)
  constructor
  go_wp2_with fail
  refine (awake_ok _).mono ?_
  rintro e w1 ⟨rfl, hb1⟩
  have hI1 := hI.below hb1
  have hbb := bwstep hb hb1
  clear hw0 hI hb hb1
  by_cases h1000 : s.size ≤ 1000
  · have t0 : ¬ (1000 : Int) < (s.size : Int) := by omega
    by_cases hS : isShp K F
    · obtain ⟨k, f, rfl, rfl, hN⟩ := shp_nat hS
      obtain ⟨n, hn⟩ : ∃ n, k + 2 * f = n := ⟨_, rfl⟩
      have pR := fun w => shpR_any k f w
      have pRR := fun w => rshpR_any k f w
      rw [decide_eq_true hS] at pR pRR
      have h7 := hN.2
      have hk1 := hN.1
      by_cases h512 : s.size ≤ 512
      · have t1 : ¬ (512 : Int) < (s.size : Int) := by omega
        go_wp2_with (refine wpList_loadS rfl (.tmp 2) rfl rfl hI1 ?_)
        refine (encode_ok k f n s _ hN hn h512).mono ?_
        rintro e w2 ⟨⟨x, vs, rfl, hx⟩, hb2⟩
        have hI2 := hI1.below hb2
        have hbb := bwstep hbb hb2
        have x2 := hx.rd
        obtain ⟨Ax, cx, rfl, -, -⟩ := x2.shape
        clear hI1 hb2 hx
        have HT : Hid (InBox w.heap.size k f w2.drew ∧ w2.drew.cell? ⟨w.heap.size, 0, none⟩ = some (.int .i64 k) ∧ w2.drew.cell? ⟨w.heap.size, 1, none⟩ = some (.int .i64 f) ∧ Below w2.heap.size w2 w2.drew) := Lib.hid ⟨hI2, (hI2 : InBox w.heap.size k f w2).c0, (hI2 : InBox w.heap.size k f w2).c1, (Below.refl _ _).drew⟩
        have HU : Hid (∀ a b : World, (InBox w.heap.size k f a ∧ a.cell? ⟨w.heap.size, 0, none⟩ = some (.int .i64 k) ∧ a.cell? ⟨w.heap.size, 1, none⟩ = some (.int .i64 f) ∧ Below w2.heap.size w2 a) → Below a.heap.size a b → (InBox w.heap.size k f b ∧ b.cell? ⟨w.heap.size, 0, none⟩ = some (.int .i64 k) ∧ b.cell? ⟨w.heap.size, 1, none⟩ = some (.int .i64 f) ∧ Below w2.heap.size w2 b)) :=
          Lib.hid fun a b hS hb => ⟨hS.1.below hb, (hS.1.below hb).c0, (hS.1.below hb).c1, bwstep hS.2.2.2 hb⟩
        go_wp2_with fail
        go_region_held3 (fun w' => InBox w.heap.size k f w' ∧ w'.cell? ⟨w.heap.size, 0, none⟩ = some (.int .i64 k) ∧ w'.cell? ⟨w.heap.size, 1, none⟩ = some (.int .i64 f) ∧ Below w2.heap.size w2 w') (first | exact HT.out | assumption | exact HU.out _ _ (by assumption) (by assumption))
          (first
            | (refine wp_loadS (.tmp 2) rfl rfl (And.left (by assumption)) ?_)
            | (go_at_call 11; refine (pR _).mono ?_; rintro e wa ⟨rfl, hba⟩)
            | (go_at_call 12; refine (pRR _).mono ?_; rintro e w3 ⟨rfl, hb3⟩))
        obtain ⟨hI3, -, -, hb23⟩ := (by assumption : InBox w.heap.size k f w3 ∧ w3.cell? ⟨w.heap.size, 0, none⟩ = some (.int .i64 k) ∧ w3.cell? ⟨w.heap.size, 1, none⟩ = some (.int .i64 f) ∧ Below w2.heap.size w2 w3)
        have x3 := x2.up hb23
        have hbb := bwstep hbb hb23
        clear HT HU hI2 x2 hb23 hba hb3
        go_wp2_with (refine wpList_loadS rfl (.tmp 2) rfl rfl hI3 ?_)
        refine (pRR _).mono ?_
        rintro e w4 ⟨rfl, hb4⟩
        have hI4 := hI3.below hb4
        have x4 := x3.up hb4
        have hbb := bwstep hbb hb4
        clear hI3 x3 hb4 pR pRR
        have HT : Hid (InBox w.heap.size k f w4.drew ∧ w4.drew.cell? ⟨w.heap.size, 0, none⟩ = some (.int .i64 k) ∧ w4.drew.cell? ⟨w.heap.size, 1, none⟩ = some (.int .i64 f) ∧ Below w4.heap.size w4 w4.drew) := Lib.hid ⟨hI4, (hI4 : InBox w.heap.size k f w4).c0, (hI4 : InBox w.heap.size k f w4).c1, (Below.refl _ _).drew⟩
        have HU : Hid (∀ a b : World, (InBox w.heap.size k f a ∧ a.cell? ⟨w.heap.size, 0, none⟩ = some (.int .i64 k) ∧ a.cell? ⟨w.heap.size, 1, none⟩ = some (.int .i64 f) ∧ Below w4.heap.size w4 a) → Below a.heap.size a b → (InBox w.heap.size k f b ∧ b.cell? ⟨w.heap.size, 0, none⟩ = some (.int .i64 k) ∧ b.cell? ⟨w.heap.size, 1, none⟩ = some (.int .i64 f) ∧ Below w4.heap.size w4 b)) :=
          Lib.hid fun a b hS hb => ⟨hS.1.below hb, (hS.1.below hb).c0, (hS.1.below hb).c1, bwstep hS.2.2.2 hb⟩
        go_wp2_with fail
        go_region_held3 (fun w' => InBox w.heap.size k f w' ∧ w'.cell? ⟨w.heap.size, 0, none⟩ = some (.int .i64 k) ∧ w'.cell? ⟨w.heap.size, 1, none⟩ = some (.int .i64 f) ∧ Below w4.heap.size w4 w') (first | exact HT.out | assumption | exact HU.out _ _ (by assumption) (by assumption))
          (first
            | (refine wp_loadS (.tmp 2) rfl rfl (And.left (by assumption)) ?_)
            | (go_at_call 13; refine (shpN_ok k f n _ hN hn).mono ?_; rintro e wa ⟨rfl, hba⟩)
            | (go_at_call 14; refine (rshpN_ok k f n _ hN hn).mono ?_; rintro e wb ⟨rfl, hbb'⟩)
            | (go_at_call 16; refine (rencode_ok k f n s _ hN hn h512).mono ?_; rintro e wc ⟨⟨y, vy, rfl, hy⟩, hbc⟩)
            | (go_at_call 15; refine (Calls.bel (rsameM_any _ _ n n _ _ _ _ _ (x4.up (And.right (And.right (And.right (by assumption))))) hy.rd)).mono ?_; rintro e wd ⟨rfl, hbd⟩; rw [sameM_true fun _ _ => rfl]))
        have hb9 : Below w4.heap.size w4 _ := And.right (And.right (And.right (by assumption)))
        go_wp2_with fail
        go_ret
        exact ⟨rfl, bwstep hbb hb9⟩
      · have t1 : (512 : Int) < (s.size : Int) := by omega
        go_wp2_with (refine wpList_loadS rfl (.tmp 2) rfl rfl hI1 ?_)
        refine (encode_big k f s _ hN (by omega)).mono ?_
        rintro e w2 ⟨rfl, hb2⟩
        have hI2 := hI1.below hb2
        have hbb := bwstep hbb hb2
        clear hI1 hb2
        have HT : Hid (InBox w.heap.size k f w2.drew ∧ w2.drew.cell? ⟨w.heap.size, 0, none⟩ = some (.int .i64 k) ∧ w2.drew.cell? ⟨w.heap.size, 1, none⟩ = some (.int .i64 f) ∧ Below w2.heap.size w2 w2.drew) := Lib.hid ⟨hI2, (hI2 : InBox w.heap.size k f w2).c0, (hI2 : InBox w.heap.size k f w2).c1, (Below.refl _ _).drew⟩
        have HU : Hid (∀ a b : World, (InBox w.heap.size k f a ∧ a.cell? ⟨w.heap.size, 0, none⟩ = some (.int .i64 k) ∧ a.cell? ⟨w.heap.size, 1, none⟩ = some (.int .i64 f) ∧ Below w2.heap.size w2 a) → Below a.heap.size a b → (InBox w.heap.size k f b ∧ b.cell? ⟨w.heap.size, 0, none⟩ = some (.int .i64 k) ∧ b.cell? ⟨w.heap.size, 1, none⟩ = some (.int .i64 f) ∧ Below w2.heap.size w2 b)) :=
          Lib.hid fun a b hS hb => ⟨hS.1.below hb, (hS.1.below hb).c0, (hS.1.below hb).c1, bwstep hS.2.2.2 hb⟩
        go_wp2_with fail
        go_region_held3 (fun w' => InBox w.heap.size k f w' ∧ w'.cell? ⟨w.heap.size, 0, none⟩ = some (.int .i64 k) ∧ w'.cell? ⟨w.heap.size, 1, none⟩ = some (.int .i64 f) ∧ Below w2.heap.size w2 w') (first | exact HT.out | assumption | exact HU.out _ _ (by assumption) (by assumption))
          (first
            | (refine wp_loadS (.tmp 2) rfl rfl (And.left (by assumption)) ?_)
            | (go_at_call 11; refine (pR _).mono ?_; rintro e wa ⟨rfl, hba⟩)
            | (go_at_call 12; refine (pRR _).mono ?_; rintro e w3 ⟨rfl, hb3⟩))
        obtain ⟨hI3, -, -, hb23⟩ := (by assumption : InBox w.heap.size k f w3 ∧ w3.cell? ⟨w.heap.size, 0, none⟩ = some (.int .i64 k) ∧ w3.cell? ⟨w.heap.size, 1, none⟩ = some (.int .i64 f) ∧ Below w2.heap.size w2 w3)
        have hbb := bwstep hbb hb23
        clear HT HU hI2 hb23 hba hb3
        go_wp2_with (refine wpList_loadS rfl (.tmp 2) rfl rfl hI3 ?_)
        refine (pRR _).mono ?_
        rintro e w4 ⟨rfl, hb4⟩
        have hbb := bwstep hbb hb4
        clear hI3 hb4 pR pRR
        go_wp2_with fail
        go_ret
        exact ⟨rfl, hbb⟩
    · have pR := fun w => shpR_any K F w
      have pRR := fun w => rshpR_any K F w
      have pN := fun w => shpN_any K F w
      rw [decide_eq_false hS] at pR pRR
      rw [if_neg hS] at pN
      go_wp2_with (refine wpList_loadS rfl (.tmp 2) rfl rfl hI1 ?_)
      refine (encode_arg K F s _ hS).mono ?_
      rintro e w2 ⟨rfl, hb2⟩
      have hI2 := hI1.below hb2
      have hbb := bwstep hbb hb2
      clear hI1 hb2
      have HT : Hid (InBox w.heap.size K F w2.drew ∧ w2.drew.cell? ⟨w.heap.size, 0, none⟩ = some (.int .i64 K) ∧ w2.drew.cell? ⟨w.heap.size, 1, none⟩ = some (.int .i64 F) ∧ Below w2.heap.size w2 w2.drew) := Lib.hid ⟨hI2, (hI2 : InBox w.heap.size K F w2).c0, (hI2 : InBox w.heap.size K F w2).c1, (Below.refl _ _).drew⟩
      have HU : Hid (∀ a b : World, (InBox w.heap.size K F a ∧ a.cell? ⟨w.heap.size, 0, none⟩ = some (.int .i64 K) ∧ a.cell? ⟨w.heap.size, 1, none⟩ = some (.int .i64 F) ∧ Below w2.heap.size w2 a) → Below a.heap.size a b → (InBox w.heap.size K F b ∧ b.cell? ⟨w.heap.size, 0, none⟩ = some (.int .i64 K) ∧ b.cell? ⟨w.heap.size, 1, none⟩ = some (.int .i64 F) ∧ Below w2.heap.size w2 b)) :=
        Lib.hid fun a b hS hb => ⟨hS.1.below hb, (hS.1.below hb).c0, (hS.1.below hb).c1, bwstep hS.2.2.2 hb⟩
      go_wp2_with fail
      go_region_held3 (fun w' => InBox w.heap.size K F w' ∧ w'.cell? ⟨w.heap.size, 0, none⟩ = some (.int .i64 K) ∧ w'.cell? ⟨w.heap.size, 1, none⟩ = some (.int .i64 F) ∧ Below w2.heap.size w2 w') (first | exact HT.out | assumption | exact HU.out _ _ (by assumption) (by assumption))
        (first
          | (refine wp_loadS (.tmp 2) rfl rfl (And.left (by assumption)) ?_)
          | (go_at_call 11; refine (pR _).mono ?_; rintro e wa ⟨rfl, hba⟩)
          | (go_at_call 12; refine (pRR _).mono ?_; rintro e w3 ⟨rfl, hb3⟩))
      obtain ⟨hI3, -, -, hb23⟩ := (by assumption : InBox w.heap.size K F w3 ∧ w3.cell? ⟨w.heap.size, 0, none⟩ = some (.int .i64 K) ∧ w3.cell? ⟨w.heap.size, 1, none⟩ = some (.int .i64 F) ∧ Below w2.heap.size w2 w3)
      have hbb := bwstep hbb hb23
      clear HT HU hI2 hb23 hba hb3
      go_wp2_with (refine wpList_loadS rfl (.tmp 2) rfl rfl hI3 ?_)
      refine (pRR _).mono ?_
      rintro e w4 ⟨rfl, hb4⟩
      have hI4 := hI3.below hb4
      have c0 := hI4.c0
      have c1 := hI4.c1
      have hbb := bwstep hbb hb4
      clear hI3 hb4 pR pRR
      go_wp2_with fail
      refine (pN _).mono ?_
      rintro e w5 ⟨rfl, hb5⟩
      go_wp2_with fail
      go_ret
      exact ⟨rfl, bwstep hbb hb5⟩
  · have t0 : (1000 : Int) < (s.size : Int) := by omega
    go_wp2_with fail
    refine (awake_ok _).mono ?_
    rintro e w2 ⟨rfl, hb2⟩
    go_wp2_with fail
    go_ret
    exact ⟨rfl, bwstep hbb hb2⟩
end Go.Proofs.Ytfnenehiapibiaa
