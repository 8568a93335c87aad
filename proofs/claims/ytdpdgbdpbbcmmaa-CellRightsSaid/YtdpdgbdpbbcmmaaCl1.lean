/- CellRights' walk. -/
import Derived.Test.YtdpdgbdpbbcmmaaCaw
namespace Go.Proofs.Ytdpdgbdpbbcmmaa
open Go.RowKit Ce

theorem Ce.small.sh {c : Cl} (h : small c) : Sh c := ⟨by have := h.1; omega, by have := h.2.1; omega⟩
set_option maxHeartbeats 4000000 in
set_option maxRecDepth 100000 in
theorem cellRights_walk (a b : Cl) (w : World) : Calls Try.prog 4 #[a.v, b.v] w fun e w' => e = .returned (.bool true) ∧ Below w.heap.size w w' := by
  have hsa := fun w => small_any a w
  have hsb := fun w => small_any b w
  by_cases h1 : small a
  · rw [decide_eq_true h1] at hsa
    by_cases h2 : small b
    · rw [decide_eq_true h2] at hsb
      have hra := fun w => right_any a w
      have hrr := fun w => rright_any a w
      have hca := fun w => compare_any a b w
      have hcr := fun w => rcompare_any a b w h1.sh h2.sh
      generalize decide a.ok = q at *
      generalize ccmp a b = cq at *
      clear h1 h2
      have hqq : (q == q) = true := by simp
      go_enter Try.func4, Try.ntmps4
      go_wp2_with (refine boxC rfl (.tmp 0) a rfl rfl ?_)
      constructor
      intro w1 hI1 hb1 hz1
      go_wp2_with (refine boxC rfl (.tmp 1) b rfl rfl ?_)
      constructor
      intro w2 hI2 hb2 hz2
      have HD := Lib.hid (BoxCD.mk (w := w) (hI1.bel hb2 (by omega)) hI2 (hb1.trans (hb2.mono (by omega))))
      clear hI1 hI2 hb1 hb2 hz1 hz2
      go_wp2_with fail
      refine (eawake_ok _).mono ?_
      rintro e w3 ⟨rfl, hb3⟩
      have HA3 := Lib.hid (HD.out.ia.up hb3)
      have HB3 := Lib.hid (HD.out.ib.up hb3)
      have BB3 := Lib.hid (bwstep HD.out.bel hb3)
      clear hb3 HD
      go_wp2_with (refine loadC rfl (.tmp 2) rfl rfl HA3.out ?_)
      refine (hsa _).mono ?_
      rintro e w4 ⟨rfl, hb4⟩
      have HA4 := Lib.hid (HA3.out.up hb4)
      have HB4 := Lib.hid (HB3.out.up hb4)
      have BB4 := Lib.hid (bwstep BB3.out hb4)
      clear hb4 HA3 HB3 BB3
      go_wp2_with (refine loadC rfl (.tmp 3) rfl rfl HB4.out ?_)
      refine (hsb _).mono ?_
      rintro e w5 ⟨rfl, hb5⟩
      have HA5 := Lib.hid (HA4.out.up hb5)
      have HB5 := Lib.hid (HB4.out.up hb5)
      have BB5 := Lib.hid (bwstep BB4.out hb5)
      clear hb5 HA4 HB4 BB4 hsa hsb
      go_wp2_with fail
      have HT : Hid (TwoA w.heap.size 0 a (w.heap.size + 1) 0 b w5 w5.drew) := Lib.hid (TwoA.of HA5.out.fiveAt HA5.out.lt HB5.out.fiveAt HB5.out.lt (Below.refl _ _).drew)
      have HU : Hid (∀ x y : World, TwoA w.heap.size 0 a (w.heap.size + 1) 0 b w5 x → Below x.heap.size x y → TwoA w.heap.size 0 a (w.heap.size + 1) 0 b w5 y) := Lib.hid fun x y hS hb => TwoA.of HA5.out.fiveAt HA5.out.lt HB5.out.fiveAt HB5.out.lt (bwstep hS.bel hb)
      go_region_held3 (fun w' => w'.cell? ⟨w.heap.size, 0, none⟩ = some (.string a.row) ∧ w'.cell? ⟨w.heap.size, 1, none⟩ = some (.string a.col) ∧ w'.cell? ⟨w.heap.size, 2, none⟩ = some (.int .i64 a.at_) ∧ w'.cell? ⟨w.heap.size, 3, none⟩ = some (.string a.val) ∧ w'.cell? ⟨w.heap.size, 4, none⟩ = some (.bool a.gone) ∧ w'.cell? ⟨w.heap.size + 1, 0, none⟩ = some (.string b.row) ∧ w'.cell? ⟨w.heap.size + 1, 1, none⟩ = some (.string b.col) ∧ w'.cell? ⟨w.heap.size + 1, 2, none⟩ = some (.int .i64 b.at_) ∧ w'.cell? ⟨w.heap.size + 1, 3, none⟩ = some (.string b.val) ∧ w'.cell? ⟨w.heap.size + 1, 4, none⟩ = some (.bool b.gone) ∧ Below w5.heap.size w5 w') (first | exact HT.out | assumption | exact HU.out _ _ (by assumption) (by assumption))
        (first
          | (go_at_call 21; refine (hra _).mono ?_; rintro e wa ⟨rfl, hba⟩)
          | (go_at_call 22; refine (hrr _).mono ?_; rintro e wb ⟨rfl, hbb⟩)
          | (go_at_call 23; refine (hca _).mono ?_; rintro e wc ⟨rfl, hbc⟩)
          | (go_at_call 24; refine (hcr _).mono ?_; rintro e wd ⟨rfl, hbd⟩))
      have hend := bwstep (bwstep (bwstep (bwstep (bwstep BB5.out (Below.refl _ _).drew) hba) hbb) hbc) hbd
      have HE := Lib.hid hend
      go_wp2_with fail
      go_ret
      exact ⟨rfl, HE.out⟩
    · rw [decide_eq_false h2] at hsb
      go_enter Try.func4, Try.ntmps4
      go_wp2_with (refine boxC rfl (.tmp 0) a rfl rfl ?_)
      constructor
      intro w1 hI1 hb1 hz1
      go_wp2_with (refine boxC rfl (.tmp 1) b rfl rfl ?_)
      constructor
      intro w2 hI2 hb2 hz2
      have HD := Lib.hid (BoxCD.mk (w := w) (hI1.bel hb2 (by omega)) hI2 (hb1.trans (hb2.mono (by omega))))
      clear hI1 hI2 hb1 hb2 hz1 hz2 h1 h2
      go_wp2_with fail
      refine (eawake_ok _).mono ?_
      rintro e w3 ⟨rfl, hb3⟩
      have HA3 := Lib.hid (HD.out.ia.up hb3)
      have HB3 := Lib.hid (HD.out.ib.up hb3)
      have BB3 := Lib.hid (bwstep HD.out.bel hb3)
      clear hb3 HD
      go_wp2_with (refine loadC rfl (.tmp 2) rfl rfl HA3.out ?_)
      refine (hsa _).mono ?_
      rintro e w4 ⟨rfl, hb4⟩
      have HB4 := Lib.hid (HB3.out.up hb4)
      have BB4 := Lib.hid (bwstep BB3.out hb4)
      clear hb4 HA3 HB3 BB3
      go_wp2_with (refine loadC rfl (.tmp 3) rfl rfl HB4.out ?_)
      refine (hsb _).mono ?_
      rintro e w5 ⟨rfl, hb5⟩
      have BB5 := Lib.hid (bwstep BB4.out hb5)
      clear hb5 HB4 BB4 hsa hsb
      go_wp2_with fail
      refine (eawake_ok _).mono ?_
      rintro e w6 ⟨rfl, hb6⟩
      have BB6 := Lib.hid (bwstep BB5.out hb6)
      clear hb6 BB5
      go_wp2_with fail
      go_ret
      exact ⟨rfl, BB6.out⟩
  · rw [decide_eq_false h1] at hsa
    go_enter Try.func4, Try.ntmps4
    go_wp2_with (refine boxC rfl (.tmp 0) a rfl rfl ?_)
    constructor
    intro w1 hI1 hb1 hz1
    go_wp2_with (refine boxC rfl (.tmp 1) b rfl rfl ?_)
    constructor
    intro w2 hI2 hb2 hz2
    have HD := Lib.hid (BoxCD.mk (w := w) (hI1.bel hb2 (by omega)) hI2 (hb1.trans (hb2.mono (by omega))))
    clear hI1 hI2 hb1 hb2 hz1 hz2 h1
    go_wp2_with fail
    refine (eawake_ok _).mono ?_
    rintro e w3 ⟨rfl, hb3⟩
    have HA3 := Lib.hid (HD.out.ia.up hb3)
    have BB3 := Lib.hid (bwstep HD.out.bel hb3)
    clear hb3 HD
    go_wp2_with (refine loadC rfl (.tmp 2) rfl rfl HA3.out ?_)
    refine (hsa _).mono ?_
    rintro e w4 ⟨rfl, hb4⟩
    have BB4 := Lib.hid (bwstep BB3.out hb4)
    clear hb4 HA3 BB3 hsa hsb
    go_wp2_with fail
    refine (eawake_ok _).mono ?_
    rintro e w6 ⟨rfl, hb6⟩
    have BB6 := Lib.hid (bwstep BB4.out hb6)
    clear hb6 BB4
    go_wp2_with fail
    go_ret
    exact ⟨rfl, BB6.out⟩
end Go.Proofs.Ytdpdgbdpbbcmmaa
