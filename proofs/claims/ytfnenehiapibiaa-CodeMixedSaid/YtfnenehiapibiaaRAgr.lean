/- The contract of the reference's Agrees. -/
import Derived.Test.YtfnenehiapibiaaRHand
import Derived.Test.YtfnenehiapibiaaWhole
namespace Go.Proofs.Ytfnenehiapibiaa
open Go.RowKit
open Mx (rw rw_len rw_get rw_congr)

theorem agr_false {g h : Nat → List UInt8} {k n : Nat} (hk : k < n) (h0 : 0 < (g k).length) (hne : g k ≠ h k) : agr (hand n g) g h = false := by
  unfold agr
  rw [List.all_eq_false]
  exact ⟨k, hand_mem.2 ⟨hk, h0⟩, by simpa using hne⟩
theorem agr_iff {g h : Nat → List UInt8} {n : Nat} : agr (hand n g) g h = true ↔ ∀ i, i < n → 0 < (g i).length → g i = h i := by
  unfold agr
  rw [List.all_eq_true]
  exact ⟨fun H i h1 h2 => of_decide_eq_true (H i (hand_mem.2 ⟨h1, h2⟩)), fun H i hi => decide_eq_true (H i (hand_mem.1 hi).1 (hand_mem.1 hi).2)⟩
set_option maxHeartbeats 4000000 in
set_option maxRecDepth 100000 in
theorem agrees_any (k f n : Nat) (s : ByteArray) (v : Value) (g : Nat → List UInt8) (w : World) (h : isShN k f) (hn : k + 2 * f = n) (hs : s.size ≤ 512) (hr : RdM w w.heap.size v n g) :
    Calls Try.prog 23 #[shp k f, .string s, v] w fun e w' => e = .returned (.bool (agr (hand n g) g (shR k s))) ∧ Below w.heap.size w w' := by
  obtain ⟨A, c, rfl, hc, hcm⟩ := hr.shape
  unfold maxLen at hcm
  have hI := InBox.new w k f
  have hb : Below w.heap.size w (w.alloc (.cells #[.int .i64 k, .int .i64 f] 23)) := bwalloc (Below.refl _ _) _
  generalize hw0 : w.alloc (.cells #[.int .i64 k, .int .i64 f] 23) = w0 at *
  go_enter Try.func23, Try.ntmps23
  go_wp2_with (refine boxH rfl (.tmp 0) k f rfl rfl ?_)
  constructor
  go_wp2_with (refine wpList_loadS rfl (.tmp 3) rfl rfl hI ?_)
  refine (rencode_ok k f n s _ h hn hs).mono ?_
  rintro e w1 ⟨⟨x, vs, rfl, hx⟩, hb1⟩
  have hbb := bwstep hb hb1
  have hr1 := hr.up hbb
  have hx1 := hx.rd
  obtain ⟨A', c', rfl, hc', hcm'⟩ := hx1.shape
  unfold maxLen at hcm'
  clear hb hb1 hw0 hI hr hx
  go_wp2_with fail
  go_loopw [8] (fun i wr => ∃ j : Nat, j ≤ n ∧ i = .int .i64 (j : Int) ∧ Hid (∀ i, i < j → 0 < (g i).length → g i = shR k s i) ∧ ∃ q, wr = w1.drewN q) (fun i _ => n - (intOf i).toNat)
  case atStart => exact ⟨0, by omega, rfl, Lib.hid (fun i hi => by omega), 0, rfl⟩
  case round =>
    obtain ⟨j, hj, rfl, HA, q, rfl⟩ := hrel
    by_cases hlt : j < n
    · obtain ⟨b, o, rfl, -⟩ := hr1.open_ (by omega)
      obtain ⟨b', o', rfl, -⟩ := hx1.open_ (by omega)
      obtain ⟨A3, c3, h3, h3c, h3m, hr3⟩ := hr1.row hlt
      obtain ⟨A4, c4, h4, h4c, h4m, hr4⟩ := hx1.rowT hlt
      by_cases h0 : 0 < (g j).length
      · have hd : decide (0 < (g j).length) = true := decide_eq_true h0
        have he := fun z : Nat => rsame_any _ _ (g j) (rw (mlen k s) (shM k s j)) _ _ (w1.drewN z) (hr3.below (bwN' w1 z)) (hr4.below (bwN' w1 z))
        by_cases hsame : g j = shR k s j
        · have HS : Hid (∀ i, i < j + 1 → 0 < (g i).length → g i = shR k s i) := Lib.hid fun i hi hl => by
            by_cases e : i = j
            · subst e; exact hsame
            · exact HA.out i (by omega) hl
          have hsb : sameB (g j) (rw (mlen k s) (shM k s j)) = true := decide_eq_true hsame
          rw [hsb] at he
          clear hsame hsb hr3 hr4 h0
          go_wp2_with fail
          go_quiet (first | (go_at_call 22; exact (he _).mono fun _ _ ⟨h1, h2⟩ => ⟨h1, _, h2.symm⟩))
          go_wp2_with fail
          go_roundw
          case rel => exact ⟨j + 1, by omega, by go_num, HS, _, by first | rfl | (rw [drewN_two])⟩
          case measure => simp [intOf]; omega
        · have hsb : sameB (g j) (rw (mlen k s) (shM k s j)) = false := decide_eq_false hsame
          rw [hsb] at he
          have HF := Lib.hid (agr_false hlt h0 hsame)
          clear hsame hsb hr3 hr4 h0
          go_wp2_with fail
          go_quiet (first | (go_at_call 22; exact (he _).mono fun _ _ ⟨h1, h2⟩ => ⟨h1, _, h2.symm⟩))
          go_wp2_with fail
          go_ret
          exact ⟨ret1 (vb HF.out.symm), by first | exact bwstep hbb (bwN _) | (rw [drewN_two]; exact bwstep hbb (bwN _))⟩
      · have hd : decide (0 < (g j).length) = false := decide_eq_false h0
        have HS : Hid (∀ i, i < j + 1 → 0 < (g i).length → g i = shR k s i) := Lib.hid fun i hi hl => by
          by_cases e : i = j
          · subst e; exact absurd hl h0
          · exact HA.out i (by omega) hl
        clear hr3 hr4 h0
        go_wp2_with fail
        go_quiet (fail)
        go_wp2_with fail
        go_roundw
        case rel => exact ⟨j + 1, by omega, by go_num, HS, _, by first | rfl | (rw [drewN_two])⟩
        case measure => simp [intOf]; omega
    · obtain rfl : j = n := by omega
      have HT := Lib.hid (agr_iff.2 HA.out)
      go_wp2_with fail
      go_ret
      exact ⟨ret1 (vb HT.out.symm), bwstep hbb (bwN _)⟩
end Go.Proofs.Ytfnenehiapibiaa
