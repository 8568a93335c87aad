/- The statements of layer 5: the walk of CodeKeeps. -/
import Derived.Test.YtfnenehiapibiaaCodT
namespace Go.Proofs.Ytfnenehiapibiaa
open Go.RowKit
open Mx (rw rw_len rw_get rw_congr dl cod mm fm sm)

theorem xor255_bv (u : UInt8) : Value.int .u8 (bits .xor .u8 (u.toNat : Int) 255) = bv (u ^^^ 255) := by
  have := xor_n8 u.toNat 255 u.toNat_lt (by omega)
  rw [show (255 : Int) = ((255 : Nat) : Int) from rfl, this]
  unfold bv
  rw [UInt8.toNat_xor]
  rfl
theorem all_fits (k n : Nat) (s : ByteArray) : Fits k n (shR k s) s := fun _ _ => rfl
set_option maxHeartbeats 16000000 in
set_option maxRecDepth 100000 in
theorem codeKeeps_walk (a0 a1 : Int) (s : ByteArray) (w : World) (w0 : (Lit.int .u8 a0).wf = true) (w1 : (Lit.int .u8 a1).wf = true) (hz : s.size ≤ 140737488351232) :
    Calls Try.prog 7 #[.int .u8 a0, .int .u8 a1, .string s] w fun e w' => e = .returned (.bool true) ∧ Below w.heap.size w w' := by
  obtain ⟨a, rfl, ha⟩ := u8Of' w0
  obtain ⟨b, rfl, hb⟩ := u8Of' w1
  clear w0 w1
  go_enter Try.func7, Try.ntmps7
  go_wp2_with fail
  refine (shape_any a b _ ha hb).mono ?_
  rintro e w1 ⟨⟨k, f, rfl, hN⟩, hb1⟩
  obtain ⟨n, hn⟩ : ∃ n, k + 2 * f = n := ⟨_, rfl⟩
  have h7 := hN.2
  have hk1 := hN.1
  have hI := InBox.new w1 k f
  have hbx : Below w1.heap.size w1 (w1.alloc (.cells #[.int .i64 k, .int .i64 f] 23)) := bwalloc (Below.refl _ _) _
  generalize hw0 : w1.alloc (.cells #[.int .i64 k, .int .i64 f] 23) = w0 at *
  go_wp2_with fail
  refine (awake_ok _).mono ?_
  rintro e w2 ⟨rfl, hb2⟩
  have hI2 := hI.below hb2
  have hbb := bwstep (bwstep hb1 hbx) hb2
  clear hw0 hI hb1 hb2 hbx ha hb
  by_cases h512 : s.size ≤ 512
  · have t1 : ¬ (512 : Int) < (s.size : Int) := by omega
    have hms := mlen_512 hk1 s h512
    go_wp2_with (refine wpList_loadS rfl (.tmp 7) rfl rfl hI2 ?_)
    refine (encode_ok k f n s _ hN hn h512).mono ?_
    rintro e w3 ⟨⟨l, vs, rfl, hl⟩, hb3⟩
    have hI3 := hI2.below hb3
    have hbb := bwstep hbb hb3
    have l1 := hl.rd
    clear hI2 hb3 hl
    go_wp2_with fail
    refine (without_any _ n 0 _ _ l1 (by omega) (by omega) (fun i _ => by rw [rw_len]; omega)).mono ?_
    rintro e w4 ⟨⟨y, vy, rfl, hy⟩, hb4⟩
    have hI4 := hI3.below hb4
    have hbb := bwstep hbb hb4
    have l2 := l1.up hb4
    have y1 : RdM w4 w4.heap.size y n (shR k s) := hy.rd.congr fun i _ => by rw [Nat.zero_div]; rfl
    have hkh : k ≤ (hand n (shR k s)).length := by
      rw [hand_full hk1, List.length_range]
      omega
    have hgl : ∀ i, i < n → (shR k s i).length ≤ 1000 := fun i _ => by rw [rw_len]; omega
    have hreb := rebuild_any k f n 0 l (shR k s) w4 hN hn (by omega) l2 hkh hgl
    clear hI3 hb4 l1 hy hkh hgl
    go_wp2_with (refine wpList_loadS rfl (.tmp 7) rfl rfl hI4 ?_)
    refine hreb.mono ?_
    rintro e w5 ⟨⟨-, hno⟩ | ⟨s', x, rfl, -, -, hx, hu⟩, hb5⟩
    · exact absurd (all_fits k n s) (hno s h512)
    · obtain rfl : s' = s := hu s h512 (all_fits k n s)
      have HX : Hid (∃ cs : List UInt8, cs.length = mlen k s' ∧ Ow w5 w4.heap.size 5 x (cs.map bv)) := Lib.hid ⟨shR k s' 0, rw_len _ _, hx⟩
      obtain ⟨A, c, rfl, hc, hcm⟩ := hx.rd.shapeR
      unfold maxLen at hcm
      clear hx hu hreb
      go_wp2_with fail
      go_loopw [13] (fun i wr => ∃ j : Nat, j ≤ mlen k s' ∧ i = .int .i64 (j : Int) ∧ Hid (∃ cs : List UInt8, cs.length = mlen k s' ∧ Ow wr w4.heap.size 5 (.slice A (mlen k s') c) (cs.map bv)) ∧ Below w4.heap.size w4 wr) (fun i _ => mlen k s' - (intOf i).toNat)
      case atStart => exact ⟨0, by omega, rfl, HX, hb5⟩
      case round =>
        clear HX hb5
        obtain ⟨j, hj, rfl, HX, hbw⟩ := hrel
        by_cases hlt : j < mlen k s'
        · obtain ⟨cs, hcs, ho⟩ := HX.out
          obtain ⟨g, hA, hgb, hgs, hgc, hgf, hset⟩ := ho.at_ (k := j) (by rw [List.length_map, hcs]; exact hlt)
          subst hA
          rw [List.getElem_map] at hgc
          have hs := hset (bv (cs[j]'(by omega) ^^^ 255))
          rw [← List.map_set, ← xor255_bv] at hs
          have HS := Lib.hid hs
          have HC := Lib.hid hcs
          have HB := Lib.hid (hbw.setCell (p := ⟨g, j, none⟩) hgb (.int .u8 (bits .xor .u8 ((cs[j]'(by omega)).toNat : Int) 255)))
          unfold bv at hgc
          clear hset hs ho hbw HX
          generalize cs[j]'(by omega) = u at *
          clear hcs
          go_wp2_with fail
          go_roundw
          case rel => exact ⟨j + 1, by omega, by go_num, Lib.hid ⟨_, by rw [List.length_set]; exact HC.out, HS.out⟩, HB.out⟩
          case measure => simp [intOf]; omega
        · have hI5 := hI4.below hbw
          have l3 := l2.up hbw
          have y3 := y1.up hbw
          have hbb5 := bwstep hbb hbw
          clear HX hI4 l2 y1 hbw hbb
          go_wp2_with (refine wpList_loadS rfl (.tmp 7) rfl rfl hI5 ?_)
          refine (encode_ok k f n s' _ hN hn h512).mono ?_
          rintro e w6 ⟨⟨z, vz, rfl, hz'⟩, hb6⟩
          have l4 := l3.up hb6
          have y4 := y3.up hb6
          have z4 := hz'.rd
          have hbb6 := bwstep hbb5 hb6
          clear hI5 l3 y3 hb6 hz' hbb5
          go_wp2_with fail
          refine (Calls.bel (rsameM_any _ _ n n _ _ _ _ _ l4 y4)).mono ?_
          rintro e w7 ⟨rfl, hb7⟩
          rw [sameM_true fun _ _ => rfl]
          have y5 := y4.up hb7
          have z5 := z4.up hb7
          have hbb7 := bwstep hbb6 hb7
          clear l4 y4 z4 hb7
          go_wp2_with fail
          refine (Calls.bel (rsameM_any _ _ n n _ _ _ _ _ z5 y5)).mono ?_
          rintro e w8 ⟨rfl, hb8⟩
          rw [sameM_true fun _ _ => rfl]
          have hbb8 := bwstep hbb7 hb8
          go_wp2_with fail
          go_ret
          exact ⟨rfl, hbb8⟩
  · have t1 : (512 : Int) < (s.size : Int) := by omega
    go_wp2_with fail
    refine (awake_ok _).mono ?_
    rintro e w3 ⟨rfl, hb3⟩
    go_wp2_with fail
    go_ret
    exact ⟨rfl, bwstep hbb hb3⟩
end Go.Proofs.Ytfnenehiapibiaa
