/- The statements of layer 5: the walk of CodeAny. -/
import Derived.Test.YtfnenehiapibiaaCodT
namespace Go.Proofs.Ytfnenehiapibiaa
open Go.RowKit
open Mx (rw rw_len rw_get rw_congr dl cod mm fm sm)

/-- shards, some of them gone -/
def gnR (k : Nat) (s : ByteArray) (bits : Nat) : Nat → List UInt8 := fun i => if bits / 2 ^ i % 2 = 1 then [] else shR k s i
theorem gn_fits (k n : Nat) (s : ByteArray) (bits : Nat) : Fits k n (gnR k s bits) s := fun i hi => by
  have h := (hand_mem.1 hi).2
  unfold gnR at h ⊢
  by_cases e : bits / 2 ^ i % 2 = 1
  · rw [if_pos e] at h
    exact absurd h (by simp)
  · rw [if_neg e]
theorem gn_len (k n : Nat) (s : ByteArray) (bits : Nat) (hk : 0 < k) (hs : s.size ≤ 512) (i : Nat) (_hi : i < n) : (gnR k s bits i).length ≤ 1000 := by
  unfold gnR
  by_cases e : bits / 2 ^ i % 2 = 1
  · rw [if_pos e]; simp
  · rw [if_neg e, rw_len]
    have := mlen_512 hk s hs
    omega
set_option maxHeartbeats 16000000 in
set_option maxRecDepth 100000 in
theorem codeAny_walk (a0 a1 : Int) (s : ByteArray) (a3 : Int) (w : World) (w0 : (Lit.int .u8 a0).wf = true) (w1 : (Lit.int .u8 a1).wf = true) (hz : s.size ≤ 140737488351232) (w3 : (Lit.int .u8 a3).wf = true) :
    Calls Try.prog 4 #[.int .u8 a0, .int .u8 a1, .string s, .int .u8 a3] w fun e w' => e = .returned (.bool true) ∧ Below w.heap.size w w' := by
  obtain ⟨a, rfl, ha⟩ := u8Of' w0
  obtain ⟨b, rfl, hb⟩ := u8Of' w1
  obtain ⟨gn, rfl, hgn⟩ := u8Of' w3
  clear w0 w1 w3
  go_enter Try.func4, Try.ntmps4
  go_wp2_with fail
  refine (shape_any a b _ ha hb).mono ?_
  rintro e w1 ⟨⟨k, f, rfl, hN⟩, hb1⟩
  obtain ⟨n, hn⟩ : ∃ n, k + 2 * f = n := ⟨_, rfl⟩
  have h7 := hN.2
  have hk1 := hN.1
  have hI := InBox.new w1 k f
  have hbx : Below w1.heap.size w1 (w1.alloc (.cells #[.int .i64 k, .int .i64 f] 23)) := bwalloc (Below.refl _ _) _
  generalize hw0 : w1.alloc (.cells #[.int .i64 k, .int .i64 f] 23) = w0 at *
  go_wp2_with fail
  refine (awake_ok _).mono ?_
  rintro e w2 ⟨rfl, hb2⟩
  have hI2 := hI.below hb2
  have hbb := bwstep (bwstep hb1 hbx) hb2
  clear hw0 hI hb1 hb2 hbx ha hb
  by_cases h512 : s.size ≤ 512
  · have t1 : ¬ (512 : Int) < (s.size : Int) := by omega
    have hms := mlen_512 hk1 s h512
    go_wp2_with (refine wpList_loadS rfl (.tmp 9) rfl rfl hI2 ?_)
    refine (encode_ok k f n s _ hN hn h512).mono ?_
    rintro e w3 ⟨⟨l, vs, rfl, hl⟩, hb3⟩
    have hI3 := hI2.below hb3
    have hbb := bwstep hbb hb3
    have l1 := hl.rd
    clear hI2 hb3 hl
    go_wp2_with fail
    refine (without_any _ n gn _ _ l1 hgn (by omega) (fun i _ => by rw [rw_len]; omega)).mono ?_
    rintro e w4 ⟨⟨y, vy, rfl, hy⟩, hb4⟩
    have hI4 := hI3.below hb4
    have hbb := bwstep hbb hb4
    have l2 := l1.up hb4
    have y1 : RdM w4 w4.heap.size y n (gnR k s gn) := hy.rd
    have hF := gn_fits k n s gn
    have hgl := gn_len k n s gn hk1 h512
    clear hI3 hb4 l1 hy hgn
    generalize gnR k s gn = G at *
    by_cases hk : k ≤ (hand n G).length
    · have tk : ¬ ((hand n G).length : Int) < (k : Int) := by omega
      go_wp2_with (refine wpList_loadS rfl (.tmp 9) rfl rfl hI4 ?_)
      refine (decode_any k f n _ G _ hN hn y1 hk hgl).mono ?_
      rintro e w5 ⟨⟨-, hno⟩ | ⟨s', rfl, -, -, hu⟩, hb5⟩
      · exact absurd hF (hno s h512)
      · obtain rfl : s' = s := hu s h512 hF
        have hI5 := hI4.below hb5
        have hbb := bwstep hbb hb5
        have l3 := l2.up hb5
        have y3 := y1.up hb5
        have hth := fun q : Nat => there_any _ n G _ (w5.drewN q) (y3.below (bwN' w5 q))
        have c0 := hI5.c0
        have hqq := str_eq (rfl : s' = s')
        clear hI4 hb5 l2 y1 hu
        go_wp2_with fail
        go_quiet (first | (go_at_call 20; exact (hth _).mono fun _ _ ⟨h1, h2⟩ => ⟨h1, _, h2⟩))
        have hI6 : InBox w1.heap.size k f (w5.drewN nq) := hI5.below (bwN nq)
        have hbb := bwstep hbb (bwN (w := w5) nq)
        have l4 := l3.up (bwN (w := w5) nq)
        have y4 := y3.up (bwN (w := w5) nq)
        clear hth hI5 l3 y3 c0
        generalize w5.drewN nq = w6 at *
        obtain ⟨A, c, rfl, hc, hcm⟩ := l4.shape
        obtain ⟨bl, ol, rfl, hbl⟩ := l4.open_ (by omega)
        unfold maxLen at hcm
        go_wp2_with fail
        rw [show decide ((hand n G).length < k) = false from decide_eq_false (by omega)]
        have HK := Lib.hid hk
        have HG := Lib.hid hgl
        have HF := Lib.hid hF
        have HZ := Lib.hid h512
        clear tk hk hqq t1 hgl hF hz h512
        go_loopw [15, 16, 17] (fun i _ _ wr => ∃ j : Nat, j ≤ n ∧ i = .int .i64 (j : Int) ∧ Below w6.heap.size w6 wr) (fun i _ _ _ => n - (intOf i).toNat)
        case atStart => exact ⟨0, by omega, rfl, Below.refl _ _⟩
        case round =>
          obtain ⟨j, hj, rfl, hbw⟩ := hrel
          by_cases hlt : j < n
          · have hIr := hI6.below hbw
            have yr := y4.up hbw
            go_wp2_with (refine wpList_loadS rfl (.tmp 9) rfl rfl hIr ?_)
            refine (rebuild_any k f n j _ G _ hN hn hlt yr HK.out HG.out).mono ?_
            rintro e w7 ⟨⟨-, hno⟩ | ⟨s2, z, rfl, -, -, hz', hu2⟩, hb7⟩
            · exact absurd HF.out (hno s' HZ.out)
            · obtain rfl : s2 = s' := hu2 s' HZ.out HF.out
              have hbw7 := bwstep hbw hb7
              obtain ⟨A3, c3, hc3, h3c, h3m, hr3⟩ := (l4.up hbw7).rowT hlt
              have hz1 := hz'.rd
              obtain ⟨A4, c4, rfl, -, -⟩ := hz1.shapeR
              have hsm := rsame_any _ _ _ _ _ _ w7 hz1 hr3
              rw [sm_self] at hsm
              clear hIr yr hb7 hz' hu2 hz1 hr3
              go_wp2_with fail
              refine hsm.mono ?_
              rintro e w8 ⟨rfl, rfl⟩
              go_wp2_with fail
              go_roundw
              case rel => exact ⟨j + 1, by omega, by go_num, hbw7⟩
              case measure => simp [intOf]; omega
          · go_wp2_with fail
            go_ret
            exact ⟨rfl, bwstep hbb hbw⟩
    · have tk : ((hand n G).length : Int) < (k : Int) := by omega
      go_wp2_with (refine wpList_loadS rfl (.tmp 9) rfl rfl hI4 ?_)
      refine (decode_short k f n _ G _ hN hn y1 (by omega)).mono ?_
      rintro e w5 ⟨rfl, hb5⟩
      have hI5 := hI4.below hb5
      have hbb := bwstep hbb hb5
      have y3 := y1.up hb5
      have hth := fun q : Nat => there_any _ n G _ (w5.drewN q) (y3.below (bwN' w5 q))
      have c0 := hI5.c0
      clear hI4 hb5 l2 y1
      go_wp2_with fail
      go_quiet (first | (go_at_call 20; exact (hth _).mono fun _ _ ⟨h1, h2⟩ => ⟨h1, _, h2⟩))
      have hbb := bwstep hbb (bwN (w := w5) nq)
      clear hth
      go_wp2_with fail
      go_ret
      exact ⟨rfl, hbb⟩
  · have t1 : (512 : Int) < (s.size : Int) := by omega
    go_wp2_with fail
    refine (awake_ok _).mono ?_
    rintro e w3 ⟨rfl, hb3⟩
    go_wp2_with fail
    go_ret
    exact ⟨rfl, bwstep hbb hb3⟩
end Go.Proofs.Ytfnenehiapibiaa
