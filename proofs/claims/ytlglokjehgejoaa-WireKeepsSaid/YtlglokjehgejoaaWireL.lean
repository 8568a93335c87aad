/- The statements of layer 1: their walks. -/
import Derived.Test.YtlglokjehgejoaaWireP
namespace Go.Proofs.Ytlglokjehgejoaa
open Go.RowKit

def numI (n : Int) : List UInt8 := if 0 ≤ n ∧ n ≤ 4294967295 then numB n.toNat else []
theorem num_any (n : Int) (w : World) :
    Calls Try.prog 12 #[.int .i64 n] w fun e w' => ∃ v, e = .returned v ∧ Ow w' w.heap.size 5 v ((numI n).map bv) ∧ Below w.heap.size w w' := by
  unfold numI
  by_cases h : 0 ≤ n ∧ n ≤ 4294967295
  · rw [if_pos h]
    obtain ⟨m, rfl⟩ := Int.eq_ofNat_of_zero_le h.1
    exact num_ok m w (by omega)
  · rw [if_neg h]
    exact (num_bad n w (by omega)).mono fun e w' ⟨he, hw⟩ => ⟨_, he, Ow.nilB _ _ _, by rw [hw]; exact Below.refl _ _⟩
theorem rnum_any (n : Int) (w : World) :
    Calls Try.prog 13 #[.int .i64 n] w fun e w' => ∃ v, e = .returned v ∧ Ow w' w.heap.size 5 v ((numI n).map bv) ∧ Below w.heap.size w w' := by
  unfold numI
  by_cases h : 0 ≤ n ∧ n ≤ 4294967295
  · rw [if_pos h]
    obtain ⟨m, rfl⟩ := Int.eq_ofNat_of_zero_le h.1
    exact rnum_ok m w (by omega)
  · rw [if_neg h]
    exact (rnum_bad n w (by omega)).mono fun e w' ⟨he, hw⟩ => ⟨_, he, Ow.nilB _ _ _, by rw [hw]; exact Below.refl _ _⟩
theorem sameB_self (a : List UInt8) : sameB a a = true := by simp [sameB]
/-- a callee's world behind another's -/
theorem bwstep {w a b : World} (h : Below w.heap.size w a) (k : Below a.heap.size a b) : Below w.heap.size w b := h.trans (k.mono h.size)
theorem Rd.up {w w' : World} {v : Value} {xs : List Value} (h : Rd w w.heap.size v xs) (hb : Below w.heap.size w w') : Rd w' w'.heap.size v xs := (h.below hb).mono hb.size

set_option maxHeartbeats 2000000 in
set_option maxRecDepth 100000 in
theorem wirePuts_walk (n : Int) (s : ByteArray) (x : Value) (l : List ByteArray) (w : World) (_hn : (Lit.int .i64 n).wf = true) (hs : s.size ≤ 140737488351232) (hx : Rd w w.heap.size x (l.map sv)) (_hl : l.length ≤ 140737488351232) (hm : ∀ s ∈ l, s.size ≤ 140737488351232) :
    Calls Try.prog 3 #[.int .i64 n, .string s, x] w fun e w' => e = .returned (.bool true) ∧ Below w.heap.size w w' := by
  have HM := Lib.hid hm
  clear hm
  by_cases h3 : s.size ≤ 3000
  · go_enter Try.func3, Try.ntmps3
    go_wp2_with fail
    refine (awake_ok _).mono ?_
    rintro e w1 ⟨rfl, hb1⟩
    go_wp2_with fail
    refine (rfew_any _ l w.heap.size _ hb1.size (hx.below hb1) (fun s h => Nat.le_trans (HM.out s h) (by decide))).mono ?_
    rintro e w2 ⟨q, rfl, hq, hb2⟩
    have hB2 := bwstep hb1 hb2
    clear hb1 hb2
    cases q with
    | false =>
      go_wp2_with fail
      refine (awake_ok _).mono ?_
      rintro e w3 ⟨rfl, hb3⟩
      go_wp2_with fail
      go_ret
      exact ⟨rfl, bwstep hB2 hb3⟩
    | true =>
      obtain ⟨hl1, hl2⟩ := hq rfl
      clear hq
      have hX2 := hx.up hB2
      have HS := Lib.hid (fun s h => Nat.le_trans (size_le_sumS (l := l) (s := s) h) (Nat.le_trans hl2 (by decide : (5000 : Nat) ≤ 4294967295)))
      have hA := allB_len l
      have HA : Hid ((allB l).length ≤ 1000000000000) := by show _ ≤ _; omega
      clear hA
      go_wp2_with fail
      refine (num_any _ _).mono ?_
      rintro e w3 ⟨r3, rfl, hr3, hb3⟩
      have hB3 := bwstep hB2 hb3
      have hX3 := hX2.up hb3
      have hR3 := hr3.rd
      clear hr3 hb3 hX2 hB2
      go_wp2_with fail
      refine (rnum_any _ _).mono ?_
      rintro e w4 ⟨r4, rfl, hr4, hb4⟩
      have hB4 := bwstep hB3 hb4
      have hX4 := hX3.up hb4
      have hR4 := hR3.up hb4
      clear hb4 hX3 hR3 hB3
      go_wp2_with fail
      refine (rsame_any _ _ _ _ _ _ _ hR4 hr4.rd).mono ?_
      rintro e w5 ⟨rfl, rfl⟩
      rw [sameB_self]
      clear hR4 hr4
      go_wp2_with fail
      refine (text_ok _ _ (by omega)).mono ?_
      rintro e w5 ⟨r5, rfl, hr5, hb5⟩
      have hB5 := bwstep hB4 hb5
      have hX5 := hX4.up hb5
      have hR5 := hr5.rd
      clear hr5 hb5 hX4 hB4
      go_wp2_with fail
      refine (rtext_ok _ _ (by omega)).mono ?_
      rintro e w6 ⟨r6, rfl, hr6, hb6⟩
      have hB6 := bwstep hB5 hb6
      have hX6 := hX5.up hb6
      have hR6 := hR5.up hb6
      clear hb6 hX5 hR5 hB5
      go_wp2_with fail
      refine (rsame_any _ _ _ _ _ _ _ hR6 hr6.rd).mono ?_
      rintro e w7 ⟨rfl, rfl⟩
      rw [sameB_self]
      clear hR6 hr6
      go_wp2_with fail
      refine (texts_ok _ l _ hX6 (by omega) HS.out HA.out).mono ?_
      rintro e w7 ⟨r7, rfl, hr7, hb7⟩
      have hB7 := bwstep hB6 hb7
      have hX7 := hX6.up hb7
      have hR7 := hr7.rd
      clear hr7 hb7 hX6 hB6
      go_wp2_with fail
      refine (rtexts_ok _ l _ hX7 (by omega) HS.out HA.out).mono ?_
      rintro e w8 ⟨r8, rfl, hr8, hb8⟩
      have hB8 := bwstep hB7 hb8
      have hR8 := hR7.up hb8
      clear hb8 hX7 hR7 hB7
      go_wp2_with fail
      refine (rsame_any _ _ _ _ _ _ _ hR8 hr8.rd).mono ?_
      rintro e w9 ⟨rfl, rfl⟩
      rw [sameB_self]
      go_wp2_with fail
      go_ret
      exact ⟨rfl, hB8⟩
  · go_enter Try.func3, Try.ntmps3
    go_wp2_with fail
    refine (awake_ok _).mono ?_
    rintro e w1 ⟨rfl, hb1⟩
    go_wp2_with fail
    refine (awake_ok _).mono ?_
    rintro e w2 ⟨rfl, hb2⟩
    go_wp2_with fail
    go_ret
    exact ⟨rfl, bwstep hb1 hb2⟩
end Go.Proofs.Ytlglokjehgejoaa
