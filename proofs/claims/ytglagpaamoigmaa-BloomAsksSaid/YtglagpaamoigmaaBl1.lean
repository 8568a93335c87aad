/- The statements of layer 11: the walks of BloomMakes and BloomAsks. -/
import Derived.Test.YtglagpaamoigmaaBlmW
namespace Go.Proofs.Ytglagpaamoigmaa.Blm
open Go.RowKit Crc

set_option maxHeartbeats 1000000 in
set_option maxRecDepth 100000 in
theorem bloomMakes_walk (x : Value) (l : List ByteArray) (w : World) (hx : Rd w w.heap.size x (l.map sv)) (_hl : l.length ≤ 140737488351232) (hm : ∀ s ∈ l, s.size ≤ 140737488351232) :
    Calls Try.prog 3 #[x] w fun e w' => e = .returned (.bool true) ∧ Below w.heap.size w w' := by
  have hfw : ∀ w1, Rd w1 w1.heap.size x (l.map sv) → Calls Try.prog 8 #[x] w1 (FewSaid w1 l) := fun w1 h => rfew_any x l w1.heap.size w1 (Nat.le_refl _) h (fun s hs => Nat.le_trans (hm s hs) (by omega))
  obtain ⟨A, c, rfl, hc, hmx⟩ := hx.shapeM
  go_enter Try.func3, Try.ntmps3
  go_wp2_with fail
  refine (lawake_ok _).mono ?_
  rintro e w1 ⟨rfl, hb1⟩
  have hX1 := hx.up hb1
  clear hx
  go_wp2_with fail
  refine (hfw _ hX1).mono ?_
  rintro e w2 ⟨q, rfl, hq, hb2⟩
  have hX2 := hX1.up hb2
  have hb2 := bwstep hb1 hb2
  clear hX1 hb1
  cases q
  · go_wp2_with fail
    refine (lawake_ok _).mono ?_
    rintro e w3 ⟨rfl, hb3⟩
    go_wp2_with fail
    go_ret
    exact ⟨rfl, bwstep hb2 hb3⟩
  · obtain ⟨h100, -⟩ := hq rfl
    clear hq
    go_wp2_with fail
    refine (make_any _ l _ hX2 (by omega) hm).mono ?_
    rintro e w3 ⟨⟨v3, rfl, h3⟩, hb3⟩
    have hX3 := hX2.up hb3
    have hb3 := bwstep hb2 hb3
    have hR3 := h3.rd
    clear hX2 hb2 h3
    go_wp2_with fail
    refine (rmake_any _ l _ hX3 (by omega) hm).mono ?_
    rintro e w4 ⟨⟨v4, rfl, h4⟩, hb4⟩
    have hR3 := hR3.up hb4
    have hb4 := bwstep hb3 hb4
    go_wp2_with fail
    refine (rsame_bel _ _ _ _ _ _ _ hR3 h4.rd).mono ?_
    rintro e w5 ⟨rfl, hb5⟩
    rw [sameB_self]
    go_wp2_with fail
    go_ret
    exact ⟨rfl, bwstep hb4 hb5⟩

theorem beq_self2 (b : Bool) : (b == b) = true := by cases b <;> rfl
set_option maxHeartbeats 1000000 in
set_option maxRecDepth 100000 in
theorem bloomAsks_walk (x : Value) (f : List UInt8) (s : ByteArray) (n : Int) (w : World) (hx : Rd w w.heap.size x (f.map bv)) (_hl : f.length ≤ 140737488351232) (hs : s.size ≤ 140737488351232) (hn : (Lit.int .u16 n).wf = true) :
    Calls Try.prog 4 #[x, .string s, .int .u16 n] w fun e w' => e = .returned (.bool true) ∧ Below w.heap.size w w' := by
  have hn' := bounds_u16 hn
  obtain ⟨m, rfl⟩ := Int.eq_ofNat_of_zero_le hn'.1
  have hm : m ≤ 65535 := by omega
  clear hn hn'
  obtain ⟨A, c, rfl, hc, hmx⟩ := hx.shapeM
  by_cases hsm : f.length ≤ 1000 ∧ s.size ≤ 1000
  · obtain ⟨h1, h2⟩ := hsm
    have hk : (1 : Int) + (m : Int) = ((1 + m : Nat) : Int) := by omega
    have HB := fun w1 => bits_any s (1 + m) w1 hs (by omega) (by omega)
    have HR := fun w1 => rbits_any s (1 + m) w1 hs (by omega) (by omega)
    rw [← hk] at HB HR
    clear hk
    go_enter Try.func4, Try.ntmps4
    go_wp2_with fail
    refine (lawake_ok _).mono ?_
    rintro e w1 ⟨rfl, hb1⟩
    have hX1 := hx.up hb1
    clear hx
    go_wp2_with fail
    refine (HB _).mono ?_
    rintro e w2 ⟨⟨v2, rfl, h2⟩, hb2⟩
    have hX2 := hX1.up hb2
    have hb2 := bwstep hb1 hb2
    have hL2 := h2.rd
    clear hX1 hb1 h2 HB
    go_wp2_with fail
    refine (HR _).mono ?_
    rintro e w3 ⟨⟨v3, rfl, h3⟩, hb3⟩
    have hX3 := hX2.up hb3
    have hL2 := hL2.up hb3
    have hb3 := bwstep hb2 hb3
    have hL3 := h3.rd
    clear hX2 hb2 h3 HR
    have hlen := bitsL_len s.data.toList (1 + m)
    have hint : ∀ u ∈ bitsL s.data.toList (1 + m), True := fun _ _ => trivial
    generalize bitsL s.data.toList (1 + m) = L at hL2 hL3 hlen
    clear hint
    obtain ⟨A2, c2, rfl, hc2, hm2⟩ := hL2.shapeM
    obtain ⟨A3, c3, rfl, hc3, hm3⟩ := hL3.shapeM
    obtain ⟨b2, o2, rfl, hbb2, hcell2⟩ := hL2.cellM (by omega)
    obtain ⟨b3, o3, rfl, hbb3, hcell3⟩ := hL3.cellM (by omega)
    have HC : Hid (∀ j, j < 3 → ∃ k : Nat, w3.cell? ⟨b2, o2 + j, none⟩ = some (.int .i64 k) ∧ w3.cell? ⟨b3, o3 + j, none⟩ = some (.int .i64 k)) := Lib.hid fun j hj => ⟨L[j], hcell2 j (by omega), hcell3 j (by omega)⟩
    rw [hlen] at hc2 hc3 ⊢
    clear hcell2 hcell3 hL2 hL3 hlen
    unfold maxLen at hm2 hm3
    go_wp2_with fail
    go_loopw [10] (fun i wr => ∃ j : Nat, j ≤ 3 ∧ i = .int .i64 j ∧ Below w3.heap.size w3 wr) (fun i _ => 3 - (intOf i).toNat)
    case atStart => exact ⟨0, by omega, rfl, Below.refl _ _⟩
    case round =>
      obtain ⟨j, hj, rfl, hbw⟩ := hrel
      by_cases hlt : j < 3
      · obtain ⟨k, hk2, hk3⟩ := HC.out j hlt
        have hk2 := (hbw.cell (by exact hbb2)).trans hk2
        have hk3 := (hbw.cell (by exact hbb3)).trans hk3
        have i2 : (j : Int) < 3 := by omega
        have hnn : ((k : Int) != (k : Int)) = false := by simp
        obtain ⟨wo, hwo⟩ : ∃ wo, wo = wr := ⟨_, rfl⟩
        subst hwo
        go_wp2_with fail
        go_quiet (fail)
        have HB := Lib.hid (below_drewN hbw nq)
        clear hk2 hk3 hbw
        go_wp2_with fail
        go_roundw
        case rel => exact ⟨j + 1, by omega, by go_num, HB.out⟩
        case measure => simp [intOf]; omega
      · obtain rfl : j = 3 := by omega
        have hX4 := hX3.up hbw
        have hb4 := bwstep hb3 hbw
        clear hX3 hb3 HC hbw
        go_wp2_with fail
        refine (has_any _ f s _ wr (Nat.le_refl _) hX4 (by omega) hs).mono ?_
        rintro e w5 ⟨rfl, hb5⟩
        have hX5 := hX4.up hb5
        have hb5 := bwstep hb4 hb5
        clear hX4 hb4
        go_wp2_with fail
        refine (rhas_any _ f s _ w5 (Nat.le_refl _) hX5 (by omega) hs).mono ?_
        rintro e w6 ⟨rfl, hb6⟩
        have hb6 := bwstep hb5 hb6
        have HE := Lib.hid (beq_self2 (hasB f s.data.toList))
        generalize hasB f s.data.toList = bb at HE ⊢
        clear hX5 hb5
        go_wp2_with fail
        go_ret
        exact ⟨rfl, hb6⟩
  · go_enter Try.func4, Try.ntmps4
    go_wp2_with fail
    refine (lawake_ok _).mono ?_
    rintro e w1 ⟨rfl, hb1⟩
    rcases Nat.lt_or_ge 1000 f.length with h1 | h1
    · go_wp2_with fail
      refine (lawake_ok _).mono ?_
      rintro e w2 ⟨rfl, hb2⟩
      go_wp2_with fail
      go_ret
      exact ⟨rfl, bwstep hb1 hb2⟩
    · have h2 : 1000 < s.size := by omega
      clear hsm
      go_wp2_with fail
      refine (lawake_ok _).mono ?_
      rintro e w2 ⟨rfl, hb2⟩
      go_wp2_with fail
      go_ret
      exact ⟨rfl, bwstep hb1 hb2⟩
end Go.Proofs.Ytglagpaamoigmaa.Blm
