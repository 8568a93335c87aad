/- The statements of layer 2: their walks, to the end. -/
import Derived.Test.YtcdbmijpccgpdaaSumM
namespace Go.Proofs.Ytcdbmijpccgpdaa
open Go.RowKit Crc

theorem bit_at (t : W) (k : Nat) : (bits .and .u32 ((vw t : Int) / 2 ^ k) 1 == 1) = t.getLsbD k := by
  have e : (vw t : Int) / 2 ^ k = (vw (t >>> k) : Int) := by
    unfold vw
    rw [shr_toNat]
    simp
  have e2 : t.getLsbD k = (t >>> k).getLsbD 0 := by rw [BitVec.getLsbD_ushiftRight, Nat.add_zero]
  rw [e, and1_vw, e2, bit0, Bool.eq_iff_iff, beq_iff_eq, decide_eq_true_iff]
  omega
theorem xor_u8 (a b : UInt8) : bits .xor .u8 (a.toNat : Int) (b.toNat : Int) = ((a ^^^ b).toNat : Int) := by
  show IntKind.u8.wrap ((BitVec.ofInt 8 (a.toNat : Int) ^^^ BitVec.ofInt 8 (b.toNat : Int)).toNat : Int) = _
  have e : ∀ c : UInt8, BitVec.ofInt 8 (c.toNat : Int) = c.toBitVec := by
    intro c
    rw [BitVec.ofInt_natCast]
    apply BitVec.eq_of_toNat_eq
    simp
  rw [e, e, IntKind.wrap_u8]
  have := (a ^^^ b).toNat_lt
  have e2 : (a.toBitVec ^^^ b.toBitVec).toNat = (a ^^^ b).toNat := rfl
  rw [e2]
  omega
theorem bit_nat : ∀ r : Nat, r < 8 → (2 ^ r % 256 : Int) = ((1 <<< UInt8.ofNat r : UInt8).toNat : Int) := by decide
theorem xor_bit (c : UInt8) (r : Nat) (h : r < 8) : bits .xor .u8 (c.toNat : Int) (2 ^ r % 256) = ((c ^^^ 1 <<< UInt8.ofNat r).toNat : Int) := by
  rw [bit_nat r h, xor_u8]
theorem ne_vw {a b : W} (h : a ≠ b) : ((vw a : Int) != (vw b : Int)) = true ∧ ((vw a : Int) == (vw b : Int)) = false := by
  have e : ((vw a : Int) == (vw b : Int)) = false := by rw [vw_beq]; simp [h]
  exact ⟨by rw [bne, e]; rfl, e⟩
theorem flips_succ (l : List UInt8) (t : W) (k i : Nat) : flips l t k (i + 1) = if t.getLsbD i then flip (flips l t k i) (k + i) else flips l t k i := rfl

set_option maxHeartbeats 2000000 in
set_option maxRecDepth 100000 in
theorem checkTurned_walk (x : Value) (l : List UInt8) (p : Int) (s : Int) (w : World) (hx : Rd w w.heap.size x (l.map bv)) (_hl : l.length ≤ 140737488351232) (hp : (Lit.int .u16 p).wf = true) (hs : (Lit.int .u32 s).wf = true) :
    Calls Try.prog 4 #[x, .int .u16 p, .int .u32 s] w fun e w' => e = .returned (.bool true) ∧ Below w.heap.size w w' := by
  obtain ⟨t, rfl⟩ : ∃ t : W, s = (vw t : Int) := wordOf hs
  have ht := vw_lt t
  have hp' := bounds_u16 hp
  obtain ⟨q, rfl⟩ := Int.eq_ofNat_of_zero_le hp'.1
  have hq : q ≤ 65535 := by omega
  clear hp hp' hs
  obtain ⟨A, c, rfl, hc, hm⟩ := hx.shapeM
  by_cases hsm : 5 ≤ l.length ∧ l.length ≤ 1000 ∧ vw t ≠ 0
  · obtain ⟨h1, h2, h3⟩ := hsm
    have d3 : ((vw t : Int) == 0) = false := by rw [beq_eq_false_iff_ne]; omega
    have D3 := Lib.hid d3
    have H3 := Lib.hid h3
    clear h3 d3
    go_enter Try.func4, Try.ntmps4
    go_wp2_with fail
    refine (awake_ok _).mono ?_
    rintro e w1 ⟨rfl, hb1⟩
    have hX1 := hx.up hb1
    clear hx
    go_wp2_with fail
    · have hw : ((l.length : Int) < 5 ∨ (1000 : Int) < l.length) ∨ ((vw t : Int) == 0) = true := by assumption
      exfalso
      rcases hw with (hw | hw) | hw
      · omega
      · omega
      · rw [D3.out] at hw; cases hw
    clear D3
    refine (sum_any _ l _ _ hX1 (by omega)).mono ?_
    rintro e w' ⟨rfl, rfl⟩
    go_wp2_with (at_builtin; refine wpList_appB bytesT rfl (.tmp 37) (.tmp 38) rfl rfl (Ow.empty _ (Nat.le_refl _) _) rfl (hX1.up ((Below.refl _ _).alloc (Nat.le_refl _) _)) (by simp; omega) (by simp) ?_; intro v2 w2 ho2 hg2 _; have hB2 := Ow.emptyG hg2)
    obtain ⟨kk, hkk⟩ : ∃ kk : Nat, (q : Int) % (8 * (l.length : Int) - 31) = kk := Int.eq_ofNat_of_zero_le (Int.emod_nonneg _ (by omega))
    have hk8 : kk + 32 ≤ 8 * l.length := by
      have := Int.emod_lt_of_pos (q : Int) (show (0 : Int) < 8 * (l.length : Int) - 31 by omega)
      omega
    rw [hkk]
    clear hkk hg2
    obtain ⟨A2, c2, rfl, hc2, hm2⟩ := ho2.rd.shapeM
    simp only [List.nil_append] at hc2 ho2
    go_loopw [10] (fun i wr => ∃ k : Nat, k ≤ 32 ∧ i = .int .i64 k ∧ Ow wr w1.heap.size 5 (.slice A2 l.length c2) ((flips l t kk k).map bv) ∧ Below w1.heap.size w1 wr) (fun i _ => 32 - (intOf i).toNat)
    case atStart => exact ⟨0, by omega, rfl, ho2, hB2⟩
    case round =>
      obtain ⟨k, hk, rfl, ho, hB⟩ := hrel
      by_cases hlt : k < 32
      · have hT := bit_at t k
        have HF := Lib.hid (flips_succ l t kk k)
        cases hb : t.getLsbD k with
        | false =>
          rw [hb] at hT
          go_wp2_with fail
          go_roundw
          case rel => exact ⟨k + 1, by omega, by go_num, by rw [HF.out, if_neg (by rw [hb]; simp)]; exact ho, hB⟩
          case measure => simp [intOf]; omega
        | true =>
          rw [hb] at hT
          obtain ⟨j, hj⟩ : ∃ j : Nat, j = (kk + k) / 8 := ⟨_, rfl⟩
          obtain ⟨r, hr⟩ : ∃ r : Nat, r = (kk + k) % 8 := ⟨_, rfl⟩
          have hjl : j < l.length := by omega
          have hr8 : r < 8 := by omega
          have hj' : ((kk : Int) + k) / 8 = (j : Int) := by omega
          have hr' : ((kk : Int) + k) % 8 = (r : Int) := by omega
          obtain ⟨g, rfl, hg1, hg2, hcell, hfr, hst⟩ := ho.at_ (k := j) (by rw [List.length_map, flips_len]; exact hjl)
          have hjf : j < (flips l t kk k).length := by rw [flips_len]; exact hjl
          have hfx : (flips l t kk (k + 1)) = (flips l t kk k).set j ((flips l t kk k)[j] ^^^ (1 <<< UInt8.ofNat r)) := by
            rw [HF.out, if_pos hb]
            unfold Crc.flip
            subst hj hr
            rw [List.getElem?_eq_getElem hjf]
            rfl
          have HX := Lib.hid hfx
          have HSt := Lib.hid hst
          have HJ := Lib.hid hj
          have HR := Lib.hid hr
          clear hfx hst hj hr hb
          simp only [List.getElem_map, bv] at hcell
          generalize hcc : (flips l t kk k)[j] = cc at hcell HX
          clear hcc
          go_wp2_with fail
          go_roundw
          case rel => exact ⟨k + 1, by omega, by go_num, by rw [HX.out, xor_bit _ _ hr8]; simpa [List.map_set, bv] using HSt.out _, hB.setCell hg1 _⟩
          case measure => simp [intOf]; omega
      · obtain rfl : k = 32 := by omega
        have hne := sum_flips l t kk (by rintro rfl; exact H3.out rfl) hk8
        have hO : Rd wr wr.heap.size (.slice A2 l.length c2) ((flips l t kk 32).map bv) := ho.rd
        have hN1 := ne_vw hne
        have hN2 : decide (sum (flips l t kk 32) = sum l) = false := by simp [hne]
        have HN1 := Lib.hid hN1
        have HN2 := Lib.hid hN2
        clear hN1 hN2 hne ho
        have hbb := bwstep hb1 hB
        go_wp2_with fail
        refine (sum_any _ (flips l t kk 32) _ _ hO (by rw [flips_len]; omega)).mono ?_
        rintro e w' ⟨rfl, rfl⟩
        have hn1 := HN1.out.1
        go_wp2_with fail
        refine (good_any _ (flips l t kk 32) _ _ _ hO (by rw [flips_len]; omega)).mono ?_
        rintro e w' ⟨rfl, rfl⟩
        rw [HN2.out]
        go_wp2_with fail
        go_ret
        exact ⟨rfl, hbb⟩
  · rcases Nat.lt_or_ge l.length 5 with h1 | h1
    · go_enter Try.func4, Try.ntmps4
      go_wp2_with fail
      refine (awake_ok _).mono ?_
      rintro e w1 ⟨rfl, hb1⟩
      go_wp2_with fail
      refine (awake_ok _).mono ?_
      rintro e w2 ⟨rfl, hb2⟩
      go_wp2_with fail
      go_ret
      exact ⟨rfl, bwstep hb1 hb2⟩
    · rcases Nat.lt_or_ge 1000 l.length with h2 | h2
      · go_enter Try.func4, Try.ntmps4
        go_wp2_with fail
        refine (awake_ok _).mono ?_
        rintro e w1 ⟨rfl, hb1⟩
        go_wp2_with fail
        refine (awake_ok _).mono ?_
        rintro e w2 ⟨rfl, hb2⟩
        go_wp2_with fail
        go_ret
        exact ⟨rfl, bwstep hb1 hb2⟩
      · obtain h3 : vw t = 0 := by omega
        clear hsm
        rw [h3]
        clear h3 ht
        go_enter Try.func4, Try.ntmps4
        go_wp2_with fail
        refine (awake_ok _).mono ?_
        rintro e w1 ⟨rfl, hb1⟩
        go_wp2_with fail
        refine (awake_ok _).mono ?_
        rintro e w2 ⟨rfl, hb2⟩
        go_wp2_with fail
        go_ret
        exact ⟨rfl, bwstep hb1 hb2⟩
end Go.Proofs.Ytcdbmijpccgpdaa
