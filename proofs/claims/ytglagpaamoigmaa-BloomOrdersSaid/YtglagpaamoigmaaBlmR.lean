/- The contracts of the reference functions of layer 11: Bits. -/
import Derived.Test.YtglagpaamoigmaaBlmC
namespace Go.Proofs.Ytglagpaamoigmaa.Blm
open Go.RowKit Crc

theorem mod32 (a b n : Nat) : (((a : Int) + (b : Int)) % 4294967296) % (n : Int) = (((a + b) % 4294967296 % n : Nat) : Int) := by
  rw [Int.natCast_emod, Int.natCast_emod, Int.natCast_add]
  rfl
set_option maxHeartbeats 1000000 in
set_option maxRecDepth 100000 in
theorem rbits_any (s : ByteArray) (n : Nat) (w : World) (hs : s.size ≤ 140737488351232) (h1 : 1 ≤ n) (h2 : n ≤ 4503599627370496) :
    Calls Try.prog 13 #[.string s, .int .i64 (n : Int)] w fun e w' => (∃ v, e = .returned v ∧ Ow w' w.heap.size 3 v ((bitsL s.data.toList n).map nvB)) ∧ Below w.heap.size w w' := by
  have hz : ((n : Int) == 0) = false := by rw [beq_eq_false_iff_ne]; omega
  have hsz : s.data.toList.length ≤ 140737488351232 := hs
  have hfirst := run_bytes (P := Try.prog) w s Try.underlying9 Try.underlying26 Try.underlying5 (by simp [maxLen]; omega)
  obtain ⟨x, wB, hcv, hx, hb, _⟩ := hfirst
  go_enter Try.func13, Try.ntmps13
  go_wp2_with fail
  clear hcv
  refine (rsum_any _ _ _ _ hx (by omega)).mono ?_
  rintro e w' ⟨rfl, rfl⟩
  clear hx
  have ha : vw (sum s.data.toList) = ba s.data.toList := rfl
  rw [ha]
  clear ha
  have hone : Ow (wB.alloc (.cells #[.int .u8 1] 5)) wB.heap.size 5 (.slice (some ⟨wB.heap.size, 0, none⟩) 1 1) (([1] : List UInt8).map bv) := Ow.new _ _ rfl (by simp [maxLen]) rfl (Nat.le_refl _)
  obtain ⟨y, wC, hcv, hy, hbC, _⟩ := run_bytes (P := Try.prog) (wB.alloc (.cells #[.int .u8 1] 5)) s Try.underlying9 Try.underlying26 Try.underlying5 (by simp [maxLen]; omega)
  have hone2 := hone.below hbC
  have hbA : Below wB.heap.size wB wC := (bwalloc (Below.refl _ _) _).trans (hbC.mono (by simp))
  have hba := ba_lt s.data.toList
  go_wp2_with (at_builtin; refine wpList_appB bytesT rfl (.tmp 11) (.tmp 13) rfl rfl hone2 rfl hy (by simp; omega) hbA.size ?_; intro v3 w3 ho3 hg3 _)
  have hb3 := bwstep hb (hbA.grown hg3 hbA.size hone2.ge)
  clear hg3 hbA hone2 hbC hy hcv hone hb
  refine (rsum_any _ _ _ _ ho3.rd (by simp; omega)).mono ?_
  rintro e w' ⟨rfl, rfl⟩
  clear ho3
  have hb0 : vw (sum ([1] ++ s.data.toList)) = bb s.data.toList := rfl
  rw [hb0]
  clear hb0
  have hbb := bb_lt s.data.toList
  have HR : Hid (bitsL s.data.toList n = [ba s.data.toList % n, (ba s.data.toList + bb s.data.toList) % 4294967296 % n, (ba s.data.toList + 2 * bb s.data.toList) % 4294967296 % n]) := Lib.hid rfl
  generalize ba s.data.toList = a at hba HR ⊢
  generalize bb s.data.toList = b at hbb HR ⊢
  go_wp2_with fail
  go_region
  go_wp2_with fail
  go_ret
  rw [HR.out]
  have he : #[Value.int .i64 ((a : Int) % (n : Int)), .int .i64 (((a : Int) + (b : Int)) % 4294967296 % (n : Int)), .int .i64 (((a : Int) + 2 * (b : Int)) % 4294967296 % (n : Int))].toList = [a % n, (a + b) % 4294967296 % n, (a + 2 * b) % 4294967296 % n].map nvB := by
    have e1 := mod32 a b n
    have e2 := mod32 a (2 * b) n
    rw [Int.natCast_mul] at e2
    show [_, _, _] = [_, _, _]
    rw [e1]
    unfold nvB
    rw [← e2, Int.natCast_emod]
    rfl
  have ho := (Ow.new (B := w.heap.size) (e := 3) w3 _ rfl (by simp [maxLen]) he hb3.size)
  exact ⟨⟨_, rfl, ho.below (Below.refl _ _).drew⟩, ((bwalloc hb3 _)).drew⟩
theorem bit_mod (a : UInt8) (r : Nat) : (((a.toNat / 2 ^ r : Nat) : Int) % 2 == 0) = !bt a r := by
  rw [bt_div]
  have h := Nat.mod_two_eq_zero_or_one (a.toNat / 2 ^ r)
  generalize a.toNat / 2 ^ r = q at h ⊢
  rcases h with h | h
  · rw [beq_iff_eq.2 (by omega), decide_eq_false (by omega)]
    rfl
  · rw [beq_eq_false_iff_ne.2 (by omega), decide_eq_true h]
    rfl
theorem div_two (a k : Nat) : (((a / 2 ^ k : Nat) : Int) / 2) = ((a / 2 ^ (k + 1) : Nat) : Int) := by
  rw [Nat.pow_succ, ← Nat.div_div_eq_div_mul]
  omega
set_option maxHeartbeats 2000000 in
set_option maxRecDepth 100000 in
theorem rhas_any (x : Value) (f : List UInt8) (s : ByteArray) (B : Nat) (w : World) (hB : B ≤ w.heap.size) (hx : Rd w B x (f.map bv)) (hl : f.length ≤ 140737488351232) (hs : s.size ≤ 140737488351232) :
    Calls Try.prog 15 #[x, .string s] w fun e w' => e = .returned (.bool (hasB f s.data.toList)) ∧ Below w.heap.size w w' := by
  obtain ⟨A, c, rfl, hc, hm⟩ := hx.shapeM
  by_cases h0 : f = []
  · subst h0
    have HR : Hid (hasB [] s.data.toList = true) := Lib.hid (hasB_iff.2 (.inl rfl))
    go_enter Try.func15, Try.ntmps15
    go_wp2_with fail
    go_ret
    rw [HR.out]
    exact ⟨rfl, Below.refl _ _⟩
  have hp : 0 < f.length := List.length_pos_iff.2 h0
  have hz : ((f.length : Int) == 0) = false := by rw [beq_eq_false_iff_ne]; omega
  have HN : Hid (∀ j, j < 3 → bitAt f (kw s.data.toList j % (8 * f.length)) = false → hasB f s.data.toList = false) := Lib.hid fun j hj hb => has_not h0 hj hb
  clear h0
  obtain ⟨b, off, rfl, hbb, hcell⟩ := hx.cellM hp
  have hbs := rbits_any s (8 * f.length) w hs (by omega) (by omega)
  rw [show ((8 * f.length : Nat) : Int) = 8 * (f.length : Int) by omega] at hbs
  go_enter Try.func15, Try.ntmps15
  go_wp2_with fail
  refine hbs.mono ?_
  rintro e w1 ⟨⟨v, rfl, ho⟩, hb1⟩
  clear hbs
  have hcl : ∀ j (hj : j < f.length), w1.cell? ⟨b, off + j, none⟩ = some (bv f[j]) := fun j hj => (hb1.cell (by show b < _; omega)).trans (hcell j hj)
  have HC := Lib.hid hcl
  clear hcl hcell
  obtain ⟨A', c', hv, hc', hm'⟩ := ho.rd.shapeM
  rw [bitsL_len] at hv hc'
  have hrd := ho.rd
  rw [hv] at hrd
  subst hv
  obtain ⟨b', off', rfl, -, hcl'⟩ := hrd.cellM (by rw [bitsL_len]; omega)
  have HD : Hid (∀ j, j < 3 → w1.cell? ⟨b', off' + j, none⟩ = some (.int .i64 ((kw s.data.toList j % (8 * f.length) : Nat) : Int))) := Lib.hid fun j hj => by
    rw [hcl' j hj]
    exact congrArg (fun n : Nat => some (nvB n)) (bitsL_at _ _ hj)
  clear hcl' hrd ho
  unfold maxLen at hm'
  go_wp2_with fail
  go_loop [6, 7, 8] (fun i _ _ => ∃ j : Nat, j ≤ 3 ∧ i = .int .i64 j ∧ All_ f s.data.toList j) (fun i _ _ => 3 - (intOf i).toNat)
  case atStart => exact ⟨0, by omega, rfl, All_.zero _ _⟩
  case round =>
    obtain ⟨j, hj, rfl, hall⟩ := hrel
    by_cases hlt3 : j < 3
    · have hd := HD.out j hlt3
      have HG : Hid (bitAt f (kw s.data.toList j % (8 * f.length)) = true → All_ f s.data.toList (j + 1)) := Lib.hid fun h => hall.step hlt3 h
      have HM : Hid (bitAt f (kw s.data.toList j % (8 * f.length)) = false → hasB f s.data.toList = false) := Lib.hid (HN.out j hlt3)
      clear hall
      have hlt8 : kw s.data.toList j % (8 * f.length) < 8 * f.length := Nat.mod_lt _ (by omega)
      generalize kw s.data.toList j % (8 * f.length) = r at hd hlt8 HG HM
      have hr8 : r / 8 < f.length := by omega
      have hr9 : r % 8 < 8 := Nat.mod_lt _ (by decide)
      have hck := HC.out (r / 8) hr8
      simp only [bv] at hck
      have hbit : bitAt f r = bt (f[r / 8]) (r % 8) := by unfold bitAt; simp [List.getD, hr8]
      rw [hbit] at HG HM
      clear hbit
      generalize f[r / 8] = b0 at hck HG HM
      have hb0 := b0.toNat_lt
      have hlt9 : ((r : Int) / 8) < (f.length : Int) := by omega
      go_wp2_with fail
      go_loop [7, 8] (fun x i => ∃ k : Nat, k ≤ r % 8 ∧ i = .int .i64 k ∧ x = .int .i64 ((b0.toNat / 2 ^ k : Nat) : Int)) (fun _ i => 8 - (intOf i).toNat)
      case atStart => exact ⟨0, Nat.zero_le _, rfl, by simp⟩
      case round =>
        obtain ⟨k, hk, rfl, rfl⟩ := hrel
        have HS := Lib.hid (div_two b0.toNat k)
        have HE := Lib.hid (bit_mod b0 k)
        have hx9 : b0.toNat / 2 ^ k < 256 := Nat.lt_of_le_of_lt (Nat.div_le_self _ _) hb0
        by_cases hkr : k < r % 8
        · generalize b0.toNat / 2 ^ k = y at HS hx9 ⊢
          clear HE
          go_wp2_with fail
          go_round
          case rel => exact ⟨k + 1, by omega, by go_num, vi HS.out⟩
          case measure => simp [intOf]; omega
        · have hkk : k = r % 8 := by omega
          rw [← hkk] at HG HM
          generalize b0.toNat / 2 ^ k = y at HE hx9 ⊢
          generalize bt b0 k = bb at HG HM HE
          cases bb
          · have HX : ((y : Int) % 2 == 0) = true := HE.out
            clear HE HS HG
            go_wp2_with fail
            go_ret
            rw [HM.out trivial]
            exact ⟨rfl, hb1⟩
          · have HX : ((y : Int) % 2 == 0) = false := HE.out
            clear HE HS HM
            go_wp2_with fail
            go_round
            case rel => exact ⟨j + 1, by omega, by go_num, HG.out (by first | trivial | rfl)⟩
            case measure => simp [intOf]; omega
    · obtain rfl : j = 3 := by omega
      have HF := Lib.hid hall.has
      clear hall
      go_wp2_with fail
      go_ret
      rw [HF.out]
      exact ⟨rfl, hb1⟩
end Go.Proofs.Ytglagpaamoigmaa.Blm
