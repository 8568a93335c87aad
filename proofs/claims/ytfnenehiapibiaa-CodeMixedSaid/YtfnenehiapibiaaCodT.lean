/- The statements of layer 5: the walk of CodeTurned. -/
import Derived.Test.YtfnenehiapibiaaCodE
import Derived.BigRegion
namespace Go.Proofs.Ytfnenehiapibiaa
open Go.RowKit
open Mx (rw rw_len rw_get rw_congr dl cod mm fm sm)

theorem mlen_512 {k : Nat} (hk : 0 < k) (s : ByteArray) (hs : s.size ≤ 512) : mlen k s ≤ 600 := by
  have h := mlen_lt hk s
  apply Classical.byContradiction
  intro hn
  have h1 : k * 601 ≤ k * mlen k s := Nat.mul_le_mul_left k (by omega)
  omega
/-- places but one -/
theorem others {k n i : Nat} (hi : i < n) (hk : k + 1 ≤ n) : ∃ l : List Nat, l.length = k ∧ l.Nodup ∧ (∀ a ∈ l, a < n) ∧ ∀ a ∈ l, a ≠ i := by
  refine ⟨((List.range n).erase i).take k, ?_, ?_, fun a ha => ?_, fun a ha => ?_⟩
  · rw [List.length_take, List.length_erase_of_mem (List.mem_range.2 hi), List.length_range]
    omega
  · exact (List.nodup_range.erase i).sublist (List.take_sublist _ _)
  · exact List.mem_range.1 (List.mem_of_mem_erase (List.mem_of_mem_take ha))
  · exact fun e => by
      subst e
      exact (List.nodup_range (n := n)).not_mem_erase (List.mem_of_mem_take ha)
/-- shards with a byte turned -/
abbrev trR (k : Nat) (s : ByteArray) (i j : Nat) (u : UInt8) : Nat → List UInt8 := fun i' => rw (mlen k s) (upd (shM k s) i j u i')
theorem hand_all {k n : Nat} {s : ByteArray} {f : Mx.M} (hk : 0 < k) : ∀ a, a < n → a ∈ hand n (fun i => rw (mlen k s) (f i)) := fun a ha => hand_mem.2 ⟨ha, by rw [rw_len]; exact mlen_pos hk s⟩
theorem hand_full {k n : Nat} {s : ByteArray} {f : Mx.M} (hk : 0 < k) : hand n (fun i => rw (mlen k s) (f i)) = List.range n := by
  unfold hand
  rw [List.filter_eq_self]
  exact fun a _ => decide_eq_true (by rw [rw_len]; exact mlen_pos hk s)
theorem turned_no {k n i j : Nat} {s s' : ByteArray} {u : UInt8} (hk : 0 < k) (hkn : k + 1 ≤ n) (hn : n ≤ 256) (hi : i < n) (hj : j < mlen k s) (hu : u ≠ shM k s i j) (h : Fits k n (trR k s i j u) s') : False := by
  have row : ∀ a, a < n → rw (mlen k s) (upd (shM k s) i j u a) = rw (mlen k s') (shM k s' a) := fun a ha => h a (hand_all hk a ha)
  have hlen : mlen k s = mlen k s' := by
    have := congrArg List.length (row i hi)
    rwa [rw_len, rw_len] at this
  have eq : ∀ a, a < n → ∀ j', j' < mlen k s → upd (shM k s) i j u a j' = shM k s' a j' := fun a ha j' hj' => by
    have := row a ha
    rw [← hlen] at this
    exact Mx.rw_eq this j' hj'
  obtain ⟨l, hl, hnd, hlt, hne⟩ := others hi hkn
  have hp := sh_eq (p := pcM k s) (q := pcM k s') (m := mlen k s) hn l hl hnd hlt fun a ha j' hj' => by
    have := eq a (hlt a ha) j' hj'
    unfold upd at this
    rw [if_neg (fun e => hne a ha e.1)] at this
    exact this
  have h1 := eq i hi j hj
  unfold upd at h1
  rw [if_pos ⟨rfl, rfl⟩] at h1
  refine hu (h1.trans ?_)
  exact Mx.mm_congr (fun _ _ => rfl) fun l' hl' => (hp l' hl' j hj).symm
theorem turned_same {k n i j : Nat} {s : ByteArray} {u : UInt8} (hk : 0 < k) (hi : i < n) (hj : j < mlen k s) (hu : u ≠ shM k s i j) (h : Fits k n (trR k s i j u) s) : False := by
  have := h i (hand_all hk i hi)
  have := Mx.rw_eq this j hj
  unfold upd at this
  rw [if_pos ⟨rfl, rfl⟩] at this
  exact hu this
theorem xor_ne {a t : UInt8} (ht : t ≠ 0) : a ^^^ t ≠ a := fun e => ht (by
  have := Mx.xxa a t
  rw [e, Mx.xx] at this
  exact this.symm)
theorem xor_bv (a : UInt8) (t : Nat) (h : t < 256) : Value.int .u8 (bits .xor .u8 (a.toNat : Int) (t : Int)) = bv (a ^^^ UInt8.ofNat t) := by
  rw [xor_n8 a.toNat t a.toNat_lt h]
  unfold bv
  rw [UInt8.toNat_xor, Mx.ofNat_nat h]
theorem u16Of {s : Int} (h : (Lit.int .u16 s).wf = true) : ∃ t : Nat, s = (t : Int) ∧ t < 65536 := by
  have := bounds_u16 h
  exact ⟨s.toNat, by omega, by omega⟩
theorem u8Of' {s : Int} (h : (Lit.int .u8 s).wf = true) : ∃ t : Nat, s = (t : Int) ∧ t < 256 := by
  have := bounds_u8 h
  exact ⟨s.toNat, by omega, by omega⟩
set_option maxHeartbeats 16000000 in
set_option maxRecDepth 100000 in
theorem codeTurned_walk (a0 a1 : Int) (s : ByteArray) (a3 a4 a5 : Int) (w : World) (w0 : (Lit.int .u8 a0).wf = true) (w1 : (Lit.int .u8 a1).wf = true) (hz : s.size ≤ 140737488351232) (w3 : (Lit.int .u8 a3).wf = true) (w4 : (Lit.int .u16 a4).wf = true) (w5 : (Lit.int .u8 a5).wf = true) :
    Calls Try.prog 6 #[.int .u8 a0, .int .u8 a1, .string s, .int .u8 a3, .int .u16 a4, .int .u8 a5] w fun e w' => e = .returned (.bool true) ∧ Below w.heap.size w w' := by
  obtain ⟨a, rfl, ha⟩ := u8Of' w0
  obtain ⟨b, rfl, hb⟩ := u8Of' w1
  obtain ⟨wh, rfl, hwh⟩ := u8Of' w3
  obtain ⟨at_, rfl, hat⟩ := u16Of w4
  obtain ⟨t, rfl, ht⟩ := u8Of' w5
  clear w0 w1 w3 w4 w5
  go_enter Try.func6, Try.ntmps6
  go_wp2_with fail
  refine (shape_any a b _ ha hb).mono ?_
  rintro e w1 ⟨⟨k, f, rfl, hN⟩, hb1⟩
  obtain ⟨n, hn⟩ : ∃ n, k + 2 * f = n := ⟨_, rfl⟩
  have h7 := hN.2
  have hk1 := hN.1
  have hI := InBox.new w1 k f
  have hbx : Below w1.heap.size w1 (w1.alloc (.cells #[.int .i64 k, .int .i64 f] 23)) := bwalloc (Below.refl _ _) _
  generalize hw0 : w1.alloc (.cells #[.int .i64 k, .int .i64 f] 23) = w0 at *
  go_wp2_with fail
  refine (awake_ok _).mono ?_
  rintro e w2 ⟨rfl, hb2⟩
  have hI2 := hI.below hb2
  have hbb := bwstep (bwstep hb1 hbx) hb2
  clear hw0 hI hb1 hb2 hbx ha hb
  by_cases h512 : s.size ≤ 512 ∧ t ≠ 0
  · obtain ⟨h512, ht0⟩ := h512
    have t1 : ¬ (512 : Int) < (s.size : Int) := by omega
    have t2 : ((t : Int) == 0) = false := by simp; omega
    go_wp2_with (refine wpList_loadS rfl (.tmp 13) rfl rfl hI2 ?_)
    refine (encode_ok k f n s _ hN hn h512).mono ?_
    rintro e w3 ⟨⟨x, vs, rfl, hx⟩, hb3⟩
    have hI3 := hI2.below hb3
    have hbb := bwstep hbb hb3
    have x1 := hx.rd
    clear hI2 hb3 hx
    go_wp2_with fail
    refine (without_any _ n 0 _ _ x1 (by omega) (by omega) (fun i _ => by rw [rw_len]; exact Nat.le_trans (mlen_small hk1 s (by omega)) (by omega))).mono ?_
    rintro e w4 ⟨⟨y, vy, rfl, hy⟩, hb4⟩
    have hI4 := hI3.below hb4
    have hy2 := hy.congr (g' := shR k s) fun i _ => by rw [Nat.zero_div]; rfl
    obtain ⟨A, c, rfl, hc, hcm⟩ := hy2.rd.shape
    have hmp := mlen_pos hk1 s
    have hms := mlen_512 hk1 s h512
    obtain ⟨i, ti, hi⟩ : ∃ i : Nat, (wh : Int) % (n : Int) = (i : Int) ∧ i < n := ⟨wh % n, by omega, Nat.mod_lt _ (by omega)⟩
    obtain ⟨j, tj, hj⟩ : ∃ j : Nat, (at_ : Int) % (mlen k s : Int) = (j : Int) ∧ j < mlen k s := ⟨at_ % mlen k s, rfl, Nat.mod_lt _ hmp⟩
    obtain ⟨gb, g2, c2, rfl, hv, hcell, h2c, h2m, hBg, hgs, hcv, hfz, hset⟩ := hy2.at_ hi hj
    have hs0 := hset (shM k s i j ^^^ UInt8.ofNat t)
    rw [← xor_bv _ t ht] at hs0
    have HS := Lib.hid hs0
    have HB := Lib.hid (bwstep hbb (hb4.setCell (p := ⟨g2, j, none⟩) hBg (.int .u8 (bits .xor .u8 ((shM k s i j).toNat : Int) (t : Int)))))
    have hIs : InBox w1.heap.size k f (w4.setCell ⟨g2, j, none⟩ (.int .u8 (bits .xor .u8 ((shM k s i j).toNat : Int) (t : Int)))) := by
      unfold InBox
      rw [Below.heap_setCell _ _ _ _ (by have h9 := hI3.lt; show w1.heap.size ≠ g2; omega)]
      exact hI4
    have hne : shM k s i j ^^^ UInt8.ofNat t ≠ shM k s i j := xor_ne fun e => ht0 (by
      have := congrArg UInt8.toNat e
      rwa [Mx.ofNat_nat ht] at this)
    have hn0 : ¬ (n : Int) = 0 := by omega
    have hm0 : ¬ (mlen k s : Int) = 0 := by omega
    unfold maxLen at hcm h2m
    clear hset hs0 hy hy2 x1 hI3 hv
    generalize hmm : mlen k s = m at *
    have HMM := Lib.hid hmm
    generalize hff : shM k s = fM at *
    have HFF := Lib.hid hff
    clear hmm hff
    go_wp2_with fail
    rw [ti]
    go_region
    have hy5 := HS.out.below ((Below.refl _ _).drew)
    have hI5 : InBox w1.heap.size k f (w4.setCell ⟨g2, j, none⟩ (.int .u8 (bits .xor .u8 ((fM i j).toNat : Int) (t : Int)))).drew := hIs
    have hbb5 := (HB.out).drew
    have r5 := hy5.rd
    clear hy5 HS HB hIs hI4 hcell hcv hfz hb4 hbb
    generalize (w4.setCell ⟨g2, j, none⟩ (.int .u8 (bits .xor .u8 ((fM i j).toNat : Int) (t : Int)))).drew = w5 at *
    have r6 : RdM w5 w5.heap.size (.slice (some ⟨gb, 0, none⟩) n c) n (trR k s i j (fM i j ^^^ UInt8.ofNat t)) := r5.congr fun i' _ => by
      rw [← HMM.out, ← HFF.out]
    have HNE : Hid (∀ s' : ByteArray, 0 < f → ¬ Fits k n (trR k s i j (fM i j ^^^ UInt8.ofNat t)) s') := Lib.hid fun s' hf0 hF => by
      rw [← HMM.out] at hj
      rw [← HFF.out] at hne hF
      exact turned_no hk1 (by omega) (by omega) hi hj hne hF
    have HNS : Hid (¬ Fits k n (trR k s i j (fM i j ^^^ UInt8.ofNat t)) s) := Lib.hid fun hF => by
      rw [← HMM.out] at hj
      rw [← HFF.out] at hne hF
      exact turned_same hk1 hi hj hne hF
    have hkh : k ≤ (hand n (trR k s i j (fM i j ^^^ UInt8.ofNat t))).length := by
      rw [hand_full hk1, List.length_range]
      omega
    have hgl : ∀ i', i' < n → (trR k s i j (fM i j ^^^ UInt8.ofNat t) i').length ≤ 1000 := fun i' _ => by
      rw [rw_len, HMM.out]
      omega
    clear r5 hj hi hne HMM HFF
    generalize trR k s i j (fM i j ^^^ UInt8.ofNat t) = G at *
    go_wp2_with (refine wpList_loadS rfl (.tmp 13) rfl rfl hI5 ?_)
    refine (decode_any k f n _ G _ hN hn r6 hkh hgl).mono ?_
    rintro e w6 ⟨⟨rfl, -⟩ | ⟨s', rfl, -, hF, -⟩, hb6⟩
    · have c1 := (hI5.below hb6).c1
      have hbb6 := bwstep hbb5 hb6
      clear hI5 hb6 r6 hgl hkh
      by_cases hf : 0 < f
      · have tf : (0 : Int) < (f : Int) := by omega
        go_wp2_with fail
        go_ret
        exact ⟨rfl, hbb6⟩
      · have tf : ¬ (0 : Int) < (f : Int) := by omega
        by_cases he : (⟨#[]⟩ : ByteArray) = s
        · have hq := str_eq he
          clear he
          go_wp2_with fail
          all_goals
            go_ret
            exact ⟨rfl, hbb6⟩
        · have hq := str_ne he
          clear he
          go_wp2_with fail
          all_goals
            go_ret
            exact ⟨rfl, hbb6⟩
    · have c1 := (hI5.below hb6).c1
      have hbb6 := bwstep hbb5 hb6
      clear hI5 hb6 r6 hgl hkh
      by_cases hf : 0 < f
      · exact absurd hF (HNE.out s' hf)
      · have tf : ¬ (0 : Int) < (f : Int) := by omega
        have he : ¬ s' = s := fun e => HNS.out (by rw [← e]; exact hF)
        have hq := str_ne he
        clear he hF
        go_wp2_with fail
        go_ret
        exact ⟨rfl, hbb6⟩
  · by_cases h5 : s.size ≤ 512
    · have t1 : ¬ (512 : Int) < (s.size : Int) := by omega
      have t0 : t = 0 := Classical.byContradiction fun h => h512 ⟨h5, h⟩
      subst t0
      go_wp2_with fail
      refine (awake_ok _).mono ?_
      rintro e w3 ⟨rfl, hb3⟩
      go_wp2_with fail
      go_ret
      exact ⟨rfl, bwstep hbb hb3⟩
    · have t1 : (512 : Int) < (s.size : Int) := by omega
      go_wp2_with fail
      refine (awake_ok _).mono ?_
      rintro e w3 ⟨rfl, hb3⟩
      go_wp2_with fail
      go_ret
      exact ⟨rfl, bwstep hbb hb3⟩
end Go.Proofs.Ytfnenehiapibiaa
