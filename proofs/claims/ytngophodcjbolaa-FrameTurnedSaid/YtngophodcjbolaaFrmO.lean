/- The statement FrameTurned: its walk, to the end. -/
import Derived.Test.YtngophodcjbolaaFrmN
namespace Go.Proofs.Ytngophodcjbolaa
open Go.RowKit Crc Frm

theorem byteOf {z : Int} (h : (Lit.int .u8 z).wf = true) : ∃ t : UInt8, z = (t.toNat : Int) := by
  have hb := bounds_u8 h
  refine ⟨UInt8.ofNat z.toNat, ?_⟩
  rw [UInt8.toNat_ofNat']
  omega
theorem ow_turn {w : World} {B e : Nat} {A : Option Addr} {n c k : Nat} {b : List UInt8} (t : UInt8) (h : Ow w B e (.slice A n c) (b.map bv)) (hk : k < b.length) :
    ∃ (g : Nat) (u : UInt8), A = some ⟨g, 0, none⟩ ∧ B ≤ g ∧ g < w.heap.size ∧ w.cell? ⟨g, k, none⟩ = some (bv u) ∧ w.frozen? ⟨g, k, none⟩ = false ∧ Ow (w.setCell ⟨g, k, none⟩ (bv (u ^^^ t))) B e (.slice A n c) ((b.set k (b.getD k 0 ^^^ t)).map bv) := by
  obtain ⟨g, hA, hgb, hgs, hgc, hgf, hset⟩ := h.at_ (k := k) (by rw [List.length_map]; exact hk)
  have hs := hset (bv (b[k] ^^^ t))
  rw [← List.map_set] at hs
  have e1 : b.getD k 0 = b[k] := by simp [List.getD, hk]
  exact ⟨g, b[k], hA, hgb, hgs, by rw [hgc, List.getElem_map], hgf, by rw [e1]; exact hs⟩
set_option maxHeartbeats 2000000 in
set_option maxRecDepth 100000 in
theorem frameTurned_walk (x : Value) (n : Nat) (g : Nat → List UInt8) (p : Int) (z : Int) (w : World) (hx : RdM w w.heap.size x n g) (hz : ∀ i, i < n → (g i).length ≤ 140737488351232) (hp : (Lit.int .u16 p).wf = true) (hzw : (Lit.int .u8 z).wf = true) :
    Calls Try.prog 6 #[x, .int .u16 p, .int .u8 z] w fun e w' => e = .returned (.bool true) ∧ Below w.heap.size w w' := by
  have hp' := bounds_u16 hp
  obtain ⟨q, rfl⟩ := Int.eq_ofNat_of_zero_le hp'.1
  have hq16 : q ≤ 65535 := by omega
  obtain ⟨t, rfl⟩ := byteOf hzw
  have ht8 := t.toNat_lt
  clear hp hp' hzw
  obtain ⟨L, hL, hLz⟩ := hx.list hz
  clear hx hz
  obtain ⟨A, c, rfl, hc, hm⟩ := hL.shape
  unfold maxLen at hm
  go_enter Try.func6, Try.ntmps6
  go_wp2_with fail
  refine (fawake_ok _).mono ?_
  rintro e w1 ⟨rfl, hb1⟩
  go_wp2_with fail
  refine (rffew_any _ L _ _ (hL.up hb1) hLz).mono ?_
  rintro e w2 ⟨⟨qq, rfl, hq⟩, rfl⟩
  cases qq
  · go_wp2_with fail
    refine (fawake_ok _).mono ?_
    rintro e w3 ⟨rfl, hb3⟩
    go_wp2_with fail
    go_ret
    exact ⟨rfl, bwstep hb1 hb3⟩
  · obtain ⟨h100, h5⟩ := hq rfl
    clear hq
    by_cases h0 : L.length = 0
    · have e0 : ((L.length : Int) == 0) = true := by rw [beq_iff_eq]; omega
      clear h0
      go_wp2_with fail
      refine (fawake_ok _).mono ?_
      rintro e w3 ⟨rfl, hb3⟩
      go_wp2_with fail
      go_ret
      exact ⟨rfl, bwstep hb1 hb3⟩
    · have e0 : ((L.length : Int) == 0) = false := by rw [beq_eq_false_iff_ne]; omega
      by_cases ht : t = 0
      · have e1 : ((t.toNat : Int) == 0) = true := by subst ht; rfl
        clear ht
        go_wp2_with fail
        refine (fawake_ok _).mono ?_
        rintro e w3 ⟨rfl, hb3⟩
        go_wp2_with fail
        go_ret
        exact ⟨rfl, bwstep hb1 hb3⟩
      · have e1 : ((t.toNat : Int) == 0) = false := by
          rw [beq_eq_false_iff_ne]
          exact fun e => ht (UInt8.toNat_inj.1 (show t.toNat = (0 : UInt8).toNat by simpa using e))
        have HT := Lib.hid ht
        clear ht
        have hrows := few_rows h5
        have hfl := flat_len L
        obtain ⟨b, hb⟩ : ∃ b, b = flat L := ⟨_, rfl⟩
        have hal := all_any _ L w2 (hL.up hb1) hrows (by omega)
        rw [← hb] at hal hfl
        have hbl : b.length ≤ 6200 := by omega
        have hb0 : 0 < b.length := by omega
        obtain ⟨kk, hkk⟩ : ∃ kk : Nat, (q : Int) % (b.length : Int) = kk := Int.eq_ofNat_of_zero_le (Int.emod_nonneg _ (by omega))
        have hk : kk < b.length := by
          have := Int.emod_lt_of_pos (q : Int) (show (0 : Int) < (b.length : Int) by omega)
          omega
        have HB := Lib.hid hb
        have HFL := Lib.hid hfl
        clear hb hfl
        go_wp2_with fail
        refine hal.mono ?_
        rintro e w3 ⟨⟨v3, rfl, h3⟩, hb3⟩
        have hL3 := (hL.up hb1).up hb3
        have hbb := bwstep hb1 hb3
        obtain ⟨A3, c3, rfl, hc3, hm3⟩ := h3.rd.shapeM
        unfold maxLen at hm3
        obtain ⟨g3, u3, rfl, hg3, hg3s, hcell3, hfr3, hset3⟩ := ow_turn t h3 hk
        unfold bv at hcell3 hset3
        rw [← xor_u8] at hset3
        have hB4 := (Below.refl w2.heap.size w3).setCell (p := ⟨g3, kk, none⟩) hg3 (.int .u8 (bits .xor .u8 (u3.toNat : Int) (t.toNat : Int)))
        have HS := Lib.hid hset3
        have HB4 := Lib.hid hB4
        clear hset3 hal h3 hB4
        have hL4 := ((hL.up hb1).below hb3).below HB4.out
        have hbb4 := hbb.setCell (p := ⟨g3, kk, none⟩) (Nat.le_trans hb1.size hg3) (.int .u8 (bits .xor .u8 (u3.toNat : Int) (t.toNat : Int)))
        have hS4 := HS.out
        obtain ⟨b2, hb2⟩ : ∃ b2, b2 = b.set kk (b.getD kk 0 ^^^ t) := ⟨_, rfl⟩
        rw [← hb2] at hS4
        have hb2l : b2.length = b.length := by rw [hb2, List.length_set]
        have HB2 := Lib.hid hb2
        have HB2L := Lib.hid hb2l
        have hsz4 : w2.heap.size ≤ (w3.setCell ⟨g3, kk, none⟩ (.int .u8 (bits .xor .u8 (u3.toNat : Int) (t.toNat : Int)))).heap.size := Nat.le_trans hb3.size HB4.out.size
        have HP := Lib.hid (And.intro hL4 (And.intro hbb4 (And.intro hS4 hsz4)))
        clear hL3 hbb HB4 HS hb2 hb2l hL4 hbb4 hS4 hsz4
        go_wp2_with fail
        obtain ⟨hL4, hbb4, hS4, hsz4⟩ := HP.out
        generalize w3.setCell ⟨g3, kk, none⟩ (.int .u8 (bits .xor .u8 (u3.toNat : Int) (t.toNat : Int))) = w4 at *
        clear HP hcell3 hfr3
        go_loopw [9, 10] (fun i f wr => ∃ k0 s : Nat, k0 < L.length ∧ i = .int .i64 (k0 : Int) ∧ f = .int .i64 (s : Int) ∧ Hid (s = (flat (L.take k0)).length) ∧ s ≤ kk ∧ wr = w4) (fun i _ _ => L.length - (intOf i).toNat)
        case atStart => exact ⟨0, 0, by omega, rfl, rfl, Lib.hid (by simp [flat_nil]), Nat.zero_le _, rfl⟩
        case round =>
          obtain ⟨k0, s, hk0, rfl, rfl, HSS, hsk, rfl⟩ := hrel
          obtain ⟨b9, o9, rfl, -⟩ := hL4.open_ (by omega)
          obtain ⟨A7, c7, hcell, h7c, h7m, -⟩ := hL4.row hk0
          have hge := gl_at L hk0
          rw [hge] at hcell h7c
          have hr5 := hrows _ (List.getElem_mem hk0)
          have HN := Lib.hid (show (flat (L.take (k0 + 1))).length = s + 12 + L[k0].length by rw [flat_snoc L k0 hk0, List.length_append, frm_len, HSS.out]; omega)
          unfold maxLen at h7m
          by_cases hle : s + 12 + L[k0].length ≤ kk
          · have hk1 : k0 + 1 < L.length := by
              rcases Nat.lt_or_ge (k0 + 1) L.length with h | h
              · exact h
              · exfalso
                have e := HN.out
                rw [List.take_of_length_le h, ← HB.out] at e
                omega
            generalize L[k0] = r at *
            clear hge
            go_wp2_with fail
            go_roundw
            case rel => exact ⟨k0 + 1, s + 12 + r.length, hk1, by go_num, by go_num, Lib.hid HN.out.symm, hle, by first | rfl | trivial⟩
            case measure => simp [intOf]; omega
          · obtain ⟨m, hsc⟩ := scanned_turn L hrows k0 kk t hk0 (by rw [← HSS.out]; exact hsk) (by rw [← HSS.out]; omega) HT.out
            rw [← HB.out, ← HB2.out] at hsc
            obtain ⟨M, hM⟩ : ∃ M, M = L.take k0 := ⟨_, rfl⟩
            have hMl : M.length = k0 := by rw [hM, List.length_take]; omega
            have hlc : RdM wr w2.heap.size (.slice (some ⟨b9, o9, none⟩) k0 c) M.length (gl M) := by
              rw [hMl]
              exact (hL4.cutTo (Nat.le_of_lt hk0)).congr fun j hj => by rw [hM]; exact gl_take L k0 j hj
            have hs := scan_any _ b2 m M wr hS4.rd (by rw [hM]; exact hsc) (by rw [HB2L.out]; omega)
            rw [hM, ← HSS.out, ← hM] at hs
            have hMM : sameL M M = true := by simp [sameL]
            have hkc : k0 ≤ c := by omega
            generalize L[k0] = r at *
            clear hge hM hMl hsc
            go_wp2_with fail
            refine hs.mono ?_
            rintro e w6 ⟨⟨v6, vs6, rfl, h6⟩, hb6⟩
            have hl6 := hlc.below (hb6.mono hsz4)
            clear hcell hs
            go_wp2_with fail
            refine (Calls.bel (rfsame_any _ _ M M _ _ _ h6.rd hl6)).mono ?_
            rintro e w7 ⟨rfl, hb7⟩
            rw [hMM]
            have h9 := bwstep (bwstep hbb4 hb6) hb7
            go_wp2_with fail
            go_ret
            exact ⟨rfl, h9⟩
end Go.Proofs.Ytngophodcjbolaa
