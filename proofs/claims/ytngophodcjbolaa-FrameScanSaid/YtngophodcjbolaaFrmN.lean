/- The statement FrameScan: its walk, to the end. -/
import Derived.Test.YtngophodcjbolaaFrmK
import Derived.Deep.RegionHeld3
namespace Go.Proofs.Ytngophodcjbolaa
open Go.RowKit Crc Frm

/-- the first rows -/
theorem RdM.cutTo {w : World} {B n m c : Nat} {A : Option Addr} {g : Nat → List UInt8} (h : RdM w B (.slice A n c) n g) (hm : m ≤ n) : RdM w B (.slice A m c) m g := by
  obtain ⟨vs, h1, h2⟩ := h
  refine ⟨vs, ?_, fun j hj => h2 j (by omega)⟩
  have := h1.cutTo (hi := m) hm
  rwa [← List.map_take, List.take_range, Nat.min_eq_left hm] at this
theorem gl_take (L : List (List UInt8)) (n j : Nat) (h : j < n) : gl L j = gl (L.take n) j := by
  unfold gl
  rw [List.getD_eq_getElem?_getD, List.getD_eq_getElem?_getD, List.getElem?_take, if_pos h]
set_option maxHeartbeats 2000000 in
set_option maxRecDepth 100000 in
theorem frameScan_walk (x : Value) (n : Nat) (g : Nat → List UInt8) (p : Int) (w : World) (hx : RdM w w.heap.size x n g) (hz : ∀ i, i < n → (g i).length ≤ 140737488351232) (hp : (Lit.int .u16 p).wf = true) :
    Calls Try.prog 5 #[x, .int .u16 p] w fun e w' => e = .returned (.bool true) ∧ Below w.heap.size w w' := by
  have hp' := bounds_u16 hp
  obtain ⟨q, rfl⟩ := Int.eq_ofNat_of_zero_le hp'.1
  have hq16 : q ≤ 65535 := by omega
  clear hp hp'
  obtain ⟨L, hL, hLz⟩ := hx.list hz
  clear hx hz
  obtain ⟨A, c, rfl, hc, hm⟩ := hL.shape
  unfold maxLen at hm
  go_enter Try.func5, Try.ntmps5
  go_wp2_with fail
  refine (fawake_ok _).mono ?_
  rintro e w1 ⟨rfl, hb1⟩
  go_wp2_with fail
  refine (rffew_any _ L _ _ (hL.up hb1) hLz).mono ?_
  rintro e w2 ⟨⟨qq, rfl, hq⟩, rfl⟩
  cases qq
  · go_wp2_with fail
    refine (fawake_ok _).mono ?_
    rintro e w3 ⟨rfl, hb3⟩
    go_wp2_with fail
    go_ret
    exact ⟨rfl, bwstep hb1 hb3⟩
  · obtain ⟨h100, h5⟩ := hq rfl
    have hrows := few_rows h5
    have hfl := flat_len L
    obtain ⟨b, hb⟩ : ∃ b, b = flat L := ⟨_, rfl⟩
    have hal := all_any _ L w2 (hL.up hb1) hrows (by omega)
    have hsc : Scanned b L [] := by rw [hb]; exact scanned_flat hrows
    rw [← hb] at hal
    have hbl : b.length ≤ 6200 := by rw [hb]; omega
    obtain ⟨kk, hkk⟩ : ∃ kk : Nat, (q : Int) % ((b.length : Int) + 1) = kk := Int.eq_ofNat_of_zero_le (Int.emod_nonneg _ (by omega))
    have hk : kk ≤ b.length := by
      have := Int.emod_lt_of_pos (q : Int) (show (0 : Int) < (b.length : Int) + 1 by omega)
      omega
    obtain ⟨n', m', hn', hs2, hlast⟩ := scanned_take L hrows kk (by rw [← hb]; exact hk)
    rw [← hb] at hs2
    obtain ⟨M, hM⟩ : ∃ M, M = L.take n' := ⟨_, rfl⟩
    have hMl : M.length = n' := by rw [hM, List.length_take]; omega
    rw [← hM] at hs2
    obtain ⟨u, hu⟩ : ∃ u, u = (flat M).length := ⟨_, rfl⟩
    have hukk : u ≤ kk := by
      have := congrArg List.length hs2.1
      rw [List.length_take, List.length_append, ← hu] at this
      omega
    have hbu : b.take u = flat M := by
      have h1 : (b.take kk).take u = flat M := by rw [hs2.1, hu, List.take_left]
      rwa [List.take_take, Nat.min_eq_left hukk] at h1
    have hMrows : ∀ r ∈ M, r.length ≤ 65535 := hs2.2.1
    have hML : M.length ≤ L.length := by omega
    have hg : ∀ j, j < M.length → gl L j = gl M j := fun j hj => by rw [hM]; exact gl_take L n' j (by omega)
    have HL := Lib.hid (fun hlt : M.length < L.length => show kk < u + 12 + (gl L M.length).length by
      have := hlast (by omega)
      rw [← hM, ← hu] at this
      rw [gl_at L hlt]
      simpa [hMl] using this)
    have HG := Lib.hid hg
    have hLL : sameL L L = true := by simp [sameL]
    have hMM : sameL M M = true := by simp [sameL]
    have HFB := Lib.hid (show (flat L).length = b.length by rw [hb])
    have HU := Lib.hid hu
    clear hq hfl hb hlast hM hMl hn' hg hu
    go_wp2_with fail
    refine hal.mono ?_
    rintro e w3 ⟨⟨v3, rfl, h3⟩, hb3⟩
    have hL3 := (hL.up hb1).up hb3
    have hbb := bwstep hb1 hb3
    obtain ⟨A3, c3, rfl, hc3, hm3⟩ := h3.rd.shapeM
    unfold maxLen at hm3
    have k3 := h3.rd
    clear hal h3 hb1 hb3 hL
    have hs := scan_any _ b [] L w3 k3 hsc (by omega)
    rw [HFB.out] at hs
    go_wp2_with fail
    refine hs.mono ?_
    rintro e w4 ⟨⟨v4, vs4, rfl, h4⟩, hb4⟩
    have hL4 := hL3.up hb4
    have k4 := k3.up hb4
    have hbb := bwstep hbb hb4
    clear hs k3 hL3 hb4
    go_wp2_with fail
    refine (Calls.bel (rfsame_any _ _ L L _ _ _ h4.rd hL4)).mono ?_
    rintro e w5 ⟨rfl, hb5⟩
    rw [hLL]
    have hL5 := hL4.up hb5
    have k5 := k4.up hb5
    have hbb := bwstep hbb hb5
    have kt : Rd w5 w5.heap.size (.slice A3 kk c3) ((b.take kk).map bv) := by
      have := k5.cutTo (hi := kk) hk
      rwa [← List.map_take] at this
    have hs := scan_any _ (b.take kk) m' M w5 kt hs2 (by rw [List.length_take]; omega)
    rw [← HU.out] at hs
    clear hL4 k4 h4 hb5 kt
    go_wp2_with fail
    refine hs.mono ?_
    rintro e w6 ⟨⟨v6, vs6, rfl, h6⟩, hb6⟩
    have hL6 := hL5.up hb6
    have k6 := k5.up hb6
    have hbb := bwstep hbb hb6
    obtain ⟨A6, c6, rfl, hc6, hm6⟩ := h6.rd.shape
    unfold maxLen at hm6
    have x6 := h6.rd
    have hLc : RdM w6 w6.heap.size (.slice A M.length c) M.length (gl M) := (hL6.cutTo hML).congr HG.out
    have ku : Rd w6 w6.heap.size (.slice A3 u c3) ((flat M).map bv) := by
      have := k6.cutTo (hi := u) (by omega)
      rwa [← List.map_take, hbu] at this
    have hfM : (flat M).length ≤ 1000000000000 := by rw [← HU.out]; omega
    clear hs hL5 k5 k6 h6 hb6 hsc hs2
    have HT : Hid (Below w6.heap.size w6 w6.drew) := Lib.hid ((Below.refl _ _).drew)
    have HUp : Hid (∀ a z : World, Below w6.heap.size w6 a → Below a.heap.size a z → Below w6.heap.size w6 z) := Lib.hid fun a z hS h => bwstep hS h
    have d1 : decide (L.length < M.length) = false := decide_eq_false (by omega)
    have d2 : decide (kk < u) = false := decide_eq_false (by omega)
    have b1 : M.length ≤ c := by omega
    have b2 : u ≤ c3 := by omega
    clear hbu
    go_wp2_with fail
    go_region_held3 (fun w' => Below w6.heap.size w6 w') (first | exact HT.out | assumption | exact HUp.out _ _ (by assumption) (by assumption))
      (first
        | (go_at_call 18; refine (Calls.bel (rfsame_any _ _ M M _ _ _ (x6.up (by assumption)) (hLc.up (by assumption)))).mono ?_; rintro e wa ⟨rfl, hba⟩; rw [hMM])
        | (go_at_call 14; refine (all_any _ M _ (x6.up (by assumption)) hMrows hfM).mono ?_; rintro e wb ⟨⟨y, rfl, hy⟩, hbb2⟩)
        | (go_at_call 11; refine (rsame_bel _ _ _ _ _ _ _ hy.rd (ku.up (by assumption))).mono ?_; rintro e wc ⟨rfl, hbc⟩; rw [sameB_self]))
    have h9 : Below w6.heap.size w6 wc := by assumption
    have hL9 := hL6.up h9
    clear HT HUp hba hbb2 hy hbc hLc ku x6 hL6 d1 d2
    by_cases hlt : M.length < L.length
    · obtain ⟨b9, o9, rfl, -⟩ := hL9.open_ (by omega)
      obtain ⟨A7, c7, hcell, h7c, h7m, -⟩ := hL9.row hlt
      have hgt := HL.out hlt
      have hgz : (gl L M.length).length ≤ 65535 := by rw [gl_at L hlt]; exact hrows _ (List.getElem_mem hlt)
      have hne : ((M.length : Int) == (L.length : Int)) = false := by rw [beq_eq_false_iff_ne]; omega
      generalize gl L M.length = gM at *
      clear hL9
      go_wp2_with fail
      go_ret
      exact ⟨ret1 (vb (decide_eq_true (by omega))), bwstep hbb h9⟩
    · have heq : ((M.length : Int) == (L.length : Int)) = true := by rw [beq_iff_eq]; omega
      clear hL9
      go_wp2_with fail
      go_ret
      exact ⟨rfl, bwstep hbb h9⟩
end Go.Proofs.Ytngophodcjbolaa
