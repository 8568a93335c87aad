/- CellKeeps' walk. -/
import Derived.Test.YtdpdgbdpbbcmmaaCaw
namespace Go.Proofs.Ytdpdgbdpbbcmmaa
open Go.RowKit Ce

set_option maxHeartbeats 4000000 in
set_option maxRecDepth 100000 in
theorem cellKeeps_walk (c : Cl) (w : World) : Calls Try.prog 8 #[c.v] w fun e w' => e = .returned (.bool true) ∧ Below w.heap.size w w' := by
  have hrr := fun w => rright_any c w
  by_cases hok : c.ok
  · rw [decide_eq_true hok] at hrr
    have HOK := Lib.hid hok
    clear hok
    go_enter Try.func8, Try.ntmps8
    go_wp2_with (refine boxC rfl (.tmp 0) c rfl rfl ?_)
    constructor
    intro w1 hI1 hb1 hz1
    clear hz1
    go_wp2_with fail
    refine (eawake_ok _).mono ?_
    rintro e w2 ⟨rfl, hb2⟩
    have HI2 := Lib.hid (hI1.up hb2)
    have HK2 := Lib.hid (bwstep hb1 hb2)
    clear hI1 hb1 hb2
    go_wp2_with (refine loadC rfl (.tmp 1) rfl rfl HI2.out ?_)
    refine (hrr _).mono ?_
    rintro e w3 ⟨rfl, hb3⟩
    have HI3 := Lib.hid (HI2.out.up hb3)
    have HK3 := Lib.hid (bwstep HK2.out hb3)
    clear hb3 HI2 HK2 hrr
    go_wp2_with (refine loadC rfl (.tmp 1) rfl rfl HI3.out ?_)
    refine (put_ok c _ HOK.out).mono ?_
    rintro e w4 ⟨⟨v4, rfl, h4⟩, hb4⟩
    have ba := bwalloc (bwrefl w4) (.cells #[.int .u8 1, .int .u8 2] 5)
    have h4 := h4.below ba
    have r4 : Rd (w4.alloc (.cells #[.int .u8 1, .int .u8 2] 5)) _ (.slice (some ⟨w4.heap.size, 0, none⟩) 2 2) (([1, 2] : List UInt8).map bv) := Rd.newW w4 5 #[.int .u8 1, .int .u8 2] rfl (by simp [maxLen]) rfl
    have hcl := cellB_le HOK.out
    have z4 : (cellB c).length + ([1, 2] : List UInt8).length ≤ 140737488355328 := by simp; omega
    have z4' : ([] : List UInt8).length + ((cellB c).length + ([1, 2] : List UInt8).length) ≤ 140737488355328 := by simp; omega
    have s4 : w3.heap.size ≤ (w4.alloc (.cells #[.int .u8 1, .int .u8 2] 5)).heap.size := Nat.le_trans hb4.size ba.size
    have b3 := bwstep hb4 ba
    clear hb4 ba HI3
    go_wp2_with (first
      | (at_builtin; refine wpList_appB bytesT rfl (.tmp 18) (.tmp 19) rfl rfl h4 rfl r4 z4 s4 ?_; intro v5 w5 o5 g5 h5; have b35 := Lib.hid (b3.grown g5 s4 h4.ge); have O5 := Lib.hid o5; have hr5 := o5.rd; have ba := bwalloc (bwrefl w5) (.cells #[] 5); have hr6 := hr5.below ba; have o6 : Ow (w5.alloc (.cells #[] 5)) w5.heap.size 5 (.slice (some ⟨w5.heap.size, 0, none⟩) 0 0) (([] : List UInt8).map bv) := Ow.empty w5 (Nat.le_refl _) _; have z6 : ([] : List UInt8).length + (cellB c ++ [1, 2]).length ≤ 140737488355328 := (by rw [List.length_append]; exact z4'); have s6 := ba.size; clear o5 h5 g5 b3 h4 r4 z4 s4 hr5)
      | (at_builtin; refine wpList_appB bytesT rfl (.tmp 21) (.tmp 22) rfl rfl o6 rfl hr6 z6 s6 ?_; intro v7 w7 o7 g7 h7; rw [List.nil_append] at o7; have b57 := Lib.hid (ba.grown g7 s6 o6.ge); have O7 := Lib.hid o7; clear h7 g7 o7))
    have hr7 := Lib.hid ((O5.out.rd).up b57.out)
    refine (cut_ok _ (cellB c ++ [1, 2]) [1, 2] c _ w7 hr7.out (Nat.le_refl _) (by simp; omega) ⟨HOK.out, rfl⟩).mono ?_
    rintro e w9 ⟨⟨v9, rfl, h9⟩, hb9⟩
    obtain ⟨A9, c9, rfl, hc9, hm9⟩ := h9.rd.shapeM
    unfold maxLen at hm9
    have HB9 := Lib.hid hb9
    have HO9 := Lib.hid h9
    clear h9 hb9 ba hr6 o6 z6 s6 h4
    go_wp2_with (refine allocC rfl rfl ?_)
    constructor
    intro w10 hI10 hb10 _hz10
    clear _hz10
    go_wp2_with (refine storeC (c := c) rfl (.tmp 5) (.tmp 27) rfl rfl rfl hI10 ?_)
    constructor
    intro w11 hs11
    have b911 := hs11.bel hb10 (Nat.le_refl _)
    have HO11 := Lib.hid (HO9.out.below b911)
    have HB11 := Lib.hid (bwstep HB9.out b911)
    clear hI10 hb10 hs11 b911 HO9 HB9
    have h2 : ([1, 2] : List UInt8).length = 2 := rfl
    rw [h2] at *
    clear h2
    go_wp2_with fail
    go_loopw [8] (fun i wr => ∃ k : Nat, k ≤ 2 ∧ i = .int .i64 (k : Int) ∧ (∃ xs : List UInt8, xs.length = 2 ∧ Hid (Ow wr w7.heap.size 5 (.slice A9 2 c9) (xs.map bv))) ∧ Hid (Below w7.heap.size w7 wr)) (fun i _ => 2 - (intOf i).toNat)
    case atStart => exact ⟨0, by omega, rfl, ⟨[1, 2], rfl, HO11⟩, HB11⟩
    case round =>
      obtain ⟨k, hk, rfl, ⟨xs, hxl, HO⟩, HB⟩ := hrel
      by_cases hlt : k < 2
      · obtain ⟨g, rfl, hg1, hg2, hcell0, hfr, hset⟩ := HO.out.at_ (k := k) (by rw [List.length_map, hxl]; exact hlt)
        have hs2 := hset (bv 99)
        rw [← List.map_set] at hs2
        have HS := Lib.hid hs2
        have HB2 := Lib.hid (HB.out.setCell (p := ⟨g, k, none⟩) hg1 (bv 99))
        have HXL := Lib.hid hxl
        obtain ⟨u0, hcell⟩ : ∃ u0, wr.cell? ⟨g, k, none⟩ = some u0 := ⟨_, hcell0⟩
        clear hcell0 hs2 hset hxl
        go_wp2_with fail
        go_roundw
        case rel => exact ⟨k + 1, by omega, by go_num, ⟨xs.set k 99, by rw [List.length_set]; exact HXL.out, HS⟩, HB2⟩
        case measure => simp [intOf]; omega
      · have hr8 := hr7.out.up HB.out
        have ho8 := (O7.out.below HB.out).rd
        have hsm := rsame_any _ _ _ _ _ _ wr hr8 ho8
        rw [sameB_self] at hsm
        have hend := Lib.hid (bwstep (bwstep HK3.out b35.out) (b57.out.trans (HB.out.mono b57.out.size)))
        clear hr8 ho8 hxl
        go_wp2_with fail
        refine hsm.mono ?_
        rintro e w12 ⟨rfl, rfl⟩
        go_wp2_with fail
        go_ret
        exact ⟨rfl, hend.out⟩
  · rw [decide_eq_false hok] at hrr
    clear hok
    go_enter Try.func8, Try.ntmps8
    go_wp2_with (refine boxC rfl (.tmp 0) c rfl rfl ?_)
    constructor
    intro w1 hI1 hb1 hz1
    clear hz1
    go_wp2_with fail
    refine (eawake_ok _).mono ?_
    rintro e w2 ⟨rfl, hb2⟩
    have HI2 := Lib.hid (hI1.up hb2)
    have HK2 := Lib.hid (bwstep hb1 hb2)
    clear hI1 hb1 hb2
    go_wp2_with (refine loadC rfl (.tmp 1) rfl rfl HI2.out ?_)
    refine (hrr _).mono ?_
    rintro e w3 ⟨rfl, hb3⟩
    have HK3 := Lib.hid (bwstep HK2.out hb3)
    clear hb3 HI2 HK2 hrr
    go_wp2_with fail
    refine (eawake_ok _).mono ?_
    rintro e w4 ⟨rfl, hb4⟩
    have HK4 := Lib.hid (bwstep HK3.out hb4)
    clear hb4 HK3
    go_wp2_with fail
    go_ret
    exact ⟨rfl, HK4.out⟩
end Go.Proofs.Ytdpdgbdpbbcmmaa
