/- awake of layer 6. -/
import Derived.Test.YtngophodcjbolaaFrmC
import Derived.Test.YtngophodcjbolaaFrmQ
import Derived.Lib.SlBytesConst
namespace Go.Proofs.Ytngophodcjbolaa
open Go.RowKit Crc Frm

set_option maxHeartbeats 2000000 in
set_option maxRecDepth 100000 in
theorem fawake_ok (w : World) : Calls Try.prog 9 #[] w fun e w' => e = .returned (.bool true) ∧ Below w.heap.size w w' := by
  have kc := fun (w : World) (C : Array Value) (n c : Nat) => Lib.run_convert_bytes_const (P := Try.prog) w 25 5 C n c Try.underlying25 Try.underlying5
  have pn := fun W : World => fput_ok (.slice none 0 0) [] W (Rd.nil _ _) (by simp)
  obtain ⟨q0, hq0⟩ : ∃ q, q = frm [] := ⟨_, rfl⟩
  have hl0 : q0.length = 12 := by rw [hq0, frm_len]; rfl
  have HQ0 := Lib.hid hq0
  rw [← hq0] at pn
  clear hq0
  go_enter Try.func9, Try.ntmps9
  go_wp2_with fail
  have HB1 := Lib.hid (bwalloc (bwrefl w) (.cells #[bv 97, bv 98] 5 (2, 3)))
  refine (fput_ok _ [97, 98] _ (Rd.newF _ _ _ _ rfl (by simp [maxLen]) rfl) (by simp)).mono ?_
  rintro e w1 ⟨⟨v1, rfl, h1⟩, hb1⟩
  have hb1 := bwstep HB1.out hb1
  clear HB1
  have r1 : Rd (w1.alloc (.cells #[bv 1, bv 2] 5)) _ (.slice (some ⟨w1.heap.size, 0, none⟩) 2 2) (([1, 2] : List UInt8).map bv) := Rd.newW w1 5 #[bv 1, bv 2] rfl (by simp [maxLen]) rfl
  have h1 := (h1.mono (show w.heap.size ≤ _ by simp)).below (bwalloc (bwrefl w1) (.cells #[bv 1, bv 2] 5))
  have hb1 := bwalloc hb1 (.cells #[bv 1, bv 2] 5)
  have hsz1 := hb1.size
  have hln1 : (frm [97, 98]).length + ([1, 2] : List UInt8).length ≤ 140737488355328 := by rw [frm_len]; simp
  go_wp2_with (at_builtin; refine wpList_appB bytesT rfl (.tmp 9) (.tmp 10) rfl rfl h1 rfl r1 hln1 hsz1 ?_; intro v2 w2 h2 g2 _; have hb2 := hb1.grown g2 hsz1 h1.ge; clear g2 r1 h1 hb1 hsz1 hln1)
  have hs : Scanned (frm [97, 98] ++ [1, 2]) [[97, 98]] [1, 2] := ⟨by rw [flat_one], by simp, not_whole_short (by simp)⟩
  have hsc := scan_any _ _ _ _ w2 h2.rd hs (by rw [List.length_append, frm_len]; simp)
  have hfl : (flat [[97, 98]]).length = 14 := by rw [flat_one, frm_len]; rfl
  rw [hfl] at hsc
  clear hs hfl h2
  refine hsc.mono ?_
  rintro e w3 ⟨⟨v3, vs, rfl, h3⟩, hb3⟩
  have hb3 := bwstep hb2 hb3
  obtain ⟨A3, c3, rfl, -, -⟩ := h3.rd.shape
  clear hsc hb2
  go_wp2_with fail
  refine (pn _).mono ?_
  rintro e w4 ⟨⟨v4, rfl, h4⟩, hb4⟩
  go_wp2_with fail
  refine (cut_ok _ q0 [] [] _ _ h4.rd (Nat.le_refl _) (by rw [HQ0.out, List.append_nil]) (by simp) (by omega)).mono ?_
  rintro e w5 ⟨⟨v5, v5', rfl, h5, h5'⟩, hb5⟩
  have h3 := h3.below (bwstep hb4 hb5)
  have hb5 := bwstep hb3 (bwstep hb4 hb5)
  clear hb3 hb4 h4
  obtain ⟨A5, c5, rfl, -, -⟩ := h5.rd.shapeM
  obtain ⟨A5', c5', rfl, -, -⟩ := h5'.rd.shapeM
  clear h5 h5'
  go_wp2_with fail
  refine (pn _).mono ?_
  rintro e w6 ⟨⟨v6, rfl, h6⟩, hb6⟩
  obtain ⟨A6, c6, rfl, -, -⟩ := h6.rd.shapeM
  have h3 := (h3.below hb6).rd
  have hb6 := bwstep hb5 hb6
  obtain ⟨b3, off3, rfl, hlt3⟩ := h3.open_ (by simp)
  obtain ⟨A7, c7, hcell7, -, -, hr7⟩ := h3.row (j := 0) (by simp)
  have g0 : gl [[97, 98]] 0 = [97, 98] := rfl
  rw [g0] at hcell7 hr7
  rw [Nat.add_zero] at hcell7
  have c1 := run_strS (P := Try.prog) (w := w6) Try.underlying25 Try.underlying5 Try.underlying9 hr7
  have hal : Calls Try.prog 14 #[.slice (some ⟨w6.heap.size + 1 + 1, 0, none⟩) 2 2] (((w6.alloc (.cells #[.int .u8 1] 5)).alloc (.cells #[.int .u8 2] 5)).alloc (.cells #[.slice (some ⟨w6.heap.size, 0, none⟩) 1 1, .slice (some ⟨w6.heap.size + 1, 0, none⟩) 1 1] 25)) fun e w' => (∃ A c, e = .returned (.slice A 26 c)) ∧ Below w6.heap.size w6 w' := by
    have x1 : Rd (w6.alloc (.cells #[bv 1] 5)) _ (.slice (some ⟨w6.heap.size, 0, none⟩) 1 1) (([1] : List UInt8).map bv) := Rd.newW w6 5 #[bv 1] rfl (by simp [maxLen]) rfl
    have hb7 := bwalloc (bwrefl w6) (.cells #[bv 1] 5)
    have hs7 : (w6.alloc (.cells #[bv 1] 5)).heap.size = w6.heap.size + 1 := by simp
    show Calls _ _ _ (((w6.alloc (.cells #[bv 1] 5)).alloc (.cells #[bv 2] 5)).alloc _) _
    rw [← hs7]
    generalize w6.alloc (.cells #[bv 1] 5) = w7 at *
    have x2 : Rd (w7.alloc (.cells #[bv 2] 5)) _ (.slice (some ⟨w7.heap.size, 0, none⟩) 1 1) (([2] : List UInt8).map bv) := Rd.newW w7 5 #[bv 2] rfl (by simp [maxLen]) rfl
    have x1 := x1.up (bwalloc (bwrefl w7) (.cells #[bv 2] 5))
    have hb8 := bwalloc hb7 (.cells #[bv 2] 5)
    have hs8 : (w7.alloc (.cells #[bv 2] 5)).heap.size = w7.heap.size + 1 := by simp
    rw [← hs8]
    generalize w7.alloc (.cells #[bv 2] 5) = w8 at *
    have hm2 := RdM.build2 25 x1 x2
    have hb9 := bwalloc hb8 (.cells #[.slice (some ⟨w6.heap.size, 0, none⟩) 1 1, .slice (some ⟨w7.heap.size, 0, none⟩) 1 1] 25)
    have hfl : (flat [[1], [2]]).length = 26 := by rw [flat_len]; rfl
    refine (all_any _ [[1], [2]] _ hm2 (by simp) (by rw [flat_len]; simp [tot])).mono ?_
    rintro e w10 ⟨⟨v10, rfl, h10⟩, hb10⟩
    obtain ⟨A10, c10, rfl, -, -⟩ := h10.rd.shapeM
    rw [hfl]
    exact ⟨⟨_, _, rfl⟩, bwstep hb9 hb10⟩
  clear hr7
  go_wp2_with fail
  refine hal.mono ?_
  rintro e w10 ⟨⟨A10, c10, rfl⟩, hb10⟩
  go_wp2_with fail
  go_ret
  exact ⟨rfl, bwstep hb6 hb10⟩
end Go.Proofs.Ytngophodcjbolaa
