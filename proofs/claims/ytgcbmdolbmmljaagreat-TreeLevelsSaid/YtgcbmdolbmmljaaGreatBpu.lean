/- The contract of block.Put. -/
import Derived.Test.YtgcbmdolbmmljaaGreatBkP
import Derived.Test.YtgcbmdolbmmljaaGreatCso
import Derived.Test.YtgcbmdolbmmljaaGreatCpA
import Derived.Test.YtgcbmdolbmmljaaGreatFrmA
namespace Go.Proofs.YtgcbmdolbmmljaaGreat.Ce
open Go.RowKit Frm

set_option maxHeartbeats 2000000 in
set_option maxRecDepth 100000 in
theorem bput_ok (v : Value) (L : List Cl) (w : World) (hv : RdL w [] v L) (hs : Sorted L) (hne : L ≠ []) (hl : (recB L).length ≤ 65535) :
    Calls Tryz.prog 75 #[v] w fun e w' => (∃ x, e = .returned (.tuple #[x, .int .i64 0]) ∧ Ow w' w.heap.size 5 x ((blkB L).map bv)) ∧ Below w.heap.size w w' := by
  obtain ⟨A, cp, rfl, hc, hm⟩ := hv.shape
  unfold maxLen at hm
  have hge := flatC_ge hs.ok
  have hrl := recB_len L
  have hln : L.length ≤ 65535 := by omega
  have hl0 : ((L.length : Int) == 0) = false := beq_false_of_ne (by
    intro e
    exact hne (List.eq_nil_of_length_eq_zero (by omega)))
  have hso := fun w hv => sorted_any (.slice A L.length cp) L w hv (by omega)
  rw [sortedB_true hs] at hso
  have HOK := Lib.hid hs.ok
  have HV := Lib.hid hv
  have HL := Lib.hid hl
  have HRL := Lib.hid hrl
  have HP : Hid (0 < L.length) := Lib.hid (List.length_pos_iff.2 hne)
  clear hv hs hne hl hge hrl
  go_enter Tryz.func75, Tryz.ntmps75
  go_wp2_with fail
  refine (hso _ HV.out).mono ?_
  rintro e w1 ⟨rfl, hb1⟩
  have HB1 := Lib.hid hb1
  clear hb1 hso
  go_wp2_with fail
  refine (num_ok _ _ (by omega)).mono ?_
  rintro e w2 ⟨q, rfl, hq, hb2⟩
  have HB2 := Lib.hid (bwstep HB1.out hb2)
  have HQ := Lib.hid (hq.mono HB1.out.size)
  clear hq hb2 HB1
  go_wp2_with fail
  go_loopw [4, 21] (fun p i wr => ∃ k : Nat, k ≤ L.length ∧ i = .int .i64 (k : Int) ∧ Ow wr w.heap.size 5 p ((numB L.length ++ flatC (L.take k)).map bv) ∧ Below w.heap.size w wr) (fun _ i _ => L.length - (intOf i).toNat)
  case atStart => exact ⟨0, by omega, rfl, by simpa [flatC] using HQ.out, HB2.out⟩
  case round =>
    obtain ⟨k, hk, rfl, ho, hbe⟩ := hrel
    have HBE := Lib.hid hbe
    have HO := Lib.hid ho
    clear ho
    by_cases hlt : k < L.length
    · obtain ⟨b, off, rfl, -, -⟩ := HV.out.open_ HP.out
      have hh3 : (0 : Int) ≤ (k : Int) := by omega
      have hh4 : (k : Int) < (L.length : Int) := by omega
      have hfk : L[k]? = some (L[k]'hlt) := List.getElem?_eq_getElem _
      generalize L[k]'hlt = f at hfk
      obtain ⟨h5, hbl⟩ := (HV.out.bel hbe).at_ hfk
      have HSN := Lib.hid (flatC_snoc hfk)
      have hok := HOK.out f (List.mem_of_getElem? hfk)
      have hcl := cellB_le hok
      have hpu := fun w => put_ok f w hok
      have hft := flatC_le (L := L.take k) fun c hc => HOK.out c (List.mem_of_mem_take hc)
      rw [List.length_take] at hft
      have hsz : (numB L.length ++ flatC (L.take k)).length + (cellB f).length ≤ 140737488355328 := by
        rw [List.length_append, numB_len]
        have : min k L.length ≤ 65535 := by omega
        omega
      have HSZ := Lib.hid hsz
      obtain ⟨c0, c1, c2, c3, c4⟩ := h5
      clear hfk hbe hok hcl hft hsz hbl
      go_wp2_with (refine allocC rfl rfl ?_)
      constructor
      intro w3 hI3 hb3 hz3
      go_wp2_with (refine storeC (c := f) rfl (.tmp 6) (.tmp 24) rfl rfl rfl hI3 ?_)
      constructor
      intro w4 hs4
      have HI4 := Lib.hid hs4.i
      have HB4 := Lib.hid (hs4.bel hb3 (Nat.le_refl _))
      have HO4 := Lib.hid (HO.out.below HB4.out)
      clear hI3 hb3 hz3 hs4 c0 c1 c2 c3 c4
      go_wp2_with (refine loadC rfl (.tmp 6) rfl rfl HI4.out ?_)
      refine (hpu _).mono ?_
      rintro e w5 ⟨⟨x, rfl, hx⟩, hb5⟩
      have hB5 := bwstep HB4.out hb5
      have hbe := bwtrans HBE.out hB5 (Nat.le_refl _)
      have ho5 := HO4.out.below hb5
      have hxr := hx.rd
      have hsz := HSZ.out
      have hB5 := hbe.size
      clear hx hb5 hpu
      go_wp2_with (at_builtin; refine wpList_appB bytesT rfl (.tmp 25) (.tmp 27) rfl rfl ho5 rfl hxr hsz hB5 ?_; intro v6 w6 ho6 hg6 _; have HO6 := Lib.hid ho6; have HBE6 := Lib.hid (hbe.grown hg6 hB5 ho5.ge); clear ho6 hg6)
      go_roundw
      case rel => exact ⟨k + 1, by omega, by go_num, by rw [HSN.out, ← List.append_assoc]; exact HO6.out, HBE6.out⟩
      case measure => simp [intOf]; omega
    · obtain rfl : k = L.length := by omega
      have ho9 := HO.out
      rw [List.take_length] at ho9
      have hfp := fput_ok _ (recB L) wr ho9.rd HL.out
      have hbn : (blkB L).length ≠ 0 := by rw [blkB_len]; omega
      have HBN := Lib.hid hbn
      clear ho9 hbe hbn
      go_wp2_with fail
      refine hfp.mono ?_
      rintro e w6 ⟨⟨z, rfl, hz⟩, hb6⟩
      have HZ := Lib.hid (hz.mono HBE.out.size)
      have HB6 := Lib.hid (bwstep HBE.out hb6)
      obtain ⟨Az, cz, rfl, -, -⟩ := hz.rd.shapeM
      have hz0 : (((blkB L).length : Int) == 0) = false := beq_false_of_ne (by have := HBN.out; omega)
      have hz1 := HBN.out
      clear hz hb6 hfp
      generalize (blkB L).length = nz at *
      go_wp2_with fail
      go_ret2
      exact ⟨⟨_, rfl, HZ.out⟩, HB6.out⟩
set_option maxHeartbeats 1000000 in
set_option maxRecDepth 100000 in
theorem bput_no (v : Value) (L : List Cl) (w : World) (hv : RdL w [] v L) (hs : ¬ (Sorted L ∧ L ≠ [])) (hl : L.length ≤ 1000000000) :
    Calls Tryz.prog 75 #[v] w fun e w' => e = .returned (.tuple #[.slice none 0 0, .int .i64 1]) ∧ Below w.heap.size w w' := by
  obtain ⟨A, cp, rfl, hc, hm⟩ := hv.shape
  unfold maxLen at hm
  by_cases h0 : L.length = 0
  · rw [h0]
    clear hs hv hc
    go_enter Tryz.func75, Tryz.ntmps75
    go_wp2_with fail
    go_ret2
    exact ⟨rfl, Below.refl _ _⟩
  · have hso := sorted_any (.slice A L.length cp) L w hv (by omega)
    rw [sortedB_false (fun h => hs ⟨h, fun e => h0 (by rw [e]; rfl)⟩)] at hso
    have hl0 : ((L.length : Int) == 0) = false := beq_false_of_ne (by omega)
    clear hs hv h0
    go_enter Tryz.func75, Tryz.ntmps75
    go_wp2_with fail
    refine hso.mono ?_
    rintro e w1 ⟨rfl, hb1⟩
    have HB1 := Lib.hid hb1
    clear hb1 hso
    go_wp2_with fail
    go_ret2
    exact ⟨rfl, HB1.out⟩
end Go.Proofs.YtgcbmdolbmmljaaGreat.Ce
