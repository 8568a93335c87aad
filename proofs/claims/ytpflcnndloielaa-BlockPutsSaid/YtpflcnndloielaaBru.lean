/- The contract of the reference's Put of layer 10. -/
import Derived.Test.YtpflcnndloielaaBkP
import Derived.Test.YtpflcnndloielaaCs
import Derived.Test.YtpflcnndloielaaCrb
import Derived.Test.YtpflcnndloielaaFrmR
namespace Go.Proofs.Ytpflcnndloielaa.Ce
open Go.RowKit Frm

set_option maxHeartbeats 2000000 in
set_option maxRecDepth 100000 in
theorem rbput_ok (v : Value) (L : List Cl) (w : World) (hv : RdL w [] v L) (hok : ∀ c ∈ L, c.ok) (hl : (recB L).length ≤ 65535) :
    Calls Try.prog 17 #[v] w fun e w' => (∃ x, e = .returned x ∧ Ow w' w.heap.size 5 x ((blkB L).map bv)) ∧ Below w.heap.size w w' := by
  obtain ⟨A, cp, rfl, hc, hm⟩ := hv.shape
  unfold maxLen at hm
  have hge := flatC_ge hok
  have hrl := recB_len L
  have hln : L.length ≤ 65535 := by omega
  have HOK := Lib.hid hok
  have HV := Lib.hid hv
  have HL := Lib.hid hl
  clear hv hok hl hge hrl
  go_enter Try.func17, Try.ntmps17
  go_wp2_with fail
  refine (rnum_ok _ _ (by omega)).mono ?_
  rintro e w2 ⟨q, rfl, hq, hb2⟩
  have HB2 := Lib.hid hb2
  have HQ := Lib.hid hq
  clear hq hb2
  go_wp2_with fail
  go_loopw [3, 4] (fun p i wr => ∃ k : Nat, k ≤ L.length ∧ i = .int .i64 (k : Int) ∧ Ow wr w.heap.size 5 p ((numB L.length ++ flatC (L.take k)).map bv) ∧ Below w.heap.size w wr) (fun _ i _ => L.length - (intOf i).toNat)
  case atStart => exact ⟨0, by omega, rfl, by simpa [flatC] using HQ.out, HB2.out⟩
  case round =>
    obtain ⟨k, hk, rfl, ho, hbe⟩ := hrel
    have HBE := Lib.hid hbe
    have HO := Lib.hid ho
    clear ho
    by_cases hlt : k < L.length
    · obtain ⟨b, off, rfl, -, -⟩ := HV.out.open_ (by omega)
      have hh3 : (0 : Int) ≤ (k : Int) := by omega
      have hh4 : (k : Int) < (L.length : Int) := by omega
      have hfk : L[k]? = some (L[k]'hlt) := List.getElem?_eq_getElem _
      generalize L[k]'hlt = f at hfk
      obtain ⟨h5, hbl⟩ := (HV.out.bel hbe).at_ hfk
      have HSN := Lib.hid (flatC_snoc hfk)
      have hok := HOK.out f (List.mem_of_getElem? hfk)
      have hcl := cellB_le hok
      have hpu := fun w => rput_ok f w hok
      have hft := flatC_le (L := L.take k) fun c hc => HOK.out c (List.mem_of_mem_take hc)
      rw [List.length_take] at hft
      have hsz : (numB L.length ++ flatC (L.take k)).length + (cellB f).length ≤ 140737488355328 := by
        rw [List.length_append, numB_len]
        have : min k L.length ≤ 65535 := by omega
        omega
      have HSZ := Lib.hid hsz
      obtain ⟨c0, c1, c2, c3, c4⟩ := h5
      clear hfk hbe hok hcl hft hsz hbl
      go_wp2_with fail
      refine (hpu _).mono ?_
      rintro e w5 ⟨⟨x, rfl, hx⟩, hb5⟩
      have hbe := bwtrans HBE.out hb5 (Nat.le_refl _)
      have ho5 := HO.out.below hb5
      have hxr := hx.rd
      have hsz := HSZ.out
      have hB5 := hbe.size
      clear hx hb5 hpu c0 c1 c2 c3 c4
      go_wp2_with (at_builtin; refine wpList_appB bytesT rfl (.tmp 14) (.tmp 19) rfl rfl ho5 rfl hxr hsz hB5 ?_; intro v6 w6 ho6 hg6 _; have HO6 := Lib.hid ho6; have HBE6 := Lib.hid (hbe.grown hg6 hB5 ho5.ge); clear ho6 hg6)
      go_roundw
      case rel => exact ⟨k + 1, by omega, by go_num, by rw [HSN.out, ← List.append_assoc]; exact HO6.out, HBE6.out⟩
      case measure => simp [intOf]; omega
    · obtain rfl : k = L.length := by omega
      have ho9 := HO.out
      rw [List.take_length] at ho9
      have hfp := rfput_ok _ (recB L) wr ho9.rd HL.out
      clear ho9 hbe
      go_wp2_with fail
      refine hfp.mono ?_
      rintro e w6 ⟨⟨z, rfl, hz⟩, hb6⟩
      have HZ := Lib.hid (hz.mono HBE.out.size)
      have HB6 := Lib.hid (bwstep HBE.out hb6)
      clear hz hb6 hfp
      go_wp2_with fail
      go_ret
      exact ⟨⟨_, rfl, HZ.out⟩, HB6.out⟩
end Go.Proofs.Ytpflcnndloielaa.Ce
