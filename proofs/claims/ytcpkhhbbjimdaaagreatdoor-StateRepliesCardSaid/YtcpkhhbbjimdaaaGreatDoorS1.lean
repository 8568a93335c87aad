/- Layer 16, StateReplies. -/
import Derived.Test.YtcpkhhbbjimdaaaGreatDoorSaZ
import Derived.Deep.Cut
import Derived.Deep.RegionHeld3
import Derived.BigQuiet
set_option maxHeartbeats 8000000
set_option maxRecDepth 100000
namespace Go.Proofs.YtcpkhhbbjimdaaaGreatDoor.Ce
open Go.RowKit
theorem stateReplies_walk (a : Rv) (A : Rp) (b : Rv) (B : Rp) (w : World) (ha : RpIs w [] a A) (hb : RpIs w [] b B) (hk : Kd w) :
  Calls Tryz.prog 6 #[a.v, b.v] w fun e w' => e = .returned (.bool true) ∧ Below w.heap.size w w' := by
 have HA := Lib.hid ha
 have HB := Lib.hid hb
 have HK := Lib.hid hk
 obtain ⟨Aa, ca, hca, -, -⟩ := ha.cells.shape
 obtain ⟨Ab, cb, hcb, -, -⟩ := hb.cells.shape
 injection hca with _ hna _
 injection hcb with _ hnb _
 have HNA := Lib.hid hna
 have HNB := Lib.hid hnb
 clear ha hb hk hna hnb
 go_enter Tryz.func6, Tryz.ntmps6
 go_wp2_with (refine St.box rpD rfl (.tmp 0) a rfl rfl ?_)
 constructor
 intro w1 hI1 hb1 hz1
 clear hz1
 go_wp2_with (refine St.box rpD rfl (.tmp 1) b rfl rfl ?_)
 constructor
 intro w2 hJ2 hb2 hz2
 clear hz2
 have HI2 := Lib.hid (hI1.up hb2)
 have HJ2 := Lib.hid hJ2
 have HW2 := Lib.hid (bwstep hb1 hb2)
 clear hI1 hb1 hJ2 hb2
 go_wp2_with fail
 refine (awake16_ok _ (HK.out.up HW2.out)).mono ?_
 rintro e w3 ⟨rfl, hb3⟩
 have HW3 := Lib.hid (bwstep HW2.out hb3)
 have HI3 := Lib.hid (HI2.out.up hb3)
 have HJ3 := Lib.hid (HJ2.out.up hb3)
 have c1 := rv_c3 HI3.out
 have c2 := rv_c3 HJ3.out
 clear hb3
 by_cases h1 : 60 < A.cells.length
 ·have hn : (60 : Int) < (a.n : Int) := by have := HNA.out; omega
  go_wp2_with fail
  refine (awake16_ok _ (HK.out.up HW3.out)).mono ?_
  rintro e w4 ⟨rfl, hb4⟩
  have HW4 := Lib.hid (bwstep HW3.out hb4)
  go_wp2_with fail
  go_ret
  exact ⟨rfl, HW4.out⟩
 ·have hn : ¬ (60 : Int) < (a.n : Int) := by have := HNA.out; omega
  by_cases h2 : 60 < B.cells.length
  ·have hn2 : (60 : Int) < (b.n : Int) := by have := HNB.out; omega
   go_wp2_with fail
   refine (awake16_ok _ (HK.out.up HW3.out)).mono ?_
   rintro e w4 ⟨rfl, hb4⟩
   have HW4 := Lib.hid (bwstep HW3.out hb4)
   go_wp2_with fail
   go_ret
   exact ⟨rfl, HW4.out⟩
  ·have hn2 : ¬ (60 : Int) < (b.n : Int) := by have := HNB.out; omega
   have hd : Below w3.heap.size w3 w3.drew := (Below.refl _ _).drew
   have HT : Hid (rpD.In w.heap.size a w3.drew ∧ rpD.In w1.heap.size b w3.drew) := Lib.hid ⟨HI3.out.up hd, HJ3.out.up hd⟩
   have HW5 := Lib.hid (bwstep HW3.out hd)
   obtain ⟨q, hq⟩ : ∃ q, q = decide (A = B) := ⟨_, rfl⟩
   have HD := Lib.hid hq.symm
   clear hq
   cases q
   ·go_wp2_with fail
    refine wp_region_held_drew (S := fun z => rpD.In w.heap.size a z ∧ rpD.In w1.heap.size b z) (by kernel_rfl) HT.out (fun hHeld => ?_)
    refine takeL 0 (hy := by intro z hSz; exact St.run_opLoad rpOk (.tmp 2) rfl rfl hSz.1) (h := ?_)
    refine takeL 1 (hy := by intro z hSz; exact St.run_opLoad rpOk (.tmp 3) rfl rfl hSz.2) (h := ?_)
    refine takeL 3 (hy := by intro z hSz; exact St.run_opLoad rpOk (.tmp 2) rfl rfl hSz.1) (h := ?_)
    refine takeL 4 (hy := by intro z hSz; exact St.run_opLoad rpOk (.tmp 3) rfl rfl hSz.2) (h := ?_)
    refine wpAnyH_ready (rs := [2]) (by kernel_rfl) (by simp) ?_
    refine AllReadyH.cons (o := _) (by simp only [List.getElem?_toArray, List.getElem?_cons_succ, List.getElem?_cons_zero]; rfl) (fun K hK => ?_) AllReadyH.nil
    go_simp
    go_at_call 18
    refine (ssame_any a b A B _ (HA.out.bel HW5.out) (HB.out.bel HW5.out) (by omega)).mono ?_
    rintro e w6 ⟨rfl, hb6⟩
    have HW6 := Lib.hid (bwstep HW5.out hb6)
    rw [HD.out]
    refine hK.out _ _ ⟨hHeld.1.up hb6, hHeld.2.up hb6⟩ (fun hHeld => ?_)
    clear hK K hb6
    ((try simp only [Act.put]); (try simp only [List.setIfInBounds_toArray]); (try simp only [List.set_cons_succ]); (try simp only [List.set_cons_zero]))
    refine wpAnyH_ready (rs := [5]) (by kernel_rfl) (by simp) ?_
    refine AllReadyH.cons (o := _) (by simp only [List.getElem?_toArray, List.getElem?_cons_succ, List.getElem?_cons_zero]; rfl) (fun K hK => ?_) AllReadyH.nil
    go_simp
    go_at_call 13
    refine (rsame16_any a b A B _ (HA.out.bel HW6.out) (HB.out.bel HW6.out) (by omega)).mono ?_
    rintro e w7 ⟨rfl, hb7⟩
    have HW7 := Lib.hid (bwstep HW6.out hb7)
    rw [HD.out]
    refine hK.out _ _ ⟨hHeld.1.up hb7, hHeld.2.up hb7⟩ (fun hHeld => ?_)
    clear hK K hb7
    ((try simp only [Act.put]); (try simp only [List.setIfInBounds_toArray]); (try simp only [List.set_cons_succ]); (try simp only [List.set_cons_zero]))
    refine takeL 6 (h := ?_)
    refine takeL 7 (h := ?_)
    refine takeL 8 (hy := by intro z hSz; exact St.run_opLoad rpOk (.tmp 2) rfl rfl hSz.1) (h := ?_)
    refine takeL 9 (hy := by intro z hSz; exact St.run_opLoad rpOk (.tmp 2) rfl rfl hSz.1) (h := ?_)
    refine wpAnyH_ready (rs := [10]) (by kernel_rfl) (by simp) ?_
    refine AllReadyH.cons (o := _) (by simp only [List.getElem?_toArray, List.getElem?_cons_succ, List.getElem?_cons_zero]; rfl) (fun K hK => ?_) AllReadyH.nil
    go_simp
    go_at_call 18
    refine (ssame_any a a A A _ (HA.out.bel HW7.out) (HA.out.bel HW7.out) (by omega)).mono ?_
    rintro e w8 ⟨rfl, hb8⟩
    have HW8 := Lib.hid (bwstep HW7.out hb8)
    rw [decide_eq_true rfl]
    refine hK.out _ _ ⟨hHeld.1.up hb8, hHeld.2.up hb8⟩ (fun hHeld => ?_)
    clear hK K hb8
    ((try simp only [Act.put]); (try simp only [List.setIfInBounds_toArray]); (try simp only [List.set_cons_succ]); (try simp only [List.set_cons_zero]))
    refine takeL 11 (h := ?_)
    refine takeL 12 (h := ?_)
    refine wpAnyH_done (by kernel_rfl) ?_ _
    clear hHeld
    go_wp2_with fail
    go_ret
    exact ⟨rfl, HW8.out⟩
   ·go_wp2_with fail
    refine wp_region_held_drew (S := fun z => rpD.In w.heap.size a z ∧ rpD.In w1.heap.size b z) (by kernel_rfl) HT.out (fun hHeld => ?_)
    refine takeL 0 (hy := by intro z hSz; exact St.run_opLoad rpOk (.tmp 2) rfl rfl hSz.1) (h := ?_)
    refine takeL 1 (hy := by intro z hSz; exact St.run_opLoad rpOk (.tmp 3) rfl rfl hSz.2) (h := ?_)
    refine takeL 3 (hy := by intro z hSz; exact St.run_opLoad rpOk (.tmp 2) rfl rfl hSz.1) (h := ?_)
    refine takeL 4 (hy := by intro z hSz; exact St.run_opLoad rpOk (.tmp 3) rfl rfl hSz.2) (h := ?_)
    refine wpAnyH_ready (rs := [2]) (by kernel_rfl) (by simp) ?_
    refine AllReadyH.cons (o := _) (by simp only [List.getElem?_toArray, List.getElem?_cons_succ, List.getElem?_cons_zero]; rfl) (fun K hK => ?_) AllReadyH.nil
    go_simp
    go_at_call 18
    refine (ssame_any a b A B _ (HA.out.bel HW5.out) (HB.out.bel HW5.out) (by omega)).mono ?_
    rintro e w6 ⟨rfl, hb6⟩
    have HW6 := Lib.hid (bwstep HW5.out hb6)
    rw [HD.out]
    refine hK.out _ _ ⟨hHeld.1.up hb6, hHeld.2.up hb6⟩ (fun hHeld => ?_)
    clear hK K hb6
    ((try simp only [Act.put]); (try simp only [List.setIfInBounds_toArray]); (try simp only [List.set_cons_succ]); (try simp only [List.set_cons_zero]))
    refine wpAnyH_ready (rs := [5]) (by kernel_rfl) (by simp) ?_
    refine AllReadyH.cons (o := _) (by simp only [List.getElem?_toArray, List.getElem?_cons_succ, List.getElem?_cons_zero]; rfl) (fun K hK => ?_) AllReadyH.nil
    go_simp
    go_at_call 13
    refine (rsame16_any a b A B _ (HA.out.bel HW6.out) (HB.out.bel HW6.out) (by omega)).mono ?_
    rintro e w7 ⟨rfl, hb7⟩
    have HW7 := Lib.hid (bwstep HW6.out hb7)
    rw [HD.out]
    refine hK.out _ _ ⟨hHeld.1.up hb7, hHeld.2.up hb7⟩ (fun hHeld => ?_)
    clear hK K hb7
    ((try simp only [Act.put]); (try simp only [List.setIfInBounds_toArray]); (try simp only [List.set_cons_succ]); (try simp only [List.set_cons_zero]))
    refine takeL 6 (h := ?_)
    refine takeL 7 (h := ?_)
    refine takeL 8 (hy := by intro z hSz; exact St.run_opLoad rpOk (.tmp 2) rfl rfl hSz.1) (h := ?_)
    refine takeL 9 (hy := by intro z hSz; exact St.run_opLoad rpOk (.tmp 2) rfl rfl hSz.1) (h := ?_)
    refine wpAnyH_ready (rs := [10]) (by kernel_rfl) (by simp) ?_
    refine AllReadyH.cons (o := _) (by simp only [List.getElem?_toArray, List.getElem?_cons_succ, List.getElem?_cons_zero]; rfl) (fun K hK => ?_) AllReadyH.nil
    go_simp
    go_at_call 18
    refine (ssame_any a a A A _ (HA.out.bel HW7.out) (HA.out.bel HW7.out) (by omega)).mono ?_
    rintro e w8 ⟨rfl, hb8⟩
    have HW8 := Lib.hid (bwstep HW7.out hb8)
    rw [decide_eq_true rfl]
    refine hK.out _ _ ⟨hHeld.1.up hb8, hHeld.2.up hb8⟩ (fun hHeld => ?_)
    clear hK K hb8
    ((try simp only [Act.put]); (try simp only [List.setIfInBounds_toArray]); (try simp only [List.set_cons_succ]); (try simp only [List.set_cons_zero]))
    refine takeL 11 (h := ?_)
    refine takeL 12 (h := ?_)
    refine wpAnyH_done (by kernel_rfl) ?_ _
    clear hHeld
    go_wp2_with fail
    go_ret
    exact ⟨rfl, HW8.out⟩
end Go.Proofs.YtcpkhhbbjimdaaaGreatDoor.Ce
