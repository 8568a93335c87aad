/- The walk of CmdPuts. -/
import Derived.Test.YtkpdadnmbjmfpaaDoorCmW
import Derived.Deep.RegionHeld3
namespace Go.Proofs.YtkpdadnmbjmfpaaDoor.Ce
open Go.RowKit

theorem writes_iff {c : Cm} (h : c.Sound) : ((ptOf c.kind.toNat).writes == decide (c.kind = 1 ∨ c.kind = 2 ∨ c.kind = 3)) = true := by
  have h1 := h.k1
  have h2 := h.k2
  have hc : c.kind = 1 ∨ c.kind = 2 ∨ c.kind = 3 ∨ c.kind = 4 ∨ c.kind = 5 := by omega
  rcases hc with e | e | e | e | e <;> rw [e] <;> decide
theorem s15_of {g : Nat} {c : Cm} {kd : Int} {wb z : World} (e : c.kind = kd) (h : cmD.In g c z) (k : Kd z) (b : Below wb.heap.size wb z) : cmD.In g c z ∧ Kd z ∧ z.cell? ⟨g, 0, none⟩ = some (.int .i64 c.client) ∧ z.cell? ⟨g, 1, none⟩ = some (.int .i64 c.seq) ∧ z.cell? ⟨g, 2, none⟩ = some (.int .i64 kd) ∧ z.cell? ⟨g, 3, none⟩ = some (.string c.row) ∧ z.cell? ⟨g, 4, none⟩ = some (.string c.col) ∧ z.cell? ⟨g, 5, none⟩ = some (.string c.to_) ∧ z.cell? ⟨g, 6, none⟩ = some (.int .i64 c.at_) ∧ z.cell? ⟨g, 7, none⟩ = some (.string c.value) ∧ z.cell? ⟨g, 8, none⟩ = some (.string c.expect) ∧ z.cell? ⟨g, 9, none⟩ = some (.bool c.has) ∧ Below wb.heap.size wb z :=
  have a := CmAt.of h
  ⟨h, k, a.c0, a.c1, by rw [← e]; exact a.c2, a.c3, a.c4, a.c5, a.c6, a.c7, a.c8, a.c9, b⟩
theorem s15_up {g : Nat} {c : Cm} {kd : Int} {wb z z' : World} (e : c.kind = kd) (h : cmD.In g c z ∧ Kd z ∧ z.cell? ⟨g, 0, none⟩ = some (.int .i64 c.client) ∧ z.cell? ⟨g, 1, none⟩ = some (.int .i64 c.seq) ∧ z.cell? ⟨g, 2, none⟩ = some (.int .i64 kd) ∧ z.cell? ⟨g, 3, none⟩ = some (.string c.row) ∧ z.cell? ⟨g, 4, none⟩ = some (.string c.col) ∧ z.cell? ⟨g, 5, none⟩ = some (.string c.to_) ∧ z.cell? ⟨g, 6, none⟩ = some (.int .i64 c.at_) ∧ z.cell? ⟨g, 7, none⟩ = some (.string c.value) ∧ z.cell? ⟨g, 8, none⟩ = some (.string c.expect) ∧ z.cell? ⟨g, 9, none⟩ = some (.bool c.has) ∧ Below wb.heap.size wb z) (hb : Below z.heap.size z z') : cmD.In g c z' ∧ Kd z' ∧ z'.cell? ⟨g, 0, none⟩ = some (.int .i64 c.client) ∧ z'.cell? ⟨g, 1, none⟩ = some (.int .i64 c.seq) ∧ z'.cell? ⟨g, 2, none⟩ = some (.int .i64 kd) ∧ z'.cell? ⟨g, 3, none⟩ = some (.string c.row) ∧ z'.cell? ⟨g, 4, none⟩ = some (.string c.col) ∧ z'.cell? ⟨g, 5, none⟩ = some (.string c.to_) ∧ z'.cell? ⟨g, 6, none⟩ = some (.int .i64 c.at_) ∧ z'.cell? ⟨g, 7, none⟩ = some (.string c.value) ∧ z'.cell? ⟨g, 8, none⟩ = some (.string c.expect) ∧ z'.cell? ⟨g, 9, none⟩ = some (.bool c.has) ∧ Below wb.heap.size wb z' :=
  s15_of e (h.1.up hb) (h.2.1.up hb) (bwstep h.2.2.2.2.2.2.2.2.2.2.2.2 hb)
set_option maxHeartbeats 4000000 in
set_option maxRecDepth 100000 in
theorem cmdPuts_walk (c : Cm) (w : World) (hk : Kd w) : Calls Tryd.prog 3 #[c.v] w fun e w' => e = .returned (.bool true) ∧ Below w.heap.size w w' := by
  have ha := fun w hk => awake15_ok w hk
  have hsm := fun w => small15_any c w
  have hp := fun w hk => cput_any c w hk
  have hr := fun w hk => cright_any c w hk
  have hrr := fun w => rright15_any c w
  have hsd := fun w => xsound_any c w
  have HK := Lib.hid hk
  clear hk
  by_cases hs : c.small
  · rw [decide_eq_true hs] at hsm
    clear hs
    go_enter Tryd.func3, Tryd.ntmps3
    go_wp2_with (refine St.box cmD rfl (.tmp 0) c rfl rfl ?_)
    constructor
    intro w1 hI1 hw1 hz1
    clear hz1
    go_wp2_with fail
    refine (ha _ (HK.out.up hw1)).mono ?_
    rintro e w2 ⟨rfl, hb2⟩
    have hI2 := hI1.up hb2
    have hw2 := bwstep hw1 hb2
    clear hI1 hw1 hb2 ha
    go_wp2_with (refine St.load cmOk rfl (.tmp 1) rfl rfl hI2 ?_)
    refine (hsm _).mono ?_
    rintro e w3 ⟨rfl, hb3⟩
    have hI3 := hI2.up hb3
    have hw3 := bwstep hw2 hb3
    clear hI2 hw2 hb3 hsm
    go_wp2_with (refine St.load cmOk rfl (.tmp 1) rfl rfl hI3 ?_)
    refine (hp _ (HK.out.up hw3)).mono ?_
    rintro e w4 ⟨rfl, hb4⟩
    have hI4 := hI3.up hb4
    have hw4 := bwstep hw3 hb4
    clear hI3 hw3 hb4 hp
    have HT := Lib.hid (s15_of rfl (wb := w4) (z := w4.drew) (hI4.kept rfl) ((HK.out.up hw4).up (Below.refl _ _).drew) (Below.refl _ _).drew)
    have HU := Lib.hid fun (a b : World) h hb => s15_up rfl (g := w.heap.size) (c := c) (wb := w4) (z := a) (z' := b) h hb
    go_wp2_with fail
    go_region_held3 (fun z => cmD.In w.heap.size c z ∧ Kd z ∧ z.cell? ⟨w.heap.size, 0, none⟩ = some (.int .i64 c.client) ∧ z.cell? ⟨w.heap.size, 1, none⟩ = some (.int .i64 c.seq) ∧ z.cell? ⟨w.heap.size, 2, none⟩ = some (.int .i64 c.kind) ∧ z.cell? ⟨w.heap.size, 3, none⟩ = some (.string c.row) ∧ z.cell? ⟨w.heap.size, 4, none⟩ = some (.string c.col) ∧ z.cell? ⟨w.heap.size, 5, none⟩ = some (.string c.to_) ∧ z.cell? ⟨w.heap.size, 6, none⟩ = some (.int .i64 c.at_) ∧ z.cell? ⟨w.heap.size, 7, none⟩ = some (.string c.value) ∧ z.cell? ⟨w.heap.size, 8, none⟩ = some (.string c.expect) ∧ z.cell? ⟨w.heap.size, 9, none⟩ = some (.bool c.has) ∧ Below w4.heap.size w4 z) (first | exact HT.out | assumption | exact HU.out _ _ (by assumption) (by assumption))
      (first
        | (refine St.wp_load cmOk (.tmp 1) rfl rfl (And.left (by assumption)) ?_)
        | (go_at_call 10; refine (hr _ (And.left (And.right (by assumption)))).mono ?_; rintro e wa ⟨rfl, hba⟩)
        | (go_at_call 11; refine (hrr _).mono ?_; rintro e w5 ⟨rfl, hb5⟩))
    obtain ⟨hI5, hk5, -, -, -, -, -, -, -, -, -, -, hb45⟩ := (by assumption : cmD.In w.heap.size c w5 ∧ Kd w5 ∧ w5.cell? ⟨w.heap.size, 0, none⟩ = some (.int .i64 c.client) ∧ w5.cell? ⟨w.heap.size, 1, none⟩ = some (.int .i64 c.seq) ∧ w5.cell? ⟨w.heap.size, 2, none⟩ = some (.int .i64 c.kind) ∧ w5.cell? ⟨w.heap.size, 3, none⟩ = some (.string c.row) ∧ w5.cell? ⟨w.heap.size, 4, none⟩ = some (.string c.col) ∧ w5.cell? ⟨w.heap.size, 5, none⟩ = some (.string c.to_) ∧ w5.cell? ⟨w.heap.size, 6, none⟩ = some (.int .i64 c.at_) ∧ w5.cell? ⟨w.heap.size, 7, none⟩ = some (.string c.value) ∧ w5.cell? ⟨w.heap.size, 8, none⟩ = some (.string c.expect) ∧ w5.cell? ⟨w.heap.size, 9, none⟩ = some (.bool c.has) ∧ Below w4.heap.size w4 w5)
    have hw5 := bwstep hw4 hb45
    clear HT HU hI4 hw4 hb45 hba hb5 hr
    by_cases hS : c.Sound
    · rw [decide_eq_true hS] at hsd
      by_cases hR : c.Right
      · have ew := writes_iff hS
        have hwr := fun w hk => cwrites_ok c w hk hR
        have hpt := fun w => xput_ok c w hS
        rw [show putS c = cmdS c from if_pos hR, show putE c = 0 by unfold putE; rw [if_pos hS, if_pos hR]]
        rw [decide_eq_true hR] at hrr ⊢
        have hss : ((cmdS c).toList == (cmdS c).toList) = true := by simp
        generalize cmdS c = s at *
        have h1 := hS.k1
        have h5 := hS.k2
        have hcase : c.kind = 1 ∨ c.kind = 2 ∨ c.kind = 3 ∨ c.kind = 4 ∨ c.kind = 5 := by omega
        clear hS hR h1 h5
        go_wp2_with (refine St.load cmOk rfl (.tmp 1) rfl rfl hI5 ?_)
        refine (hsd _).mono ?_
        rintro e w6 ⟨rfl, hb6⟩
        have hI6 := hI5.up hb6
        have hk6 := hk5.up hb6
        have hw6 := bwstep hw5 hb6
        clear hI5 hw5 hb6 hsd
        go_wp2_with (refine St.load cmOk rfl (.tmp 1) rfl rfl hI6 ?_)
        refine (hrr _).mono ?_
        rintro e w7 ⟨rfl, hb7⟩
        have hI7 := hI6.up hb7
        have hk7 := hk6.up hb7
        have hw7 := bwstep hw6 hb7
        clear hI6 hk6 hw6 hb7 hrr
        rcases hcase with hk | hk | hk | hk | hk
        · have HT := Lib.hid (s15_of hk (wb := w7) (z := w7.drew) (hI7.kept rfl) (hk7.up (Below.refl _ _).drew) (Below.refl _ _).drew)
          have HU := Lib.hid fun (a b : World) h hb => s15_up hk (g := w.heap.size) (wb := w7) (z := a) (z' := b) h hb
          have ev : c.v = .agg #[.int .i64 c.client, .int .i64 c.seq, .int .i64 1, .string c.row, .string c.col, .string c.to_, .int .i64 c.at_, .string c.value, .string c.expect, .bool c.has] := by unfold Cm.v Cm.cs; rw [hk]
          rw [hk] at hwr
          simp only [Int.reduceToNat, ptOf] at hwr
          rw [ev] at hwr hpt
          clear hk ew ev
          go_wp2_with fail
          refine wp_region_held_drew (S := fun z => cmD.In w.heap.size c z ∧ Kd z ∧ z.cell? ⟨w.heap.size, 0, none⟩ = some (.int .i64 c.client) ∧ z.cell? ⟨w.heap.size, 1, none⟩ = some (.int .i64 c.seq) ∧ z.cell? ⟨w.heap.size, 2, none⟩ = some (.int .i64 1) ∧ z.cell? ⟨w.heap.size, 3, none⟩ = some (.string c.row) ∧ z.cell? ⟨w.heap.size, 4, none⟩ = some (.string c.col) ∧ z.cell? ⟨w.heap.size, 5, none⟩ = some (.string c.to_) ∧ z.cell? ⟨w.heap.size, 6, none⟩ = some (.int .i64 c.at_) ∧ z.cell? ⟨w.heap.size, 7, none⟩ = some (.string c.value) ∧ z.cell? ⟨w.heap.size, 8, none⟩ = some (.string c.expect) ∧ z.cell? ⟨w.heap.size, 9, none⟩ = some (.bool c.has) ∧ Below w7.heap.size w7 z) (by kernel_rfl) HT.out (fun hHeld => ?_)
          refine wpAnyH_take (i := 0) (oi := _) (v := ?vk10) (by simp only [List.getElem?_toArray, List.getElem?_cons_zero]; rfl) (by kernel_rfl) (by kernel_rfl) (by kernel_rfl) (by intro _ _ _ h; exact h) (Or.inl ⟨by rfl, ?hyk10⟩) (by assumption) ?restk10
          case hyk10 =>
            intro z hSz
            (try dsimp only at hSz)
            go_simp
            try with_reducible rfl
          ((try simp only [Act.put]); (try simp only [List.setIfInBounds_toArray]); (try simp only [List.set_cons_succ]); (try simp only [List.set_cons_zero]))
          refine wpAnyH_take (i := 1) (oi := _) (v := ?vk11) (by simp only [List.getElem?_toArray, List.getElem?_cons_succ, List.getElem?_cons_zero]; rfl) (by kernel_rfl) (by kernel_rfl) (by kernel_rfl) (by intro _ _ _ h; exact h) (Or.inl ⟨by rfl, ?hyk11⟩) (by assumption) ?restk11
          case hyk11 =>
            intro z hSz
            (try dsimp only at hSz)
            go_simp
            try with_reducible rfl
          ((try simp only [Act.put]); (try simp only [List.setIfInBounds_toArray]); (try simp only [List.set_cons_succ]); (try simp only [List.set_cons_zero]))
          refine wpAnyH_take (i := 2) (oi := _) (v := ?vk12) (by simp only [List.getElem?_toArray, List.getElem?_cons_succ, List.getElem?_cons_zero]; rfl) (by kernel_rfl) (by kernel_rfl) (by kernel_rfl) (by intro _ _ _ h; exact h) (Or.inl ⟨by rfl, ?hyk12⟩) (by assumption) ?restk12
          case hyk12 =>
            intro z hSz
            (try dsimp only at hSz)
            go_simp
            try with_reducible rfl
          ((try simp only [Act.put]); (try simp only [List.setIfInBounds_toArray]); (try simp only [List.set_cons_succ]); (try simp only [List.set_cons_zero]))
          refine wpAnyH_take (i := 3) (oi := _) (v := ?vk13) (by simp only [List.getElem?_toArray, List.getElem?_cons_succ, List.getElem?_cons_zero]; rfl) (by kernel_rfl) (by kernel_rfl) (by kernel_rfl) (by intro _ _ _ h; exact h) (Or.inl ⟨by rfl, ?hyk13⟩) (by assumption) ?restk13
          case hyk13 =>
            intro z hSz
            (try dsimp only at hSz)
            go_simp
            try with_reducible rfl
          ((try simp only [Act.put]); (try simp only [List.setIfInBounds_toArray]); (try simp only [List.set_cons_succ]); (try simp only [List.set_cons_zero]))
          refine wpAnyH_take (i := 4) (oi := _) (v := ?vk14) (by simp only [List.getElem?_toArray, List.getElem?_cons_succ, List.getElem?_cons_zero]; rfl) (by kernel_rfl) (by kernel_rfl) (by kernel_rfl) (by intro _ _ _ h; exact h) (Or.inl ⟨by rfl, ?hyk14⟩) (by assumption) ?restk14
          case hyk14 =>
            intro z hSz
            (try dsimp only at hSz)
            go_simp
            try with_reducible rfl
          ((try simp only [Act.put]); (try simp only [List.setIfInBounds_toArray]); (try simp only [List.set_cons_succ]); (try simp only [List.set_cons_zero]))
          refine wpAnyH_ready (rs := [5]) (by kernel_rfl) (by simp) ?_
          refine AllReadyH.cons (o := _) (by simp only [List.getElem?_toArray, List.getElem?_cons_succ, List.getElem?_cons_zero]; rfl) (fun K hK => ?_) AllReadyH.nil
          go_simp
          go_at_call 13
          refine (hpt _).mono ?_
          rintro e wx ⟨rfl, hbx⟩
          refine hK.out _ _ (HU.out _ _ (by assumption) (by assumption)) (fun hHeld => ?_)
          clear hK K
          ((try simp only [Act.put]); (try simp only [List.setIfInBounds_toArray]); (try simp only [List.set_cons_succ]); (try simp only [List.set_cons_zero]))
          refine wpAnyH_take (i := 6) (oi := _) (v := ?vk16) (by simp only [List.getElem?_toArray, List.getElem?_cons_succ, List.getElem?_cons_zero]; rfl) (by kernel_rfl) (by kernel_rfl) (by kernel_rfl) (by intro _ _ _ h; exact h) (Or.inl ⟨by rfl, ?hyk16⟩) (by assumption) ?restk16
          case hyk16 =>
            intro z hSz
            (try dsimp only at hSz)
            go_simp
            try with_reducible rfl
          ((try simp only [Act.put]); (try simp only [List.setIfInBounds_toArray]); (try simp only [List.set_cons_succ]); (try simp only [List.set_cons_zero]))
          refine wpAnyH_take (i := 7) (oi := _) (v := ?vk17) (by simp only [List.getElem?_toArray, List.getElem?_cons_succ, List.getElem?_cons_zero]; rfl) (by kernel_rfl) (by kernel_rfl) (by kernel_rfl) (by intro _ _ _ h; exact h) (Or.inl ⟨by rfl, ?hyk17⟩) (by assumption) ?restk17
          case hyk17 =>
            intro z hSz
            (try dsimp only at hSz)
            go_simp
            try with_reducible rfl
          ((try simp only [Act.put]); (try simp only [List.setIfInBounds_toArray]); (try simp only [List.set_cons_succ]); (try simp only [List.set_cons_zero]))
          refine wpAnyH_take (i := 8) (oi := _) (v := ?vk18) (by simp only [List.getElem?_toArray, List.getElem?_cons_succ, List.getElem?_cons_zero]; rfl) (by kernel_rfl) (by kernel_rfl) (by kernel_rfl) (by intro _ _ _ h; exact h) (Or.inl ⟨by rfl, ?hyk18⟩) (by assumption) ?restk18
          case hyk18 =>
            intro z hSz
            (try dsimp only at hSz)
            go_simp
            try with_reducible rfl
          ((try simp only [Act.put]); (try simp only [List.setIfInBounds_toArray]); (try simp only [List.set_cons_succ]); (try simp only [List.set_cons_zero]))
          refine wpAnyH_take (i := 9) (oi := _) (v := ?vk19) (by simp only [List.getElem?_toArray, List.getElem?_cons_succ, List.getElem?_cons_zero]; rfl) (by kernel_rfl) (by kernel_rfl) (by kernel_rfl) (by intro _ _ _ h; exact h) (Or.inl ⟨by rfl, ?hyk19⟩) (by assumption) ?restk19
          case hyk19 =>
            intro z hSz
            (try dsimp only at hSz)
            go_simp
            try with_reducible rfl
          ((try simp only [Act.put]); (try simp only [List.setIfInBounds_toArray]); (try simp only [List.set_cons_succ]); (try simp only [List.set_cons_zero]))
          refine wpAnyH_take (i := 11) (oi := _) (v := ?vk111) (by simp only [List.getElem?_toArray, List.getElem?_cons_succ, List.getElem?_cons_zero]; rfl) (by kernel_rfl) (by kernel_rfl) (by kernel_rfl) (by intro _ _ _ h; exact h) (Or.inl ⟨by rfl, ?hyk111⟩) (by assumption) ?restk111
          case hyk111 =>
            intro z hSz
            (try dsimp only at hSz)
            go_simp
            try with_reducible rfl
          ((try simp only [Act.put]); (try simp only [List.setIfInBounds_toArray]); (try simp only [List.set_cons_succ]); (try simp only [List.set_cons_zero]))
          refine wpAnyH_take (i := 12) (oi := _) (v := ?vk112) (by simp only [List.getElem?_toArray, List.getElem?_cons_succ, List.getElem?_cons_zero]; rfl) (by kernel_rfl) (by kernel_rfl) (by kernel_rfl) (by intro _ _ _ h; exact h) (Or.inl ⟨by rfl, ?hyk112⟩) (by assumption) ?restk112
          case hyk112 =>
            intro z hSz
            (try dsimp only at hSz)
            go_simp
            try with_reducible rfl
          ((try simp only [Act.put]); (try simp only [List.setIfInBounds_toArray]); (try simp only [List.set_cons_succ]); (try simp only [List.set_cons_zero]))
          refine wpAnyH_take (i := 13) (oi := _) (v := ?vk113) (by simp only [List.getElem?_toArray, List.getElem?_cons_succ, List.getElem?_cons_zero]; rfl) (by kernel_rfl) (by kernel_rfl) (by kernel_rfl) (by intro _ _ _ h; exact h) (Or.inl ⟨by rfl, ?hyk113⟩) (by assumption) ?restk113
          case hyk113 =>
            intro z hSz
            (try dsimp only at hSz)
            go_simp
            try with_reducible rfl
          ((try simp only [Act.put]); (try simp only [List.setIfInBounds_toArray]); (try simp only [List.set_cons_succ]); (try simp only [List.set_cons_zero]))
          refine wpAnyH_ready (rs := [10]) (by kernel_rfl) (by simp) ?_
          refine AllReadyH.cons (o := _) (by simp only [List.getElem?_toArray, List.getElem?_cons_succ, List.getElem?_cons_zero]; rfl) (fun K hK => ?_) AllReadyH.nil
          go_simp
          go_at_call 14
          refine (hwr _ (And.left (And.right (by assumption)))).mono ?_
          rintro e w8 ⟨rfl, hb8⟩
          refine hK.out _ _ (HU.out _ _ (by assumption) (by assumption)) (fun hHeld => ?_)
          clear hK K
          ((try simp only [Act.put]); (try simp only [List.setIfInBounds_toArray]); (try simp only [List.set_cons_succ]); (try simp only [List.set_cons_zero]))
          refine wpAnyH_take (i := 14) (oi := _) (v := ?vk114) (by simp only [List.getElem?_toArray, List.getElem?_cons_succ, List.getElem?_cons_zero]; rfl) (by kernel_rfl) (by kernel_rfl) (by kernel_rfl) (by intro _ _ _ h; exact h) (Or.inl ⟨by rfl, ?hyk114⟩) (by assumption) ?restk114
          case hyk114 =>
            intro z hSz
            (try dsimp only at hSz)
            go_simp
            try with_reducible rfl
          ((try simp only [Act.put]); (try simp only [List.setIfInBounds_toArray]); (try simp only [List.set_cons_succ]); (try simp only [List.set_cons_zero]))
          refine wpAnyH_take (i := 15) (oi := _) (v := undef) (by simp only [List.getElem?_toArray, List.getElem?_cons_succ, List.getElem?_cons_zero]; rfl) (by kernel_rfl) (by kernel_rfl) (by kernel_rfl) (by intro _ _ _ h; exact h) (Or.inr ⟨by rfl, rfl⟩) (by assumption) ?_
          ((try simp only [Act.put]); (try simp only [List.setIfInBounds_toArray]); (try simp only [List.set_cons_succ]); (try simp only [List.set_cons_zero]))
          refine wpAnyH_take (i := 16) (oi := _) (v := undef) (by simp only [List.getElem?_toArray, List.getElem?_cons_succ, List.getElem?_cons_zero]; rfl) (by kernel_rfl) (by kernel_rfl) (by kernel_rfl) (by intro _ _ _ h; exact h) (Or.inr ⟨by rfl, rfl⟩) (by assumption) ?_
          ((try simp only [Act.put]); (try simp only [List.setIfInBounds_toArray]); (try simp only [List.set_cons_succ]); (try simp only [List.set_cons_zero]))
          refine wpAnyH_take (i := 17) (oi := _) (v := undef) (by simp only [List.getElem?_toArray, List.getElem?_cons_succ, List.getElem?_cons_zero]; rfl) (by kernel_rfl) (by kernel_rfl) (by kernel_rfl) (by intro _ _ _ h; exact h) (Or.inr ⟨by rfl, rfl⟩) (by assumption) ?_
          ((try simp only [Act.put]); (try simp only [List.setIfInBounds_toArray]); (try simp only [List.set_cons_succ]); (try simp only [List.set_cons_zero]))
          refine wpAnyH_take (i := 18) (oi := _) (v := ?vk118) (by simp only [List.getElem?_toArray, List.getElem?_cons_succ, List.getElem?_cons_zero]; rfl) (by kernel_rfl) (by kernel_rfl) (by kernel_rfl) (by intro _ _ _ h; exact h) (Or.inl ⟨by rfl, ?hyk118⟩) (by assumption) ?restk118
          case hyk118 =>
            intro z hSz
            (try dsimp only at hSz)
            go_simp
            try with_reducible rfl
          ((try simp only [Act.put]); (try simp only [List.setIfInBounds_toArray]); (try simp only [List.set_cons_succ]); (try simp only [List.set_cons_zero]))
          refine wpAnyH_take (i := 19) (oi := _) (v := ?vk119) (by simp only [List.getElem?_toArray, List.getElem?_cons_succ, List.getElem?_cons_zero]; rfl) (by kernel_rfl) (by kernel_rfl) (by kernel_rfl) (by intro _ _ _ h; exact h) (Or.inl ⟨by rfl, ?hyk119⟩) (by assumption) ?restk119
          case hyk119 =>
            intro z hSz
            (try dsimp only at hSz)
            go_simp
            try with_reducible rfl
          ((try simp only [Act.put]); (try simp only [List.setIfInBounds_toArray]); (try simp only [List.set_cons_succ]); (try simp only [List.set_cons_zero]))
          refine wpAnyH_take (i := 20) (oi := _) (v := undef) (by simp only [List.getElem?_toArray, List.getElem?_cons_succ, List.getElem?_cons_zero]; rfl) (by kernel_rfl) (by kernel_rfl) (by kernel_rfl) (by intro _ _ _ h; exact h) (Or.inr ⟨by rfl, rfl⟩) (by assumption) ?_
          ((try simp only [Act.put]); (try simp only [List.setIfInBounds_toArray]); (try simp only [List.set_cons_succ]); (try simp only [List.set_cons_zero]))
          refine wpAnyH_take (i := 21) (oi := _) (v := undef) (by simp only [List.getElem?_toArray, List.getElem?_cons_succ, List.getElem?_cons_zero]; rfl) (by kernel_rfl) (by kernel_rfl) (by kernel_rfl) (by intro _ _ _ h; exact h) (Or.inr ⟨by rfl, rfl⟩) (by assumption) ?_
          ((try simp only [Act.put]); (try simp only [List.setIfInBounds_toArray]); (try simp only [List.set_cons_succ]); (try simp only [List.set_cons_zero]))
          refine wpAnyH_take (i := 22) (oi := _) (v := undef) (by simp only [List.getElem?_toArray, List.getElem?_cons_succ, List.getElem?_cons_zero]; rfl) (by kernel_rfl) (by kernel_rfl) (by kernel_rfl) (by intro _ _ _ h; exact h) (Or.inr ⟨by rfl, rfl⟩) (by assumption) ?_
          ((try simp only [Act.put]); (try simp only [List.setIfInBounds_toArray]); (try simp only [List.set_cons_succ]); (try simp only [List.set_cons_zero]))
          refine wpAnyH_take (i := 23) (oi := _) (v := ?vk123) (by simp only [List.getElem?_toArray, List.getElem?_cons_succ, List.getElem?_cons_zero]; rfl) (by kernel_rfl) (by kernel_rfl) (by kernel_rfl) (by intro _ _ _ h; exact h) (Or.inl ⟨by rfl, ?hyk123⟩) (by assumption) ?restk123
          case hyk123 =>
            intro z hSz
            (try dsimp only at hSz)
            go_simp
            try with_reducible rfl
          ((try simp only [Act.put]); (try simp only [List.setIfInBounds_toArray]); (try simp only [List.set_cons_succ]); (try simp only [List.set_cons_zero]))
          refine wpAnyH_take (i := 24) (oi := _) (v := ?vk124) (by simp only [List.getElem?_toArray, List.getElem?_cons_succ, List.getElem?_cons_zero]; rfl) (by kernel_rfl) (by kernel_rfl) (by kernel_rfl) (by intro _ _ _ h; exact h) (Or.inl ⟨by rfl, ?hyk124⟩) (by assumption) ?restk124
          case hyk124 =>
            intro z hSz
            (try dsimp only at hSz)
            go_simp
            try with_reducible rfl
          ((try simp only [Act.put]); (try simp only [List.setIfInBounds_toArray]); (try simp only [List.set_cons_succ]); (try simp only [List.set_cons_zero]))
          refine wpAnyH_take (i := 25) (oi := _) (v := ?vk125) (by simp only [List.getElem?_toArray, List.getElem?_cons_succ, List.getElem?_cons_zero]; rfl) (by kernel_rfl) (by kernel_rfl) (by kernel_rfl) (by intro _ _ _ h; exact h) (Or.inl ⟨by rfl, ?hyk125⟩) (by assumption) ?restk125
          case hyk125 =>
            intro z hSz
            (try dsimp only at hSz)
            go_simp
            try with_reducible rfl
          ((try simp only [Act.put]); (try simp only [List.setIfInBounds_toArray]); (try simp only [List.set_cons_succ]); (try simp only [List.set_cons_zero]))
          refine wpAnyH_take (i := 26) (oi := _) (v := ?vk126) (by simp only [List.getElem?_toArray, List.getElem?_cons_succ, List.getElem?_cons_zero]; rfl) (by kernel_rfl) (by kernel_rfl) (by kernel_rfl) (by intro _ _ _ h; exact h) (Or.inl ⟨by rfl, ?hyk126⟩) (by assumption) ?restk126
          case hyk126 =>
            intro z hSz
            (try dsimp only at hSz)
            go_simp
            try with_reducible rfl
          ((try simp only [Act.put]); (try simp only [List.setIfInBounds_toArray]); (try simp only [List.set_cons_succ]); (try simp only [List.set_cons_zero]))
          refine wpAnyH_done (by kernel_rfl) ?_ _
          have hw9 := bwstep hw7 (by assumption : cmD.In w.heap.size c w8 ∧ Kd w8 ∧ w8.cell? ⟨w.heap.size, 0, none⟩ = some (.int .i64 c.client) ∧ w8.cell? ⟨w.heap.size, 1, none⟩ = some (.int .i64 c.seq) ∧ w8.cell? ⟨w.heap.size, 2, none⟩ = some (.int .i64 1) ∧ w8.cell? ⟨w.heap.size, 3, none⟩ = some (.string c.row) ∧ w8.cell? ⟨w.heap.size, 4, none⟩ = some (.string c.col) ∧ w8.cell? ⟨w.heap.size, 5, none⟩ = some (.string c.to_) ∧ w8.cell? ⟨w.heap.size, 6, none⟩ = some (.int .i64 c.at_) ∧ w8.cell? ⟨w.heap.size, 7, none⟩ = some (.string c.value) ∧ w8.cell? ⟨w.heap.size, 8, none⟩ = some (.string c.expect) ∧ w8.cell? ⟨w.heap.size, 9, none⟩ = some (.bool c.has) ∧ Below w7.heap.size w7 w8).2.2.2.2.2.2.2.2.2.2.2.2
          clear HT HU hbx hb8 hpt hwr hk7 hI7 hw7
          go_wp2_with fail
          go_ret
          exact ⟨rfl, hw9⟩
        · have HT := Lib.hid (s15_of hk (wb := w7) (z := w7.drew) (hI7.kept rfl) (hk7.up (Below.refl _ _).drew) (Below.refl _ _).drew)
          have HU := Lib.hid fun (a b : World) h hb => s15_up hk (g := w.heap.size) (wb := w7) (z := a) (z' := b) h hb
          have ev : c.v = .agg #[.int .i64 c.client, .int .i64 c.seq, .int .i64 2, .string c.row, .string c.col, .string c.to_, .int .i64 c.at_, .string c.value, .string c.expect, .bool c.has] := by unfold Cm.v Cm.cs; rw [hk]
          rw [hk] at hwr
          simp only [Int.reduceToNat, ptOf] at hwr
          rw [ev] at hwr hpt
          clear hk ew ev
          go_wp2_with fail
          refine wp_region_held_drew (S := fun z => cmD.In w.heap.size c z ∧ Kd z ∧ z.cell? ⟨w.heap.size, 0, none⟩ = some (.int .i64 c.client) ∧ z.cell? ⟨w.heap.size, 1, none⟩ = some (.int .i64 c.seq) ∧ z.cell? ⟨w.heap.size, 2, none⟩ = some (.int .i64 2) ∧ z.cell? ⟨w.heap.size, 3, none⟩ = some (.string c.row) ∧ z.cell? ⟨w.heap.size, 4, none⟩ = some (.string c.col) ∧ z.cell? ⟨w.heap.size, 5, none⟩ = some (.string c.to_) ∧ z.cell? ⟨w.heap.size, 6, none⟩ = some (.int .i64 c.at_) ∧ z.cell? ⟨w.heap.size, 7, none⟩ = some (.string c.value) ∧ z.cell? ⟨w.heap.size, 8, none⟩ = some (.string c.expect) ∧ z.cell? ⟨w.heap.size, 9, none⟩ = some (.bool c.has) ∧ Below w7.heap.size w7 z) (by kernel_rfl) HT.out (fun hHeld => ?_)
          refine wpAnyH_take (i := 0) (oi := _) (v := ?vk20) (by simp only [List.getElem?_toArray, List.getElem?_cons_zero]; rfl) (by kernel_rfl) (by kernel_rfl) (by kernel_rfl) (by intro _ _ _ h; exact h) (Or.inl ⟨by rfl, ?hyk20⟩) (by assumption) ?restk20
          case hyk20 =>
            intro z hSz
            (try dsimp only at hSz)
            go_simp
            try with_reducible rfl
          ((try simp only [Act.put]); (try simp only [List.setIfInBounds_toArray]); (try simp only [List.set_cons_succ]); (try simp only [List.set_cons_zero]))
          refine wpAnyH_take (i := 1) (oi := _) (v := ?vk21) (by simp only [List.getElem?_toArray, List.getElem?_cons_succ, List.getElem?_cons_zero]; rfl) (by kernel_rfl) (by kernel_rfl) (by kernel_rfl) (by intro _ _ _ h; exact h) (Or.inl ⟨by rfl, ?hyk21⟩) (by assumption) ?restk21
          case hyk21 =>
            intro z hSz
            (try dsimp only at hSz)
            go_simp
            try with_reducible rfl
          ((try simp only [Act.put]); (try simp only [List.setIfInBounds_toArray]); (try simp only [List.set_cons_succ]); (try simp only [List.set_cons_zero]))
          refine wpAnyH_take (i := 2) (oi := _) (v := ?vk22) (by simp only [List.getElem?_toArray, List.getElem?_cons_succ, List.getElem?_cons_zero]; rfl) (by kernel_rfl) (by kernel_rfl) (by kernel_rfl) (by intro _ _ _ h; exact h) (Or.inl ⟨by rfl, ?hyk22⟩) (by assumption) ?restk22
          case hyk22 =>
            intro z hSz
            (try dsimp only at hSz)
            go_simp
            try with_reducible rfl
          ((try simp only [Act.put]); (try simp only [List.setIfInBounds_toArray]); (try simp only [List.set_cons_succ]); (try simp only [List.set_cons_zero]))
          refine wpAnyH_take (i := 3) (oi := _) (v := ?vk23) (by simp only [List.getElem?_toArray, List.getElem?_cons_succ, List.getElem?_cons_zero]; rfl) (by kernel_rfl) (by kernel_rfl) (by kernel_rfl) (by intro _ _ _ h; exact h) (Or.inl ⟨by rfl, ?hyk23⟩) (by assumption) ?restk23
          case hyk23 =>
            intro z hSz
            (try dsimp only at hSz)
            go_simp
            try with_reducible rfl
          ((try simp only [Act.put]); (try simp only [List.setIfInBounds_toArray]); (try simp only [List.set_cons_succ]); (try simp only [List.set_cons_zero]))
          refine wpAnyH_take (i := 4) (oi := _) (v := ?vk24) (by simp only [List.getElem?_toArray, List.getElem?_cons_succ, List.getElem?_cons_zero]; rfl) (by kernel_rfl) (by kernel_rfl) (by kernel_rfl) (by intro _ _ _ h; exact h) (Or.inl ⟨by rfl, ?hyk24⟩) (by assumption) ?restk24
          case hyk24 =>
            intro z hSz
            (try dsimp only at hSz)
            go_simp
            try with_reducible rfl
          ((try simp only [Act.put]); (try simp only [List.setIfInBounds_toArray]); (try simp only [List.set_cons_succ]); (try simp only [List.set_cons_zero]))
          refine wpAnyH_ready (rs := [5]) (by kernel_rfl) (by simp) ?_
          refine AllReadyH.cons (o := _) (by simp only [List.getElem?_toArray, List.getElem?_cons_succ, List.getElem?_cons_zero]; rfl) (fun K hK => ?_) AllReadyH.nil
          go_simp
          go_at_call 13
          refine (hpt _).mono ?_
          rintro e wx ⟨rfl, hbx⟩
          refine hK.out _ _ (HU.out _ _ (by assumption) (by assumption)) (fun hHeld => ?_)
          clear hK K
          ((try simp only [Act.put]); (try simp only [List.setIfInBounds_toArray]); (try simp only [List.set_cons_succ]); (try simp only [List.set_cons_zero]))
          refine wpAnyH_take (i := 6) (oi := _) (v := ?vk26) (by simp only [List.getElem?_toArray, List.getElem?_cons_succ, List.getElem?_cons_zero]; rfl) (by kernel_rfl) (by kernel_rfl) (by kernel_rfl) (by intro _ _ _ h; exact h) (Or.inl ⟨by rfl, ?hyk26⟩) (by assumption) ?restk26
          case hyk26 =>
            intro z hSz
            (try dsimp only at hSz)
            go_simp
            try with_reducible rfl
          ((try simp only [Act.put]); (try simp only [List.setIfInBounds_toArray]); (try simp only [List.set_cons_succ]); (try simp only [List.set_cons_zero]))
          refine wpAnyH_take (i := 7) (oi := _) (v := ?vk27) (by simp only [List.getElem?_toArray, List.getElem?_cons_succ, List.getElem?_cons_zero]; rfl) (by kernel_rfl) (by kernel_rfl) (by kernel_rfl) (by intro _ _ _ h; exact h) (Or.inl ⟨by rfl, ?hyk27⟩) (by assumption) ?restk27
          case hyk27 =>
            intro z hSz
            (try dsimp only at hSz)
            go_simp
            try with_reducible rfl
          ((try simp only [Act.put]); (try simp only [List.setIfInBounds_toArray]); (try simp only [List.set_cons_succ]); (try simp only [List.set_cons_zero]))
          refine wpAnyH_take (i := 8) (oi := _) (v := ?vk28) (by simp only [List.getElem?_toArray, List.getElem?_cons_succ, List.getElem?_cons_zero]; rfl) (by kernel_rfl) (by kernel_rfl) (by kernel_rfl) (by intro _ _ _ h; exact h) (Or.inl ⟨by rfl, ?hyk28⟩) (by assumption) ?restk28
          case hyk28 =>
            intro z hSz
            (try dsimp only at hSz)
            go_simp
            try with_reducible rfl
          ((try simp only [Act.put]); (try simp only [List.setIfInBounds_toArray]); (try simp only [List.set_cons_succ]); (try simp only [List.set_cons_zero]))
          refine wpAnyH_take (i := 9) (oi := _) (v := ?vk29) (by simp only [List.getElem?_toArray, List.getElem?_cons_succ, List.getElem?_cons_zero]; rfl) (by kernel_rfl) (by kernel_rfl) (by kernel_rfl) (by intro _ _ _ h; exact h) (Or.inl ⟨by rfl, ?hyk29⟩) (by assumption) ?restk29
          case hyk29 =>
            intro z hSz
            (try dsimp only at hSz)
            go_simp
            try with_reducible rfl
          ((try simp only [Act.put]); (try simp only [List.setIfInBounds_toArray]); (try simp only [List.set_cons_succ]); (try simp only [List.set_cons_zero]))
          refine wpAnyH_take (i := 11) (oi := _) (v := ?vk211) (by simp only [List.getElem?_toArray, List.getElem?_cons_succ, List.getElem?_cons_zero]; rfl) (by kernel_rfl) (by kernel_rfl) (by kernel_rfl) (by intro _ _ _ h; exact h) (Or.inl ⟨by rfl, ?hyk211⟩) (by assumption) ?restk211
          case hyk211 =>
            intro z hSz
            (try dsimp only at hSz)
            go_simp
            try with_reducible rfl
          ((try simp only [Act.put]); (try simp only [List.setIfInBounds_toArray]); (try simp only [List.set_cons_succ]); (try simp only [List.set_cons_zero]))
          refine wpAnyH_take (i := 12) (oi := _) (v := ?vk212) (by simp only [List.getElem?_toArray, List.getElem?_cons_succ, List.getElem?_cons_zero]; rfl) (by kernel_rfl) (by kernel_rfl) (by kernel_rfl) (by intro _ _ _ h; exact h) (Or.inl ⟨by rfl, ?hyk212⟩) (by assumption) ?restk212
          case hyk212 =>
            intro z hSz
            (try dsimp only at hSz)
            go_simp
            try with_reducible rfl
          ((try simp only [Act.put]); (try simp only [List.setIfInBounds_toArray]); (try simp only [List.set_cons_succ]); (try simp only [List.set_cons_zero]))
          refine wpAnyH_take (i := 13) (oi := _) (v := ?vk213) (by simp only [List.getElem?_toArray, List.getElem?_cons_succ, List.getElem?_cons_zero]; rfl) (by kernel_rfl) (by kernel_rfl) (by kernel_rfl) (by intro _ _ _ h; exact h) (Or.inl ⟨by rfl, ?hyk213⟩) (by assumption) ?restk213
          case hyk213 =>
            intro z hSz
            (try dsimp only at hSz)
            go_simp
            try with_reducible rfl
          ((try simp only [Act.put]); (try simp only [List.setIfInBounds_toArray]); (try simp only [List.set_cons_succ]); (try simp only [List.set_cons_zero]))
          refine wpAnyH_ready (rs := [10]) (by kernel_rfl) (by simp) ?_
          refine AllReadyH.cons (o := _) (by simp only [List.getElem?_toArray, List.getElem?_cons_succ, List.getElem?_cons_zero]; rfl) (fun K hK => ?_) AllReadyH.nil
          go_simp
          go_at_call 14
          refine (hwr _ (And.left (And.right (by assumption)))).mono ?_
          rintro e w8 ⟨rfl, hb8⟩
          refine hK.out _ _ (HU.out _ _ (by assumption) (by assumption)) (fun hHeld => ?_)
          clear hK K
          ((try simp only [Act.put]); (try simp only [List.setIfInBounds_toArray]); (try simp only [List.set_cons_succ]); (try simp only [List.set_cons_zero]))
          refine wpAnyH_take (i := 14) (oi := _) (v := ?vk214) (by simp only [List.getElem?_toArray, List.getElem?_cons_succ, List.getElem?_cons_zero]; rfl) (by kernel_rfl) (by kernel_rfl) (by kernel_rfl) (by intro _ _ _ h; exact h) (Or.inl ⟨by rfl, ?hyk214⟩) (by assumption) ?restk214
          case hyk214 =>
            intro z hSz
            (try dsimp only at hSz)
            go_simp
            try with_reducible rfl
          ((try simp only [Act.put]); (try simp only [List.setIfInBounds_toArray]); (try simp only [List.set_cons_succ]); (try simp only [List.set_cons_zero]))
          refine wpAnyH_take (i := 15) (oi := _) (v := ?vk215) (by simp only [List.getElem?_toArray, List.getElem?_cons_succ, List.getElem?_cons_zero]; rfl) (by kernel_rfl) (by kernel_rfl) (by kernel_rfl) (by intro _ _ _ h; exact h) (Or.inl ⟨by rfl, ?hyk215⟩) (by assumption) ?restk215
          case hyk215 =>
            intro z hSz
            (try dsimp only at hSz)
            go_simp
            try with_reducible rfl
          ((try simp only [Act.put]); (try simp only [List.setIfInBounds_toArray]); (try simp only [List.set_cons_succ]); (try simp only [List.set_cons_zero]))
          refine wpAnyH_take (i := 16) (oi := _) (v := ?vk216) (by simp only [List.getElem?_toArray, List.getElem?_cons_succ, List.getElem?_cons_zero]; rfl) (by kernel_rfl) (by kernel_rfl) (by kernel_rfl) (by intro _ _ _ h; exact h) (Or.inl ⟨by rfl, ?hyk216⟩) (by assumption) ?restk216
          case hyk216 =>
            intro z hSz
            (try dsimp only at hSz)
            go_simp
            try with_reducible rfl
          ((try simp only [Act.put]); (try simp only [List.setIfInBounds_toArray]); (try simp only [List.set_cons_succ]); (try simp only [List.set_cons_zero]))
          refine wpAnyH_take (i := 17) (oi := _) (v := ?vk217) (by simp only [List.getElem?_toArray, List.getElem?_cons_succ, List.getElem?_cons_zero]; rfl) (by kernel_rfl) (by kernel_rfl) (by kernel_rfl) (by intro _ _ _ h; exact h) (Or.inl ⟨by rfl, ?hyk217⟩) (by assumption) ?restk217
          case hyk217 =>
            intro z hSz
            (try dsimp only at hSz)
            go_simp
            try with_reducible rfl
          ((try simp only [Act.put]); (try simp only [List.setIfInBounds_toArray]); (try simp only [List.set_cons_succ]); (try simp only [List.set_cons_zero]))
          refine wpAnyH_take (i := 18) (oi := _) (v := ?vk218) (by simp only [List.getElem?_toArray, List.getElem?_cons_succ, List.getElem?_cons_zero]; rfl) (by kernel_rfl) (by kernel_rfl) (by kernel_rfl) (by intro _ _ _ h; exact h) (Or.inl ⟨by rfl, ?hyk218⟩) (by assumption) ?restk218
          case hyk218 =>
            intro z hSz
            (try dsimp only at hSz)
            go_simp
            try with_reducible rfl
          ((try simp only [Act.put]); (try simp only [List.setIfInBounds_toArray]); (try simp only [List.set_cons_succ]); (try simp only [List.set_cons_zero]))
          refine wpAnyH_take (i := 19) (oi := _) (v := ?vk219) (by simp only [List.getElem?_toArray, List.getElem?_cons_succ, List.getElem?_cons_zero]; rfl) (by kernel_rfl) (by kernel_rfl) (by kernel_rfl) (by intro _ _ _ h; exact h) (Or.inl ⟨by rfl, ?hyk219⟩) (by assumption) ?restk219
          case hyk219 =>
            intro z hSz
            (try dsimp only at hSz)
            go_simp
            try with_reducible rfl
          ((try simp only [Act.put]); (try simp only [List.setIfInBounds_toArray]); (try simp only [List.set_cons_succ]); (try simp only [List.set_cons_zero]))
          refine wpAnyH_take (i := 20) (oi := _) (v := undef) (by simp only [List.getElem?_toArray, List.getElem?_cons_succ, List.getElem?_cons_zero]; rfl) (by kernel_rfl) (by kernel_rfl) (by kernel_rfl) (by intro _ _ _ h; exact h) (Or.inr ⟨by rfl, rfl⟩) (by assumption) ?_
          ((try simp only [Act.put]); (try simp only [List.setIfInBounds_toArray]); (try simp only [List.set_cons_succ]); (try simp only [List.set_cons_zero]))
          refine wpAnyH_take (i := 21) (oi := _) (v := undef) (by simp only [List.getElem?_toArray, List.getElem?_cons_succ, List.getElem?_cons_zero]; rfl) (by kernel_rfl) (by kernel_rfl) (by kernel_rfl) (by intro _ _ _ h; exact h) (Or.inr ⟨by rfl, rfl⟩) (by assumption) ?_
          ((try simp only [Act.put]); (try simp only [List.setIfInBounds_toArray]); (try simp only [List.set_cons_succ]); (try simp only [List.set_cons_zero]))
          refine wpAnyH_take (i := 22) (oi := _) (v := undef) (by simp only [List.getElem?_toArray, List.getElem?_cons_succ, List.getElem?_cons_zero]; rfl) (by kernel_rfl) (by kernel_rfl) (by kernel_rfl) (by intro _ _ _ h; exact h) (Or.inr ⟨by rfl, rfl⟩) (by assumption) ?_
          ((try simp only [Act.put]); (try simp only [List.setIfInBounds_toArray]); (try simp only [List.set_cons_succ]); (try simp only [List.set_cons_zero]))
          refine wpAnyH_take (i := 23) (oi := _) (v := ?vk223) (by simp only [List.getElem?_toArray, List.getElem?_cons_succ, List.getElem?_cons_zero]; rfl) (by kernel_rfl) (by kernel_rfl) (by kernel_rfl) (by intro _ _ _ h; exact h) (Or.inl ⟨by rfl, ?hyk223⟩) (by assumption) ?restk223
          case hyk223 =>
            intro z hSz
            (try dsimp only at hSz)
            go_simp
            try with_reducible rfl
          ((try simp only [Act.put]); (try simp only [List.setIfInBounds_toArray]); (try simp only [List.set_cons_succ]); (try simp only [List.set_cons_zero]))
          refine wpAnyH_take (i := 24) (oi := _) (v := ?vk224) (by simp only [List.getElem?_toArray, List.getElem?_cons_succ, List.getElem?_cons_zero]; rfl) (by kernel_rfl) (by kernel_rfl) (by kernel_rfl) (by intro _ _ _ h; exact h) (Or.inl ⟨by rfl, ?hyk224⟩) (by assumption) ?restk224
          case hyk224 =>
            intro z hSz
            (try dsimp only at hSz)
            go_simp
            try with_reducible rfl
          ((try simp only [Act.put]); (try simp only [List.setIfInBounds_toArray]); (try simp only [List.set_cons_succ]); (try simp only [List.set_cons_zero]))
          refine wpAnyH_take (i := 25) (oi := _) (v := ?vk225) (by simp only [List.getElem?_toArray, List.getElem?_cons_succ, List.getElem?_cons_zero]; rfl) (by kernel_rfl) (by kernel_rfl) (by kernel_rfl) (by intro _ _ _ h; exact h) (Or.inl ⟨by rfl, ?hyk225⟩) (by assumption) ?restk225
          case hyk225 =>
            intro z hSz
            (try dsimp only at hSz)
            go_simp
            try with_reducible rfl
          ((try simp only [Act.put]); (try simp only [List.setIfInBounds_toArray]); (try simp only [List.set_cons_succ]); (try simp only [List.set_cons_zero]))
          refine wpAnyH_take (i := 26) (oi := _) (v := ?vk226) (by simp only [List.getElem?_toArray, List.getElem?_cons_succ, List.getElem?_cons_zero]; rfl) (by kernel_rfl) (by kernel_rfl) (by kernel_rfl) (by intro _ _ _ h; exact h) (Or.inl ⟨by rfl, ?hyk226⟩) (by assumption) ?restk226
          case hyk226 =>
            intro z hSz
            (try dsimp only at hSz)
            go_simp
            try with_reducible rfl
          ((try simp only [Act.put]); (try simp only [List.setIfInBounds_toArray]); (try simp only [List.set_cons_succ]); (try simp only [List.set_cons_zero]))
          refine wpAnyH_done (by kernel_rfl) ?_ _
          have hw9 := bwstep hw7 (by assumption : cmD.In w.heap.size c w8 ∧ Kd w8 ∧ w8.cell? ⟨w.heap.size, 0, none⟩ = some (.int .i64 c.client) ∧ w8.cell? ⟨w.heap.size, 1, none⟩ = some (.int .i64 c.seq) ∧ w8.cell? ⟨w.heap.size, 2, none⟩ = some (.int .i64 2) ∧ w8.cell? ⟨w.heap.size, 3, none⟩ = some (.string c.row) ∧ w8.cell? ⟨w.heap.size, 4, none⟩ = some (.string c.col) ∧ w8.cell? ⟨w.heap.size, 5, none⟩ = some (.string c.to_) ∧ w8.cell? ⟨w.heap.size, 6, none⟩ = some (.int .i64 c.at_) ∧ w8.cell? ⟨w.heap.size, 7, none⟩ = some (.string c.value) ∧ w8.cell? ⟨w.heap.size, 8, none⟩ = some (.string c.expect) ∧ w8.cell? ⟨w.heap.size, 9, none⟩ = some (.bool c.has) ∧ Below w7.heap.size w7 w8).2.2.2.2.2.2.2.2.2.2.2.2
          clear HT HU hbx hb8 hpt hwr hk7 hI7 hw7
          go_wp2_with fail
          go_ret
          exact ⟨rfl, hw9⟩
        · have HT := Lib.hid (s15_of hk (wb := w7) (z := w7.drew) (hI7.kept rfl) (hk7.up (Below.refl _ _).drew) (Below.refl _ _).drew)
          have HU := Lib.hid fun (a b : World) h hb => s15_up hk (g := w.heap.size) (wb := w7) (z := a) (z' := b) h hb
          have ev : c.v = .agg #[.int .i64 c.client, .int .i64 c.seq, .int .i64 3, .string c.row, .string c.col, .string c.to_, .int .i64 c.at_, .string c.value, .string c.expect, .bool c.has] := by unfold Cm.v Cm.cs; rw [hk]
          rw [hk] at hwr
          simp only [Int.reduceToNat, ptOf] at hwr
          rw [ev] at hwr hpt
          clear hk ew ev
          go_wp2_with fail
          go_region_held3 (fun z => cmD.In w.heap.size c z ∧ Kd z ∧ z.cell? ⟨w.heap.size, 0, none⟩ = some (.int .i64 c.client) ∧ z.cell? ⟨w.heap.size, 1, none⟩ = some (.int .i64 c.seq) ∧ z.cell? ⟨w.heap.size, 2, none⟩ = some (.int .i64 3) ∧ z.cell? ⟨w.heap.size, 3, none⟩ = some (.string c.row) ∧ z.cell? ⟨w.heap.size, 4, none⟩ = some (.string c.col) ∧ z.cell? ⟨w.heap.size, 5, none⟩ = some (.string c.to_) ∧ z.cell? ⟨w.heap.size, 6, none⟩ = some (.int .i64 c.at_) ∧ z.cell? ⟨w.heap.size, 7, none⟩ = some (.string c.value) ∧ z.cell? ⟨w.heap.size, 8, none⟩ = some (.string c.expect) ∧ z.cell? ⟨w.heap.size, 9, none⟩ = some (.bool c.has) ∧ Below w7.heap.size w7 z) (first | exact HT.out | assumption | exact HU.out _ _ (by assumption) (by assumption))
            (first
              | (go_at_call 13; refine (hpt _).mono ?_; rintro e wx ⟨rfl, hbx⟩)
              | (go_at_call 14; refine (hwr _ (And.left (And.right (by assumption)))).mono ?_; rintro e w8 ⟨rfl, hb8⟩))
          have hw9 := bwstep hw7 (by assumption : cmD.In w.heap.size c w8 ∧ Kd w8 ∧ w8.cell? ⟨w.heap.size, 0, none⟩ = some (.int .i64 c.client) ∧ w8.cell? ⟨w.heap.size, 1, none⟩ = some (.int .i64 c.seq) ∧ w8.cell? ⟨w.heap.size, 2, none⟩ = some (.int .i64 3) ∧ w8.cell? ⟨w.heap.size, 3, none⟩ = some (.string c.row) ∧ w8.cell? ⟨w.heap.size, 4, none⟩ = some (.string c.col) ∧ w8.cell? ⟨w.heap.size, 5, none⟩ = some (.string c.to_) ∧ w8.cell? ⟨w.heap.size, 6, none⟩ = some (.int .i64 c.at_) ∧ w8.cell? ⟨w.heap.size, 7, none⟩ = some (.string c.value) ∧ w8.cell? ⟨w.heap.size, 8, none⟩ = some (.string c.expect) ∧ w8.cell? ⟨w.heap.size, 9, none⟩ = some (.bool c.has) ∧ Below w7.heap.size w7 w8).2.2.2.2.2.2.2.2.2.2.2.2
          clear HT HU hbx hb8 hpt hwr hk7 hI7 hw7
          go_wp2_with fail
          go_ret
          exact ⟨rfl, hw9⟩
        · have HT := Lib.hid (s15_of hk (wb := w7) (z := w7.drew) (hI7.kept rfl) (hk7.up (Below.refl _ _).drew) (Below.refl _ _).drew)
          have HU := Lib.hid fun (a b : World) h hb => s15_up hk (g := w.heap.size) (wb := w7) (z := a) (z' := b) h hb
          have ev : c.v = .agg #[.int .i64 c.client, .int .i64 c.seq, .int .i64 4, .string c.row, .string c.col, .string c.to_, .int .i64 c.at_, .string c.value, .string c.expect, .bool c.has] := by unfold Cm.v Cm.cs; rw [hk]
          rw [hk] at hwr
          simp only [Int.reduceToNat, ptOf] at hwr
          rw [ev] at hwr hpt
          clear hk ew ev
          go_wp2_with fail
          go_region_held3 (fun z => cmD.In w.heap.size c z ∧ Kd z ∧ z.cell? ⟨w.heap.size, 0, none⟩ = some (.int .i64 c.client) ∧ z.cell? ⟨w.heap.size, 1, none⟩ = some (.int .i64 c.seq) ∧ z.cell? ⟨w.heap.size, 2, none⟩ = some (.int .i64 4) ∧ z.cell? ⟨w.heap.size, 3, none⟩ = some (.string c.row) ∧ z.cell? ⟨w.heap.size, 4, none⟩ = some (.string c.col) ∧ z.cell? ⟨w.heap.size, 5, none⟩ = some (.string c.to_) ∧ z.cell? ⟨w.heap.size, 6, none⟩ = some (.int .i64 c.at_) ∧ z.cell? ⟨w.heap.size, 7, none⟩ = some (.string c.value) ∧ z.cell? ⟨w.heap.size, 8, none⟩ = some (.string c.expect) ∧ z.cell? ⟨w.heap.size, 9, none⟩ = some (.bool c.has) ∧ Below w7.heap.size w7 z) (first | exact HT.out | assumption | exact HU.out _ _ (by assumption) (by assumption))
            (first
              | (go_at_call 13; refine (hpt _).mono ?_; rintro e wx ⟨rfl, hbx⟩)
              | (go_at_call 14; refine (hwr _ (And.left (And.right (by assumption)))).mono ?_; rintro e w8 ⟨rfl, hb8⟩))
          have hw9 := bwstep hw7 (by assumption : cmD.In w.heap.size c w8 ∧ Kd w8 ∧ w8.cell? ⟨w.heap.size, 0, none⟩ = some (.int .i64 c.client) ∧ w8.cell? ⟨w.heap.size, 1, none⟩ = some (.int .i64 c.seq) ∧ w8.cell? ⟨w.heap.size, 2, none⟩ = some (.int .i64 4) ∧ w8.cell? ⟨w.heap.size, 3, none⟩ = some (.string c.row) ∧ w8.cell? ⟨w.heap.size, 4, none⟩ = some (.string c.col) ∧ w8.cell? ⟨w.heap.size, 5, none⟩ = some (.string c.to_) ∧ w8.cell? ⟨w.heap.size, 6, none⟩ = some (.int .i64 c.at_) ∧ w8.cell? ⟨w.heap.size, 7, none⟩ = some (.string c.value) ∧ w8.cell? ⟨w.heap.size, 8, none⟩ = some (.string c.expect) ∧ w8.cell? ⟨w.heap.size, 9, none⟩ = some (.bool c.has) ∧ Below w7.heap.size w7 w8).2.2.2.2.2.2.2.2.2.2.2.2
          clear HT HU hbx hb8 hpt hwr hk7 hI7 hw7
          go_wp2_with fail
          go_ret
          exact ⟨rfl, hw9⟩
        · have HT := Lib.hid (s15_of hk (wb := w7) (z := w7.drew) (hI7.kept rfl) (hk7.up (Below.refl _ _).drew) (Below.refl _ _).drew)
          have HU := Lib.hid fun (a b : World) h hb => s15_up hk (g := w.heap.size) (wb := w7) (z := a) (z' := b) h hb
          have ev : c.v = .agg #[.int .i64 c.client, .int .i64 c.seq, .int .i64 5, .string c.row, .string c.col, .string c.to_, .int .i64 c.at_, .string c.value, .string c.expect, .bool c.has] := by unfold Cm.v Cm.cs; rw [hk]
          rw [hk] at hwr
          simp only [Int.reduceToNat, ptOf] at hwr
          rw [ev] at hwr hpt
          clear hk ew ev
          go_wp2_with fail
          go_region_held3 (fun z => cmD.In w.heap.size c z ∧ Kd z ∧ z.cell? ⟨w.heap.size, 0, none⟩ = some (.int .i64 c.client) ∧ z.cell? ⟨w.heap.size, 1, none⟩ = some (.int .i64 c.seq) ∧ z.cell? ⟨w.heap.size, 2, none⟩ = some (.int .i64 5) ∧ z.cell? ⟨w.heap.size, 3, none⟩ = some (.string c.row) ∧ z.cell? ⟨w.heap.size, 4, none⟩ = some (.string c.col) ∧ z.cell? ⟨w.heap.size, 5, none⟩ = some (.string c.to_) ∧ z.cell? ⟨w.heap.size, 6, none⟩ = some (.int .i64 c.at_) ∧ z.cell? ⟨w.heap.size, 7, none⟩ = some (.string c.value) ∧ z.cell? ⟨w.heap.size, 8, none⟩ = some (.string c.expect) ∧ z.cell? ⟨w.heap.size, 9, none⟩ = some (.bool c.has) ∧ Below w7.heap.size w7 z) (first | exact HT.out | assumption | exact HU.out _ _ (by assumption) (by assumption))
            (first
              | (go_at_call 13; refine (hpt _).mono ?_; rintro e wx ⟨rfl, hbx⟩)
              | (go_at_call 14; refine (hwr _ (And.left (And.right (by assumption)))).mono ?_; rintro e w8 ⟨rfl, hb8⟩))
          have hw9 := bwstep hw7 (by assumption : cmD.In w.heap.size c w8 ∧ Kd w8 ∧ w8.cell? ⟨w.heap.size, 0, none⟩ = some (.int .i64 c.client) ∧ w8.cell? ⟨w.heap.size, 1, none⟩ = some (.int .i64 c.seq) ∧ w8.cell? ⟨w.heap.size, 2, none⟩ = some (.int .i64 5) ∧ w8.cell? ⟨w.heap.size, 3, none⟩ = some (.string c.row) ∧ w8.cell? ⟨w.heap.size, 4, none⟩ = some (.string c.col) ∧ w8.cell? ⟨w.heap.size, 5, none⟩ = some (.string c.to_) ∧ w8.cell? ⟨w.heap.size, 6, none⟩ = some (.int .i64 c.at_) ∧ w8.cell? ⟨w.heap.size, 7, none⟩ = some (.string c.value) ∧ w8.cell? ⟨w.heap.size, 8, none⟩ = some (.string c.expect) ∧ w8.cell? ⟨w.heap.size, 9, none⟩ = some (.bool c.has) ∧ Below w7.heap.size w7 w8).2.2.2.2.2.2.2.2.2.2.2.2
          clear HT HU hbx hb8 hpt hwr hk7 hI7 hw7
          go_wp2_with fail
          go_ret
          exact ⟨rfl, hw9⟩
      · rw [show putS c = ⟨#[]⟩ from if_neg hR, show putE c = 7 by unfold putE; rw [if_pos hS, if_neg hR]]
        rw [decide_eq_false hR] at hrr ⊢
        clear hS hR
        go_wp2_with (refine St.load cmOk rfl (.tmp 1) rfl rfl hI5 ?_)
        refine (hsd _).mono ?_
        rintro e w6 ⟨rfl, hb6⟩
        have hI6 := hI5.up hb6
        have hw6 := bwstep hw5 hb6
        clear hI5 hw5 hb6 hsd
        go_wp2_with (refine St.load cmOk rfl (.tmp 1) rfl rfl hI6 ?_)
        refine (hrr _).mono ?_
        rintro e w7 ⟨rfl, hb7⟩
        have hw7 := bwstep hw6 hb7
        clear hI6 hw6 hb7 hrr
        go_wp2_with fail
        go_ret
        exact ⟨rfl, hw7⟩
    · rw [show putS c = ⟨#[]⟩ from if_neg fun h => hS h.1, show putE c = 1 from if_neg hS]
      rw [decide_eq_false hS] at hsd
      rw [decide_eq_false fun h : c.Right => hS h.1]
      clear hS hrr
      go_wp2_with (refine St.load cmOk rfl (.tmp 1) rfl rfl hI5 ?_)
      refine (hsd _).mono ?_
      rintro e w6 ⟨rfl, hb6⟩
      have hw6 := bwstep hw5 hb6
      clear hI5 hw5 hb6 hsd
      go_wp2_with fail
      go_ret
      exact ⟨rfl, hw6⟩
  · rw [decide_eq_false hs] at hsm
    clear hs hp hr hrr hsd
    go_enter Tryd.func3, Tryd.ntmps3
    go_wp2_with (refine St.box cmD rfl (.tmp 0) c rfl rfl ?_)
    constructor
    intro w1 hI1 hw1 hz1
    clear hz1
    go_wp2_with fail
    refine (ha _ (HK.out.up hw1)).mono ?_
    rintro e w2 ⟨rfl, hb2⟩
    have hI2 := hI1.up hb2
    have hw2 := bwstep hw1 hb2
    clear hI1 hw1 hb2
    go_wp2_with (refine St.load cmOk rfl (.tmp 1) rfl rfl hI2 ?_)
    refine (hsm _).mono ?_
    rintro e w3 ⟨rfl, hb3⟩
    have hw3 := bwstep hw2 hb3
    clear hI2 hw2 hb3 hsm
    go_wp2_with fail
    refine (ha _ (HK.out.up hw3)).mono ?_
    rintro e w4 ⟨rfl, hb4⟩
    have hw4 := bwstep hw3 hb4
    clear hw3 hb4
    go_wp2_with fail
    go_ret
    exact ⟨rfl, hw4⟩
end Go.Proofs.YtkpdadnmbjmfpaaDoor.Ce
