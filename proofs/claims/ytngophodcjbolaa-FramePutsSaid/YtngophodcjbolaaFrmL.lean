/- The statement FramePuts: its walk, to the end. -/
import Derived.Test.YtngophodcjbolaaFrmK
import Derived.Deep.RegionHeld3
namespace Go.Proofs.Ytngophodcjbolaa
open Go.RowKit Crc Frm

set_option maxHeartbeats 2000000 in
set_option maxRecDepth 100000 in
theorem framePuts_walk (x : Value) (n : Nat) (g : Nat → List UInt8) (long : Bool) (w : World) (hx : RdM w w.heap.size x n g) (hz : ∀ i, i < n → (g i).length ≤ 140737488351232) :
    Calls Try.prog 3 #[x, .bool long] w fun e w' => e = .returned (.bool true) ∧ Below w.heap.size w w' := by
  obtain ⟨L, hL, hLz⟩ := hx.list hz
  clear hx hz
  obtain ⟨A, c, rfl, hc, hm⟩ := hL.shape
  unfold maxLen at hm
  go_enter Try.func3, Try.ntmps3
  go_wp2_with fail
  refine (fawake_ok _).mono ?_
  rintro e w1 ⟨rfl, hb1⟩
  go_wp2_with fail
  refine (rffew_any _ L _ _ (hL.up hb1) hLz).mono ?_
  rintro e w2 ⟨⟨q, rfl, hq⟩, rfl⟩
  cases q
  · go_wp2_with fail
    refine (fawake_ok _).mono ?_
    rintro e w3 ⟨rfl, hb3⟩
    go_wp2_with fail
    go_ret
    exact ⟨rfl, bwstep hb1 hb3⟩
  · obtain ⟨h100, h5⟩ := hq rfl
    have hrows := few_rows h5
    have hfl := flat_len L
    have hfl : (flat L).length ≤ 6200 := by omega
    have hL1 := hL.up hb1
    clear hq hL
    go_wp2_with fail
    go_loopw [5, 6] (fun p i wr => ∃ k : Nat, k ≤ L.length ∧ i = .int .i64 (k : Int) ∧ Ow wr w2.heap.size 5 p ((flat (L.take k)).map bv) ∧ Below w2.heap.size w2 wr) (fun _ i _ => L.length - (intOf i).toNat)
    case atStart => exact ⟨0, by omega, rfl, Ow.nilB _ _ _, Below.refl _ _⟩
    case round =>
      obtain ⟨k, hk, rfl, ho, hbw⟩ := hrel
      by_cases hlt : k < L.length
      · obtain ⟨b, off, rfl, hbb⟩ := hL1.open_ (by omega)
        obtain ⟨A1, c1, hcell, h1c, h1m, hrow⟩ := (hL1.up hbw).row hlt
        have hpg := gl_at L hlt
        rw [hpg] at hcell hrow h1c
        have hp5 := hrows _ (List.getElem_mem hlt)
        have HS := Lib.hid (flat_snoc L k hlt)
        have hle : (flat (L.take k)).length + (frm L[k]).length ≤ 140737488355328 := by
          have := flat_take_le L (k + 1)
          rw [HS.out, List.length_append] at this
          omega
        generalize L[k] = p at *
        clear hpg
        unfold maxLen at h1m
        have HT : Hid (wr.drew.cell? ⟨b, off + k, none⟩ = some (.slice A1 p.length c1) ∧ Below wr.heap.size wr wr.drew) := Lib.hid ⟨hcell, (Below.refl _ _).drew⟩
        have HU : Hid (∀ a z : World, (a.cell? ⟨b, off + k, none⟩ = some (.slice A1 p.length c1) ∧ Below wr.heap.size wr a) → Below a.heap.size a z → (z.cell? ⟨b, off + k, none⟩ = some (.slice A1 p.length c1) ∧ Below wr.heap.size wr z)) :=
          Lib.hid fun a z hS h => ⟨(h.cell (Nat.lt_of_lt_of_le hbb (Nat.le_trans hbw.size hS.2.size))).trans hS.1, bwstep hS.2 h⟩
        go_wp2_with fail
        go_region_held3 (fun w' => w'.cell? ⟨b, off + k, none⟩ = some (.slice A1 p.length c1) ∧ Below wr.heap.size wr w') (first | exact HT.out | assumption | exact HU.out _ _ (by assumption) (by assumption))
          (first
            | (go_at_call 12; refine (fput_ok _ p _ (hrow.up (And.right (by assumption))) hp5).mono ?_; rintro e wa ⟨⟨y1, rfl, h1⟩, hba⟩)
            | (go_at_call 13; refine (rfput_ok _ p _ (hrow.up (And.right (by assumption))) hp5).mono ?_; rintro e wb ⟨⟨y2, rfl, h2⟩, hbb2⟩)
            | (go_at_call 11; refine (rsame_bel _ _ _ _ _ _ _ (h1.rd.up hbb2) h2.rd).mono ?_; rintro e wc ⟨rfl, hbc⟩; rw [sameB_self]))
        obtain ⟨hcell9, hb9⟩ := (by assumption : wc.cell? ⟨b, off + k, none⟩ = some (.slice A1 p.length c1) ∧ Below wr.heap.size wr wc)
        have hrow9 := hrow.up hb9
        have ho := ho.below hb9
        have hbw := bwstep hbw hb9
        clear HT HU hb9 hbc hbb2 hba h1 h2 hcell hrow
        go_wp2_with fail
        refine (rfput_ok _ p _ hrow9 hp5).mono ?_
        rintro e wd ⟨⟨y3, rfl, h3⟩, hb3⟩
        have ho := ho.below hb3
        have hbw := bwstep hbw hb3
        have hsz := hbw.size
        have h3 := h3.rd
        go_wp2_with (at_builtin; refine wpList_appB bytesT rfl (.tmp 33) (.tmp 38) rfl rfl ho rfl h3 hle hsz ?_; intro v' w' ho3 hg h3; have HB := Lib.hid (hbw.grown hg hsz ho.ge); have HO := Lib.hid ho3; clear ho3 hg h3)
        go_roundw
        case rel => exact ⟨k + 1, by omega, by go_num, by rw [HS.out]; exact HO.out, HB.out⟩
        case measure => simp [intOf]; omega
      · obtain rfl : k = L.length := by omega
        rw [List.take_length] at ho
        cases long
        · go_wp2_with fail
          refine (all_any _ L _ (hL1.up hbw) hrows (by omega)).mono ?_
          rintro e w3 ⟨⟨v3, rfl, h3⟩, hb3⟩
          have ho := ho.below hb3
          have hbb := bwstep (bwstep hb1 hbw) hb3
          go_wp2_with fail
          refine (rsame_bel _ _ _ _ _ _ _ h3.rd ho.rd).mono ?_
          rintro e w4 ⟨rfl, hb4⟩
          rw [sameB_self]
          go_wp2_with fail
          go_ret
          exact ⟨rfl, bwstep hbb hb4⟩
        · go_wp2_with (at_make; refine wpList_makeBg bytesT (by rfl) (.const (.int .i64 65536)) (.const (.int .i64 65536)) rfl 65536 (kl := .i64) (kc := .i64) rfl rfl (by omega) ?_; intro w6 h6 hb6; have hz6 : (List.replicate 65536 (0 : UInt8)).length = 65536 := List.length_replicate; generalize List.replicate 65536 (0 : UInt8) = z6 at h6 hz6)
          refine (fput_long _ z6 _ _ h6.rd (by omega)).mono ?_
          rintro e w7 ⟨rfl, rfl⟩
          have ho := ho.below hb6
          have hbw := bwstep hbw hb6
          clear h6 hb6
          go_wp2_with (at_make; refine wpList_makeBg bytesT (by rfl) (.const (.int .i64 65535)) (.const (.int .i64 65535)) rfl 65535 (kl := .i64) (kc := .i64) rfl rfl (by omega) ?_; intro w8 h8 hb8; have hz8 : (List.replicate 65535 (0 : UInt8)).length = 65535 := List.length_replicate; generalize List.replicate 65535 (0 : UInt8) = z8 at h8 hz8)
          refine (fput_ok _ z8 _ h8.rd (by omega)).mono ?_
          rintro e w9 ⟨⟨v9, rfl, h9⟩, hb9⟩
          obtain ⟨A9, c9, rfl, -, -⟩ := h9.rd.shapeM
          rw [frm_len, hz8]
          have ho := (ho.below hb8).below hb9
          have hbw := bwstep (bwstep hbw hb8) hb9
          clear h8 hb8 h9 hb9
          go_wp2_with fail
          refine (all_any _ L _ (hL1.up hbw) hrows (by omega)).mono ?_
          rintro e w3 ⟨⟨v3, rfl, h3⟩, hb3⟩
          have ho := ho.below hb3
          have hbb := bwstep (bwstep hb1 hbw) hb3
          go_wp2_with fail
          refine (rsame_bel _ _ _ _ _ _ _ h3.rd ho.rd).mono ?_
          rintro e w4 ⟨rfl, hb4⟩
          rw [sameB_self]
          go_wp2_with fail
          go_ret
          exact ⟨rfl, bwstep hbb hb4⟩
end Go.Proofs.Ytngophodcjbolaa
