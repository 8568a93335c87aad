/- awake of layer 5. -/
import Derived.Test.YtfnenehiapibiaaDec
import Derived.Test.YtfnenehiapibiaaRAgr
namespace Go.Proofs.Ytfnenehiapibiaa
open Go.RowKit
open Mx (rw rw_len rw_get rw_congr dl cod mm fm sm)

/-- 'hello' -/
abbrev hel : ByteArray := ⟨#[104, 101, 108, 108, 111]⟩
theorem RdM.four {w : World} {B : Nat} {A : Option Addr} {c : Nat} {v0 v1 v2 v3 : Value} {l0 l1 l2 l3 : List UInt8} (h : Rd w B (.slice A 4 c) [v0, v1, v2, v3]) (h0 : Rd w B v0 (l0.map bv)) (h1 : Rd w B v1 (l1.map bv)) (h2 : Rd w B v2 (l2.map bv)) (h3 : Rd w B v3 (l3.map bv)) :
    RdM w B (.slice A 4 c) 4 (fun i => [l0, l1, l2, l3].getD i []) := by
  refine ⟨fun i => [v0, v1, v2, v3].getD i undef, h, fun j hj => ?_⟩
  match j, hj with
  | 0, _ => exact h0
  | 1, _ => exact h1
  | 2, _ => exact h2
  | 3, _ => exact h3
theorem new4 {w : World} {v0 v1 v2 v3 : Value} {l0 l1 l2 l3 : List UInt8} (h0 : Rd w w.heap.size v0 (l0.map bv)) (h1 : Rd w w.heap.size v1 (l1.map bv)) (h2 : Rd w w.heap.size v2 (l2.map bv)) (h3 : Rd w w.heap.size v3 (l3.map bv)) :
    RdM (w.alloc (.cells #[v0, v1, v2, v3] 39)) (w.alloc (.cells #[v0, v1, v2, v3] 39)).heap.size (.slice (some ⟨w.heap.size, 0, none⟩) 4 4) 4 (fun i => [l0, l1, l2, l3].getD i []) := by
  have hb := bwalloc (bwrefl w) (.cells #[v0, v1, v2, v3] 39)
  exact RdM.four (Rd.newW w 39 #[v0, v1, v2, v3] rfl (by simp [maxLen]) rfl) (h0.up hb) (h1.up hb) (h2.up hb) (h3.up hb)
theorem hel_len (i : Nat) : (shR 2 hel i).length = 5 := rw_len _ _
theorem hand13 (l1 l3 : List UInt8) (h1 : l1.length = 5) (h3 : l3.length = 5) : hand 4 (fun i => [[], l1, [], l3].getD i []) = [1, 3] := by
  simp [hand, List.range, List.range.loop, List.filter, h1, h3]
theorem hand0 (l0 : List UInt8) (h0 : l0.length = 5) : hand 4 (fun i => [l0, [], [], []].getD i []) = [0] := by
  simp [hand, List.range, List.range.loop, List.filter, h0]
theorem fits13 : Fits 2 4 (fun i => [[], shR 2 hel 1, [], shR 2 hel 3].getD i []) hel := by
  intro i hi
  rw [hand13 _ _ (hel_len 1) (hel_len 3)] at hi
  rcases List.mem_cons.1 hi with rfl | hi
  · rfl
  · rw [List.mem_singleton] at hi
    subst hi
    rfl
theorem dec13 (w : World) (v : Value) (hr : RdM w w.heap.size v 4 (fun i => [[], shR 2 hel 1, [], shR 2 hel 3].getD i [])) :
    Calls Try.prog 19 #[shp 2 1, v] w fun e w' => e = .returned (.tuple #[.string hel, .int .i64 0]) ∧ Below w.heap.size w w' := by
  have hh := hand13 _ _ (hel_len 1) (hel_len 3)
  refine (decode_any 2 1 4 v _ w ⟨by omega, by omega⟩ rfl hr (by rw [hh]; simp) (fun i hi => ?_)).mono ?_
  · match i, hi with
    | 0, _ => simp
    | 1, _ => show (shR 2 hel 1).length ≤ 1000; rw [hel_len]; omega
    | 2, _ => simp
    | 3, _ => show (shR 2 hel 3).length ≤ 1000; rw [hel_len]; omega
  · rintro e w' ⟨⟨-, hno⟩ | ⟨s, rfl, -, -, hu⟩, hb⟩
    · exact absurd fits13 (hno hel (by decide))
    · rw [hu hel (by decide) fits13]
      exact ⟨rfl, hb⟩
theorem reb13 (w : World) (v : Value) (hr : RdM w w.heap.size v 4 (fun i => [[], shR 2 hel 1, [], shR 2 hel 3].getD i [])) :
    Calls Try.prog 21 #[shp 2 1, v, .int .i64 2] w fun e w' => (∃ y, e = .returned (.tuple #[y, .int .i64 0]) ∧ Ow w' w.heap.size 5 y ((shR 2 hel 2).map bv)) ∧ Below w.heap.size w w' := by
  have hh := hand13 _ _ (hel_len 1) (hel_len 3)
  refine (rebuild_any 2 1 4 2 v _ w ⟨by omega, by omega⟩ rfl (by omega) hr (by rw [hh]; simp) (fun i hi => ?_)).mono ?_
  · match i, hi with
    | 0, _ => simp
    | 1, _ => show (shR 2 hel 1).length ≤ 1000; rw [hel_len]; omega
    | 2, _ => simp
    | 3, _ => show (shR 2 hel 3).length ≤ 1000; rw [hel_len]; omega
  · rintro e w' ⟨⟨-, hno⟩ | ⟨s, y, rfl, -, -, hy, hu⟩, hb⟩
    · exact absurd fits13 (hno hel (by decide))
    · rw [hu hel (by decide) fits13] at hy
      exact ⟨⟨y, rfl, hy⟩, hb⟩
theorem dec0 (w : World) (v : Value) (hr : RdM w w.heap.size v 4 (fun i => [shR 2 hel 0, [], [], []].getD i [])) :
    Calls Try.prog 19 #[shp 2 1, v] w fun e w' => e = .returned (.tuple #[.string ⟨#[]⟩, .int .i64 3]) ∧ Below w.heap.size w w' :=
  decode_short 2 1 4 v _ w ⟨by omega, by omega⟩ rfl hr (by rw [hand0 _ (hel_len 0)]; simp)
theorem enc_hel (w : World) : Calls Try.prog 10 #[shp 2 1, .string hel] w fun e w' => (∃ x vs, e = .returned (.tuple #[x, .int .i64 0]) ∧ OwM w' w.heap.size x vs 4 (shR 2 hel)) ∧ Below w.heap.size w w' :=
  encode_ok 2 1 4 hel w ⟨by omega, by omega⟩ rfl (by decide)
theorem shpN_hel (w : World) : Calls Try.prog 13 #[shp 2 1] w fun e w' => e = .returned (.int .i64 4) ∧ Below w.heap.size w w' := shpN_ok 2 1 4 w ⟨by omega, by omega⟩ rfl
theorem sm_self (a : List UInt8) : sameB a a = true := decide_eq_true rfl
set_option maxHeartbeats 8000000 in
set_option maxRecDepth 100000 in
theorem awake_ok (w : World) : Calls Try.prog 9 #[] w fun e w' => e = .returned (.bool true) ∧ Below w.heap.size w w' := by
  have hI := InBox.new w 2 1
  have hb := bwalloc (bwrefl w) (.cells #[.int .i64 2, .int .i64 1] 23)
  generalize hw0 : w.alloc (.cells #[.int .i64 2, .int .i64 1] 23) = w0 at *
  go_enter Try.func9, Try.ntmps9
  go_wp2_with (refine wpList_loadS rfl (.tmp 1) rfl rfl hI ?_)
  refine (enc_hel _).mono ?_
  rintro e w1 ⟨⟨x, vs, rfl, hx⟩, hb1⟩
  have hI1 := hI.below hb1
  have hbb := bwstep hb hb1
  have hx1 := hx.rd
  obtain ⟨A, c, rfl, hc, hcm⟩ := hx1.shape
  obtain ⟨b, off, rfl, hbx⟩ := hx1.open_ (by omega)
  unfold maxLen at hcm
  obtain ⟨A0, d0, k0, -, -, r0⟩ := hx1.rowT (j := 0) (by omega)
  obtain ⟨A1, d1, k1, -, -, r1⟩ := hx1.rowT (j := 1) (by omega)
  obtain ⟨A2, d2, k2, -, -, r2⟩ := hx1.rowT (j := 2) (by omega)
  obtain ⟨A3, d3, k3, -, -, r3⟩ := hx1.rowT (j := 3) (by omega)
  rw [Nat.add_zero] at k0
  clear hb hw0 hI hb1 hx
  have HB1 : Hid (∀ w', Below w1.heap.size w1 w' → RdM (w'.alloc (.cells #[.slice none 0 0, .slice A1 5 d1, .slice none 0 0, .slice A3 5 d3] 39)).drew (w'.alloc (.cells #[.slice none 0 0, .slice A1 5 d1, .slice none 0 0, .slice A3 5 d3] 39)).drew.heap.size (.slice (some ⟨w'.heap.size, 0, none⟩) 4 4) 4 (fun i => [[], shR 2 hel 1, [], shR 2 hel 3].getD i [])) :=
    Lib.hid fun w' hb => new4 (Rd.nil _ _) (r1.up hb) (Rd.nil _ _) (r3.up hb)
  have HB2 : Hid (∀ w', Below w1.heap.size w1 w' → RdM (w'.alloc (.cells #[.slice A0 5 d0, .slice none 0 0, .slice none 0 0, .slice none 0 0] 39)).drew (w'.alloc (.cells #[.slice A0 5 d0, .slice none 0 0, .slice none 0 0, .slice none 0 0] 39)).drew.heap.size (.slice (some ⟨w'.heap.size, 0, none⟩) 4 4) 4 (fun i => [shR 2 hel 0, [], [], []].getD i [])) :=
    Lib.hid fun w' hb => new4 (r0.up hb) (Rd.nil _ _) (Rd.nil _ _) (Rd.nil _ _)
  have hm5 : mlen 2 hel = 5 := rfl
  rw [hm5] at k0 k1 k2 k3 r2
  clear r0 r1 r3
  have hgx := hI1.lt
  have HUc : Hid (∀ a b' : World, Below a.heap.size a b' → Below w1.heap.size w1 a → ∀ q, q < w1.heap.size → ∀ j v, a.cell? ⟨q, j, none⟩ = some v → b'.cell? ⟨q, j, none⟩ = some v) := Lib.hid fun a b' h h0 q hq j v hv => (h.cell (p := ⟨q, j, none⟩) (Nat.lt_of_lt_of_le hq h0.size)).trans hv
  have S0 : w1.drew.cell? ⟨w.heap.size, 0, none⟩ = some (.int .i64 2) ∧ w1.drew.cell? ⟨w.heap.size, 1, none⟩ = some (.int .i64 1) ∧ w1.drew.cell? ⟨b, off, none⟩ = some (.slice A0 5 d0) ∧ w1.drew.cell? ⟨b, off + 1, none⟩ = some (.slice A1 5 d1) ∧ w1.drew.cell? ⟨b, off + 2, none⟩ = some (.slice A2 5 d2) ∧ w1.drew.cell? ⟨b, off + 3, none⟩ = some (.slice A3 5 d3) ∧ Below w1.heap.size w1 w1.drew := ⟨hI1.c0, hI1.c1, k0, k1, k2, k3, (Below.refl _ _).drew⟩
  have HU : Hid (∀ a b' : World, (a.cell? ⟨w.heap.size, 0, none⟩ = some (.int .i64 2) ∧ a.cell? ⟨w.heap.size, 1, none⟩ = some (.int .i64 1) ∧ a.cell? ⟨b, off, none⟩ = some (.slice A0 5 d0) ∧ a.cell? ⟨b, off + 1, none⟩ = some (.slice A1 5 d1) ∧ a.cell? ⟨b, off + 2, none⟩ = some (.slice A2 5 d2) ∧ a.cell? ⟨b, off + 3, none⟩ = some (.slice A3 5 d3) ∧ Below w1.heap.size w1 a) → Below a.heap.size a b' → (b'.cell? ⟨w.heap.size, 0, none⟩ = some (.int .i64 2) ∧ b'.cell? ⟨w.heap.size, 1, none⟩ = some (.int .i64 1) ∧ b'.cell? ⟨b, off, none⟩ = some (.slice A0 5 d0) ∧ b'.cell? ⟨b, off + 1, none⟩ = some (.slice A1 5 d1) ∧ b'.cell? ⟨b, off + 2, none⟩ = some (.slice A2 5 d2) ∧ b'.cell? ⟨b, off + 3, none⟩ = some (.slice A3 5 d3) ∧ Below w1.heap.size w1 b')) :=
    Lib.hid fun a b' ⟨i0, i1, h2, h3, h4, h5, h6⟩ h => ⟨HUc.out a b' h h6 _ hgx _ _ i0, HUc.out a b' h h6 _ hgx _ _ i1, HUc.out a b' h h6 _ hbx _ _ h2, HUc.out a b' h h6 _ hbx _ _ h3, HUc.out a b' h h6 _ hbx _ _ h4, HUc.out a b' h h6 _ hbx _ _ h5, bwstep h6 h⟩
  have HT := Lib.hid S0
  clear S0 hI1
  go_wp2_with fail
  go_region_held3 (fun w' => w'.cell? ⟨w.heap.size, 0, none⟩ = some (.int .i64 2) ∧ w'.cell? ⟨w.heap.size, 1, none⟩ = some (.int .i64 1) ∧ w'.cell? ⟨b, off, none⟩ = some (.slice A0 5 d0) ∧ w'.cell? ⟨b, off + 1, none⟩ = some (.slice A1 5 d1) ∧ w'.cell? ⟨b, off + 2, none⟩ = some (.slice A2 5 d2) ∧ w'.cell? ⟨b, off + 3, none⟩ = some (.slice A3 5 d3) ∧ Below w1.heap.size w1 w')
    (first | exact HT.out | assumption | exact HU.out _ _ (by assumption) (by assumption) | exact HU.out _ _ (by assumption) (bwalloc (bwrefl _) _) | exact HU.out _ _ (by assumption) ((Below.refl _ _).drew))
    (first
      | (go_at_call 19; refine (dec13 _ _ (HB1.out _ (bwrefl _))).mono ?_; rintro e w2 ⟨rfl, hb2⟩))
  obtain ⟨d1c, d2c, d3c, d4c, d5c, d6c, hbw⟩ := (by assumption : w2.cell? ⟨w.heap.size, 0, none⟩ = some (.int .i64 2) ∧ w2.cell? ⟨w.heap.size, 1, none⟩ = some (.int .i64 1) ∧ w2.cell? ⟨b, off, none⟩ = some (.slice A0 5 d0) ∧ w2.cell? ⟨b, off + 1, none⟩ = some (.slice A1 5 d1) ∧ w2.cell? ⟨b, off + 2, none⟩ = some (.slice A2 5 d2) ∧ w2.cell? ⟨b, off + 3, none⟩ = some (.slice A3 5 d3) ∧ Below w1.heap.size w1 w2)
  go_wp2_with fail
  go_region_held3 (fun w' => w'.cell? ⟨w.heap.size, 0, none⟩ = some (.int .i64 2) ∧ w'.cell? ⟨w.heap.size, 1, none⟩ = some (.int .i64 1) ∧ w'.cell? ⟨b, off, none⟩ = some (.slice A0 5 d0) ∧ w'.cell? ⟨b, off + 1, none⟩ = some (.slice A1 5 d1) ∧ w'.cell? ⟨b, off + 2, none⟩ = some (.slice A2 5 d2) ∧ w'.cell? ⟨b, off + 3, none⟩ = some (.slice A3 5 d3) ∧ Below w1.heap.size w1 w')
    (first | exact HT.out | assumption | exact HU.out _ _ (by assumption) (by assumption) | exact HU.out _ _ (by assumption) (bwalloc (bwrefl _) _) | exact HU.out _ _ (by assumption) ((Below.refl _ _).drew))
    (first
      | (go_at_call 21; refine (reb13 _ _ (HB1.out _ hbw)).mono ?_; rintro e w3 ⟨⟨y, rfl, hy⟩, hb3⟩))
  obtain ⟨e1c, e2c, e3c, e4c, e5c, e6c, hbw3⟩ := (by assumption : w3.cell? ⟨w.heap.size, 0, none⟩ = some (.int .i64 2) ∧ w3.cell? ⟨w.heap.size, 1, none⟩ = some (.int .i64 1) ∧ w3.cell? ⟨b, off, none⟩ = some (.slice A0 5 d0) ∧ w3.cell? ⟨b, off + 1, none⟩ = some (.slice A1 5 d1) ∧ w3.cell? ⟨b, off + 2, none⟩ = some (.slice A2 5 d2) ∧ w3.cell? ⟨b, off + 3, none⟩ = some (.slice A3 5 d3) ∧ Below w1.heap.size w1 w3)
  clear d1c d2c d3c d4c d5c d6c
  go_wp2_with fail
  go_region_held3 (fun w' => w'.cell? ⟨w.heap.size, 0, none⟩ = some (.int .i64 2) ∧ w'.cell? ⟨w.heap.size, 1, none⟩ = some (.int .i64 1) ∧ w'.cell? ⟨b, off, none⟩ = some (.slice A0 5 d0) ∧ w'.cell? ⟨b, off + 1, none⟩ = some (.slice A1 5 d1) ∧ w'.cell? ⟨b, off + 2, none⟩ = some (.slice A2 5 d2) ∧ w'.cell? ⟨b, off + 3, none⟩ = some (.slice A3 5 d3) ∧ Below w1.heap.size w1 w')
    (first | exact HT.out | assumption | exact HU.out _ _ (by assumption) (by assumption) | exact HU.out _ _ (by assumption) (bwalloc (bwrefl _) _) | exact HU.out _ _ (by assumption) ((Below.refl _ _).drew))
    (first
      | (go_at_call 19; refine (dec0 _ _ (HB2.out _ hbw3)).mono ?_; rintro e w4 ⟨rfl, hb4⟩))
  obtain ⟨f1c, f2c, f3c, f4c, f5c, f6c, hbw4⟩ := (by assumption : w4.cell? ⟨w.heap.size, 0, none⟩ = some (.int .i64 2) ∧ w4.cell? ⟨w.heap.size, 1, none⟩ = some (.int .i64 1) ∧ w4.cell? ⟨b, off, none⟩ = some (.slice A0 5 d0) ∧ w4.cell? ⟨b, off + 1, none⟩ = some (.slice A1 5 d1) ∧ w4.cell? ⟨b, off + 2, none⟩ = some (.slice A2 5 d2) ∧ w4.cell? ⟨b, off + 3, none⟩ = some (.slice A3 5 d3) ∧ Below w1.heap.size w1 w4)
  have hy4 := hy.rd.up (bwstep ((bwalloc (bwrefl w3) (.cells #[.slice A0 5 d0, .slice none 0 0, .slice none 0 0, .slice none 0 0] 39)).drew) hb4)
  have hr4 := r2.up hbw4
  obtain ⟨Ay, cy, rfl, -, -⟩ := hy.rd.shapeR
  have hss := rsame_any _ _ _ _ _ _ w4 hy4 hr4
  rw [show sameB (shR 2 hel 2) (rw 5 (shM 2 hel 2)) = true from (by rw [← hm5]; exact sm_self _)] at hss
  have hb9 := bwstep hbb hbw4
  clear e1c e2c e3c e4c e5c e6c HU HUc HB1 HB2 HT hy r2 k0 k1 k2 k3 hy4 hr4 hb2 hb3 hb4 hbw hbw3
  go_wp2_with fail
  refine hss.mono ?_
  rintro e w5 ⟨rfl, rfl⟩
  go_wp2_with fail
  refine (shpN_hel _).mono ?_
  rintro e w6 ⟨rfl, hb6⟩
  go_wp2_with fail
  go_ret
  exact ⟨rfl, bwstep hb9 hb6⟩
end Go.Proofs.Ytfnenehiapibiaa
