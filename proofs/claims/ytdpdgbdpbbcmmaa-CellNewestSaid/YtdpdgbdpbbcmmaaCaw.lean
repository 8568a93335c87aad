/- Layer 8's awake. -/
import Derived.Test.YtdpdgbdpbbcmmaaCso
import Derived.Test.YtdpdgbdpbbcmmaaCnw
import Derived.Test.YtdpdgbdpbbcmmaaCcut
namespace Go.Proofs.Ytdpdgbdpbbcmmaa.Ce
open Go.RowKit

def aC : Cl := ⟨⟨#[97]⟩, ⟨#[120]⟩, 9, ⟨#[118]⟩, false⟩
def bC : Cl := ⟨⟨#[97]⟩, ⟨#[120]⟩, 3, ⟨#[]⟩, false⟩
theorem aC_ok : aC.ok := ⟨by decide, by decide, by decide, by decide, by decide, by decide, by decide, by decide⟩
theorem bC_ok : bC.ok := ⟨by decide, by decide, by decide, by decide, by decide, by decide, by decide, by decide⟩
theorem ab_lt : klt aC bC := .inr ⟨rfl, .inr ⟨rfl, by decide⟩⟩
theorem ab_srt : Srt [aC, bC] := List.pairwise_cons.2 ⟨fun x hx => by rw [List.mem_singleton.1 hx]; exact ab_lt, List.pairwise_singleton _ _⟩
theorem ab_sorted : sortedB [aC, bC] = true := sortedB_true (sorted_iff.2 ⟨fun c hc => by
  rcases List.mem_cons.1 hc with rfl | hc
  · exact aC_ok
  · rw [List.mem_singleton.1 hc]; exact bC_ok, ab_srt⟩)
theorem ab_new : newest ⟨#[97]⟩ ⟨#[120]⟩ 5 [aC, bC] = some bC := by
  unfold newest
  rw [List.find?_cons_of_neg, List.find?_cons_of_pos]
  · exact decide_eq_true ⟨rfl, rfl, by decide⟩
  · simp only [decide_eq_true_eq]
    intro h
    exact absurd h.2.2 (by decide)
theorem two_rd (w : World) : RdL (w.alloc (.cells #[.string ⟨#[97]⟩, .string ⟨#[120]⟩, .int .i64 9, .string ⟨#[118]⟩, .bool false, .string ⟨#[97]⟩, .string ⟨#[120]⟩, .int .i64 3, .string ⟨#[]⟩, .bool false] 43)) [] (.slice (some ⟨w.heap.size, 0, none⟩) 2 2) [aC, bC] := RdL.two w [] aC bC (by simp) _
theorem aC_five {g : Nat} {w : World} (h : InC g aC w) : w.cell? ⟨g, 0, none⟩ = some (.string ⟨#[97]⟩) ∧ w.cell? ⟨g, 1, none⟩ = some (.string ⟨#[120]⟩) ∧ w.cell? ⟨g, 2, none⟩ = some (.int .i64 9) ∧ w.cell? ⟨g, 3, none⟩ = some (.string ⟨#[118]⟩) ∧ w.cell? ⟨g, 4, none⟩ = some (.bool false) := h.five
theorem bC_five {g : Nat} {w : World} (h : InC g bC w) : w.cell? ⟨g, 0, none⟩ = some (.string ⟨#[97]⟩) ∧ w.cell? ⟨g, 1, none⟩ = some (.string ⟨#[120]⟩) ∧ w.cell? ⟨g, 2, none⟩ = some (.int .i64 3) ∧ w.cell? ⟨g, 3, none⟩ = some (.string ⟨#[]⟩) ∧ w.cell? ⟨g, 4, none⟩ = some (.bool false) := h.five
set_option maxHeartbeats 4000000 in
set_option maxRecDepth 100000 in
theorem eawake_ok (w : World) : Calls Try.prog 19 #[] w fun e w' => e = .returned (.bool true) ∧ Below w.heap.size w w' := by
  go_enter Try.func19, Try.ntmps19
  go_wp2_with (refine allocC rfl rfl ?_)
  constructor
  intro w1 hI1 hb1 _hz1
  clear _hz1
  go_wp2_with (refine storeC (c := aC) rfl (.tmp 1) (.tmp 8) rfl rfl rfl hI1 ?_)
  constructor
  intro w2 hs2
  have HB2 := Lib.hid (hs2.bel hb1 (Nat.le_refl _))
  have HA := Lib.hid hs2.i
  clear hI1 hb1 hs2
  go_wp2_with (refine allocC rfl rfl ?_)
  constructor
  intro w3 hI3 hb3 _hz3
  clear _hz3
  go_wp2_with (refine storeC (c := bC) rfl (.tmp 2) (.tmp 9) rfl rfl rfl hI3 ?_)
  constructor
  intro w4 hs4
  have HA4 := Lib.hid (hs4.up (HA.out.up hb3) (Nat.ne_of_lt HA.out.lt))
  have HN2 := Lib.hid (Nat.ne_of_lt HA.out.lt)
  have HB4 := Lib.hid (hs4.bel (bwstep HB2.out hb3) HB2.out.size)
  have HI4 := Lib.hid hs4.i
  clear hI3 hb3 hs4 HA HB2
  go_wp2_with (refine loadC rfl (.tmp 1) rfl rfl HA4.out ?_)
  refine (put_ok aC _ aC_ok).mono ?_
  rintro e w5 ⟨⟨v5, rfl, h5⟩, hb5⟩
  have ba := bwalloc (bwrefl w5) (.cells #[.int .u8 7] 5)
  have h5 := h5.below ba
  have r5 : Rd (w5.alloc (.cells #[.int .u8 7] 5)) _ (.slice (some ⟨w5.heap.size, 0, none⟩) 1 1) (([7] : List UInt8).map bv) := Rd.newW w5 5 #[.int .u8 7] rfl (by simp [maxLen]) rfl
  have z5 : (cellB aC).length + ([7] : List UInt8).length ≤ 140737488355328 := by decide
  have s5 : w4.heap.size ≤ (w5.alloc (.cells #[.int .u8 7] 5)).heap.size := Nat.le_trans hb5.size ba.size
  have hb6 := bwstep hb5 ba
  clear hb5 ba
  go_wp2_with (at_builtin; refine wpList_appB bytesT rfl (.tmp 12) (.tmp 13) rfl rfl h5 rfl r5 z5 s5 ?_; intro v6 w6 o6 g6 h6; have b46 := Lib.hid (hb6.grown g6 s5 h5.ge); have O6 := Lib.hid o6; clear o6 h6 g6 hb6 h5 r5 z5 s5)
  refine (cut_ok _ (cellB aC ++ [7]) [7] aC _ _ O6.out.rd (Nat.le_refl _) (by decide) ⟨aC_ok, rfl⟩).mono ?_
  rintro e w7 ⟨⟨v7, rfl, h7⟩, hb7⟩
  obtain ⟨A7, c7, rfl, -, -⟩ := h7.rd.shapeM
  have b47 := Lib.hid (b46.out.trans (hb7.mono b46.out.size))
  clear h7 hb7 O6
  go_wp2_with (refine allocC rfl rfl ?_)
  constructor
  intro w8 hI8 hb8 _hz8
  clear _hz8
  have b48 := Lib.hid (bwstep b47.out hb8)
  go_wp2_with (refine storeC (c := aC) rfl (.tmp 3) (.tmp 16) rfl rfl rfl hI8 ?_)
  constructor
  intro w9 hs9
  have HA9 := Lib.hid (hs9.up (HA4.out.up b48.out) (Nat.ne_of_lt (Nat.lt_of_lt_of_le HA4.out.lt b47.out.size)))
  have HI9 := Lib.hid (hs9.up (HI4.out.up b48.out) (Nat.ne_of_lt (Nat.lt_of_lt_of_le HI4.out.lt b47.out.size)))
  have HC9 := Lib.hid hs9.i
  have b49 := Lib.hid (hs9.bel b48.out b47.out.size)
  clear hI8 hs9 hb8 HA4 HI4 b48 b46
  have h2 := two_rd w9
  have hz9 := bwalloc (bwrefl w9) (.cells #[.string ⟨#[97]⟩, .string ⟨#[120]⟩, .int .i64 9, .string ⟨#[118]⟩, .bool false, .string ⟨#[97]⟩, .string ⟨#[120]⟩, .int .i64 3, .string ⟨#[]⟩, .bool false] 43)
  have hnw := newest_any _ [aC, bC] ⟨#[97]⟩ ⟨#[120]⟩ 5 _ h2 ab_srt (by decide)
  have e1 : nwC ⟨#[97]⟩ ⟨#[120]⟩ 5 [aC, bC] = bC := by unfold nwC; rw [ab_new]; rfl
  have e2 : nwB ⟨#[97]⟩ ⟨#[120]⟩ 5 [aC, bC] = true := by unfold nwB; rw [ab_new]; rfl
  rw [e1, e2] at hnw
  clear e1 e2 h2
  obtain ⟨p0, p1, p2, p3, p4⟩ := aC_five HA9.out
  obtain ⟨q0, q1, q2, q3, q4⟩ := bC_five HI9.out
  go_wp2_with fail
  refine hnw.mono ?_
  rintro e w10 ⟨rfl, hb10⟩
  have hb9 := bwstep hz9 hb10
  clear p0 p1 p2 p3 p4 q0 q1 q2 q3 q4 hz9 hb10 hnw
  go_wp2_with (refine allocC rfl rfl ?_)
  constructor
  intro w11 hI11 hb11 _hz11
  clear _hz11
  have b911 := Lib.hid (bwstep hb9 hb11)
  go_wp2_with (refine storeC (c := bC) rfl (.tmp 6) (.tmp 24) rfl rfl rfl hI11 ?_)
  constructor
  intro w12 hs12
  have hz : w9.heap.size ≤ w10.heap.size := hb9.size
  have HA12 := Lib.hid (hs12.up (HA9.out.up b911.out) (Nat.ne_of_lt (Nat.lt_of_lt_of_le HA9.out.lt hz)))
  have HI12 := Lib.hid (hs12.up (HI9.out.up b911.out) (Nat.ne_of_lt (Nat.lt_of_lt_of_le HI9.out.lt hz)))
  have HC12 := Lib.hid (hs12.up (HC9.out.up b911.out) (Nat.ne_of_lt (Nat.lt_of_lt_of_le HC9.out.lt hz)))
  have HD12 := Lib.hid hs12.i
  have HB12 := Lib.hid (hs12.bel (bwstep (bwstep HB4.out b49.out) b911.out) (Nat.le_trans HB4.out.size (Nat.le_trans b49.out.size hz)))
  clear hI11 hs12 hb9 hb11 HA9 HI9 HC9 b911 hz
  have hcmp := fun w => compare_any aC bC w
  rw [ccmp_lt.2 ab_lt] at hcmp
  have hrt := fun w => right_any aC w
  rw [decide_eq_true aC_ok] at hrt
  go_wp2_with (first
    | (refine loadC rfl (.tmp 1) rfl rfl HA12.out ?_)
    | (refine loadC rfl (.tmp 2) rfl rfl HI12.out ?_))
  refine (hcmp _).mono ?_
  rintro e w13 ⟨rfl, hb13⟩
  have HA13 := Lib.hid (HA12.out.up hb13)
  have HI13 := Lib.hid (HI12.out.up hb13)
  have HC13 := Lib.hid (HC12.out.up hb13)
  have HD13 := Lib.hid (HD12.out.up hb13)
  have HB13 := Lib.hid (bwstep HB12.out hb13)
  clear hb13 HA12 HI12 HC12 HD12 HB12 hcmp
  go_wp2_with (refine loadC rfl (.tmp 1) rfl rfl HA13.out ?_)
  refine (hrt _).mono ?_
  rintro e w14 ⟨rfl, hb14⟩
  have HA14 := Lib.hid (HA13.out.up hb14)
  have HI14 := Lib.hid (HI13.out.up hb14)
  have HC14 := Lib.hid (HC13.out.up hb14)
  have HD14 := Lib.hid (HD13.out.up hb14)
  have HB14 := Lib.hid (bwstep HB13.out hb14)
  clear hb14 HA13 HI13 HC13 HD13 HB13 hrt
  have hso := sorted_any _ [aC, bC] _ (two_rd w14) (by decide)
  rw [ab_sorted] at hso
  have hz9 := bwalloc (bwrefl w14) (.cells #[.string ⟨#[97]⟩, .string ⟨#[120]⟩, .int .i64 9, .string ⟨#[118]⟩, .bool false, .string ⟨#[97]⟩, .string ⟨#[120]⟩, .int .i64 3, .string ⟨#[]⟩, .bool false] 43)
  obtain ⟨p0, p1, p2, p3, p4⟩ := aC_five HA14.out
  obtain ⟨q0, q1, q2, q3, q4⟩ := bC_five HI14.out
  go_wp2_with fail
  refine hso.mono ?_
  rintro e w15 ⟨rfl, hb15⟩
  have hb15 := bwstep hz9 hb15
  have HA15 := Lib.hid (HA14.out.up hb15)
  have HI15 := Lib.hid (HI14.out.up hb15)
  have HC15 := Lib.hid (HC14.out.up hb15)
  have HD15 := Lib.hid (HD14.out.up hb15)
  have HB15 := Lib.hid (bwstep HB14.out hb15)
  clear p0 p1 p2 p3 p4 q0 q1 q2 q3 q4 hz9 hb15 hso HA14 HI14 HC14 HD14 HB14
  go_wp2_with (first
    | (refine loadC rfl (.tmp 1) rfl rfl HA15.out ?_)
    | (refine loadC rfl (.tmp 2) rfl rfl HI15.out ?_)
    | (refine loadC rfl (.tmp 3) rfl rfl HC15.out ?_)
    | (refine loadC rfl (.tmp 6) rfl rfl HD15.out ?_)
    | (refine eqC rfl (.tmp 44) (.tmp 45) _ rfl aC aC rfl rfl (decide_eq_true rfl) ?_)
    | (refine eqC rfl (.tmp 57) (.tmp 58) _ rfl bC bC rfl rfl (decide_eq_true rfl) ?_))
  go_ret
  exact ⟨rfl, HB15.out⟩
end Go.Proofs.Ytdpdgbdpbbcmmaa.Ce
