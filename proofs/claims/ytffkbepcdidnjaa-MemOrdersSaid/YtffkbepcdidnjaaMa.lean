/- Layer 9's statements: few and awake. -/
import Derived.Test.YtffkbepcdidnjaaMf
namespace Go.Proofs.Ytffkbepcdidnjaa.Ce
open Go.RowKit

def FewM (L : List Cl) (w : World) (e : Ending) (w' : World) : Prop := (∃ q : Bool, e = .returned (.bool q) ∧ (q = true → L.length ≤ 60)) ∧ Below w.heap.size w w'
set_option maxHeartbeats 4000000 in
set_option maxRecDepth 100000 in
theorem fewM_any (v : Value) (L : List Cl) (w : World) (hv : RdL w [] v L) : Calls Try.prog 8 #[v] w (FewM L w) := by
  obtain ⟨A, cp, rfl, hc, hm⟩ := hv.shape
  unfold maxLen at hm
  have HV := Lib.hid hv
  clear hv
  go_enter Try.func8, Try.ntmps8
  go_wp2_with fail
  go_loopw [3] (fun i wr => ∃ k : Nat, k ≤ L.length ∧ k ≤ 100 ∧ i = .int .i64 (k : Int) ∧ Below w.heap.size w wr) (fun i _ => L.length - (intOf i).toNat)
  case atStart => exact ⟨0, by omega, by omega, rfl, Below.refl _ _⟩
  case round =>
    obtain ⟨k, hk, hk1, rfl, hbw⟩ := hrel
    have HBW := Lib.hid hbw
    by_cases hlt : k < L.length
    · by_cases hlt1 : k < 100
      · obtain ⟨b, off, rfl, -, -⟩ := HV.out.open_ (by omega)
        have hh3 : (0 : Int) ≤ (k : Int) := by omega
        have hh4 : (k : Int) < (L.length : Int) := by omega
        have hfk : L[k]? = some (L[k]'hlt) := List.getElem?_eq_getElem _
        generalize L[k]'hlt = f at hfk
        obtain ⟨h5, hbl⟩ := (HV.out.bel hbw).at_ hfk
        obtain ⟨c0, c1, c2, c3, c4⟩ := h5
        clear hfk hbw
        by_cases h1 : (f.row.size : Int) ≤ 200
        · have d1 : decide (200 < (f.row.size : Int)) = false := decide_eq_false (by omega)
          by_cases h2 : (f.col.size : Int) ≤ 200
          · have d2 : decide (200 < (f.col.size : Int)) = false := decide_eq_false (by omega)
            by_cases h3 : (f.val.size : Int) ≤ 400
            · have d3 : decide (400 < (f.val.size : Int)) = false := decide_eq_false (by omega)
              go_wp2_with fail
              go_roundw
              case rel => exact ⟨k + 1, by omega, by omega, by go_num, HBW.out⟩
              case measure => simp [intOf]; omega
            · have d3 : decide (400 < (f.val.size : Int)) = true := decide_eq_true (by omega)
              go_wp2_with fail
              go_ret
              exact ⟨⟨false, rfl, fun h => by cases h⟩, HBW.out⟩
          · have d2 : decide (200 < (f.col.size : Int)) = true := decide_eq_true (by omega)
            go_wp2_with fail
            go_ret
            exact ⟨⟨false, rfl, fun h => by cases h⟩, HBW.out⟩
        · have d1 : decide (200 < (f.row.size : Int)) = true := decide_eq_true (by omega)
          go_wp2_with fail
          go_ret
          exact ⟨⟨false, rfl, fun h => by cases h⟩, HBW.out⟩
      · have hn : decide ((L.length : Int) ≤ 60) = false := decide_eq_false (by omega)
        go_wp2_with fail
        go_ret
        exact ⟨⟨false, by first | rfl | (rw [hn]; rfl) | simp [hn], fun h => by cases h⟩, HBW.out⟩
    · obtain rfl : k = L.length := by omega
      go_wp2_with fail
      go_ret
      exact ⟨⟨decide ((L.length : Int) ≤ 60), by first | rfl | simp, fun h => by have := of_decide_eq_true h; omega⟩, HBW.out⟩
def aM : Cl := ⟨⟨#[97]⟩, ⟨#[120]⟩, 1, ⟨#[49]⟩, false⟩
def bM : Cl := ⟨⟨#[97]⟩, ⟨#[120]⟩, 1, ⟨#[116, 119, 111]⟩, false⟩
theorem aM_ok : aM.ok := ⟨by decide, by decide, by decide, by decide, by decide, by decide, by decide, by decide⟩
theorem bM_ok : bM.ok := ⟨by decide, by decide, by decide, by decide, by decide, by decide, by decide, by decide⟩
theorem zero_no : ¬ Cl.zero.ok := fun h => absurd h.r1 (by decide)
theorem fillM : fill [aM, bM] = [bM] := by
  have h0 : ccmp aM bM = 0 := ccmp_eq.2 ⟨rfl, rfl, rfl⟩
  have h1 : put1 aM [] = [aM] := rfl
  have h2 : put1 bM [aM] = [bM] := by unfold put1; rw [if_neg (by rw [h0]; decide), if_pos h0]
  unfold fill
  rw [List.foldl_cons, if_pos aM_ok, h1, List.foldl_cons, if_pos bM_ok, h2]
  rfl
theorem newM : newest ⟨#[97]⟩ ⟨#[120]⟩ 5 [bM] = some bM := by
  unfold newest
  rw [List.find?_cons_of_pos]
  exact decide_eq_true ⟨rfl, rfl, by decide⟩
theorem szsM : szs [bM] = 22 := by
  simp only [szs, cellB_len]
  rfl
theorem rowsM : rowsC ⟨#[97]⟩ ⟨#[98]⟩ [bM] = [bM] := by
  unfold rowsC
  rw [List.filter_cons_of_pos]
  · rfl
  · decide
theorem allM : ∀ c ∈ [bM], c.ok := fun c hc => by rw [List.mem_singleton.1 hc]; exact bM_ok
theorem fiveM {g : Nat} {w : World} (h : InC g aM w) : w.cell? ⟨g, 0, none⟩ = some (.string ⟨#[97]⟩) ∧ w.cell? ⟨g, 1, none⟩ = some (.string ⟨#[120]⟩) ∧ w.cell? ⟨g, 2, none⟩ = some (.int .i64 1) ∧ w.cell? ⟨g, 3, none⟩ = some (.string ⟨#[49]⟩) ∧ w.cell? ⟨g, 4, none⟩ = some (.bool false) := h.five
theorem fiveN {g : Nat} {w : World} (h : InC g bM w) : w.cell? ⟨g, 0, none⟩ = some (.string ⟨#[97]⟩) ∧ w.cell? ⟨g, 1, none⟩ = some (.string ⟨#[120]⟩) ∧ w.cell? ⟨g, 2, none⟩ = some (.int .i64 1) ∧ w.cell? ⟨g, 3, none⟩ = some (.string ⟨#[116, 119, 111]⟩) ∧ w.cell? ⟨g, 4, none⟩ = some (.bool false) := h.five
theorem twoM (w : World) : RdL (w.alloc (.cells #[.string ⟨#[97]⟩, .string ⟨#[120]⟩, .int .i64 1, .string ⟨#[49]⟩, .bool false, .string ⟨#[97]⟩, .string ⟨#[120]⟩, .int .i64 1, .string ⟨#[116, 119, 111]⟩, .bool false] 29)) [] (.slice (some ⟨w.heap.size, 0, none⟩) 2 2) [aM, bM] := RdL.two w [] aM bM (by simp) _
set_option maxHeartbeats 4000000 in
set_option maxRecDepth 100000 in
theorem mawake9_ok (w : World) : Calls Try.prog 7 #[] w fun e w' => e = .returned (.bool true) ∧ Below w.heap.size w w' := by
  go_enter Try.func7, Try.ntmps7
  go_wp2_with (refine allocC rfl rfl ?_)
  constructor
  intro w1 hI1 hb1 _
  go_wp2_with (refine storeC (c := aM) rfl (.tmp 1) (.tmp 6) rfl rfl rfl hI1 ?_)
  constructor
  intro w2 hs2
  have HB2 := Lib.hid (hs2.bel hb1 (Nat.le_refl _))
  have HA := Lib.hid hs2.i
  clear hI1 hb1 hs2
  go_wp2_with (refine allocC rfl rfl ?_)
  constructor
  intro w3 hI3 hb3 _
  go_wp2_with (refine storeC (c := bM) rfl (.tmp 2) (.tmp 7) rfl rfl rfl hI3 ?_)
  constructor
  intro w4 hs4
  have HA4 := Lib.hid (hs4.up (HA.out.up hb3) (Nat.ne_of_lt HA.out.lt))
  have HB4 := Lib.hid (hs4.bel (bwstep HB2.out hb3) HB2.out.size)
  have HI4 := Lib.hid hs4.i
  clear hI3 hb3 hs4 HA HB2
  obtain ⟨p0, p1, p2, p3, p4⟩ := fiveM HA4.out
  obtain ⟨q0, q1, q2, q3, q4⟩ := fiveN HI4.out
  go_wp2_with fail
  have hz := bwalloc (bwrefl w4) (.cells #[.string ⟨#[97]⟩, .string ⟨#[120]⟩, .int .i64 1, .string ⟨#[49]⟩, .bool false, .string ⟨#[97]⟩, .string ⟨#[120]⟩, .int .i64 1, .string ⟨#[116, 119, 111]⟩, .bool false] 29)
  refine (filled_any _ [aM, bM] _ (twoM w4) (by decide)).mono ?_
  rintro e w5 ⟨⟨b, rfl, hS⟩, hb5⟩
  rw [fillM] at hS
  obtain ⟨v, hm, hge⟩ := hS
  have HG : Hid (∀ x ∈ blks b v, w.heap.size ≤ x) := Lib.hid fun x hx => Nat.le_trans (Nat.le_trans HB4.out.size hz.size) (hge x hx)
  clear hge
  have hb45 := bwstep hz hb5
  have HM := Lib.hid hm
  have HI5 := Lib.hid (HI4.out.up hb45)
  have HB5 := Lib.hid (bwstep HB4.out hb45)
  clear p0 p1 p2 p3 p4 q0 q1 q2 q3 q4 hz hb5 hb45 hm HI4 HA4
  have hsrt : Srt [bM] := List.pairwise_singleton _ _
  have hg := mget_any b v [bM] ⟨#[97]⟩ ⟨#[120]⟩ 5 w5 HM.out hsrt (by decide)
  rw [show nwC ⟨#[97]⟩ ⟨#[120]⟩ 5 [bM] = bM by unfold nwC; rw [newM]; rfl, show nwB ⟨#[97]⟩ ⟨#[120]⟩ 5 [bM] = true by unfold nwB; rw [newM]; rfl] at hg
  go_wp2_with fail
  refine hg.mono ?_
  rintro e w6 ⟨rfl, hb6⟩
  have HM6 := Lib.hid (HM.out.up hb6)
  have HI6 := Lib.hid (HI5.out.up hb6)
  have HB6 := Lib.hid (bwstep HB5.out hb6)
  clear hb6 hg
  go_wp2_with (refine allocC rfl rfl ?_)
  constructor
  intro w7 hI7 hb7 _
  go_wp2_with (refine storeC (c := bM) rfl (.tmp 4) (.tmp 17) rfl rfl rfl hI7 ?_)
  constructor
  intro w8 hs8
  have hb68 := hs8.bel hb7 (Nat.le_refl _)
  have HM8 := Lib.hid (HM6.out.up hb68)
  have HI8 := Lib.hid (HI6.out.up hb68)
  have HB8 := Lib.hid (bwstep HB6.out hb68)
  have HJ8 := Lib.hid hs8.i
  clear hI7 hb7 hs8 hb68 HM6 HI6 HB6 HM HI5 HB5
  go_wp2_with fail
  refine (mlen_any b v [bM] _ HM8.out).mono ?_
  rintro e w9 ⟨rfl, rfl⟩
  go_wp2_with (first
    | (refine loadC rfl (.tmp 4) rfl rfl HJ8.out ?_)
    | (refine loadC rfl (.tmp 2) rfl rfl HI8.out ?_)
    | (refine eqC rfl (.tmp 26) (.tmp 27) _ rfl bM bM rfl rfl (decide_eq_true rfl) ?_))
  refine (msize_any b v [bM] _ HM8.out).mono ?_
  rintro e w9 ⟨rfl, rfl⟩
  rw [szsM]
  have hrw := mrows_any b v [bM] ⟨#[97]⟩ ⟨#[98]⟩ w8 HM8.out hsrt allM (by decide)
  rw [rowsM] at hrw
  go_wp2_with fail
  refine hrw.mono ?_
  rintro e w9 ⟨⟨x, rfl, hx⟩, hb9⟩
  obtain ⟨A9, c9, rfl, -, -⟩ := (hx.rd (S := []) (fun _ h => by cases h)).shape
  have HM9 := Lib.hid (HM8.out.up hb9)
  have HB9 := Lib.hid (bwstep HB8.out hb9)
  clear hb9 hrw hx HM8 HB8
  have hpn := mput_no b v [bM] Cl.zero w9 HM9.out zero_no
  go_wp2_with fail
  refine hpn.mono ?_
  rintro e w10 ⟨rfl, v10, hm10, hk10, -⟩
  have HB10 := Lib.hid (Kp.belowB hk10 HG.out HB9.out)
  have HM10 := Lib.hid hm10
  clear hpn hm10 hk10 HM9 HB9 HG
  go_wp2_with fail
  refine (mcells_any b v10 [bM] _ HM10.out (by decide)).mono ?_
  rintro e w11 ⟨⟨y, rfl, hy⟩, hb11⟩
  obtain ⟨A11, c11, rfl, -, -⟩ := (hy.rd (S := []) (fun _ h => by cases h)).shape
  have HB11 := Lib.hid (bwstep HB10.out hb11)
  clear hy hb11 HM10 HB10
  go_wp2_with fail
  go_ret
  exact ⟨rfl, HB11.out⟩
end Go.Proofs.Ytffkbepcdidnjaa.Ce
