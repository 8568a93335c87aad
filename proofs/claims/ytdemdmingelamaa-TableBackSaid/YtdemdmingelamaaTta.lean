/- The contracts of a table's methods: Cells, Blocks, May, Get. -/
import Derived.Test.YtdemdmingelamaaTop
import Derived.Test.YtdemdmingelamaaCbA
namespace Go.Proofs.Ytdemdmingelamaa.Ce
open Go.RowKit Frm

theorem TblV.up {w w' : World} {n0 b n : Nat} {S : List Cl} (h : TblV w n0 b S n) (hb : Below w.heap.size w w') : TblV w' n0 b S n := by
  obtain ⟨⟨vc, fb, fn, fc, h1, h2, h3, h4, h5⟩, hg⟩ := h
  exact ⟨⟨vc, fb, fn, fc, (hb.block b (Array.getElem?_eq_some_iff.1 h1).1).trans h1, h2.below hb, h3, h4.up hb, Nat.lt_of_lt_of_le h5 hb.size⟩, hg⟩
set_option maxHeartbeats 400000 in
theorem tcells_any (n0 b n : Nat) (S : List Cl) (w : World) (h : TblV w n0 b S n) (hl : S.length ≤ 1000000) :
    Calls Try.prog 18 #[.pointer (some ⟨b, 0, none⟩)] w fun e w' => (∃ x, e = .returned x ∧ OwL w' w.heap.size x S) ∧ Below w.heap.size w w' := by
  obtain ⟨⟨vc, fb, fn, fc, h1, h2, h3, h4, h5⟩, hg⟩ := h
  have c0 : w.cell? ⟨b, 0, none⟩ = some vc := cell_of_row _ _ 0 _ _ _ h1
  have HR := Lib.hid (h2.rd (S := []) (fun _ h => by cases h))
  clear h1 h2 h4
  go_enter Try.func18, Try.ntmps18
  go_wp2_with fail
  refine (cloneL_any vc S _ [] HR.out hl).mono ?_
  rintro e w1 ⟨⟨x, rfl, hx⟩, hb⟩
  go_wp2_with fail
  go_ret
  exact ⟨⟨_, rfl, hx⟩, hb⟩
set_option maxHeartbeats 400000 in
theorem tblocks_any (n0 b n : Nat) (S : List Cl) (w : World) (h : TblV w n0 b S n) :
    Calls Try.prog 19 #[.pointer (some ⟨b, 0, none⟩)] w fun e w' => e = .returned (.int .i64 (n : Int)) ∧ w' = w := by
  obtain ⟨⟨vc, fb, fn, fc, h1, h2, h3, h4, h5⟩, hg⟩ := h
  have c0 : w.cell? ⟨b, 2, none⟩ = some (.int .i64 (n : Int)) := cell_of_row _ _ 2 _ _ _ h1
  clear h1 h2 h4
  go_enter Try.func19, Try.ntmps19
  go_wp2_with fail
  go_ret
  exact ⟨rfl, rfl⟩
/-- whether the filter has a key -/
def mayB (S : List Cl) (row col : ByteArray) : Bool := Blm.hasB (filt S) (keyT row col)
set_option maxHeartbeats 1000000 in
set_option maxRecDepth 100000 in
theorem tmay_any (n0 b n : Nat) (S : List Cl) (row col : ByteArray) (w : World) (h : TblV w n0 b S n) (hl : S.length ≤ 1000000) (hr : row.size ≤ 1000000) (hc : col.size ≤ 1000000) :
    Calls Try.prog 22 #[.pointer (some ⟨b, 0, none⟩), .string row, .string col] w fun e w' => e = .returned (.bool (mayB S row col)) ∧ Below w.heap.size w w' := by
  obtain ⟨⟨vc, fb, fn, fc, h1, h2, h3, h4, h5⟩, hg⟩ := h
  have hbl := (Array.getElem?_eq_some_iff.1 h1).1
  have c1 : w.drew.cell? ⟨b, 1, none⟩ = some (.slice (some ⟨fb, 0, none⟩) fn fc) := cell_of_row _ _ 1 _ _ _ h1
  have HC : Hid (∀ z, Below w.heap.size w z → z.cell? ⟨b, 1, none⟩ = some (.slice (some ⟨fb, 0, none⟩) fn fc)) := Lib.hid fun z hz => (hz.cell (p := ⟨b, 1, none⟩) hbl).trans (cell_of_row _ _ 1 _ _ _ h1)
  have hfl := filt_len S
  have hks : (keyS row col).size ≤ 140737488351232 := by
    show (⟨(keyT row col).toArray⟩ : ByteArray).size ≤ _
    rw [ba_size]
    unfold keyT
    rw [List.length_append, textB_len, textB_len]
    omega
  have hhas := fun w hr => Blm.has_any (.slice (some ⟨fb, 0, none⟩) fn fc) (filt S) (keyS row col) w.heap.size w (Nat.le_refl _) hr (by omega) hks
  have hkd : (keyS row col).data.toList = keyT row col := rfl
  rw [hkd] at hhas
  have HR := Lib.hid h4
  have HM : Hid (Blm.hasB (filt S) (keyT row col) = mayB S row col) := Lib.hid rfl
  rw [HM.out] at hhas
  have HH := Lib.hid hhas
  have htx := fun w => ttext_any row col w (by omega) (by omega)
  have HB0 := Lib.hid ((Below.refl w.heap.size w).drew)
  generalize keyS row col = ks at *
  clear h1 h2 h4 hfl hks hhas HM hkd
  go_enter Try.func22, Try.ntmps22
  go_wp2_with fail
  go_region_law
    (first
      | (go_simp; go_at_call 53; with_reducible refine (htx _).mono ?_; rintro e w1 ⟨rfl, hb1⟩; have hB1 := bwstep HB0.out hb1; have c1' := HC.out _ hB1; have hr1 := HR.out.up hB1)
      | (go_simp; go_at_call 52; with_reducible refine (HH.out _ hr1).mono ?_; rintro e w2 ⟨rfl, hb2⟩; have HB2 := Lib.hid (bwstep hB1 hb2)))
  all_goals
    go_wp2_with fail
    go_ret
    exact ⟨rfl, HB2.out⟩
theorem may_no {S : List Cl} {row col : ByteArray} {at_ : Int} (h : mayB S row col = false) : nwC row col at_ S = Cl.zero ∧ nwB row col at_ S = false := by
  have hn : newest row col at_ S = none := by
    unfold newest
    rw [List.find?_eq_none]
    intro c hc hd
    obtain ⟨rfl, rfl, -⟩ : fits row col at_ c := by simpa using hd
    have : mayB S c.row c.col = true := Blm.has_make (List.mem_map.2 ⟨c, hc, rfl⟩)
    rw [h] at this
    cases this
  unfold nwC nwB
  rw [hn]
  exact ⟨rfl, rfl⟩
theorem may_yes {S : List Cl} {c : Cl} (hc : c ∈ S) : mayB S c.row c.col = true := Blm.has_make (List.mem_map.2 ⟨c, hc, rfl⟩)
set_option maxHeartbeats 1000000 in
set_option maxRecDepth 100000 in
theorem tget_any (n0 b n : Nat) (S : List Cl) (row col : ByteArray) (at_ : Int) (w : World) (h : TblV w n0 b S n) (hs : Srt S) (hl : S.length ≤ 1000000) (hr : row.size ≤ 1000000) (hc : col.size ≤ 1000000) :
    Calls Try.prog 21 #[.pointer (some ⟨b, 0, none⟩), .string row, .string col, .int .i64 at_] w fun e w' => e = .returned (.tuple #[(nwC row col at_ S).v, .bool (nwB row col at_ S)]) ∧ Below w.heap.size w w' := by
  have hmay := fun w h => tmay_any n0 b n S row col w h hl hr hc
  have HMN := Lib.hid (fun h => may_no (S := S) (row := row) (col := col) (at_ := at_) h)
  have HNW := Lib.hid (fun v w hv => newest_any v S row col at_ w hv hs (by omega))
  have HT := Lib.hid h
  generalize nwC row col at_ S = d at *
  generalize nwB row col at_ S = q at *
  clear h
  go_enter Try.func21, Try.ntmps21
  go_wp2_with (refine allocC rfl rfl ?_)
  constructor
  intro w1 hI1 hb1 _
  have HT1 := Lib.hid (HT.out.up hb1)
  have HI1 := Lib.hid hI1
  have HB1 := Lib.hid hb1
  clear hI1 hb1
  go_wp2_with fail
  refine (hmay _ HT1.out).mono ?_
  rintro e w2 ⟨rfl, hb2⟩
  have HT2 := Lib.hid (HT1.out.up hb2)
  have hI2 := HI1.out.up hb2
  have HB2 := Lib.hid (bwstep HB1.out hb2)
  clear hb2 hmay
  cases hm : mayB S row col
  · obtain ⟨rfl, rfl⟩ := HMN.out hm
    clear hm HMN HNW
    go_wp2_with (refine storeC (c := Cl.zero) rfl (.tmp 8) (.tmp 15) rfl rfl rfl hI2 ?_)
    constructor
    intro w3 hs3
    have HS := Lib.hid hs3
    clear hs3
    go_wp2_with fail
    exact bodyPost_ret (res2 Try.results21 rfl HS.out.i) rfl ⟨rfl, HS.out.bel HB2.out (Nat.le_refl _)⟩
  · obtain ⟨⟨vc, fb, fn, fc, h1, h2, -, -, -⟩, -⟩ := HT2.out
    have c0 : w2.cell? ⟨b, 0, none⟩ = some vc := cell_of_row _ _ 0 _ _ _ h1
    have HR := Lib.hid (h2.rd (S := []) (fun _ h => by cases h))
    clear hm HMN h1 h2
    go_wp2_with fail
    refine (HNW.out vc _ HR.out).mono ?_
    rintro e w3 ⟨rfl, hb3⟩
    have hI3 := hI2.up hb3
    have HB3 := Lib.hid (bwstep HB2.out hb3)
    clear hb3 hI2 c0
    go_wp2_with (refine storeC (c := d) rfl (.tmp 8) (.tmp 24) rfl rfl rfl hI3 ?_)
    constructor
    intro w4 hs4
    have HS := Lib.hid hs4
    clear hs4
    go_wp2_with fail
    exact bodyPost_ret (res2 Try.results21 rfl HS.out.i) rfl ⟨rfl, HS.out.bel HB3.out (Nat.le_refl _)⟩
end Go.Proofs.Ytdemdmingelamaa.Ce
