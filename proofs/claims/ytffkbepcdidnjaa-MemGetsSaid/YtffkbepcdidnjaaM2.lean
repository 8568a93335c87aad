/- MemGets' walk. -/
import Derived.Test.YtffkbepcdidnjaaMa
import Derived.Test.YtffkbepcdidnjaaMs
import Derived.Test.YtffkbepcdidnjaaCfw
import Derived.Test.YtffkbepcdidnjaaCpo
namespace Go.Proofs.Ytffkbepcdidnjaa
open Go.RowKit Ce

theorem rows_snoc {L : List Cl} {k : Nat} {c : Cl} (row to : ByteArray) (h : L[k]? = some c) : rowsC row to (L.take (k + 1)) = if inR row to c = true then rowsC row to (L.take k) ++ [c] else rowsC row to (L.take k) := by
  obtain ⟨hl, rfl⟩ := List.getElem?_eq_some_iff.1 h
  unfold rowsC
  rw [List.take_succ_eq_append_getElem hl, List.filter_append]
  split
  · rename_i hc
    rw [List.filter_cons_of_pos hc, List.filter_nil]
  · rename_i hc
    rw [List.filter_cons_of_neg hc, List.filter_nil, List.append_nil]
theorem rowsC_len (row to : ByteArray) (L : List Cl) (k : Nat) : (rowsC row to (L.take k)).length ≤ k := by
  have h1 : (rowsC row to (L.take k)).length ≤ (L.take k).length := List.length_filter_le _ _
  have h2 : (L.take k).length ≤ k := by simp; omega
  omega
theorem inR_no1 {row to : ByteArray} {c : Cl} (h : c.row.data.toList < row.data.toList) : inR row to c = false := by unfold inR; simp [h]
theorem inR_yes0 {row to : ByteArray} {c : Cl} (h : ¬ c.row.data.toList < row.data.toList) (h0 : to.size = 0) : inR row to c = true := by unfold inR; rw [decide_eq_true h, decide_eq_true h0]; rfl
theorem inR_yes1 {row to : ByteArray} {c : Cl} (h : ¬ c.row.data.toList < row.data.toList) (h1 : c.row.data.toList < to.data.toList) : inR row to c = true := by unfold inR; rw [decide_eq_true h, decide_eq_true h1]; simp
theorem inR_no2 {row to : ByteArray} {c : Cl} (h0 : to.size ≠ 0) (h1 : ¬ c.row.data.toList < to.data.toList) : inR row to c = false := by unfold inR; rw [decide_eq_false h0, decide_eq_false h1]; simp
theorem scmp_ge {a b : List UInt8} (h : ¬ a < b) : 0 ≤ scmp a b := by
  rcases scmp_cases a b with ⟨_, k⟩ | ⟨e, _⟩ | ⟨e, _⟩
  · exact absurd k h
  · rw [e]; decide
  · rw [e]; decide
/-- two variables, a table, and l's cells in order -/
structure GetS (w : World) (b : Nat) (vm : Value) (LL : List Cl) (s : Value) (g k : Nat) (c d : Cl) (w' : World) : Prop where
  m : MemV w' b vm LL
  s : RdL w' [] s LL
  ig : InC g c w'
  ik : InC k d w'
  bel : Below w.heap.size w w'
theorem GetS.up {w : World} {b : Nat} {vm : Value} {LL : List Cl} {s : Value} {g k : Nat} {c d : Cl} {x y : World} (h : GetS w b vm LL s g k c d x) (hb : Below x.heap.size x y) : GetS w b vm LL s g k c d y := ⟨h.m.up hb, h.s.bel hb, h.ig.up hb, h.ik.up hb, bwstep h.bel hb⟩
set_option maxHeartbeats 8000000 in
set_option maxRecDepth 100000 in
theorem memGets_walk (v : Value) (L : List Cl) (row col : ByteArray) (at_ : Int) (to : ByteArray) (w : World) (hv : RdL w [] v L) (_z1 : row.size ≤ 140737488351232) (_z2 : col.size ≤ 140737488351232) (_w3 : (Lit.int .i64 at_).wf = true) (_z4 : to.size ≤ 140737488351232) : Calls Try.prog 4 #[v, .string row, .string col, .int .i64 at_, .string to] w fun e w' => e = .returned (.bool true) ∧ Below w.heap.size w w' := by
  have HV := Lib.hid hv
  clear hv
  go_enter Try.func4, Try.ntmps4
  go_wp2_with fail
  refine (mawake9_ok _).mono ?_
  rintro e w1 ⟨rfl, hb1⟩
  have HB1 := Lib.hid hb1
  clear hb1
  go_wp2_with fail
  refine (efew_any _ L _ (HV.out.bel HB1.out)).mono ?_
  rintro e w2 ⟨⟨q, rfl, hq⟩, hb2⟩
  have HB2 := Lib.hid (bwstep HB1.out hb2)
  clear hb2 HB1
  cases q
  · clear hq
    go_wp2_with fail
    refine (mawake9_ok _).mono ?_
    rintro e w9 ⟨rfl, hb9⟩
    have H9 := Lib.hid (bwstep HB2.out hb9)
    clear hb9
    go_wp2_with fail
    go_ret
    exact ⟨rfl, H9.out⟩
  · obtain ⟨hl80, hok⟩ := hq rfl
    have HOK := Lib.hid hok
    clear hq hok
    by_cases hr : (row.size : Int) ≤ 100
    · have hrb : decide (100 < (row.size : Int)) = false := decide_eq_false (by omega)
      by_cases hcl : (col.size : Int) ≤ 100
      · have hcb : decide (100 < (col.size : Int)) = false := decide_eq_false (by omega)
        by_cases hto : (to.size : Int) ≤ 100
        · have htb : decide (100 < (to.size : Int)) = false := decide_eq_false (by omega)
          go_wp2_with fail
          refine (filled_any v L _ (HV.out.bel HB2.out) (by omega)).mono ?_
          rintro e w3 ⟨⟨b, rfl, hS⟩, hb3⟩
          have hF := fill_all L
          rw [fill_sort HOK.out] at hS hF
          obtain ⟨vm, hm, -⟩ := hS
          obtain ⟨LL, hLL⟩ : ∃ LL, LL = sortC L := ⟨_, rfl⟩
          rw [← hLL] at hm hF
          have HLL := Lib.hid hLL
          have HM3 := Lib.hid hm
          have HF := Lib.hid hF
          have hn80 : LL.length ≤ 80 := by have := hF.len; omega
          have HB3 := Lib.hid (bwstep HB2.out hb3)
          clear hm hF hLL hb3 HB2 hrb hcb htb
          go_wp2_with fail
          refine (rsort_any v L _ (HV.out.bel HB3.out) HOK.out (by omega)).mono ?_
          rintro e w4 ⟨⟨s, rfl, hs⟩, hb4⟩
          rw [← HLL.out] at hs
          have HM4 := Lib.hid (HM3.out.up hb4)
          have HS4 := Lib.hid (hs.rd (S := []) (fun _ h => by cases h))
          have HB4 := Lib.hid (bwstep HB3.out hb4)
          clear hs hb4 HM3 HB3
          have hg := mget_any b vm LL row col at_ w4 HM4.out HF.out.srt (by omega)
          have HRN := Lib.hid (fun w hv => rnewest_any s LL row col at_ w hv HF.out.srt (by omega) HF.out.ok)
          generalize nwC row col at_ LL = d at *
          generalize nwB row col at_ LL = q at *
          have hqq : (q == q) = true := by simp
          go_wp2_with fail
          refine hg.mono ?_
          rintro e w5 ⟨rfl, hb5⟩
          have HM5 := Lib.hid (HM4.out.up hb5)
          have HS5 := Lib.hid (HS4.out.bel hb5)
          have HB5 := Lib.hid (bwstep HB4.out hb5)
          clear hb5 hg HM4 HS4 HB4
          go_wp2_with (refine allocC rfl rfl ?_)
          constructor
          intro w6 hI6 hb6 _
          go_wp2_with (refine storeC (c := d) rfl (.tmp 13) (.tmp 54) rfl rfl rfl hI6 ?_)
          constructor
          intro w7 hs7
          have hb57 := hs7.bel hb6 (Nat.le_refl _)
          have HM7 := Lib.hid (HM5.out.up hb57)
          have HS7 := Lib.hid (HS5.out.bel hb57)
          have HB7 := Lib.hid (bwstep HB5.out hb57)
          have HI7 := Lib.hid hs7.i
          clear hI6 hb6 hs7 hb57 HM5 HS5 HB5
          go_wp2_with fail
          refine (HRN.out _ HS7.out).mono ?_
          rintro e w8 ⟨rfl, hb8⟩
          have HM8 := Lib.hid (HM7.out.up hb8)
          have HS8 := Lib.hid (HS7.out.bel hb8)
          have HB8 := Lib.hid (bwstep HB7.out hb8)
          have HI8 := Lib.hid (HI7.out.up hb8)
          clear hb8 HM7 HS7 HB7 HI7 HRN
          go_wp2_with (refine allocC rfl rfl ?_)
          constructor
          intro w10 hI10 hb10 _
          have hne := Nat.ne_of_lt HI8.out.lt
          go_wp2_with (refine storeC (c := d) rfl (.tmp 15) (.tmp 62) rfl rfl rfl hI10 ?_)
          constructor
          intro w11 hs11
          have hb811 := hs11.bel hb10 (Nat.le_refl _)
          have HG := Lib.hid (GetS.mk (w := w) (HM8.out.up hb811) (HS8.out.bel hb811) (hs11.up (HI8.out.up hb10) hne) hs11.i (bwstep HB8.out hb811))
          clear hI10 hb10 hs11 hb811 hne HM8 HS8 HB8 HI8
          obtain ⟨As, cs, rfl, hcs, hms⟩ := HG.out.s.shape
          unfold maxLen at hms
          go_wp2_with fail
          go_loopw [17, 18] (fun o i wr => ∃ k : Nat, k ≤ LL.length ∧ i = .int .i64 (k : Int) ∧ Hid (OwL wr w11.heap.size o (rowsC row to (LL.take k))) ∧ Below w11.heap.size w11 wr) (fun _ i _ => LL.length - (intOf i).toNat)
          case atStart => exact ⟨0, by omega, rfl, Lib.hid (by rw [List.take_zero]; exact OwL.nil _ _), Below.refl _ _⟩
          case round =>
            obtain ⟨k, hk, rfl, HO, hbw⟩ := hrel
            have HBW := Lib.hid hbw
            by_cases hlt : k < LL.length
            · obtain ⟨b', off, rfl, -, -⟩ := HG.out.s.open_ (by omega)
              have hh3 : (0 : Int) ≤ (k : Int) := by omega
              have hh4 : (k : Int) < (LL.length : Int) := by omega
              have hfk : LL[k]? = some (LL[k]'hlt) := List.getElem?_eq_getElem _
              generalize LL[k]'hlt = f at hfk
              obtain ⟨h5, hbl⟩ := (HG.out.s.bel hbw).at_ hfk
              have H5 := Lib.hid h5
              have HBL := Lib.hid hbl
              have HSN0 := Lib.hid (rows_snoc row to hfk)
              have hfo := HF.out.ok f (List.mem_of_getElem? hfk)
              have hf64 : f.row.size ≤ 1000000 := by have := hfo.r2; omega
              have ht1 := fun w => rtext_any f.row row w hf64 (by omega)
              have ht2 := fun w => rtext_any f.row to w hf64 (by omega)
              obtain ⟨c0, c1, c2, c3, c4⟩ := h5
              clear hfk hbw hfo hbl
              by_cases hlr : f.row.data.toList < row.data.toList
              · have HSN : Hid (rowsC row to (LL.take (k + 1)) = rowsC row to (LL.take k)) := Lib.hid (by rw [HSN0.out, inR_no1 hlr]; simp)
                rw [scmp_lt hlr] at ht1
                clear hlr ht2
                go_wp2_with fail
                refine (ht1 _).mono ?_
                rintro e wa ⟨rfl, hba⟩
                go_wp2_with fail
                go_roundw
                case rel => exact ⟨k + 1, by omega, by go_num, Lib.hid (by rw [HSN.out]; exact HO.out.below hba), bwstep HBW.out hba⟩
                case measure => simp [intOf]; omega
              · have hge := scmp_ge hlr
                generalize scmp f.row.data.toList row.data.toList = s1 at *
                have hge1 : decide (0 ≤ s1) = true := decide_eq_true hge
                by_cases h0 : to.size = 0
                · have e0 := empB h0
                  have HSN : Hid (rowsC row to (LL.take (k + 1)) = rowsC row to (LL.take k) ++ [f]) := Lib.hid (by rw [HSN0.out, inR_yes0 hlr h0]; simp)
                  clear hlr ht2 h0 hge
                  go_wp2_with fail
                  refine (ht1 _).mono ?_
                  rintro e wa ⟨rfl, hba⟩
                  obtain ⟨d0, d1, d2, d3, d4⟩ := H5.out.up HBL.out hba
                  have hal := bwalloc (bwrefl wa) (.cells #[.string f.row, .string f.col, .int .i64 f.at_, .string f.val, .bool f.gone] 29)
                  have hoA := (HO.out.below hba).below hal
                  have hrA := RdL.one wa [] f (by simp) 29
                  have hlA : (rowsC row to (LL.take k)).length + [f].length ≤ 2199023255552 := by have := rowsC_len row to LL k; simp; omega
                  have hsA := Nat.le_trans (bwstep HBW.out hba).size hal.size
                  have hBA := bwstep (bwstep HBW.out hba) hal
                  go_wp2_with (at_builtin; refine wpList_appL rfl (.tmp 92) (.tmp 97) rfl rfl hoA rfl hrA hlA hsA ?_; intro v9 w9 o9 g9 h9; have HO9 := Lib.hid o9; have HB9 := Lib.hid (hBA.grown g9 hsA (fun q hq => (hoA.lt q hq).1)); clear g9 h9 o9 hoA hrA hlA hsA hBA hal)
                  go_roundw
                  case rel => exact ⟨k + 1, by omega, by go_num, Lib.hid (by rw [HSN.out]; exact HO9.out), HB9.out⟩
                  case measure => simp [intOf]; omega
                · have e0 := nempB h0
                  by_cases hlt2 : f.row.data.toList < to.data.toList
                  · have HSN : Hid (rowsC row to (LL.take (k + 1)) = rowsC row to (LL.take k) ++ [f]) := Lib.hid (by rw [HSN0.out, inR_yes1 hlr hlt2]; simp)
                    rw [scmp_lt hlt2] at ht2
                    clear hlr hlt2 h0 hge
                    go_wp2_with fail
                    refine (ht1 _).mono ?_
                    rintro e wa ⟨rfl, hba⟩
                    obtain ⟨d0, d1, d2, d3, d4⟩ := H5.out.up HBL.out hba
                    go_wp2_with fail
                    refine (ht2 _).mono ?_
                    rintro e wb ⟨rfl, hbb⟩
                    obtain ⟨g0, g1, g2, g3, g4⟩ := H5.out.up HBL.out (bwstep hba hbb)
                    have hal := bwalloc (bwrefl wb) (.cells #[.string f.row, .string f.col, .int .i64 f.at_, .string f.val, .bool f.gone] 29)
                    have hoA := (HO.out.below (bwstep hba hbb)).below hal
                    have hrA := RdL.one wb [] f (by simp) 29
                    have hlA : (rowsC row to (LL.take k)).length + [f].length ≤ 2199023255552 := by have := rowsC_len row to LL k; simp; omega
                    have hsA := Nat.le_trans (bwstep HBW.out (bwstep hba hbb)).size hal.size
                    have hBA := bwstep (bwstep HBW.out (bwstep hba hbb)) hal
                    go_wp2_with (at_builtin; refine wpList_appL rfl (.tmp 92) (.tmp 97) rfl rfl hoA rfl hrA hlA hsA ?_; intro v9 w9 o9 g9 h9; have HO9 := Lib.hid o9; have HB9 := Lib.hid (hBA.grown g9 hsA (fun q hq => (hoA.lt q hq).1)); clear g9 h9 o9 hoA hrA hlA hsA hBA hal)
                    go_roundw
                    case rel => exact ⟨k + 1, by omega, by go_num, Lib.hid (by rw [HSN.out]; exact HO9.out), HB9.out⟩
                    case measure => simp [intOf]; omega
                  · have HSN : Hid (rowsC row to (LL.take (k + 1)) = rowsC row to (LL.take k)) := Lib.hid (by rw [HSN0.out, inR_no2 h0 hlt2]; simp)
                    have hge2 := scmp_ge hlt2
                    generalize scmp f.row.data.toList to.data.toList = s2 at *
                    have hge3 : decide (s2 < 0) = false := decide_eq_false (by omega)
                    clear hlr hlt2 h0 hge hge2
                    go_wp2_with fail
                    refine (ht1 _).mono ?_
                    rintro e wa ⟨rfl, hba⟩
                    obtain ⟨d0, d1, d2, d3, d4⟩ := H5.out.up HBL.out hba
                    go_wp2_with fail
                    refine (ht2 _).mono ?_
                    rintro e wb ⟨rfl, hbb⟩
                    go_wp2_with fail
                    go_roundw
                    case rel => exact ⟨k + 1, by omega, by go_num, Lib.hid (by rw [HSN.out]; exact HO.out.below (bwstep hba hbb)), bwstep HBW.out (bwstep hba hbb)⟩
                    case measure => simp [intOf]; omega
            · obtain rfl : k = LL.length := by omega
              rw [List.take_length] at HO
              have HG2 := Lib.hid (HG.out.up hbw)
              have HR2 := Lib.hid (HO.out.rd (S := []) (fun _ h => by cases h))
              have hrl : (rowsC row to LL).length ≤ LL.length := List.length_filter_le _ _
              clear hbw HBW
              go_wp2_with (first
                | (refine loadC rfl (.tmp 13) rfl rfl HG2.out.ig ?_)
                | (refine loadC rfl (.tmp 15) rfl rfl HG2.out.ik ?_)
                | (refine eqC rfl (.tmp 103) (.tmp 104) _ rfl d d rfl rfl (decide_eq_true rfl) ?_))
              refine (mrows_any b vm LL row to _ HG2.out.m HF.out.srt HF.out.ok (by omega)).mono ?_
              rintro e wa ⟨⟨x, rfl, hx⟩, hba⟩
              have HXA := Lib.hid (hx.rd (S := []) (fun _ h => by cases h))
              have HRA := Lib.hid (HR2.out.bel hba)
              have HBA := Lib.hid (bwstep HG2.out.bel hba)
              clear hx hba
              go_wp2_with fail
              refine (rsameL_self _ _ (rowsC row to LL) _ HXA.out HRA.out (by omega)).mono ?_
              rintro e wb ⟨rfl, hbb⟩
              have HBB := Lib.hid (bwstep HBA.out hbb)
              clear hbb
              go_wp2_with fail
              go_ret
              exact ⟨rfl, HBB.out⟩
        · have htb : decide (100 < (to.size : Int)) = true := decide_eq_true (by omega)
          go_wp2_with fail
          refine (mawake9_ok _).mono ?_
          rintro e w9 ⟨rfl, hb9⟩
          have H9 := Lib.hid (bwstep HB2.out hb9)
          clear hb9
          go_wp2_with fail
          go_ret
          exact ⟨rfl, H9.out⟩
      · have hcb : decide (100 < (col.size : Int)) = true := decide_eq_true (by omega)
        go_wp2_with fail
        refine (mawake9_ok _).mono ?_
        rintro e w9 ⟨rfl, hb9⟩
        have H9 := Lib.hid (bwstep HB2.out hb9)
        clear hb9
        go_wp2_with fail
        go_ret
        exact ⟨rfl, H9.out⟩
    · have hrb : decide (100 < (row.size : Int)) = true := decide_eq_true (by omega)
      go_wp2_with fail
      refine (mawake9_ok _).mono ?_
      rintro e w9 ⟨rfl, hb9⟩
      have H9 := Lib.hid (bwstep HB2.out hb9)
      clear hb9
      go_wp2_with fail
      go_ret
      exact ⟨rfl, H9.out⟩
end Go.Proofs.Ytffkbepcdidnjaa
