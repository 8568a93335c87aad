/- The contracts of Visible and Clean of package merge. -/
import Derived.Test.YtknkdehjgkjljaaMgF
namespace Go.Proofs.Ytknkdehjgkjljaa.Ce
open Go.RowKit

set_option maxHeartbeats 4000000 in
set_option maxRecDepth 100000 in
theorem vis_any (v : Value) (L : List Cl) (t : Int) (w : World) (hv : RdL w [] v L) (hs : Srt L) (hL : L.length ≤ 1000000000) :
    Calls Try.prog 20 #[v, .int .i64 t] w fun e w' => (∃ x, e = .returned x ∧ OwL w' w.heap.size x (visP t L)) ∧ Below w.heap.size w w' := by
  obtain ⟨A, c, rfl, hc, hm⟩ := hv.shape
  unfold maxLen at hm
  have HV := Lib.hid hv
  have HN : Hid (∀ (f : Cl) (i : Nat) w', L[i]? = some f → Below w.heap.size w w' → Calls Try.prog 30 #[.slice A L.length c, .int .i64 (i : Int), .int .i64 t] w' fun e w2 => e = .returned (.bool (fndB L t f)) ∧ Below w'.heap.size w' w2) := Lib.hid fun f i w' hf hb => found_any _ L i f t w' (hv.bel hb) hs hf hL
  clear hv hs
  go_enter Try.func20, Try.ntmps20
  go_wp2_with fail
  go_loopw [5, 10] (fun o i wr => ∃ k : Nat, k ≤ L.length ∧ i = .int .i64 (k : Int) ∧ Hid (OwL wr w.heap.size o ((L.take k).filter fun c => fndB L t c)) ∧ Below w.heap.size w wr) (fun _ i _ => L.length - (intOf i).toNat)
  case atStart => exact ⟨0, by omega, rfl, Lib.hid (by simpa using OwL.nil _ _), Below.refl _ _⟩
  case round =>
    obtain ⟨k, hk, rfl, HO, hbw⟩ := hrel
    have HBW := Lib.hid hbw
    by_cases hlt : k < L.length
    · obtain ⟨b, off, rfl, -, -⟩ := HV.out.open_ (by omega)
      have hh3 : (0 : Int) ≤ (k : Int) := by omega
      have hh4 : (k : Int) < (L.length : Int) := by omega
      have hfk : L[k]? = some (L[k]'hlt) := List.getElem?_eq_getElem _
      generalize L[k]'hlt = f at hfk
      have HF5 : Hid (∀ z, Below w.heap.size w z → FiveAt b (off + k * 5) f z) := Lib.hid fun z hz => ((HV.out.bel hz).at_ hfk).1
      have HS := Lib.hid (filter_snoc hfk fun c => fndB L t c)
      have hnf := fun z hz => HN.out f k z hfk hz
      obtain ⟨c0, c1, c2, c3, c4⟩ := HF5.out _ hbw
      have hlen : ((L.take k).filter fun c => fndB L t c).length ≤ 1000000000 := Nat.le_trans (List.length_filter_le _ _) (by simp; omega)
      generalize (L.take k).filter (fun c => fndB L t c) = F at HO HS hlen
      clear hfk hbw
      generalize fndB L t f = q at HS hnf
      have HN2 := Lib.hid hnf
      clear hnf
      obtain ⟨wo, hwo⟩ : ∃ wo, wo = wr := ⟨_, rfl⟩
      subst hwo
      have H5O := Lib.hid (HF5.out _ HBW.out)
      go_wp2_with (first | (refine loadV (c := f) rfl (.tmp 13) rfl ⟨b, off + k * 5, none⟩ rfl H5O.out.all ?_) | (refine allocC rfl rfl ?_))
      constructor
      intro w1 hI1 hb1 hz1
      go_wp2_with (refine storeC (c := f) rfl (.tmp 7) (.tmp 14) rfl rfl rfl hI1 ?_)
      constructor
      intro w2 hs2
      have hb2 := hs2.bel hb1 (Nat.le_refl _)
      have HI2 := Lib.hid hs2.i
      have HO2 := Lib.hid (HO.out.below hb2)
      have HB2 := Lib.hid (bwstep HBW.out hb2)
      obtain ⟨d0, d1, d2, d3, d4⟩ := hs2.i.five
      clear hI1 hb1 hz1 hs2 hb2 c0 c1 c2 c3 c4
      go_wp2_with fail
      refine (HN2.out _ HB2.out).mono ?_
      rintro e w3 ⟨rfl, hb3⟩
      have HO3 := Lib.hid (HO2.out.below hb3)
      have HB3 := Lib.hid (bwstep HB2.out hb3)
      have HI3 := Lib.hid (HI2.out.up hb3)
      obtain ⟨e0, e1, e2, e3, e4⟩ := HI3.out.five
      clear d0 d1 d2 d3 d4 hb3 HN2
      cases q
      · have HE : Hid (((L.take (k + 1)).filter fun c => fndB L t c) = F) := Lib.hid (by rw [HS.out]; simp)
        clear HS e0 e1 e2 e3 e4
        go_wp2_with fail
        go_roundw
        case rel => exact ⟨k + 1, by omega, by go_num, Lib.hid (by rw [HE.out]; exact HO3.out), HB3.out⟩
        case measure => simp [intOf]; omega
      · have HE : Hid (((L.take (k + 1)).filter fun c => fndB L t c) = F ++ [f]) := Lib.hid (by rw [HS.out]; simp)
        clear HS
        have hx := RdL.one w3 [] f (by simp) 35
        have ho2 := HO3.out.below (bwalloc (bwrefl w3) (.cells #[.string f.row, .string f.col, .int .i64 f.at_, .string f.val, .bool f.gone] 35))
        have hb2 := bwalloc HB3.out (.cells #[.string f.row, .string f.col, .int .i64 f.at_, .string f.val, .bool f.gone] 35)
        have hs2 := hb2.size
        have hl2 : F.length + [f].length ≤ 2199023255552 := by simp; omega
        go_wp2_with (at_builtin; refine wpList_appL rfl (.tmp 19) (.tmp 21) rfl rfl ho2 rfl hx hl2 hs2 ?_; intro v4 w4 ho4 hg4 _; have HO4 := Lib.hid ho4; have HB4 := Lib.hid (hb2.grown hg4 hs2 (fun q hq => (ho2.lt q hq).1)); clear ho4 hg4)
        go_roundw
        case rel => exact ⟨k + 1, by omega, by go_num, Lib.hid (by rw [HE.out]; exact HO4.out), HB4.out⟩
        case measure => simp [intOf]; omega
    · obtain rfl : k = L.length := by omega
      rw [List.take_length] at HO
      go_wp2_with fail
      go_ret
      exact ⟨⟨_, rfl, HO.out⟩, HBW.out⟩
set_option maxHeartbeats 4000000 in
set_option maxRecDepth 100000 in
theorem clean_any (v : Value) (L : List Cl) (t : Int) (w : World) (hv : RdL w [] v L) (hs : Srt L) (hL : L.length ≤ 1000000000) :
    Calls Try.prog 18 #[v, .int .i64 t] w fun e w' => (∃ x, e = .returned x ∧ OwL w' w.heap.size x (cleanP t L)) ∧ Below w.heap.size w w' := by
  obtain ⟨A, c, rfl, hc, hm⟩ := hv.shape
  unfold maxLen at hm
  have HV := Lib.hid hv
  have HN : Hid (∀ (f : Cl) (i : Nat) w', L[i]? = some f → Below w.heap.size w w' → Calls Try.prog 30 #[.slice A L.length c, .int .i64 (i : Int), .int .i64 t] w' fun e w2 => e = .returned (.bool (fndB L t f)) ∧ Below w'.heap.size w' w2) := Lib.hid fun f i w' hf hb => found_any _ L i f t w' (hv.bel hb) hs hf hL
  clear hv hs
  go_enter Try.func18, Try.ntmps18
  go_wp2_with fail
  go_loopw [5, 10] (fun o i wr => ∃ k : Nat, k ≤ L.length ∧ i = .int .i64 (k : Int) ∧ Hid (OwL wr w.heap.size o ((L.take k).filter fun c => decide (t < c.at_) || fndB L t c)) ∧ Below w.heap.size w wr) (fun _ i _ => L.length - (intOf i).toNat)
  case atStart => exact ⟨0, by omega, rfl, Lib.hid (by simpa using OwL.nil _ _), Below.refl _ _⟩
  case round =>
    obtain ⟨k, hk, rfl, HO, hbw⟩ := hrel
    have HBW := Lib.hid hbw
    by_cases hlt : k < L.length
    · obtain ⟨b, off, rfl, -, -⟩ := HV.out.open_ (by omega)
      have hh3 : (0 : Int) ≤ (k : Int) := by omega
      have hh4 : (k : Int) < (L.length : Int) := by omega
      have hfk : L[k]? = some (L[k]'hlt) := List.getElem?_eq_getElem _
      generalize L[k]'hlt = f at hfk
      have HF5 : Hid (∀ z, Below w.heap.size w z → FiveAt b (off + k * 5) f z) := Lib.hid fun z hz => ((HV.out.bel hz).at_ hfk).1
      have HS := Lib.hid (filter_snoc hfk fun c => decide (t < c.at_) || fndB L t c)
      have hnf := fun z hz => HN.out f k z hfk hz
      obtain ⟨c0, c1, c2, c3, c4⟩ := HF5.out _ hbw
      have hlen : ((L.take k).filter fun c => decide (t < c.at_) || fndB L t c).length ≤ 1000000000 := Nat.le_trans (List.length_filter_le _ _) (by simp; omega)
      generalize (L.take k).filter (fun c => decide (t < c.at_) || fndB L t c) = F at HO HS hlen
      clear hfk hbw
      generalize fndB L t f = q at HS hnf
      have HN2 := Lib.hid hnf
      clear hnf
      obtain ⟨wo, hwo⟩ : ∃ wo, wo = wr := ⟨_, rfl⟩
      subst hwo
      have H5O := Lib.hid (HF5.out _ HBW.out)
      go_wp2_with (first | (refine loadV (c := f) rfl (.tmp 13) rfl ⟨b, off + k * 5, none⟩ rfl H5O.out.all ?_) | (refine allocC rfl rfl ?_))
      constructor
      intro w1 hI1 hb1 hz1
      go_wp2_with (refine storeC (c := f) rfl (.tmp 7) (.tmp 14) rfl rfl rfl hI1 ?_)
      constructor
      intro w2 hs2
      have hb2 := hs2.bel hb1 (Nat.le_refl _)
      have HI2 := Lib.hid hs2.i
      have HO2 := Lib.hid (HO.out.below hb2)
      have HB2 := Lib.hid (bwstep HBW.out hb2)
      obtain ⟨d0, d1, d2, d3, d4⟩ := hs2.i.five
      clear hI1 hb1 hz1 hs2 hb2 c0 c1 c2 c3 c4
      by_cases ht : t < f.at_
      · have hdt := decide_eq_true ht
        have HE : Hid (((L.take (k + 1)).filter fun c => decide (t < c.at_) || fndB L t c) = F ++ [f]) := Lib.hid (by rw [HS.out, hdt]; simp)
        clear HS hdt
        have hx := RdL.one w2 [] f (by simp) 35
        have ho2 := HO2.out.below (bwalloc (bwrefl w2) (.cells #[.string f.row, .string f.col, .int .i64 f.at_, .string f.val, .bool f.gone] 35))
        have hb2 := bwalloc HB2.out (.cells #[.string f.row, .string f.col, .int .i64 f.at_, .string f.val, .bool f.gone] 35)
        have hs2 := hb2.size
        have hl2 : F.length + [f].length ≤ 2199023255552 := by simp; omega
        go_wp2_with (at_builtin; refine wpList_appL rfl (.tmp 25) (.tmp 27) rfl rfl ho2 rfl hx hl2 hs2 ?_; intro v3 w3 ho3 hg3 _; have HO3 := Lib.hid ho3; have HB3 := Lib.hid (hb2.grown hg3 hs2 (fun q hq => (ho2.lt q hq).1)); clear ho3 hg3)
        go_roundw
        case rel => exact ⟨k + 1, by omega, by go_num, Lib.hid (by rw [HE.out]; exact HO3.out), HB3.out⟩
        case measure => simp [intOf]; omega
      · have hdt := decide_eq_false ht
        rw [hdt, Bool.false_or] at HS
        clear hdt
        go_wp2_with fail
        refine (HN2.out _ HB2.out).mono ?_
        rintro e w3 ⟨rfl, hb3⟩
        have HO3 := Lib.hid (HO2.out.below hb3)
        have HB3 := Lib.hid (bwstep HB2.out hb3)
        have HI3 := Lib.hid (HI2.out.up hb3)
        obtain ⟨e0, e1, e2, e3, e4⟩ := HI3.out.five
        clear d0 d1 d2 d3 d4 hb3 HN2
        cases q
        · have HE : Hid (((L.take (k + 1)).filter fun c => decide (t < c.at_) || fndB L t c) = F) := Lib.hid (by rw [HS.out]; simp)
          clear HS e0 e1 e2 e3 e4
          go_wp2_with fail
          go_roundw
          case rel => exact ⟨k + 1, by omega, by go_num, Lib.hid (by rw [HE.out]; exact HO3.out), HB3.out⟩
          case measure => simp [intOf]; omega
        · have HE : Hid (((L.take (k + 1)).filter fun c => decide (t < c.at_) || fndB L t c) = F ++ [f]) := Lib.hid (by rw [HS.out]; simp)
          clear HS
          have hx := RdL.one w3 [] f (by simp) 35
          have ho2 := HO3.out.below (bwalloc (bwrefl w3) (.cells #[.string f.row, .string f.col, .int .i64 f.at_, .string f.val, .bool f.gone] 35))
          have hb2 := bwalloc HB3.out (.cells #[.string f.row, .string f.col, .int .i64 f.at_, .string f.val, .bool f.gone] 35)
          have hs2 := hb2.size
          have hl2 : F.length + [f].length ≤ 2199023255552 := by simp; omega
          go_wp2_with (at_builtin; refine wpList_appL rfl (.tmp 25) (.tmp 27) rfl rfl ho2 rfl hx hl2 hs2 ?_; intro v4 w4 ho4 hg4 _; have HO4 := Lib.hid ho4; have HB4 := Lib.hid (hb2.grown hg4 hs2 (fun q hq => (ho2.lt q hq).1)); clear ho4 hg4)
          go_roundw
          case rel => exact ⟨k + 1, by omega, by go_num, Lib.hid (by rw [HE.out]; exact HO4.out), HB4.out⟩
          case measure => simp [intOf]; omega
    · obtain rfl : k = L.length := by omega
      rw [List.take_length] at HO
      go_wp2_with fail
      go_ret
      exact ⟨⟨_, rfl, HO.out⟩, HBW.out⟩
end Go.Proofs.Ytknkdehjgkjljaa.Ce
