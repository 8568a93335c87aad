/- The statements of layer 1: their walks, going on. -/
import Derived.Test.YtlglokjehgejoaaWireK
namespace Go.Proofs.Ytlglokjehgejoaa
open Go.RowKit

set_option maxHeartbeats 1000000 in
set_option maxRecDepth 100000 in
theorem wireLists_walk (x : Value) (l : List UInt8) (w : World) (hx : Rd w w.heap.size x (l.map bv)) (_hl : l.length ≤ 140737488351232) :
    Calls Try.prog 5 #[x] w fun e w' => e = .returned (.bool true) ∧ Below w.heap.size w w' := by
  obtain ⟨A, c, rfl, hc, hm⟩ := hx.shapeM
  have hm' : c ≤ 9223372036854775807 := hm
  by_cases h3 : l.length ≤ 3000
  · by_cases h4 : 4 ≤ l.length
    · obtain ⟨b, off, rfl, -, -⟩ := hx.cellM (by omega)
      have hnl := numOf_lt l
      cases ht : takeTexts (numOf l) (l.drop 4) with
      | none =>
        have HT := Lib.hid ht
        clear ht
        go_enter Try.func5, Try.ntmps5
        go_wp2_with fail
        refine (awake_ok _).mono ?_
        rintro e w1 ⟨rfl, hb1⟩
        have hX1 := hx.up hb1
        go_wp2_with fail
        refine (cutTexts_no _ l _ _ (Nat.le_refl _) hX1 h4 HT.out).mono ?_
        rintro e w2 ⟨r2, rfl, hr2, hb2⟩
        have HQ := Lib.hid hr2.rd
        obtain ⟨A4, c4, rfl, -, -⟩ := HQ.out.shapeM
        have HB2 := Lib.hid (bwstep hb1 hb2)
        have hX2 := hX1.up hb2
        have HX := Lib.hid hX2
        clear hr2 hb1 hb2 hX1
        go_wp2_with fail
        refine (rat_ok _ l 0 _ _ hX2 (by omega) (by omega)).mono ?_
        rintro e w3 ⟨rfl, hb3⟩
        rw [List.drop_zero]
        clear hX2
        go_wp2_with fail
        go_loopw [7, 8, 9] (fun a v i wr => ∃ (k at_ : Nat) (acc : List ByteArray), k ≤ numOf l ∧ k ≤ 1000 ∧ i = .int .i64 k ∧ a = .int .i64 at_ ∧ at_ ≤ l.length ∧ 4 + 4 * k ≤ at_ ∧ takeTexts k (l.drop 4) = some (acc, l.drop at_) ∧ Ow wr w2.heap.size 9 v (acc.map sv) ∧ Below w2.heap.size w2 wr) (fun _ _ i _ => numOf l - (intOf i).toNat)
        case atStart => exact ⟨0, 4, [], by omega, by omega, rfl, rfl, h4, by omega, rfl, Ow.nil _ _ _, hb3⟩
        case round =>
          obtain ⟨k, at_, acc, hk, hk2, rfl, rfl, hat, hat4, htk, hok, hbk⟩ := hrel
          have HK := Lib.hid htk
          clear htk
          have hkk : k < 1000 := by omega
          have HXr := Lib.hid (HX.out.up hbk)
          by_cases hlt : k < numOf l
          · by_cases ho : textOk (l.drop at_)
            · have ho2 := ho.2
              rw [List.length_drop] at ho2
              have ho4 := ho.1
              rw [List.length_drop] at ho4
              obtain ⟨e1, e2⟩ := textThere_ok _ ho
              have HE1 := Lib.hid e1
              have HE2 := Lib.hid e2
              have HR := Lib.hid (textRest_eq (l.drop at_))
              have HO := Lib.hid ho
              have HL := Lib.hid (takeTexts_len HK.out).1
              clear e1 e2 ho
              go_wp2_with fail
              refine (rtextAt_any _ l at_ _ _ (Nat.le_refl _) HXr.out (by omega) (by omega)).mono ?_
              rintro e w4 ⟨rfl, hb4⟩
              rw [HE1.out, HE2.out]
              have hsz2 : (acc.map sv).length + [sv ⟨(textOf (l.drop at_)).toArray⟩].length ≤ maxLen := by have := HL.out; simp [maxLen]; omega
              have hsz : ((acc.map sv).length + [sv ⟨(textOf (l.drop at_)).toArray⟩].length) * 16 ≤ 140737488355328 := by have := HL.out; simp; omega
              have hs4 := Nat.le_trans hbk.size hb4.size
              generalize hgn : numOf (l.drop at_) = nn at *
              have HG := Lib.hid hgn
              clear hgn
              go_wp2_with (at_builtin; refine wpList_app textT rfl rfl _ _ rfl rfl ((hok.below hb4).below ((Below.refl _ _).alloc (Nat.le_refl _) _)) rfl (Rd.new _ _ _ rfl (by simp [maxLen]) rfl) (one_sv [⟨(textOf (l.drop at_)).toArray⟩]) hsz2 hsz (Nat.le_trans hs4 (by simp)) ?_; intro v' w' hown' hg hpl; clear hpl)
              go_roundw
              case rel =>
                refine ⟨k + 1, at_ + (4 + nn), acc ++ [⟨(textOf (l.drop at_)).toArray⟩], by omega, by omega, by go_num, by go_num, by omega, by omega, ?_, ?_, ?_⟩
                · rw [takeTexts_succ HK.out, if_pos HO.out, HR.out, List.drop_drop]
                · rw [List.map_append]; exact hown'
                · exact ((hbk.trans (hb4.mono hbk.size)).alloc hs4 _).trans (bwgrown hg hok.ge (Nat.le_trans hs4 (by simp)))
              case measure => simp [intOf]; omega
            · obtain ⟨e1, e2⟩ := textThere_no _ ho
              have HE1 := Lib.hid e1
              have HE2 := Lib.hid e2
              clear e1 e2
              go_wp2_with fail
              refine (rtextAt_any _ l at_ _ _ (Nat.le_refl _) HXr.out (by omega) (by omega)).mono ?_
              rintro e w4 ⟨rfl, hb4⟩
              rw [HE1.out, HE2.out]
              go_wp2_with fail
              go_ret
              exact ⟨rfl, bwstep (bwstep HB2.out hbk) hb4⟩
          · exfalso
            have hkn : k = numOf l := by omega
            have h1 := HK.out
            rw [hkn, HT.out] at h1
            cases h1
      | some r0 =>
        obtain ⟨acc0, m0⟩ := r0
        have HT := Lib.hid ht
        clear ht
        go_enter Try.func5, Try.ntmps5
        go_wp2_with fail
        refine (awake_ok _).mono ?_
        rintro e w1 ⟨rfl, hb1⟩
        have hX1 := hx.up hb1
        go_wp2_with fail
        refine (cutTexts_ok _ l _ _ (Nat.le_refl _) hX1 h4 (by omega) acc0 m0 HT.out).mono ?_
        rintro e w2 ⟨v2, r2, rfl, hv2, hr2, hb2⟩
        obtain ⟨A2, c2, rfl, -, -⟩ := hv2.shapeM
        have HV := Lib.hid hv2
        have HQ := Lib.hid hr2.rd
        obtain ⟨A4, c4, rfl, -, -⟩ := HQ.out.shapeM
        have HB2 := Lib.hid (bwstep hb1 hb2)
        have hX2 := hX1.up hb2
        have HX := Lib.hid hX2
        clear hr2 hb1 hb2 hX1 hv2
        go_wp2_with fail
        refine (rat_ok _ l 0 _ _ hX2 (by omega) (by omega)).mono ?_
        rintro e w3 ⟨rfl, hb3⟩
        rw [List.drop_zero]
        clear hX2
        go_wp2_with fail
        go_loopw [7, 8, 9] (fun a v i wr => ∃ (k at_ : Nat) (acc : List ByteArray), k ≤ numOf l ∧ k ≤ 1000 ∧ i = .int .i64 k ∧ a = .int .i64 at_ ∧ at_ ≤ l.length ∧ 4 + 4 * k ≤ at_ ∧ takeTexts k (l.drop 4) = some (acc, l.drop at_) ∧ Ow wr w2.heap.size 9 v (acc.map sv) ∧ Below w2.heap.size w2 wr) (fun _ _ i _ => numOf l - (intOf i).toNat)
        case atStart => exact ⟨0, 4, [], by omega, by omega, rfl, rfl, h4, by omega, rfl, Ow.nil _ _ _, hb3⟩
        case round =>
          obtain ⟨k, at_, acc, hk, hk2, rfl, rfl, hat, hat4, htk, hok, hbk⟩ := hrel
          have HK := Lib.hid htk
          clear htk
          have hkk : k < 1000 := by omega
          have HXr := Lib.hid (HX.out.up hbk)
          by_cases hlt : k < numOf l
          · by_cases ho : textOk (l.drop at_)
            · have ho2 := ho.2
              rw [List.length_drop] at ho2
              have ho4 := ho.1
              rw [List.length_drop] at ho4
              obtain ⟨e1, e2⟩ := textThere_ok _ ho
              have HE1 := Lib.hid e1
              have HE2 := Lib.hid e2
              have HR := Lib.hid (textRest_eq (l.drop at_))
              have HO := Lib.hid ho
              have HL := Lib.hid (takeTexts_len HK.out).1
              clear e1 e2 ho
              go_wp2_with fail
              refine (rtextAt_any _ l at_ _ _ (Nat.le_refl _) HXr.out (by omega) (by omega)).mono ?_
              rintro e w4 ⟨rfl, hb4⟩
              rw [HE1.out, HE2.out]
              have hsz2 : (acc.map sv).length + [sv ⟨(textOf (l.drop at_)).toArray⟩].length ≤ maxLen := by have := HL.out; simp [maxLen]; omega
              have hsz : ((acc.map sv).length + [sv ⟨(textOf (l.drop at_)).toArray⟩].length) * 16 ≤ 140737488355328 := by have := HL.out; simp; omega
              have hs4 := Nat.le_trans hbk.size hb4.size
              generalize hgn : numOf (l.drop at_) = nn at *
              have HG := Lib.hid hgn
              clear hgn
              go_wp2_with (at_builtin; refine wpList_app textT rfl rfl _ _ rfl rfl ((hok.below hb4).below ((Below.refl _ _).alloc (Nat.le_refl _) _)) rfl (Rd.new _ _ _ rfl (by simp [maxLen]) rfl) (one_sv [⟨(textOf (l.drop at_)).toArray⟩]) hsz2 hsz (Nat.le_trans hs4 (by simp)) ?_; intro v' w' hown' hg hpl; clear hpl)
              go_roundw
              case rel =>
                refine ⟨k + 1, at_ + (4 + nn), acc ++ [⟨(textOf (l.drop at_)).toArray⟩], by omega, by omega, by go_num, by go_num, by omega, by omega, ?_, ?_, ?_⟩
                · rw [takeTexts_succ HK.out, if_pos HO.out, HR.out, List.drop_drop]
                · rw [List.map_append]; exact hown'
                · exact ((hbk.trans (hb4.mono hbk.size)).alloc hs4 _).trans (bwgrown hg hok.ge (Nat.le_trans hs4 (by simp)))
              case measure => simp [intOf]; omega
            · exfalso
              have h1 := takeTexts_none (j := numOf l) (by rw [takeTexts_succ HK.out, if_neg ho]) (by omega)
              rw [HT.out] at h1
              cases h1
          · have hkn : k = numOf l := by omega
            have h1 := HK.out
            rw [hkn, HT.out] at h1
            simp only [Option.some.injEq, Prod.mk.injEq] at h1
            obtain ⟨rfl, rfl⟩ := h1
            have HKN := Lib.hid hkn
            clear hkn
            by_cases hca : c = at_
            · have hca2 := hca.symm
              clear hca
              subst hca2
              go_wp2_with fail
              refine (rstrings_any _ _ acc0 acc0 _ _ _ (Nat.le_refl _) (Nat.le_refl _) (HV.out.up hbk) hok.rd).mono ?_
              rintro e w5 ⟨rfl, hb5⟩
              have est : sameT acc0 acc0 = true := by simp [sameT]
              rw [est]
              clear est
              have HX5 := HXr.out.up hb5
              have HQ5 := (HQ.out.up hbk).up hb5
              rw [List.length_drop] at HQ5
              have e0 : l.length - at_ = 0 := by omega
              rw [e0] at HQ5
              clear e0
              go_wp2_with fail
              refine (rsame_any _ _ (l.drop at_) (l.drop at_) _ _ _ HQ5 (by rw [List.map_drop]; exact HX5.fromEnd hat)).mono ?_
              rintro e w6 ⟨rfl, rfl⟩
              rw [sameB_self]
              go_wp2_with fail
              go_ret
              exact ⟨rfl, bwstep (bwstep HB2.out hbk) hb5⟩
            · skip
              go_wp2_with fail
              refine (rstrings_any _ _ acc0 acc0 _ _ _ (Nat.le_refl _) (Nat.le_refl _) (HV.out.up hbk) hok.rd).mono ?_
              rintro e w5 ⟨rfl, hb5⟩
              have est : sameT acc0 acc0 = true := by simp [sameT]
              rw [est]
              clear est
              have HX5 := HXr.out.up hb5
              have HQ5 := (HQ.out.up hbk).up hb5
              rw [List.length_drop] at HQ5
              go_wp2_with fail
              refine (rsame_any _ _ (l.drop at_) (l.drop at_) _ _ _ HQ5 (by rw [List.map_drop]; exact HX5.fromC hat hca)).mono ?_
              rintro e w6 ⟨rfl, rfl⟩
              rw [sameB_self]
              go_wp2_with fail
              go_ret
              exact ⟨rfl, bwstep (bwstep HB2.out hbk) hb5⟩
    · skip
      go_enter Try.func5, Try.ntmps5
      go_wp2_with fail
      refine (awake_ok _).mono ?_
      rintro e w1 ⟨rfl, hb1⟩
      have hX1 := hx.up hb1
      go_wp2_with fail
      refine (cutTexts_short _ l _ _ hX1 (by omega)).mono ?_
      rintro e w2 ⟨r2, rfl, hr2, hb2⟩
      have hB2 := bwstep hb1 hb2
      have hX2 := hX1.up hb2
      clear hr2 hb1 hb2 hX1
      go_wp2_with fail
      refine (rat_no _ l 0 _ _ hX2 (by omega) (by omega)).mono ?_
      rintro e w3 ⟨rfl, rfl⟩
      go_wp2_with fail
      refine wp_loop_rounds 1 ?_
      rw [rounds_succ]
      go_wp2_with fail
      go_ret
      exact ⟨rfl, hB2⟩
  · skip
    go_enter Try.func5, Try.ntmps5
    go_wp2_with fail
    refine (awake_ok _).mono ?_
    rintro e w1 ⟨rfl, hb1⟩
    have hX1 := hx.up hb1
    go_wp2_with fail
    refine (awake_ok _).mono ?_
    rintro e w2 ⟨rfl, hb2⟩
    go_wp2_with fail
    go_ret
    exact ⟨rfl, bwstep hb1 hb2⟩
end Go.Proofs.Ytlglokjehgejoaa
