/- Layer 13's awake; slices of slices of cells made by hand. -/
import Derived.Test.YtknkdehjgkjljaaMgV
import Derived.Test.YtknkdehjgkjljaaMgM
import Derived.Test.YtknkdehjgkjljaaMgs
import Derived.Test.YtknkdehjgkjljaaMs
namespace Go.Proofs.Ytknkdehjgkjljaa.Ce
open Go.RowKit

theorem RdL.one_ {w : World} {S : List Nat} {u : Value} {L : List Cl} (h : RdL w S u L) : u.oneCell' = true := by
  obtain ⟨A, c, rfl, -, -⟩ := h.shape
  rfl
theorem RdB.two (w : World) {u1 u2 : Value} {L1 L2 : List Cl} (h1 : RdL w [] u1 L1) (h2 : RdL w [] u2 L2) (t : Nat) : RdB (w.alloc (.cells #[u1, u2] t)) (.slice (some ⟨w.heap.size, 0, none⟩) 2 2) [L1, L2] := by
  have hb := bwalloc (bwrefl w) (.cells #[u1, u2] t)
  refine ⟨[u1, u2], Rd.newW (xs := [u1, u2]) w t #[u1, u2] rfl (by simp [maxLen]) rfl, rfl, fun j u L hu hL => ?_⟩
  match j with
  | 0 => simp at hu hL; subst hu hL; exact h1.bel hb
  | 1 => simp at hu hL; subst hu hL; exact h2.bel hb
  | j + 2 => simp at hu
theorem RdB.three (w : World) {u1 u2 u3 : Value} {L1 L2 L3 : List Cl} (h1 : RdL w [] u1 L1) (h2 : RdL w [] u2 L2) (h3 : RdL w [] u3 L3) (t : Nat) : RdB (w.alloc (.cells #[u1, u2, u3] t)) (.slice (some ⟨w.heap.size, 0, none⟩) 3 3) [L1, L2, L3] := by
  have hb := bwalloc (bwrefl w) (.cells #[u1, u2, u3] t)
  refine ⟨[u1, u2, u3], Rd.newW (xs := [u1, u2, u3]) w t #[u1, u2, u3] rfl (by simp [maxLen]) rfl, rfl, fun j u L hu hL => ?_⟩
  match j with
  | 0 => simp at hu hL; subst hu hL; exact h1.bel hb
  | 1 => simp at hu hL; subst hu hL; exact h2.bel hb
  | 2 => simp at hu hL; subst hu hL; exact h3.bel hb
  | j + 3 => simp at hu
def aw1 : Cl := ⟨⟨#[97]⟩, ⟨#[120]⟩, 5, ⟨#[110, 101, 119]⟩, false⟩
def aw2 : Cl := ⟨⟨#[97]⟩, ⟨#[120]⟩, 5, ⟨#[111, 108, 100]⟩, false⟩
def aw3 : Cl := ⟨⟨#[97]⟩, ⟨#[120]⟩, 3, ⟨#[]⟩, true⟩
theorem aw_srt : ∀ M ∈ [[aw1], [aw2, aw3]], Srt M := fun M hM => by
  rcases List.mem_cons.1 hM with rfl | hM
  · exact List.pairwise_singleton _ _
  · rw [List.mem_singleton.1 hM]
    exact List.pairwise_cons.2 ⟨fun x hx => by rw [List.mem_singleton.1 hx]; exact .inr ⟨rfl, .inr ⟨rfl, by decide⟩⟩, List.pairwise_singleton _ _⟩
theorem aw_all : allP [[aw1], [aw2, aw3]] = [aw1, aw3] := by decide +kernel
theorem aw_srt2 : Srt [aw1, aw3] := aw_all ▸ srt_all _
theorem aw_clean : (cleanP 4 [aw1, aw3]).length = 1 := by decide +kernel
theorem aw_vis3 : (visP 3 [aw1, aw3]).length = 0 := by decide +kernel
theorem aw_vis9 : (visP 9 [aw1, aw3]).length = 1 := by decide +kernel
/-- a slice of so many cells -/
def LenEnd (n : Nat) (w : World) (e : Ending) (w' : World) : Prop := (∃ A c, e = .returned (.slice A n c)) ∧ Below w.heap.size w w'
theorem LenEnd.of {n : Nat} {L : List Cl} {w w' : World} {e : Ending} (hn : L.length = n) (h : (∃ x, e = .returned x ∧ OwL w' w.heap.size x L) ∧ Below w.heap.size w w') : LenEnd n w e w' := by
  obtain ⟨⟨x, rfl, hx⟩, hb⟩ := h
  obtain ⟨A, c, rfl, -, -⟩ := (hx.rd (S := []) (fun _ h => by cases h)).shape
  exact ⟨⟨A, c, by rw [hn]⟩, hb⟩
set_option maxHeartbeats 2000000 in
set_option maxRecDepth 100000 in
theorem awake13_ok (w : World) : Calls Try.prog 10 #[] w fun e w' => e = .returned (.bool true) ∧ Below w.heap.size w w' := by
  have h1 := RdL.one w [] aw1 (by simp) 35
  have b1 := bwalloc (bwrefl w) (.cells #[.string aw1.row, .string aw1.col, .int .i64 aw1.at_, .string aw1.val, .bool aw1.gone] 35)
  have h2 := RdL.two (w.alloc (.cells #[.string aw1.row, .string aw1.col, .int .i64 aw1.at_, .string aw1.val, .bool aw1.gone] 35)) [] aw2 aw3 (by simp) 35
  have e1 : (w.alloc (.cells #[.string aw1.row, .string aw1.col, .int .i64 aw1.at_, .string aw1.val, .bool aw1.gone] 35)).heap.size = w.heap.size + 1 := by simp
  have e2 : ((w.alloc (.cells #[.string aw1.row, .string aw1.col, .int .i64 aw1.at_, .string aw1.val, .bool aw1.gone] 35)).alloc (.cells #[.string aw2.row, .string aw2.col, .int .i64 aw2.at_, .string aw2.val, .bool aw2.gone, .string aw3.row, .string aw3.col, .int .i64 aw3.at_, .string aw3.val, .bool aw3.gone] 35)).heap.size = w.heap.size + 1 + 1 := by simp
  rw [e1] at h2
  have b2 := bwalloc (bwrefl (w.alloc (.cells #[.string aw1.row, .string aw1.col, .int .i64 aw1.at_, .string aw1.val, .bool aw1.gone] 35))) (.cells #[.string aw2.row, .string aw2.col, .int .i64 aw2.at_, .string aw2.val, .bool aw2.gone, .string aw3.row, .string aw3.col, .int .i64 aw3.at_, .string aw3.val, .bool aw3.gone] 35)
  have h3 := RdB.two _ (h1.bel b2) h2 27
  rw [e2] at h3
  have b3 := bwalloc (bwstep b1 b2) (.cells #[.slice (some ⟨w.heap.size, 0, none⟩) 1 1, .slice (some ⟨w.heap.size + 1, 0, none⟩) 2 2] 27)
  have h13 := (h1.bel b2).bel (bwalloc (bwrefl _) (.cells #[.slice (some ⟨w.heap.size, 0, none⟩) 1 1, .slice (some ⟨w.heap.size + 1, 0, none⟩) 2 2] 27))
  have hall := all_any _ [[aw1], [aw2, aw3]] _ h3 aw_srt (by decide) (by decide)
  rw [aw_all] at hall
  have HALL := Lib.hid hall
  have HB3 := Lib.hid b3
  have H13 := Lib.hid h13
  clear h1 b1 h2 b2 h3 b3 h13 hall e1 e2
  go_enter Try.func10, Try.ntmps10
  go_wp2_with fail
  refine HALL.out.mono ?_
  rintro e w4 ⟨⟨x, rfl, hx⟩, hb4⟩
  have hxr := hx.rd (S := []) (fun _ h => by cases h)
  obtain ⟨A4, c4, rfl, hc4, hm4⟩ := hxr.shape
  obtain ⟨b4, o4, rfl, hbl4, -, -⟩ := hxr.open_ (by simp)
  have HX := Lib.hid hxr
  have HA := Lib.hid (H13.out.bel hb4)
  have HB4 := Lib.hid (bwstep HB3.out hb4)
  have hlen : [aw1, aw3].length = 2 := rfl
  rw [hlen] at *
  have hSS : ∀ w', Below w4.heap.size w4 w' → (w'.cell? ⟨b4, o4, none⟩ = some (.string aw1.row) ∧ w'.cell? ⟨b4, o4 + 1, none⟩ = some (.string aw1.col) ∧ w'.cell? ⟨b4, o4 + 2, none⟩ = some (.int .i64 aw1.at_) ∧ w'.cell? ⟨b4, o4 + 3, none⟩ = some (.string aw1.val) ∧ w'.cell? ⟨b4, o4 + 4, none⟩ = some (.bool aw1.gone) ∧ w'.cell? ⟨w.heap.size, 0, none⟩ = some (.string aw1.row) ∧ w'.cell? ⟨w.heap.size, 1, none⟩ = some (.string aw1.col) ∧ w'.cell? ⟨w.heap.size, 2, none⟩ = some (.int .i64 aw1.at_) ∧ w'.cell? ⟨w.heap.size, 3, none⟩ = some (.string aw1.val) ∧ w'.cell? ⟨w.heap.size, 4, none⟩ = some (.bool aw1.gone) ∧ Below w4.heap.size w4 w') := fun w' hb => by
    obtain ⟨⟨i0, i1, i2, i3, i4⟩, -⟩ := (HX.out.bel hb).at_ (k := 0) (f := aw1) rfl
    obtain ⟨⟨j0, j1, j2, j3, j4⟩, -⟩ := (HA.out.bel hb).at_ (k := 0) (f := aw1) rfl
    exact ⟨i0, i1, i2, i3, i4, j0, j1, j2, j3, j4, hb⟩
  have HSS := Lib.hid hSS
  have HT := Lib.hid (hSS _ (Below.refl _ _).drew)
  have HC1 : Hid (∀ w', Below w4.heap.size w4 w' → Calls Try.prog 18 #[.slice (some ⟨b4, o4, none⟩) 2 c4, .int .i64 4] w' (LenEnd 1 w')) := Lib.hid fun w' hb => (clean_any _ [aw1, aw3] 4 w' (HX.out.bel hb) aw_srt2 (by decide)).mono fun e w2 h => LenEnd.of aw_clean h
  have HVT : Hid (∀ t w', Below w4.heap.size w4 w' → Calls Try.prog 20 #[.slice (some ⟨b4, o4, none⟩) 2 c4, .int .i64 t] w' (LenEnd (visP t [aw1, aw3]).length w')) := Lib.hid fun t w' hb => (vis_any _ [aw1, aw3] t w' (HX.out.bel hb) aw_srt2 (by decide)).mono fun e w2 h => LenEnd.of rfl h
  have HD : Hid (Below w4.heap.size w4 w4.drew) := Lib.hid (Below.refl _ _).drew
  clear hSS hx hb4 hxr hbl4 HALL H13 HB3
  go_wp2_with fail
  go_region_held3 (fun w' => w'.cell? ⟨b4, o4, none⟩ = some (.string aw1.row) ∧ w'.cell? ⟨b4, o4 + 1, none⟩ = some (.string aw1.col) ∧ w'.cell? ⟨b4, o4 + 2, none⟩ = some (.int .i64 aw1.at_) ∧ w'.cell? ⟨b4, o4 + 3, none⟩ = some (.string aw1.val) ∧ w'.cell? ⟨b4, o4 + 4, none⟩ = some (.bool aw1.gone) ∧ w'.cell? ⟨w.heap.size, 0, none⟩ = some (.string aw1.row) ∧ w'.cell? ⟨w.heap.size, 1, none⟩ = some (.string aw1.col) ∧ w'.cell? ⟨w.heap.size, 2, none⟩ = some (.int .i64 aw1.at_) ∧ w'.cell? ⟨w.heap.size, 3, none⟩ = some (.string aw1.val) ∧ w'.cell? ⟨w.heap.size, 4, none⟩ = some (.bool aw1.gone) ∧ Below w4.heap.size w4 w') (first | exact HT.out | assumption | (exact HSS.out _ (by assumption)))
    (first
      | (refine wp_eqC (.tmp 19) (.tmp 22) _ rfl aw1 aw1 rfl rfl (b := true) (decide_eq_true rfl) ?_)
      | (go_at_call 18; refine (HC1.out _ HD.out).mono ?_; rintro e wa ⟨⟨Aa, ca, rfl⟩, hba⟩; have hBa := bwstep HD.out hba; clear hba)
      | (go_at_call 20; refine (HVT.out _ _ hBa).mono ?_; rintro e wb ⟨⟨Ab, cb, rfl⟩, hbb⟩; rw [aw_vis3]; have hBb := bwstep hBa hbb; clear hbb)
      | (go_at_call 20; refine (HVT.out _ _ hBb).mono ?_; rintro e wc ⟨⟨Ac, cc, rfl⟩, hbc⟩; rw [aw_vis9]; have hBc := bwstep hBb hbc; clear hbc))
  all_goals
    go_wp2_with fail
    go_ret
    exact ⟨rfl, bwstep HB4.out hBc⟩
end Go.Proofs.Ytknkdehjgkjljaa.Ce
