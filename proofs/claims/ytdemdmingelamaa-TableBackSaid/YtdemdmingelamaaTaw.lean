/- Layer 12's awake. -/
import Derived.Test.YtdemdmingelamaaTta
import Derived.Test.YtdemdmingelamaaMs
import Derived.Test.YtdemdmingelamaaTbu
namespace Go.Proofs.Ytdemdmingelamaa.Ce
open Go.RowKit Frm

def ak1 : Cl := ⟨⟨#[97]⟩, ⟨#[120]⟩, 5, ⟨#[53]⟩, false⟩
def ak2 : Cl := ⟨⟨#[98]⟩, ⟨#[120]⟩, 1, ⟨#[49]⟩, false⟩
theorem ak1_ok : ak1.ok := ⟨by decide, by decide, by decide, by decide, by decide, by decide, by decide, by decide⟩
theorem ak2_ok : ak2.ok := ⟨by decide, by decide, by decide, by decide, by decide, by decide, by decide, by decide⟩
theorem ak_lt : klt ak1 ak2 := .inl (by decide)
theorem ak_sorted : Sorted [ak1, ak2] := sorted_iff.2 ⟨fun c hc => by
  rcases List.mem_cons.1 hc with rfl | hc
  · exact ak1_ok
  · rw [List.mem_singleton.1 hc]; exact ak2_ok, List.pairwise_cons.2 ⟨fun x hx => by rw [List.mem_singleton.1 hx]; exact ak_lt, List.pairwise_singleton _ _⟩⟩
theorem ak_len : (flatC [ak1, ak2]).length = 40 := by
  rw [flatC, flatC, flatC, List.length_append, List.length_append, cellB_len, cellB_len]
  rfl
theorem ak_cut : (cutB 1 [ak1, ak2]).length = 2 := by
  unfold cutB
  rw [cutG, if_pos (by rw [cellB_len]; decide), cutG, if_pos (by rw [cellB_len]; decide), cutG, if_pos rfl]
  rfl
theorem ak_new : newest ⟨#[97]⟩ ⟨#[120]⟩ 7 [ak1, ak2] = some ak1 := by
  unfold newest
  rw [List.find?_cons_of_pos (by decide)]
theorem tab_nil : ¬ ∃ S LL, TabAt [] S LL := fun ⟨S, LL, h⟩ => by
  have := tab_len h
  simp at this
set_option maxHeartbeats 1000000 in
set_option maxRecDepth 100000 in
theorem tawake_ok (w : World) : Calls Try.prog 9 #[] w fun e w' => e = .returned (.bool true) ∧ Below w.heap.size w w' := by
  have b0 := bwalloc (bwrefl w) (.cells #[.string ak1.row, .string ak1.col, .int .i64 ak1.at_, .string ak1.val, .bool ak1.gone, .string ak2.row, .string ak2.col, .int .i64 ak2.at_, .string ak2.val, .bool ak2.gone] 42)
  have h0 := RdL.two w [] ak1 ak2 (by simp) 42
  have HR0 := Lib.hid h0
  have HB0 := Lib.hid b0
  have hbu := tb_ok _ [ak1, ak2] 1 _ HR0.out ak_sorted (by decide) (by rw [ak_len]; decide)
  have HTA := Lib.hid (tab_fit (size := 1) ak_sorted (by rw [ak_len]; decide) (by decide))
  have HTL := Lib.hid (tab_few2 (size := 1) ak_sorted (by decide) (by decide))
  obtain ⟨T, hT⟩ : ∃ T, tabB [ak1, ak2] (cutB 1 [ak1, ak2]) = T := ⟨_, rfl⟩
  rw [hT] at HTA HTL hbu
  clear h0 b0 hT
  go_enter Try.func9, Try.ntmps9
  go_wp2_with fail
  refine hbu.mono ?_
  rintro e w1 ⟨⟨x, rfl, hx⟩, hb1⟩
  have HX := Lib.hid hx
  have HR1 := Lib.hid (HR0.out.bel hb1)
  have HB1 := Lib.hid (bwstep HB0.out hb1)
  clear hx hb1 hbu
  go_wp2_with fail
  refine (open_any x T _ _ HX.out.rd (Nat.le_refl _) HTL.out.2).mono ?_
  rintro e w2 ⟨(⟨S, LL, b, hTA, rfl, htb⟩ | ⟨hno, rfl⟩), hb2⟩
  · obtain ⟨rfl, rfl⟩ := hTA.one HTA.out.1
    rw [ak_cut] at htb
    have HTB := Lib.hid htb
    have HR2 := Lib.hid (HR1.out.bel hb2)
    have HB2 := Lib.hid (bwstep HB1.out hb2)
    clear hTA htb hb2 HX HR1 HB1 HTA HTL
    go_wp2_with fail
    refine (open_any (.slice none 0 0) [] 0 _ (Rd.nil _ _) (Nat.zero_le _) (by simp)).mono ?_
    rintro e w3 ⟨(⟨S, LL, b', hTA, -, -⟩ | ⟨-, rfl⟩), hb3⟩
    · exact absurd ⟨_, _, hTA⟩ tab_nil
    have HTB3 := Lib.hid (HTB.out.up hb3)
    have HR3 := Lib.hid (HR2.out.bel hb3)
    have HB3 := Lib.hid (bwstep HB2.out hb3)
    clear hb3 HTB HR2 HB2
    have hg := tget_any _ b 2 [ak1, ak2] ⟨#[97]⟩ ⟨#[120]⟩ 7 w3 HTB3.out (sorted_iff.1 ak_sorted).2 (by decide) (by decide) (by decide)
    rw [show nwC ⟨#[97]⟩ ⟨#[120]⟩ 7 [ak1, ak2] = ak1 by unfold nwC; rw [ak_new]; rfl, show nwB ⟨#[97]⟩ ⟨#[120]⟩ 7 [ak1, ak2] = true by unfold nwB; rw [ak_new]; rfl] at hg
    go_wp2_with fail
    refine hg.mono ?_
    rintro e w4 ⟨rfl, hb4⟩
    have HTB4 := Lib.hid (HTB3.out.up hb4)
    have HR4 := Lib.hid (HR3.out.bel hb4)
    have HB4 := Lib.hid (bwstep HB3.out hb4)
    clear hb4 hg HTB3 HR3 HB3
    go_wp2_with (refine allocC rfl rfl ?_)
    constructor
    intro w5 hI5 hb5 hz5
    go_wp2_with (refine storeC (c := ak1) rfl (.tmp 8) (.tmp 48) rfl rfl rfl hI5 ?_)
    constructor
    intro w6 hs6
    have hb46 := hs6.bel hb5 (Nat.le_refl _)
    have HI6 := Lib.hid hs6.i
    have HTB6 := Lib.hid (HTB4.out.up hb46)
    have HR6 := Lib.hid (HR4.out.bel hb46)
    have HB6 := Lib.hid (bwstep HB4.out hb46)
    clear hI5 hb5 hz5 hs6 hb46 HTB4 HR4 HB4
    have hSS : ∀ w', Below w6.heap.size w6 w' → (w'.cell? ⟨w4.heap.size, 0, none⟩ = some (.string ak1.row) ∧ w'.cell? ⟨w4.heap.size, 1, none⟩ = some (.string ak1.col) ∧ w'.cell? ⟨w4.heap.size, 2, none⟩ = some (.int .i64 ak1.at_) ∧ w'.cell? ⟨w4.heap.size, 3, none⟩ = some (.string ak1.val) ∧ w'.cell? ⟨w4.heap.size, 4, none⟩ = some (.bool ak1.gone) ∧ w'.cell? ⟨w.heap.size, 0, none⟩ = some (.string ak1.row) ∧ w'.cell? ⟨w.heap.size, 1, none⟩ = some (.string ak1.col) ∧ w'.cell? ⟨w.heap.size, 2, none⟩ = some (.int .i64 ak1.at_) ∧ w'.cell? ⟨w.heap.size, 3, none⟩ = some (.string ak1.val) ∧ w'.cell? ⟨w.heap.size, 4, none⟩ = some (.bool ak1.gone) ∧ Below w6.heap.size w6 w') := fun w' hb => by
      obtain ⟨i0, i1, i2, i3, i4⟩ := (HI6.out.up hb).five
      obtain ⟨⟨j0, j1, j2, j3, j4⟩, -⟩ := (HR6.out.bel hb).at_ (k := 0) (f := ak1) rfl
      exact ⟨i0, i1, i2, i3, i4, j0, j1, j2, j3, j4, hb⟩
    have HD : Hid (Below w6.heap.size w6 w6.drew) := Lib.hid (Below.refl _ _).drew
    have HT := Lib.hid (hSS _ HD.out)
    have HSS := Lib.hid hSS
    have hmy : mayB [ak1, ak2] ⟨#[98]⟩ ⟨#[120]⟩ = true := may_yes (c := ak2) (by simp)
    have HMY := Lib.hid hmy
    clear hSS hmy
    go_wp2_with fail
    go_region_held3 (fun w' => w'.cell? ⟨w4.heap.size, 0, none⟩ = some (.string ak1.row) ∧ w'.cell? ⟨w4.heap.size, 1, none⟩ = some (.string ak1.col) ∧ w'.cell? ⟨w4.heap.size, 2, none⟩ = some (.int .i64 ak1.at_) ∧ w'.cell? ⟨w4.heap.size, 3, none⟩ = some (.string ak1.val) ∧ w'.cell? ⟨w4.heap.size, 4, none⟩ = some (.bool ak1.gone) ∧ w'.cell? ⟨w.heap.size, 0, none⟩ = some (.string ak1.row) ∧ w'.cell? ⟨w.heap.size, 1, none⟩ = some (.string ak1.col) ∧ w'.cell? ⟨w.heap.size, 2, none⟩ = some (.int .i64 ak1.at_) ∧ w'.cell? ⟨w.heap.size, 3, none⟩ = some (.string ak1.val) ∧ w'.cell? ⟨w.heap.size, 4, none⟩ = some (.bool ak1.gone) ∧ Below w6.heap.size w6 w') (first | exact HT.out | assumption | exact HSS.out _ (by assumption))
      (first
        | (refine wp_eqC (.tmp 52) (.tmp 55) _ rfl ak1 ak1 rfl rfl (b := true) (decide_eq_true rfl) ?_)
        | (go_at_call 19; refine (tblocks_any _ b 2 [ak1, ak2] _ (HTB6.out.up HD.out)).mono ?_; rintro e wa ⟨rfl, rfl⟩)
        | (go_at_call 18; refine (tcells_any _ b 2 [ak1, ak2] _ (HTB6.out.up HD.out) (by decide)).mono ?_; rintro e wb ⟨⟨vb, rfl, hvb⟩, hbb⟩; have HRB := Lib.hid (hvb.rd (S := []) (fun _ h => by cases h)); have hBb := bwstep HD.out hbb; clear hvb hbb)
        | (go_at_call 17; refine (rsameL_self vb _ [ak1, ak2] _ HRB.out (HR6.out.bel hBb) (by decide)).mono ?_; rintro e wc ⟨rfl, hbc⟩; have hBc := bwstep hBb hbc; clear hbc)
        | (go_at_call 22; refine (tmay_any _ b 2 [ak1, ak2] ⟨#[98]⟩ ⟨#[120]⟩ _ (HTB6.out.up hBc) (by decide) (by decide) (by decide)).mono ?_; rintro e wd ⟨rfl, hbd⟩; have hBd := bwstep hBc hbd; clear hbd))
    all_goals
      rw [HMY.out]
      go_wp2_with fail
      go_ret
      exact ⟨rfl, bwstep HB6.out hBd⟩
  · exact absurd ⟨_, _, HTA.out.1⟩ hno
end Go.Proofs.Ytdemdmingelamaa.Ce
