/- CellNewest's walk. -/
import Derived.Test.YtdpdgbdpbbcmmaaCaw
import Derived.Test.YtdpdgbdpbbcmmaaCpo
import Derived.Test.YtdpdgbdpbbcmmaaCfw
namespace Go.Proofs.Ytdpdgbdpbbcmmaa
open Go.RowKit Ce

/-- two variables -/
structure NewS (w : World) (g k : Nat) (c d : Cl) (w' : World) : Prop where
  ig : InC g c w'
  ik : InC k d w'
  bel : Below w.heap.size w w'
theorem NewS.up {w : World} {g k : Nat} {c d : Cl} {x y : World} (h : NewS w g k c d x) (hb : Below x.heap.size x y) : NewS w g k c d y := ⟨h.ig.up hb, h.ik.up hb, bwstep h.bel hb⟩
set_option maxHeartbeats 4000000 in
set_option maxRecDepth 100000 in
theorem cellNewest_walk (v : Value) (L : List Cl) (row col : ByteArray) (at_ : Int) (w : World) (hv : RdL w [] v L) (_z1 : row.size ≤ 140737488351232) (_z2 : col.size ≤ 140737488351232) (_w3 : (Lit.int .i64 at_).wf = true) : Calls Try.prog 7 #[v, .string row, .string col, .int .i64 at_] w fun e w' => e = .returned (.bool true) ∧ Below w.heap.size w w' := by
  obtain ⟨A, cp, rfl, hc, hm⟩ := hv.shape
  unfold maxLen at hm
  have HV := Lib.hid hv
  clear hv
  by_cases hr : (row.size : Int) ≤ 100
  · have hrb : decide (100 < (row.size : Int)) = false := decide_eq_false (by omega)
    by_cases hcl : (col.size : Int) ≤ 100
    · have hcb : decide (100 < (col.size : Int)) = false := decide_eq_false (by omega)
      go_enter Try.func7, Try.ntmps7
      go_wp2_with fail
      refine (eawake_ok _).mono ?_
      rintro e w1 ⟨rfl, hb1⟩
      have HK1 := Lib.hid hb1
      clear hb1
      go_wp2_with fail
      refine (efew_any _ L _ (HV.out.bel HK1.out)).mono ?_
      rintro e w2 ⟨⟨q, rfl, hq⟩, hb2⟩
      have HK2 := Lib.hid (bwstep HK1.out hb2)
      clear hb2 HK1
      cases q
      · clear hq
        go_wp2_with fail
        refine (eawake_ok _).mono ?_
        rintro e w9 ⟨rfl, hb9⟩
        have H9 := Lib.hid (bwstep HK2.out hb9)
        clear hb9
        go_wp2_with fail
        go_ret
        exact ⟨rfl, H9.out⟩
      · obtain ⟨hl80, hok⟩ := hq rfl
        have HOK := Lib.hid hok
        obtain ⟨hs1, hs2, hs3⟩ := sortC_ok hok
        have HS := Lib.hid (And.intro hs1 hs2)
        have HSB : Hid (sortedB (sortC L) = true) := Lib.hid (sortedB_true (sorted_iff.2 ⟨hs2, hs1⟩))
        clear hq hok hs1 hs2
        go_wp2_with fail
        refine (rsort_any _ L _ (HV.out.bel HK2.out) HOK.out (by omega)).mono ?_
        rintro e w3 ⟨⟨v3, rfl, h3⟩, hb3⟩
        have HR3 := Lib.hid (h3.rd (S := []) (fun _ h => by cases h))
        have HK3 := Lib.hid (bwstep HK2.out hb3)
        clear h3 hb3 HK2
        go_wp2_with fail
        refine (newest_any v3 (sortC L) row col at_ _ HR3.out HS.out.1 (by omega)).mono ?_
        rintro e w4 ⟨rfl, hb4⟩
        have HR4 := Lib.hid (HR3.out.bel hb4)
        have HK4 := Lib.hid (bwstep HK3.out hb4)
        clear hb4 HR3 HK3
        have hrn := fun w hv => rnewest_any v3 (sortC L) row col at_ w hv HS.out.1 (by omega) HS.out.2
        generalize nwC row col at_ (sortC L) = d at *
        generalize nwB row col at_ (sortC L) = q at *
        have hqq : (q == q) = true := by simp
        go_wp2_with (refine allocC rfl rfl ?_)
        constructor
        intro w5 hI5 hb5 _hz5
        clear _hz5
        go_wp2_with (refine storeC (c := d) rfl (.tmp 10) (.tmp 40) rfl rfl rfl hI5 ?_)
        constructor
        intro w6 hs6
        have HI6 := Lib.hid hs6.i
        have b46 := Lib.hid (hs6.bel hb5 (Nat.le_refl _))
        have HR6 := Lib.hid (HR4.out.bel b46.out)
        have HK6 := Lib.hid (bwstep HK4.out b46.out)
        clear hI5 hb5 hs6 b46 HR4 HK4
        go_wp2_with fail
        refine (hrn _ HR6.out).mono ?_
        rintro e w7 ⟨rfl, hb7⟩
        have HI7 := Lib.hid (HI6.out.up hb7)
        have HR7 := Lib.hid (HR6.out.bel hb7)
        have HK7 := Lib.hid (bwstep HK6.out hb7)
        clear hb7 HI6 HR6 HK6 hrn
        go_wp2_with (refine allocC rfl rfl ?_)
        constructor
        intro w8 hI8 hb8 _hz8
        clear _hz8
        have hne := Nat.ne_of_lt HI7.out.lt
        go_wp2_with (refine storeC (c := d) rfl (.tmp 12) (.tmp 48) rfl rfl rfl hI8 ?_)
        constructor
        intro w9 hs9
        have b79 := Lib.hid (hs9.bel hb8 (Nat.le_refl _))
        have HN9 : Hid (NewS w w4.heap.size w7.heap.size d d w9) := Lib.hid ⟨hs9.up (HI7.out.up hb8) hne, hs9.i, bwstep HK7.out b79.out⟩
        have HR9 := Lib.hid (HR7.out.bel b79.out)
        clear hI8 hb8 hs9 hne b79 HI7 HR7 HK7
        have hso := fun w hv => sorted_any (.slice A L.length cp) L w hv (by omega)
        have hrs := fun w hv => rsorted_any (.slice A L.length cp) L w hv (by omega) (fun c hc => (HOK.out c hc).sh)
        generalize sortedB L = q2 at *
        have hqq2 : (q2 == q2) = true := by simp
        go_wp2_with fail
        refine (hso _ (HV.out.bel HN9.out.bel)).mono ?_
        rintro e w10 ⟨rfl, hb10⟩
        have HN10 := Lib.hid (HN9.out.up hb10)
        have HR10 := Lib.hid (HR9.out.bel hb10)
        clear hb10 HN9 HR9 hso
        go_wp2_with fail
        refine (hrs _ (HV.out.bel HN10.out.bel)).mono ?_
        rintro e w11 ⟨rfl, hb11⟩
        have HN11 := Lib.hid (HN10.out.up hb11)
        have HR11 := Lib.hid (HR10.out.bel hb11)
        clear hb11 HN10 HR10 hrs
        have hso := sorted_any v3 (sortC L) _ HR11.out (by omega)
        rw [HSB.out] at hso
        go_wp2_with fail
        refine hso.mono ?_
        rintro e w12 ⟨rfl, hb12⟩
        have HN12 := Lib.hid (HN11.out.up hb12)
        clear hb12 HN11 HR11 hso
        go_wp2_with (first
          | (refine loadC rfl (.tmp 10) rfl rfl HN12.out.ig ?_)
          | (refine loadC rfl (.tmp 12) rfl rfl HN12.out.ik ?_)
          | (refine eqC rfl (.tmp 65) (.tmp 66) _ rfl d d rfl rfl (decide_eq_true rfl) ?_))
        go_ret
        exact ⟨rfl, HN12.out.bel⟩
    · have hcb : decide (100 < (col.size : Int)) = true := decide_eq_true (by omega)
      go_enter Try.func7, Try.ntmps7
      go_wp2_with fail
      refine (eawake_ok _).mono ?_
      rintro e w1 ⟨rfl, hb1⟩
      have HK1 := Lib.hid hb1
      clear hb1
      go_wp2_with fail
      refine (efew_any _ L _ (HV.out.bel HK1.out)).mono ?_
      rintro e w2 ⟨⟨q, rfl, hq⟩, hb2⟩
      have HK2 := Lib.hid (bwstep HK1.out hb2)
      clear hb2 HK1
      clear hq
      cases q
      · go_wp2_with fail
        refine (eawake_ok _).mono ?_
        rintro e w9 ⟨rfl, hb9⟩
        have H9 := Lib.hid (bwstep HK2.out hb9)
        clear hb9
        go_wp2_with fail
        go_ret
        exact ⟨rfl, H9.out⟩
      · go_wp2_with fail
        refine (eawake_ok _).mono ?_
        rintro e w9 ⟨rfl, hb9⟩
        have H9 := Lib.hid (bwstep HK2.out hb9)
        clear hb9
        go_wp2_with fail
        go_ret
        exact ⟨rfl, H9.out⟩
  · have hrb : decide (100 < (row.size : Int)) = true := decide_eq_true (by omega)
    go_enter Try.func7, Try.ntmps7
    go_wp2_with fail
    refine (eawake_ok _).mono ?_
    rintro e w1 ⟨rfl, hb1⟩
    have HK1 := Lib.hid hb1
    clear hb1
    go_wp2_with fail
    refine (efew_any _ L _ (HV.out.bel HK1.out)).mono ?_
    rintro e w2 ⟨⟨q, rfl, hq⟩, hb2⟩
    have HK2 := Lib.hid (bwstep HK1.out hb2)
    clear hb2 HK1
    clear hq
    cases q
    · go_wp2_with fail
      refine (eawake_ok _).mono ?_
      rintro e w9 ⟨rfl, hb9⟩
      have H9 := Lib.hid (bwstep HK2.out hb9)
      clear hb9
      go_wp2_with fail
      go_ret
      exact ⟨rfl, H9.out⟩
    · go_wp2_with fail
      refine (eawake_ok _).mono ?_
      rintro e w9 ⟨rfl, hb9⟩
      have H9 := Lib.hid (bwstep HK2.out hb9)
      clear hb9
      go_wp2_with fail
      go_ret
      exact ⟨rfl, H9.out⟩
end Go.Proofs.Ytdpdgbdpbbcmmaa
