/- TableBack' walk. -/
import Derived.Test.YtdemdmingelamaaTaw
import Derived.Test.YtdemdmingelamaaCbA
import Derived.Test.YtdemdmingelamaaCpo
import Derived.Test.YtdemdmingelamaaCso
import Derived.Test.YtdemdmingelamaaTbb
import Derived.Test.YtdemdmingelamaaTsc
import Derived.Test.YtdemdmingelamaaBkR
namespace Go.Proofs.Ytdemdmingelamaa
open Go.RowKit Ce Frm

theorem Ce.newest_self {S : List Cl} {k : Nat} {f : Cl} (hs : Srt S) (hf : S[k]? = some f) : newest f.row f.col f.at_ S = some f := by
  obtain ⟨hlt, hfe⟩ := List.getElem?_eq_some_iff.1 hf
  unfold newest
  rw [List.find?_eq_some_iff_getElem]
  refine ⟨decide_eq_true ⟨rfl, rfl, Int.le_refl _⟩, k, hlt, hfe, fun j hj => ?_⟩
  have hn := srt_at hs hj (List.getElem?_eq_getElem (by omega)) hf
  simp only [Bool.not_eq_eq_eq_not, Bool.not_true, decide_eq_false_iff_not]
  intro h
  exact (fits_iff.1 h).2.2 hn
theorem Ce.get_armA {wo wa : World} {g : Nat} {f : Cl} (hz : InC g Cl.zero wa) (hBa : Below wo.heap.size wo wa) (hg : wo.heap.size ≤ g) :
    Five g Cl.zero wa ∧ Zfro g wa ∧ SetC g f wa (((((wa.setCell ⟨g, 0, none⟩ (.string f.row)).setCell ⟨g, 1, none⟩ (.string f.col)).setCell ⟨g, 2, none⟩ (.int .i64 f.at_)).setCell ⟨g, 3, none⟩ (.string f.val)).setCell ⟨g, 4, none⟩ (.bool f.gone)) ∧ Below wo.heap.size wo (((((wa.setCell ⟨g, 0, none⟩ (.string f.row)).setCell ⟨g, 1, none⟩ (.string f.col)).setCell ⟨g, 2, none⟩ (.int .i64 f.at_)).setCell ⟨g, 3, none⟩ (.string f.val)).setCell ⟨g, 4, none⟩ (.bool f.gone)) :=
  ⟨hz.five, hz.fro, chain5 (c := f) hz, (chain5 (c := f) hz).bel hBa hg⟩
theorem Ce.get_armB {f : Cl} (wa : World) : InC wa.heap.size f (wa.alloc (.cells #[.string f.row, .string f.col, .int .i64 f.at_, .string f.val, .bool f.gone] 42)) := InC.new wa f
set_option maxHeartbeats 8000000 in
set_option maxRecDepth 100000 in
theorem tableBack_walk (v : Value) (L : List Cl) (a1 : Int) (row col : ByteArray) (at_ : Int) (w : World) (hv : RdL w [] v L) (w1 : (Lit.int .u8 a1).wf = true) (_z2 : row.size ≤ 140737488351232) (_z3 : col.size ≤ 140737488351232) (_w4 : (Lit.int .i64 at_).wf = true) : Calls Try.prog 4 #[v, .int .u8 a1, .string row, .string col, .int .i64 at_] w fun e w' => e = .returned (.bool true) ∧ Below w.heap.size w w' := by
  obtain ⟨t, rfl, ht⟩ : ∃ t : Nat, a1 = (t : Int) ∧ t < 256 := by
    have := bounds_u8 w1
    exact ⟨a1.toNat, by omega, by omega⟩
  clear w1
  have HV := Lib.hid hv
  clear hv
  go_enter Try.func4, Try.ntmps4
  go_wp2_with fail
  refine (tawake_ok _).mono ?_
  rintro e w1 ⟨rfl, hb1⟩
  have HK1 := Lib.hid hb1
  clear hb1
  go_wp2_with fail
  refine (efew_any v L _ (HV.out.bel HK1.out)).mono ?_
  rintro e w2 ⟨⟨q, rfl, hq⟩, hb2⟩
  have HK2 := Lib.hid (bwstep HK1.out hb2)
  clear hb2 HK1
  cases q
  · clear hq
    go_wp2_with fail
    refine (tawake_ok _).mono ?_
    rintro e w9 ⟨rfl, hb9⟩
    have H9 := Lib.hid (bwstep HK2.out hb9)
    clear hb9
    go_wp2_with fail
    go_ret
    exact ⟨rfl, H9.out⟩
  · obtain ⟨hl80, hok⟩ := hq rfl
    have HOK := Lib.hid hok
    clear hq hok
    by_cases hr : (row.size : Int) ≤ 100
    · have hrb : decide (100 < (row.size : Int)) = false := decide_eq_false (by omega)
      have hrb2 : ¬ (100 : Int) < (row.size : Int) := by omega
      by_cases hcl : (col.size : Int) ≤ 100
      · have hcb : decide (100 < (col.size : Int)) = false := decide_eq_false (by omega)
        have hcb2 : ¬ (100 : Int) < (col.size : Int) := by omega
        have HRS := Lib.hid (show row.size ≤ 100 by omega)
        have HCS := Lib.hid (show col.size ≤ 100 by omega)
        clear hr hcl
        have hso := sorted_sortC HOK.out
        have HSO := Lib.hid hso.1
        have hsl := hso.2
        obtain ⟨S, hS⟩ : ∃ S, sortC L = S := ⟨_, rfl⟩
        rw [hS] at HSO hsl
        have HSL : Hid (S.length ≤ 80) := Lib.hid (by omega)
        have HSS := Lib.hid hS
        clear hso hsl hS
        go_wp2_with fail
        refine (rsort_any v L _ (HV.out.bel HK2.out) HOK.out (by omega)).mono ?_
        rintro e w3 ⟨⟨s3, rfl, hs3⟩, hb3⟩
        rw [HSS.out] at hs3
        have HR3 := Lib.hid (hs3.rd (S := []) (fun _ h => by cases h))
        have HK3 := Lib.hid (bwstep HK2.out hb3)
        clear hs3 hb3 HK2
        have h1t : (1 : Int) ≤ ((t + 1 : Nat) : Int) := by omega
        have hsz : (1 : Int) + (t : Int) = ((t + 1 : Nat) : Int) := by omega
        have hwt : IntKind.i64.wrap ((1 : Int) + (t : Int)) = ((t + 1 : Nat) : Int) := by rw [IntKind.wrap_i64]; omega
        obtain ⟨hf1, hf2⟩ := tab_few2 (size := ((t + 1 : Nat) : Int)) HSO.out HSL.out h1t
        obtain ⟨htab, hcl, -⟩ := tab_fit (size := ((t + 1 : Nat) : Int)) HSO.out hf1 h1t
        have hbu := tb_ok s3 S ((t + 1 : Nat) : Int) w3 HR3.out HSO.out h1t hf1
        have HRC := Lib.hid (fun w hv => rbcut_ok s3 S ((t + 1 : Nat) : Int) w hv HSO.out.ok (by have := HSL.out; omega))
        have HTAB := Lib.hid htab
        generalize tabB S (cutB ((t + 1 : Nat) : Int) S) = T at *
        generalize cutB ((t + 1 : Nat) : Int) S = LL at *
        have hLL : LL.length ≤ 80 := by have := HSL.out; omega
        clear htab hf1 hcl
        go_wp2_with fail
        refine hbu.mono ?_
        rintro e w4 ⟨⟨x, rfl, hx⟩, hb4⟩
        have HX := Lib.hid hx
        have HB4 := Lib.hid (bwstep HK3.out hb4)
        have HR4 := Lib.hid (HR3.out.bel hb4)
        clear hx hb4 hbu
        go_wp2_with fail
        refine (open_any x T _ _ HX.out.rd (Nat.le_refl _) hf2).mono ?_
        rintro e w5 ⟨(⟨S', LL', b0, hTA, rfl, htb⟩ | ⟨hno, rfl⟩), hb5⟩
        · obtain ⟨rfl, rfl⟩ := hTA.one HTAB.out
          have HTB := Lib.hid htb
          have HR5 := Lib.hid (HR4.out.bel hb5)
          have HB5 := Lib.hid (bwstep HB4.out hb5)
          clear hTA htb hb5 HX HTAB HB4 HR4 HR3 HK3
          go_wp2_with fail
          refine (tcells_any _ b0 LL'.length S' _ HTB.out (by have := HSL.out; omega)).mono ?_
          rintro e w6 ⟨⟨u6, rfl, hu6⟩, hb6⟩
          have HU6 := Lib.hid (hu6.rd (S := []) (fun _ h => by cases h))
          have HR6 := Lib.hid (HR5.out.bel hb6)
          have HT6 := Lib.hid (HTB.out.up hb6)
          have HB6 := Lib.hid (bwstep HB5.out hb6)
          clear hu6 hb6 HR5 HTB HB5
          go_wp2_with fail
          refine (rsameL_self _ _ S' _ HU6.out HR6.out (by have := HSL.out; omega)).mono ?_
          rintro e w7 ⟨rfl, hb7⟩
          have HR7 := Lib.hid (HR6.out.bel hb7)
          have HT7 := Lib.hid (HT6.out.up hb7)
          have HB7 := Lib.hid (bwstep HB6.out hb7)
          clear hb7 HR6 HT6 HB6 HU6
          go_wp2_with fail
          refine (tblocks_any _ b0 LL'.length S' _ HT7.out).mono ?_
          rintro e w8 ⟨rfl, rfl⟩
          go_wp2_with fail
          refine (HRC.out _ HR7.out).mono ?_
          rintro e w9 ⟨⟨x9, vs9, rfl, hx9⟩, hb9⟩
          obtain ⟨A9, c9, rfl, -, -⟩ := hx9.rd.shape
          have HR9 := Lib.hid (HR7.out.bel hb9)
          have HT9 := Lib.hid (HT7.out.up hb9)
          have HB9 := Lib.hid (bwstep HB7.out hb9)
          generalize LL'.length = n at *
          have hnn : ((n : Int) != (n : Int)) = false := by simp
          obtain ⟨S, hSS⟩ : ∃ S, S = S' := ⟨_, rfl⟩
          subst hSS
          have hS80 : S.length ≤ 80 := HSL.out
          obtain ⟨As, cs, rfl, hcs, hms⟩ := HR9.out.shape
          unfold maxLen at hms
          obtain ⟨wo, hwo⟩ : ∃ wo, wo = w9 := ⟨_, rfl⟩
          subst hwo
          clear hx9 hb9 HR7 HT7 HB7 HRC
          go_wp2_with fail
          go_loopw [16] (fun i wr => ∃ k : Nat, k ≤ S.length ∧ i = .int .i64 (k : Int) ∧ Hid (Below wo.heap.size wo wr)) (fun i _ => S.length - (intOf i).toNat)
          case atStart => exact ⟨0, Nat.zero_le _, rfl, Lib.hid (Below.refl _ _)⟩
          case round =>
            obtain ⟨k, hk, rfl, HW⟩ := hrel
            by_cases hlt : k < S.length
            · obtain ⟨b, off, rfl, -⟩ := HR9.out.open_ (by omega)
              have hh3 : (0 : Int) ≤ (k : Int) := by omega
              have hh4 : (k : Int) < (S.length : Int) := by omega
              have hfk : S[k]? = some (S[k]'hlt) := List.getElem?_eq_getElem _
              generalize S[k]'hlt = f at hfk
              have hrow : ∀ w', Below wo.heap.size wo w' → (w'.cell? ⟨b, off + k * 5, none⟩ = some (.string f.row) ∧ w'.cell? ⟨b, off + k * 5 + 1, none⟩ = some (.string f.col) ∧ w'.cell? ⟨b, off + k * 5 + 2, none⟩ = some (.int .i64 f.at_) ∧ w'.cell? ⟨b, off + k * 5 + 3, none⟩ = some (.string f.val) ∧ w'.cell? ⟨b, off + k * 5 + 4, none⟩ = some (.bool f.gone) ∧ Below wo.heap.size wo w') := fun y hy => by
                obtain ⟨⟨r0, r1, r2, r3, r4⟩, -⟩ := (HR9.out.bel hy).at_ hfk
                exact ⟨r0, r1, r2, r3, r4, hy⟩
              have HROW := Lib.hid hrow
              have hokf := HSO.out.ok f (List.mem_of_getElem? hfk)
              have hnf := newest_self (sorted_iff.1 HSO.out).2 hfk
              have hget : ∀ (w : World), TblV w w4.heap.size b0 S n → Calls Try.prog 21 #[.pointer (some ⟨b0, 0, none⟩), .string f.row, .string f.col, .int .i64 f.at_] w fun e w' => e = .returned (.tuple #[.agg #[.string f.row, .string f.col, .int .i64 f.at_, .string f.val, .bool f.gone], .bool true]) ∧ Below w.heap.size w w' := fun w h => by
                have := tget_any _ b0 n S f.row f.col f.at_ w h (sorted_iff.1 HSO.out).2 (by omega) (by have := hokf.r2; omega) (by have := hokf.c2; omega)
                rw [show nwC f.row f.col f.at_ S = f by unfold nwC; rw [hnf]; rfl, show nwB f.row f.col f.at_ S = true by unfold nwB; rw [hnf]; rfl] at this
                exact this
              have HGET := Lib.hid hget
              have hmay := fun (w : World) (h : TblV w w4.heap.size b0 S n) => tmay_any _ b0 n S f.row f.col w h (by omega) (by have := hokf.r2; omega) (by have := hokf.c2; omega)
              rw [may_yes (List.mem_of_getElem? hfk)] at hmay
              have HMAY := Lib.hid hmay
              obtain ⟨wi, hwi⟩ : ∃ wi, wi = wr := ⟨_, rfl⟩
              subst hwi
              have HD : Hid (Below wo.heap.size wo wi.drew) := Lib.hid HW.out.drew
              have HT := Lib.hid (hrow _ HD.out)
              obtain ⟨c0, c1, c2, -, -, -⟩ := hrow _ HW.out
              clear hfk hokf hnf hget hmay hrow
              go_wp2_with fail
              have hd0 := HD.out
              have hd1 := (bwalloc HW.out (.cells #[.string ⟨#[]⟩, .string ⟨#[]⟩, .int .i64 0, .string ⟨#[]⟩, .bool false] 42)).drew
              have HWS := Lib.hid HW.out.size
              go_region_held3 (fun w' => w'.cell? ⟨b, off + k * 5, none⟩ = some (.string f.row) ∧ w'.cell? ⟨b, off + k * 5 + 1, none⟩ = some (.string f.col) ∧ w'.cell? ⟨b, off + k * 5 + 2, none⟩ = some (.int .i64 f.at_) ∧ w'.cell? ⟨b, off + k * 5 + 3, none⟩ = some (.string f.val) ∧ w'.cell? ⟨b, off + k * 5 + 4, none⟩ = some (.bool f.gone) ∧ Below wo.heap.size wo w') (first | with_reducible exact HT.out | with_reducible exact HROW.out _ hd1 | with_reducible exact HROW.out _ hBa | with_reducible exact HROW.out _ hBz | with_reducible exact HROW.out _ hBc)
                (first
                  | (go_at_call 21; (with_reducible refine (HGET.out wi.drew (HT9.out.up hd0)).mono ?_); rintro e wa ⟨rfl, hba⟩; have hBa := bwstep hd0 hba; have hBz := bwalloc hBa (.cells #[.string ⟨#[]⟩, .string ⟨#[]⟩, .int .i64 0, .string ⟨#[]⟩, .bool false] 42); have hBc := bwalloc hBa (.cells #[.string f.row, .string f.col, .int .i64 f.at_, .string f.val, .bool f.gone] 42); have HIB := Lib.hid (get_armB (f := f) wa); clear hba)
                  | (go_at_call 21; (with_reducible refine (HGET.out (wi.alloc (.cells #[.string ⟨#[]⟩, .string ⟨#[]⟩, .int .i64 0, .string ⟨#[]⟩, .bool false] 42)).drew (HT9.out.up hd1)).mono ?_); rintro e wa ⟨rfl, hba⟩; have hBa := bwstep hd1 hba; obtain ⟨⟨p0, p1, p2, p3, p4⟩, ⟨f0, f1, f2, f3, f4⟩, hs9, hBc⟩ := get_armA (f := f) (InC.up (w := (wi.alloc (.cells #[.string ⟨#[]⟩, .string ⟨#[]⟩, .int .i64 0, .string ⟨#[]⟩, .bool false] 42)).drew) ⟨(InC.new wi Cl.zero).h⟩ hba) hBa HWS.out; have HS9 := Lib.hid hs9; have HIA := Lib.hid hBa; clear hba hs9))
              all_goals
                first
                  | (have hx := HIA; clear hx p0 p1 p2 p3 p4 f0 f1 f2 f3 f4; generalize ((((wa.setCell ⟨wi.heap.size, 0, none⟩ (.string f.row)).setCell ⟨wi.heap.size, 1, none⟩ (.string f.col)).setCell ⟨wi.heap.size, 2, none⟩ (.int .i64 f.at_)).setCell ⟨wi.heap.size, 3, none⟩ (.string f.val)).setCell ⟨wi.heap.size, 4, none⟩ (.bool f.gone) = wc at HS9 hBc ⊢; have HIC := Lib.hid HS9.out.i; clear HS9; generalize wi.heap.size = gx at HIC ⊢)
                  | (generalize wa.alloc (.cells #[.string f.row, .string f.col, .int .i64 f.at_, .string f.val, .bool f.gone] 42) = wc at HIB hBc ⊢; have HIC := HIB; clear HIB hBz; generalize wa.heap.size = gx at HIC ⊢)
                have hS12 : ∀ w', Below wc.heap.size wc w' → (w'.cell? ⟨gx, 0, none⟩ = some (.string f.row) ∧ w'.cell? ⟨gx, 1, none⟩ = some (.string f.col) ∧ w'.cell? ⟨gx, 2, none⟩ = some (.int .i64 f.at_) ∧ w'.cell? ⟨gx, 3, none⟩ = some (.string f.val) ∧ w'.cell? ⟨gx, 4, none⟩ = some (.bool f.gone) ∧ w'.cell? ⟨b, off + k * 5, none⟩ = some (.string f.row) ∧ w'.cell? ⟨b, off + k * 5 + 1, none⟩ = some (.string f.col) ∧ w'.cell? ⟨b, off + k * 5 + 2, none⟩ = some (.int .i64 f.at_) ∧ w'.cell? ⟨b, off + k * 5 + 3, none⟩ = some (.string f.val) ∧ w'.cell? ⟨b, off + k * 5 + 4, none⟩ = some (.bool f.gone) ∧ Below wc.heap.size wc w') := fun y hy => by
                  obtain ⟨i0, i1, i2, i3, i4⟩ := (HIC.out.up hy).five
                  obtain ⟨r0, r1, r2, r3, r4, -⟩ := HROW.out y (bwstep hBc hy)
                  exact ⟨i0, i1, i2, i3, i4, r0, r1, r2, r3, r4, hy⟩
                have HS12 := Lib.hid hS12
                have hdc : Below wc.heap.size wc wc.drew := (Below.refl _ _).drew
                have HTC := Lib.hid (hS12 _ hdc)
                have HBC := Lib.hid hBc
                have HTM := Lib.hid (HT9.out.up (bwstep hBc hdc))
                clear hS12 hBa hBc hd0
                go_wp2_with fail
                go_region_held3 (fun w' => w'.cell? ⟨gx, 0, none⟩ = some (.string f.row) ∧ w'.cell? ⟨gx, 1, none⟩ = some (.string f.col) ∧ w'.cell? ⟨gx, 2, none⟩ = some (.int .i64 f.at_) ∧ w'.cell? ⟨gx, 3, none⟩ = some (.string f.val) ∧ w'.cell? ⟨gx, 4, none⟩ = some (.bool f.gone) ∧ w'.cell? ⟨b, off + k * 5, none⟩ = some (.string f.row) ∧ w'.cell? ⟨b, off + k * 5 + 1, none⟩ = some (.string f.col) ∧ w'.cell? ⟨b, off + k * 5 + 2, none⟩ = some (.int .i64 f.at_) ∧ w'.cell? ⟨b, off + k * 5 + 3, none⟩ = some (.string f.val) ∧ w'.cell? ⟨b, off + k * 5 + 4, none⟩ = some (.bool f.gone) ∧ Below wc.heap.size wc w') (first | with_reducible exact HTC.out | with_reducible exact HS12.out _ hBd)
                  (first
                    | (refine wp_neC (.tmp 113) (.tmp 117) _ rfl f f rfl rfl (b := false) (by simp) ?_)
                    | (go_at_call 22; refine (HMAY.out _ HTM.out).mono ?_; rintro e wd ⟨rfl, hbd⟩; have hBd := bwstep hdc hbd; clear hbd))
                all_goals
                  go_wp2_with fail
                  go_roundw
                  case rel => exact ⟨k + 1, by omega, by go_num, Lib.hid (bwstep HBC.out hBd)⟩
                  case measure => simp [intOf]; omega
            · obtain rfl : k = S.length := by omega
              have HT1 := Lib.hid (HT9.out.up HW.out)
              have HR1 := Lib.hid (HR9.out.bel HW.out)
              have HB1 := Lib.hid (bwstep HB9.out HW.out)
              clear HW
              obtain ⟨wi, hwi⟩ : ∃ wi, wi = wr := ⟨_, rfl⟩
              subst hwi
              have hget := fun (w : World) (h : TblV w w4.heap.size b0 S n) => tget_any _ b0 n S row col at_ w h (sorted_iff.1 HSO.out).2 (by omega) (by have := HRS.out; omega) (by have := HCS.out; omega)
              have hnew := fun v w hv => rnewest_any v S row col at_ w hv (sorted_iff.1 HSO.out).2 (by omega) HSO.out.ok
              have HNEW := Lib.hid hnew
              have HGET := Lib.hid hget
              generalize nwC row col at_ S = d at *
              generalize nwB row col at_ S = q at *
              clear hget hnew
              go_wp2_with fail
              refine (HGET.out _ HT1.out).mono ?_
              rintro e wa ⟨rfl, hba⟩
              have HRA := Lib.hid (HR1.out.bel hba)
              have HBA := Lib.hid (bwstep HB1.out hba)
              clear hba HGET
              go_wp2_with (refine allocC rfl rfl ?_)
              constructor
              intro wb hIb hbb hzb
              go_wp2_with (refine storeC (c := d) rfl (.tmp 19) (.tmp 141) rfl rfl rfl hIb ?_)
              constructor
              intro wc hsc
              have hbac := hsc.bel hbb (Nat.le_refl _)
              have HIC := Lib.hid hsc.i
              have HRC := Lib.hid (HRA.out.bel hbac)
              have HBC := Lib.hid (bwstep HBA.out hbac)
              clear hIb hbb hzb hsc hbac
              go_wp2_with fail
              refine (HNEW.out _ _ HRC.out).mono ?_
              rintro e wd ⟨rfl, hbd⟩
              have HID := Lib.hid (HIC.out.up hbd)
              have HBD := Lib.hid (bwstep HBC.out hbd)
              clear hbd HNEW
              go_wp2_with (refine allocC rfl rfl ?_)
              constructor
              intro we hIe hbe hze
              go_wp2_with (refine storeC (c := d) rfl (.tmp 21) (.tmp 149) rfl rfl rfl hIe ?_)
              constructor
              intro wf hsf
              have hbdf := hsf.bel hbe (Nat.le_refl _)
              have HIF := Lib.hid (HID.out.up hbdf)
              have HJF := Lib.hid hsf.i
              have HBF := Lib.hid (bwstep HBD.out hbdf)
              have hqq : (q == q) = true := by simp
              clear hIe hbe hze hsf hbdf
              go_wp2_with (first
                | (refine loadC rfl (.tmp 19) rfl rfl HIF.out ?_)
                | (refine loadC rfl (.tmp 21) rfl rfl HJF.out ?_)
                | (refine eqC rfl (.tmp 155) (.tmp 156) _ rfl d d rfl rfl (decide_eq_true rfl) ?_))
              go_ret
              exact ⟨rfl, HBF.out⟩
        · exact absurd ⟨_, _, HTAB.out⟩ hno
      · have hcb : decide (100 < (col.size : Int)) = true := decide_eq_true (by omega)
        have hcb2 : (100 : Int) < (col.size : Int) := by omega
        go_wp2_with fail
        refine (tawake_ok _).mono ?_
        rintro e w9 ⟨rfl, hb9⟩
        have H9 := Lib.hid (bwstep HK2.out hb9)
        clear hb9
        go_wp2_with fail
        go_ret
        exact ⟨rfl, H9.out⟩
    · have hrb : decide (100 < (row.size : Int)) = true := decide_eq_true (by omega)
      have hrb2 : (100 : Int) < (row.size : Int) := by omega
      go_wp2_with fail
      refine (tawake_ok _).mono ?_
      rintro e w9 ⟨rfl, hb9⟩
      have H9 := Lib.hid (bwstep HK2.out hb9)
      clear hb9
      go_wp2_with fail
      go_ret
      exact ⟨rfl, H9.out⟩
end Go.Proofs.Ytdemdmingelamaa
