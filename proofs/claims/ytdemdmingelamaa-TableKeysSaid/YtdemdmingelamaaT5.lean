/- TableKeys' walk. -/
import Derived.Test.YtdemdmingelamaaTaw
import Derived.Test.YtdemdmingelamaaCbA
import Derived.Test.YtdemdmingelamaaCpo
import Derived.Test.YtdemdmingelamaaCso
import Derived.Test.YtdemdmingelamaaTbb
import Derived.Test.YtdemdmingelamaaTsc
namespace Go.Proofs.Ytdemdmingelamaa
open Go.RowKit Ce Frm

set_option maxHeartbeats 8000000 in
set_option maxRecDepth 100000 in
theorem tableKeys_walk (v : Value) (L : List Cl) (row col : ByteArray) (w : World) (hv : RdL w [] v L) (_z1 : row.size ≤ 140737488351232) (_z2 : col.size ≤ 140737488351232) : Calls Try.prog 7 #[v, .string row, .string col] w fun e w' => e = .returned (.bool true) ∧ Below w.heap.size w w' := by
  have HV := Lib.hid hv
  clear hv
  go_enter Try.func7, Try.ntmps7
  go_wp2_with fail
  refine (tawake_ok _).mono ?_
  rintro e w1 ⟨rfl, hb1⟩
  have HK1 := Lib.hid hb1
  clear hb1
  go_wp2_with fail
  refine (efew_any v L _ (HV.out.bel HK1.out)).mono ?_
  rintro e w2 ⟨⟨q, rfl, hq⟩, hb2⟩
  have HK2 := Lib.hid (bwstep HK1.out hb2)
  clear hb2 HK1
  cases q
  · clear hq
    go_wp2_with fail
    refine (tawake_ok _).mono ?_
    rintro e w9 ⟨rfl, hb9⟩
    have H9 := Lib.hid (bwstep HK2.out hb9)
    clear hb9
    go_wp2_with fail
    go_ret
    exact ⟨rfl, H9.out⟩
  · obtain ⟨hl80, hok⟩ := hq rfl
    have HOK := Lib.hid hok
    clear hq hok
    by_cases hr : (row.size : Int) ≤ 100
    · have hrb : decide (100 < (row.size : Int)) = false := decide_eq_false (by omega)
      have hrb2 : ¬ (100 : Int) < (row.size : Int) := by omega
      by_cases hcl : (col.size : Int) ≤ 100
      · have hcb : decide (100 < (col.size : Int)) = false := decide_eq_false (by omega)
        have hcb2 : ¬ (100 : Int) < (col.size : Int) := by omega
        have HRS := Lib.hid (show row.size ≤ 100 by omega)
        have HCS := Lib.hid (show col.size ≤ 100 by omega)
        clear hr hcl
        have hso := sorted_sortC HOK.out
        have HSO := Lib.hid hso.1
        have hsl := hso.2
        obtain ⟨S, hS⟩ : ∃ S, sortC L = S := ⟨_, rfl⟩
        rw [hS] at HSO hsl
        have HSL : Hid (S.length ≤ 80) := Lib.hid (by omega)
        have HSS := Lib.hid hS
        clear hso hsl hS
        go_wp2_with fail
        refine (rsort_any v L _ (HV.out.bel HK2.out) HOK.out (by omega)).mono ?_
        rintro e w3 ⟨⟨s3, rfl, hs3⟩, hb3⟩
        rw [HSS.out] at hs3
        have HR3 := Lib.hid (hs3.rd (S := []) (fun _ h => by cases h))
        have HK3 := Lib.hid (bwstep HK2.out hb3)
        clear hs3 hb3 HK2
        obtain ⟨hf1, hf2⟩ := tab_few2 (size := 50) HSO.out HSL.out (by omega)
        obtain ⟨htab, -, -⟩ := tab_fit (size := 50) HSO.out hf1 (by omega)
        have hbu := tbuild_ok s3 S 50 w3 HR3.out HSO.out (by omega) (by have := HSL.out; omega) htab.fit htab.foot
        have HTAB := Lib.hid htab
        generalize tabB S (cutB 50 S) = T at *
        generalize cutB 50 S = LL at *
        clear htab hf1
        go_wp2_with fail
        refine hbu.mono ?_
        rintro e w4 ⟨⟨x, rfl, hx⟩, hb4⟩
        have HX := Lib.hid hx
        have HB4 := Lib.hid (bwstep HK3.out hb4)
        have HR4 := Lib.hid (HR3.out.bel hb4)
        clear hx hb4 hbu
        go_wp2_with fail
        refine (open_any x T _ _ HX.out.rd (Nat.le_refl _) hf2).mono ?_
        rintro e w5 ⟨(⟨S', LL', b0, hTA, rfl, htb⟩ | ⟨hno, rfl⟩), hb5⟩
        · obtain ⟨rfl, rfl⟩ := hTA.one HTAB.out
          have HTB := Lib.hid htb
          have HR5 := Lib.hid (HR4.out.bel hb5)
          have HB5 := Lib.hid (bwstep HB4.out hb5)
          generalize LL'.length = n at *
          clear hTA htb hb5 HX HTAB HB4 HR4 HR3 HK3
          obtain ⟨S, hSS⟩ : ∃ S, S = S' := ⟨_, rfl⟩
          subst hSS
          have hS80 : S.length ≤ 80 := HSL.out
          obtain ⟨As, cs, rfl, hcs, hms⟩ := HR5.out.shape
          unfold maxLen at hms
          obtain ⟨wo, hwo⟩ : ∃ wo, wo = w5 := ⟨_, rfl⟩
          subst hwo
          have HV4 := HR5
          go_wp2_with fail
          go_loopw [10, 11] (fun v i wr => ∃ k : Nat, k ≤ S.length ∧ i = .int .i64 (k : Int) ∧ Ow wr wo.heap.size 9 v ((keysS (S.take k)).map sv) ∧ Below wo.heap.size wo wr) (fun _ i _ => S.length - (intOf i).toNat)
          case atStart => exact ⟨0, Nat.zero_le _, rfl, by simpa [keysS] using Ow.nil _ _ _, Below.refl _ _⟩
          case round =>
            obtain ⟨k, hk, rfl, ho, hb⟩ := hrel
            by_cases hlt : k < S.length
            · obtain ⟨b, off, rfl, -⟩ := HV4.out.open_ (by omega)
              have hh3 : (0 : Int) ≤ (k : Int) := by omega
              have hh4 : (k : Int) < (S.length : Int) := by omega
              have hfk : S[k]? = some (S[k]'hlt) := List.getElem?_eq_getElem _
              generalize S[k]'hlt = f at hfk
              obtain ⟨h5, hbl⟩ := (HV4.out.bel hb).at_ hfk
              have HKS := Lib.hid (keysS_snoc hfk)
              have hokf := HSO.out.ok f (List.mem_of_getElem? hfk)
              have htk := fun w => tkey_any f.row f.col w (by have := hokf.r2; omega) (by have := hokf.c2; omega)
              have hsz2 : (keysS (S.take k)).length ≤ 1000 := by simp [keysS]; omega
              have HO := Lib.hid ho
              have HBW := Lib.hid hb
              have HBS := hb.size
              have HT : Hid (wr.drew.cell? ⟨b, off + k * 5, none⟩ = some (.string f.row) ∧ wr.drew.cell? ⟨b, off + k * 5 + 1, none⟩ = some (.string f.col) ∧ Below wo.heap.size wo wr.drew) := Lib.hid ⟨h5.1, h5.2.1, hb.drew⟩
              have hrow : ∀ y : World, Below wo.heap.size wo y → y.cell? ⟨b, off + k * 5, none⟩ = some (.string f.row) ∧ y.cell? ⟨b, off + k * 5 + 1, none⟩ = some (.string f.col) ∧ Below wo.heap.size wo y := fun y hy => ⟨((HV4.out.bel hy).at_ hfk).1.1, ((HV4.out.bel hy).at_ hfk).1.2.1, hy⟩
              have HU : Hid (∀ x y : World, (x.cell? ⟨b, off + k * 5, none⟩ = some (.string f.row) ∧ x.cell? ⟨b, off + k * 5 + 1, none⟩ = some (.string f.col) ∧ Below wo.heap.size wo x) → Below x.heap.size x y → (y.cell? ⟨b, off + k * 5, none⟩ = some (.string f.row) ∧ y.cell? ⟨b, off + k * 5 + 1, none⟩ = some (.string f.col) ∧ Below wo.heap.size wo y)) := Lib.hid fun x y hS hb => hrow y (bwstep hS.2.2 hb)
              have HU2 : Hid (∀ x y : World, (x.cell? ⟨b, off + k * 5, none⟩ = some (.string f.row) ∧ x.cell? ⟨b, off + k * 5 + 1, none⟩ = some (.string f.col) ∧ Below wo.heap.size wo x) → Below wo.heap.size x y → (y.cell? ⟨b, off + k * 5, none⟩ = some (.string f.row) ∧ y.cell? ⟨b, off + k * 5 + 1, none⟩ = some (.string f.col) ∧ Below wo.heap.size wo y)) := Lib.hid fun x y hS hb => hrow y (hS.2.2.trans hb)
              obtain ⟨c0, c1, -, -, -⟩ := h5
              have HG : ∀ (x : World), Below wr.heap.size wr x → wo.heap.size ≤ x.heap.size := fun x hx => Nat.le_trans HBS hx.size
              clear hfk hokf ho hb hrow
              obtain ⟨wi, hwi⟩ : ∃ wi, wi = wr := ⟨_, rfl⟩
              subst hwi
              go_wp2_with fail
              go_region_held3 (fun w' => w'.cell? ⟨b, off + k * 5, none⟩ = some (.string f.row) ∧ w'.cell? ⟨b, off + k * 5 + 1, none⟩ = some (.string f.col) ∧ Below wo.heap.size wo w') (first | exact HT.out | assumption | exact HU.out _ _ (by assumption) (by assumption) | exact HU.out _ _ (by assumption) (bwalloc (Below.refl _ _) _) | exact HU2.out _ _ (by assumption) (by assumption))
                (first
                  | (refine step_appE textT rfl rfl (.tmp 50) (.tmp 62) rfl (by simp [Act.eval]) (HO.out.below (bwalloc HWA _)) (by simp [Act.eval]) (Rd.newW (xs := [keyS f.row f.col].map sv) _ _ _ rfl (by simp [maxLen]) rfl) (one_sv _) (by simp [maxLen]; omega) (by simp; omega) (HG _ (bwalloc HWA _)) ?_; intro v3 w3 o3 g3 h3; have O3 : Hid (Ow w3 wo.heap.size 9 v3 ((keysS (S.take k)).map sv ++ [keyS f.row f.col].map sv)) := Lib.hid o3; have hg3 := bwgrown g3 HO.out.ge (HG _ (bwalloc HWA _)); clear o3 h3)
                  | (go_at_call 24; refine (htk _).mono ?_; rintro e wa ⟨rfl, hba⟩; have HWA := bwstep (Below.refl _ _).drew hba))
              all_goals
                have HB3 : Hid (w3.cell? ⟨b, off + k * 5, none⟩ = some (.string f.row) ∧ w3.cell? ⟨b, off + k * 5 + 1, none⟩ = some (.string f.col) ∧ Below wo.heap.size wo w3) := Lib.hid (by assumption)
                rw [← List.map_append, ← HKS.out] at O3
                go_wp2_with fail
                go_roundw
                case rel => exact ⟨k + 1, by omega, by go_num, O3.out, HB3.out.2.2⟩
                case measure => simp [intOf]; omega
            · obtain rfl : k = S.length := by omega
              rw [List.take_length] at ho
              have HKR := Lib.hid ho.rd
              have HTR := Lib.hid (HTB.out.up hb)
              have HBR := Lib.hid (bwstep HB5.out hb)
              have hks : ∀ s ∈ keysS S, s.size ≤ 140737488351232 := by
                intro s hs
                obtain ⟨c, hc, rfl⟩ := List.mem_map.1 hs
                have hk := HSO.out.ok c hc
                have h1 := hk.r2
                have h2 := hk.c2
                show (⟨(keyT c.row c.col).toArray⟩ : ByteArray).size ≤ _
                rw [ba_size]
                unfold keyT
                rw [List.length_append, textB_len, textB_len]
                omega
              have hkl : (keysS S).length = S.length := by simp [keysS]
              have hmk := fun v w hr => Blm.rmake_any v (keysS S) w hr (by omega) hks
              rw [keysS_kl] at hmk
              rw [filt_mk] at hmk
              have hkz : (keyS row col).size ≤ 140737488351232 := by
                show (⟨(keyT row col).toArray⟩ : ByteArray).size ≤ _
                have := HRS.out
                have := HCS.out
                rw [ba_size]
                unfold keyT
                rw [List.length_append, textB_len, textB_len]
                omega
              have hfl2 := filt_len S
              have hha := fun v w hr => Blm.rhas_any v (filt S) (keyS row col) w.heap.size w (Nat.le_refl _) hr (by omega) hkz
              rw [has_may] at hha
              have hmy := tmay_any _ b0 n S row col wr HTR.out (by omega) (by have := HRS.out; omega) (by have := HCS.out; omega)
              have HMK := Lib.hid hmk
              have HHA := Lib.hid hha
              generalize mayB S row col = ans at *
              obtain ⟨wi, hwi⟩ : ∃ wi, wi = wr := ⟨_, rfl⟩
              subst hwi
              clear hmk hha hfl2 hkz hks hkl ho hb
              go_wp2_with fail
              refine hmy.mono ?_
              rintro e wa ⟨rfl, hba⟩
              have HKA := Lib.hid (HKR.out.up hba)
              have HBA := Lib.hid (bwstep HBR.out hba)
              clear hba hmy
              go_wp2_with fail
              refine (HMK.out _ _ HKA.out).mono ?_
              rintro e wb ⟨⟨fb, rfl, hfb⟩, hbb⟩
              have HFB := Lib.hid hfb.rd
              have HBB := Lib.hid (bwstep HBA.out hbb)
              clear hfb hbb HMK
              go_wp2_with fail
              refine (tkey_any row col _ (by have := HRS.out; omega) (by have := HCS.out; omega)).mono ?_
              rintro e wc ⟨rfl, hbc⟩
              have HFC := Lib.hid (HFB.out.up hbc)
              have HBC := Lib.hid (bwstep HBB.out hbc)
              clear hbc
              go_wp2_with fail
              refine (HHA.out _ _ HFC.out).mono ?_
              rintro e wd ⟨rfl, hbd⟩
              have HBD := Lib.hid (bwstep HBC.out hbd)
              have hee : (ans == ans) = true := by simp
              clear hbd HHA
              go_wp2_with fail
              go_ret
              exact ⟨rfl, HBD.out⟩
        · exact absurd ⟨_, _, HTAB.out⟩ hno
      · have hcb : decide (100 < (col.size : Int)) = true := decide_eq_true (by omega)
        have hcb2 : (100 : Int) < (col.size : Int) := by omega
        go_wp2_with fail
        refine (tawake_ok _).mono ?_
        rintro e w9 ⟨rfl, hb9⟩
        have H9 := Lib.hid (bwstep HK2.out hb9)
        clear hb9
        go_wp2_with fail
        go_ret
        exact ⟨rfl, H9.out⟩
    · have hrb : decide (100 < (row.size : Int)) = true := decide_eq_true (by omega)
      have hrb2 : (100 : Int) < (row.size : Int) := by omega
      go_wp2_with fail
      refine (tawake_ok _).mono ?_
      rintro e w9 ⟨rfl, hb9⟩
      have H9 := Lib.hid (bwstep HK2.out hb9)
      clear hb9
      go_wp2_with fail
      go_ret
      exact ⟨rfl, H9.out⟩
end Go.Proofs.Ytdemdmingelamaa
