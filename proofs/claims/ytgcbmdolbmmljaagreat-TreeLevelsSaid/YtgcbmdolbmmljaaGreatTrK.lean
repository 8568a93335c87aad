/- The walk of TreeKeeps, by the contracts of a tree. -/
import Derived.Test.YtgcbmdolbmmljaaGreatTrA
import Derived.Test.YtgcbmdolbmmljaaGreatMs
import Derived.Test.YtgcbmdolbmmljaaGreatCpo
import Derived.Test.YtgcbmdolbmmljaaGreatSto
namespace Go.Proofs.YtgcbmdolbmmljaaGreat
open Go.RowKit Ce

variable {At : World → List Nat → List Nat → Nat → Sf → Tr → Prop}
/-- the list of the first k cells as it was put -/
theorem Ce.put_all {L : List Cl} (hok : ∀ c ∈ L, c.ok) (hl : L.length ≤ 79) (s : Sf) (hs : s.right) : ∀ k, k ≤ L.length → ∀ t : Tr, GoodT s t (L.take k).reverse → t.cells = sortC (L.take k) → szs (L.take k).reverse ≤ 401 * ((L.take k).reverse.length : Int) → ∀ c, L[k]? = some c →
    FitsK (c :: (L.take k).reverse) ∧ GoodT s (t.after s c) (L.take (k + 1)).reverse ∧ (t.after s c).cells = sortC (L.take (k + 1)) ∧ t.code c = 0 ∧ szs (L.take (k + 1)).reverse ≤ 401 * ((L.take (k + 1)).reverse.length : Int) := fun k hk t hg hc hb c hck => by
  have hco := hok c (List.mem_of_getElem? hck)
  have hlen : (L.take k).reverse.length ≤ 79 := by simp; omega
  obtain ⟨hf, hb2⟩ := fits_snoc hg.f hco hlen hb
  have e : (L.take (k + 1)).reverse = c :: (L.take k).reverse := by
    obtain ⟨hl, rfl⟩ := List.getElem?_eq_some_iff.1 hck
    rw [List.take_succ_eq_append_getElem hl, List.reverse_append]
    rfl
  have hsl := (sortC_ind hok (k + 1)).2.2
  have hput : put1 c t.cells = sortC (L.take (k + 1)) := by rw [hc, sortC_snoc hck]
  have hle : (put1 c t.cells).length ≤ 400 := by rw [hput]; have := (List.getElem?_eq_some_iff.1 hck).1; omega
  obtain ⟨h1, h2⟩ := after_put hg.ok hco hle s
  rw [e]
  exact ⟨hf, ⟨hs, after_ok hg.ok s c, after_in hg.i s c, hf⟩, h1.trans hput, h2, hb2⟩
theorem Ce.good_start {s : Sf} (hs : s.right) : GoodT s Tr.empty [] := ⟨hs, Tr.empty_ok, Tr.empty_in, fits_nil⟩
set_option maxHeartbeats 8000000 in
set_option maxRecDepth 100000 in
theorem treeKeeps_gen (I : TreeI At) (s : Sf) (v : Value) (L : List Cl) (w : World) (hv : RdL w [] v L) : Calls Tryz.prog 7 #[s.v, v] w fun e w' => e = .returned (.bool true) ∧ Below w.heap.size w w' := by
  have HV := Lib.hid hv
  obtain ⟨Av, cv, rfl, hcv, hmv⟩ := hv.shape
  clear hv
  go_enter Tryz.func7, Tryz.ntmps7
  go_wp2_with (refine St.box sfD rfl (.tmp 0) s rfl rfl ?_)
  constructor
  intro w0 hI0 hb0 hz0
  have HI0 := Lib.hid hI0
  have HK0 := Lib.hid hb0
  clear hI0 hb0 hz0
  go_wp2_with fail
  refine (awake14_ok I _).mono ?_
  rintro e w1 ⟨rfl, hb1⟩
  have HK1 := Lib.hid (bwstep HK0.out hb1)
  have HI1 := Lib.hid (HI0.out.up hb1)
  clear hb1 HI0 HK0
  go_wp2_with fail
  refine (efew_any _ L _ (HV.out.bel HK1.out)).mono ?_
  rintro e w2 ⟨⟨q, rfl, hq⟩, hb2⟩
  have HK2 := Lib.hid (bwstep HK1.out hb2)
  have HI2 := Lib.hid (HI1.out.up hb2)
  clear hb2 HI1 HK1
  cases q
  · clear hq
    go_wp2_with fail
    refine (awake14_ok I _).mono ?_
    rintro e w9 ⟨rfl, hb9⟩
    have H9 := Lib.hid (bwstep HK2.out hb9)
    clear hb9
    go_wp2_with fail
    go_ret
    exact ⟨rfl, H9.out⟩
  · obtain ⟨hl80, hok⟩ := hq rfl
    have HOK := Lib.hid hok
    clear hq hok
    by_cases h40 : L.length ≤ 40
    · have h41 : ¬ (40 : Int) < (L.length : Int) := by omega
      have h42 : decide ((40 : Int) < (L.length : Int)) = false := decide_eq_false h41
      go_wp2_with (refine St.load sfOk rfl (.tmp 2) rfl rfl HI2.out ?_)
      refine (right14_any s _).mono ?_
      rintro e w3 ⟨rfl, hb3⟩
      have HK3 := Lib.hid (bwstep HK2.out hb3)
      have HI3 := Lib.hid (HI2.out.up hb3)
      clear hb3 HI2 HK2
      by_cases hsr : s.right
      · rw [decide_eq_true hsr]
        go_wp2_with (refine St.load sfOk rfl (.tmp 2) rfl rfl HI3.out ?_)
        refine (OneT.new I s _ hsr).mono ?_
        rintro e w4 ⟨b, rfl, hT⟩
        have HT0 : Hid (∃ t, OneT At w3 w4 b s t ∧ GoodT s t (L.take 0).reverse ∧ t.cells = sortC (L.take 0) ∧ szs (L.take 0).reverse ≤ 401 * ((L.take 0).reverse.length : Int)) := Lib.hid ⟨_, hT, good_start hsr, rfl, by simp [szs]⟩
        clear hT HI3
        go_wp2_with fail
        go_loopw [7] (fun i wr => ∃ k : Nat, i = .int .i64 (k : Int) ∧ k ≤ L.length ∧ Hid (∃ t, OneT At w3 wr b s t ∧ GoodT s t (L.take k).reverse ∧ t.cells = sortC (L.take k) ∧ szs (L.take k).reverse ≤ 401 * ((L.take k).reverse.length : Int))) (fun i _ => L.length - (intOf i).toNat)
        case atStart => exact ⟨0, rfl, by omega, HT0⟩
        case round =>
          clear HT0
          obtain ⟨k, rfl, hk, HT⟩ := hrel
          by_cases hkn : k < L.length
          · have hk1 : (k : Int) < (L.length : Int) := by omega
            have hk0 : (0 : Int) ≤ (k : Int) := by omega
            have hfk : L[k]? = some (L[k]'hkn) := List.getElem?_eq_getElem _
            generalize L[k]'hkn = f at hfk
            obtain ⟨t, hone, hgood, hcel, hby⟩ := HT.out
            obtain ⟨p1, p2, p3, p4, p5⟩ := put_all HOK.out (by omega) s hsr k hk t hgood hcel hby f hfk
            obtain ⟨bv, ov, rfl, -, -⟩ := HV.out.open_ (by omega)
            have hbw : Below w.heap.size w wr := by obtain ⟨-, -, -, -, hbo⟩ := hone; exact bwstep HK3.out hbo
            obtain ⟨h5, -⟩ := (HV.out.bel hbw).at_ hfk
            have H5 := Lib.hid h5
            have hput := hone.put I f hgood (fun _ => p1)
            rw [p4] at hput
            have HPUT := Lib.hid hput
            have HN : Hid (∀ w', OneT At w3 w' b s (t.after s f) → ∃ t, OneT At w3 w' b s t ∧ GoodT s t (L.take (k + 1)).reverse ∧ t.cells = sortC (L.take (k + 1)) ∧ szs (L.take (k + 1)).reverse ≤ 401 * ((L.take (k + 1)).reverse.length : Int)) := Lib.hid fun w' h => ⟨_, h, p2, p3, p5⟩
            clear hfk hone hgood hcel hby p1 p2 p3 p4 p5 hbw h5 hput HT
            obtain ⟨wo, hwo⟩ : ∃ wo, wo = wr := ⟨_, rfl⟩
            subst hwo
            go_wp2_with (first | (refine loadV (c := f) rfl (.tmp 50) rfl ⟨bv, ov + k * 5, none⟩ rfl H5.out.all ?_))
            refine HPUT.out.mono ?_
            rintro e w5 ⟨rfl, h5, -⟩
            have HN5 := Lib.hid (HN.out _ h5)
            clear h5 HN HPUT H5
            go_wp2_with fail
            go_roundw
            case rel => exact ⟨k + 1, by go_num, by omega, HN5⟩
            case measure => simp [intOf]; omega
          · obtain rfl : k = L.length := by omega
            rw [List.take_length] at HT
            obtain ⟨t, hone, hgood, hcel, -⟩ := HT.out
            have HO := Lib.hid hone
            have HG := Lib.hid hgood
            have HC := Lib.hid hcel
            clear HT hone hgood hcel
            obtain ⟨w4', hw4⟩ : ∃ w4', w4' = wr := ⟨_, rfl⟩
            subst hw4
            go_wp2_with fail
            refine (HO.out.cells I HG.out).mono ?_
            rintro e w5 ⟨⟨x5, rfl, hx5⟩, hb5⟩
            have HB5 := Lib.hid hb5
            have HX5 := Lib.hid hx5
            have HO5 := Lib.hid (HO.out.up I hb5)
            clear hx5 hb5
            go_wp2_with fail
            refine (HO5.out.scan I ⟨#[]⟩ ⟨#[]⟩ 5 HG.out (by decide) (by decide)).mono ?_
            rintro e w6 ⟨⟨x6, rfl, hx6⟩, hb6⟩
            have hsl : (sortC L).length ≤ 80 := Nat.le_trans (sortC_ok HOK.out).2.2 hl80
            have hcl : t.cells.length ≤ 80 := by rw [HC.out]; exact hsl
            have hvl : (someP ⟨#[]⟩ ⟨#[]⟩ 5 t.cells).length ≤ 80 := Nat.le_trans (List.length_filter_le _ _) (Nat.le_trans (List.length_filter_le _ _) hcl)
            have ox5 := HX5.out.below hb6
            obtain ⟨A5, c5, rfl, hc5, hm5⟩ := (ox5.rd (S := []) (fun _ h => by cases h)).shape
            obtain ⟨A6, c6, rfl, hc6, hm6⟩ := (hx6.rd (S := []) (fun _ h => by cases h)).shape
            generalize someP ⟨#[]⟩ ⟨#[]⟩ 5 t.cells = Y at *
            generalize hn5 : t.cells.length = n5 at *
            generalize hn6 : Y.length = n6 at *
            have HOW5 : Hid (∃ X : List Cl, X.length = n5 ∧ OwL w6 w4'.heap.size (.slice A5 n5 c5) X) := Lib.hid ⟨_, hn5, ox5⟩
            have HN6 := Lib.hid hn6
            have HX6 := Lib.hid hx6
            have HBE := Lib.hid (bwstep HB5.out hb6)
            have HLT5 : Hid (∀ k, (Value.slice A5 n5 c5).ownBlock = some k → k < w5.heap.size) := Lib.hid fun k hk => (HX5.out.lt k hk).2
            have HSZ := Lib.hid HB5.out.size
            clear hx6 hb6 ox5 hn5 hn6 HX5 HO5 HB5
            go_wp2_with fail
            go_loopw [10] (fun i wr => ∃ j : Nat, i = .int .i64 (j : Int) ∧ j ≤ n5 ∧ Hid (∃ X : List Cl, X.length = n5 ∧ OwL wr w4'.heap.size (.slice A5 n5 c5) X) ∧ Hid (Below w4'.heap.size w4' wr) ∧ Hid (OwL wr w5.heap.size (.slice A6 n6 c6) Y)) (fun i _ => n5 - (intOf i).toNat)
            case atStart => exact ⟨0, rfl, by omega, HOW5, HBE, HX6⟩
            case round =>
              obtain ⟨j, rfl, hj, HXX, HBB, HEX⟩ := hrel
              by_cases hjn : j < n5
              · have hj1 : (j : Int) < (n5 : Int) := by omega
                have hj0 : (0 : Int) ≤ (j : Int) := by omega
                obtain ⟨X, hXl, ox⟩ := HXX.out
                obtain ⟨g, cap, cur, eg, hg, hh, hc1, hm1, hcs, ht⟩ := ox.open_ (by omega)
                rw [hXl] at eg
                injection eg with e1 _ e3
                subst e1 e3
                have HGX := Lib.hid hh
                have HFX := Lib.hid (show j * 5 + [Cl.zero].length * 5 ≤ cur.size by rw [hcs]; simp; omega)
                have H66 : Hid (∀ w', Turned g (cpd cur (j * 5) [Cl.zero]) wr w' → (∃ X : List Cl, X.length = n5 ∧ OwL w' w4'.heap.size (.slice (some ⟨g, 0, none⟩) n5 c5) X) ∧ Below w4'.heap.size w4' w' ∧ (OwL w' w5.heap.size (.slice A6 n6 c6) Y)) := Lib.hid fun w' hT => by
                  have hs := OwL.stored hg (by omega) hc1 hm1 hcs ht hT
                  rw [hXl] at hs
                  exact ⟨⟨X.set j Cl.zero, by rw [List.length_set]; exact hXl, hs⟩, HBB.out.trans (hT.b.mono hg), HEX.out.keptR hT.grown (fun k hk e => by
                    injection e with e
                    have h1 : k < w5.heap.size := HLT5.out k (by rw [← e]; rfl)
                    have h2 := (HEX.out.lt k hk).1
                    omega)⟩
                clear ox hg hh hc1 hm1 hcs ht
                go_wp2_with (refine wpList_storeAt (c := Cl.zero) (g := g) (n := j * 5) rfl (.tmp 66) (.tmp 65) rfl (by simp [Act.eval]) rfl HGX.out HFX.out ?_)
                constructor
                intro w8 ht8
                obtain ⟨hX8, hB8, hE8⟩ := H66.out _ ht8
                have HX8 := Lib.hid hX8
                have HB8 := Lib.hid hB8
                have HE8 := Lib.hid hE8
                clear ht8 H66 HFX HGX hX8 hB8 hE8
                go_wp2_with fail
                go_roundw
                case rel => exact ⟨j + 1, by go_num, by omega, HX8, HB8, HE8⟩
                case measure => simp [intOf]; omega
              · have hj1 : ¬ (j : Int) < (n5 : Int) := by omega
                have HBO := HBB
                clear HXX
                have HOW6 : Hid (∃ X : List Cl, X.length = n6 ∧ OwL wr w4'.heap.size (.slice A6 n6 c6) X) := Lib.hid ⟨Y, HN6.out, HEX.out.mono HSZ.out⟩
                clear HEX HX6 HBB HLT5
                obtain ⟨w7, hw7⟩ : ∃ w7, w7 = wr := ⟨_, rfl⟩
                subst hw7
                go_wp2_with fail
                go_loopw [11] (fun i wr => ∃ j : Nat, i = .int .i64 (j : Int) ∧ j ≤ n6 ∧ Hid (∃ X : List Cl, X.length = n6 ∧ OwL wr w4'.heap.size (.slice A6 n6 c6) X) ∧ Hid (Below w4'.heap.size w4' wr) ∧ Hid (True)) (fun i _ => n6 - (intOf i).toNat)
                case atStart => exact ⟨0, rfl, by omega, HOW6, HBO, Lib.hid trivial⟩
                case round =>
                  obtain ⟨j, rfl, hj, HXX, HBB, HEX⟩ := hrel
                  by_cases hjn : j < n6
                  · have hj1 : (j : Int) < (n6 : Int) := by omega
                    have hj0 : (0 : Int) ≤ (j : Int) := by omega
                    obtain ⟨X, hXl, ox⟩ := HXX.out
                    obtain ⟨g, cap, cur, eg, hg, hh, hc1, hm1, hcs, ht⟩ := ox.open_ (by omega)
                    rw [hXl] at eg
                    injection eg with e1 _ e3
                    subst e1 e3
                    have HGX := Lib.hid hh
                    have HFX := Lib.hid (show j * 5 + [Cl.zero].length * 5 ≤ cur.size by rw [hcs]; simp; omega)
                    have H76 : Hid (∀ w', Turned g (cpd cur (j * 5) [Cl.zero]) wr w' → (∃ X : List Cl, X.length = n6 ∧ OwL w' w4'.heap.size (.slice (some ⟨g, 0, none⟩) n6 c6) X) ∧ Below w4'.heap.size w4' w' ∧ (True)) := Lib.hid fun w' hT => by
                      have hs := OwL.stored hg (by omega) hc1 hm1 hcs ht hT
                      rw [hXl] at hs
                      exact ⟨⟨X.set j Cl.zero, by rw [List.length_set]; exact hXl, hs⟩, HBB.out.trans (hT.b.mono hg), trivial⟩
                    clear ox hg hh hc1 hm1 hcs ht
                    go_wp2_with (refine wpList_storeAt (c := Cl.zero) (g := g) (n := j * 5) rfl (.tmp 76) (.tmp 75) rfl (by simp [Act.eval]) rfl HGX.out HFX.out ?_)
                    constructor
                    intro w8 ht8
                    obtain ⟨hX8, hB8, hE8⟩ := H76.out _ ht8
                    have HX8 := Lib.hid hX8
                    have HB8 := Lib.hid hB8
                    have HE8 := Lib.hid hE8
                    clear ht8 H76 HFX HGX hX8 hB8 hE8
                    go_wp2_with fail
                    go_roundw
                    case rel => exact ⟨j + 1, by go_num, by omega, HX8, HB8, HE8⟩
                    case measure => simp [intOf]; omega
                  · have hj1 : ¬ (j : Int) < (n6 : Int) := by omega
                    have HBO := HBB
                    clear HXX
                    obtain ⟨w8, hw8⟩ : ∃ w8, w8 = wr := ⟨_, rfl⟩
                    subst hw8
                    have HO8 := Lib.hid (HO.out.up I HBO.out)
                    have HBA := Lib.hid (show Below w.heap.size w w8 from bwstep HK3.out (by obtain ⟨-, -, -, -, hbo⟩ := HO8.out; exact hbo))
                    clear HBB HEX HBO
                    go_wp2_with fail
                    refine (HO8.out.cells I HG.out).mono ?_
                    rintro e wa ⟨⟨xa, rfl, hxa⟩, hba⟩
                    have HXA := Lib.hid (hxa.rd (S := []) (fun _ h => by cases h))
                    have HBa := Lib.hid (bwstep HBA.out hba)
                    clear hxa hba
                    go_wp2_with fail
                    refine (rsort_any _ L _ (HV.out.bel HBa.out) HOK.out (by omega)).mono ?_
                    rintro e wb ⟨⟨xb, rfl, hxb⟩, hbb⟩
                    have HXB := Lib.hid (hxb.rd (S := []) (fun _ h => by cases h))
                    have HXA2 := Lib.hid (HXA.out.bel hbb)
                    rw [HC.out] at HXA2
                    have HBb := Lib.hid (bwstep HBa.out hbb)
                    clear hxb hbb
                    go_wp2_with fail
                    refine (rsameL_self xa xb (sortC L) _ HXA2.out HXB.out (by omega)).mono ?_
                    rintro e wc ⟨rfl, hbc⟩
                    have HBc := Lib.hid (bwstep HBb.out hbc)
                    clear hbc
                    go_wp2_with fail
                    go_ret
                    exact ⟨rfl, HBc.out⟩
      · rw [decide_eq_false hsr]
        go_wp2_with fail
        refine (awake14_ok I _).mono ?_
        rintro e w9 ⟨rfl, hb9⟩
        have H9 := Lib.hid (bwstep HK3.out hb9)
        clear hb9
        go_wp2_with fail
        go_ret
        exact ⟨rfl, H9.out⟩
    · have h41 : (40 : Int) < (L.length : Int) := by omega
      go_wp2_with fail
      refine (awake14_ok I _).mono ?_
      rintro e w9 ⟨rfl, hb9⟩
      have H9 := Lib.hid (bwstep HK2.out hb9)
      clear hb9
      go_wp2_with fail
      go_ret
      exact ⟨rfl, H9.out⟩
end Go.Proofs.YtgcbmdolbmmljaaGreat
