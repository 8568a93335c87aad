/- BlockBack's walk. -/
import Derived.Test.YtpflcnndloielaaBaw
import Derived.Test.YtpflcnndloielaaCrb
import Derived.Test.YtpflcnndloielaaCfw
import Derived.Test.YtpflcnndloielaaCpo
namespace Go.Proofs.Ytpflcnndloielaa.Ce
open Go.RowKit Frm

/-- bytes' block and cells' block are no two alike -/
theorem ow_apartB {w : World} {B B' : Nat} {p q : Value} {xs : List Value} {L : List Cl} (h : Ow w B 5 p xs) (hr : OwL w B' q L) : ∀ k, p.ownBlock = some k → q.ownBlock ≠ some k := fun k hp hq => by
  rcases h.2 with ⟨rfl, -⟩ | ⟨g, cap, cur, rfl, -, hg, -⟩
  · cases hp
  · rcases hr.2 with ⟨rfl, -⟩ | ⟨g', cap', cur', rfl, -, hg', -⟩
    · cases hq
    · have e1 : g' = k := by injection hq
      have e2 : g = k := by injection hp
      subst e1 e2
      rw [hg] at hg'
      injection hg' with hg'
      injection hg' with _ ht _
      exact absurd ht (by decide)
/-- what is known of the blocks -/
structure Blks (size : Int) (S : List Cl) (LL : List (List Cl)) : Prop where
  ok : ∀ (j : Nat) (M : List Cl), LL[j]? = some M → BlkOk size M (decide (j + 1 = LL.length)) ∧ Sorted M ∧ M.length ≤ 80 ∧ (recB M).length ≤ 65535
  flat : LL.flatten = S
  len : LL.length ≤ 81
  sz : (flatB LL).length ≤ 40000
theorem blks_cut {size : Int} {S : List Cl} (h1 : 1 ≤ size) (hs : Sorted S) (hl : S.length ≤ 80) : Blks size S (cutB size S) := by
  have h2 := flatC_le hs.ok
  have h3 := cutB_len size S
  refine ⟨fun j M hM => ?_, cutB_flat size S, by omega, ?_⟩
  · have hsM := cutB_sorted hs hM
    have hlM := (cutB_sub hM).length_le
    have h4 := flatC_le hsM.ok
    exact ⟨cutB_ok h1 hM, hsM, by omega, by rw [recB_len]; omega⟩
  · rw [flatB_len, cutB_flat]
    omega
end Go.Proofs.Ytpflcnndloielaa.Ce
namespace Go.Proofs.Ytpflcnndloielaa
open Go.RowKit Ce Frm

set_option maxHeartbeats 8000000 in
set_option maxRecDepth 100000 in
theorem blockBack_walk (v : Value) (L : List Cl) (a1 : Int) (w : World) (hv : RdL w [] v L) (w1 : (Lit.int .u8 a1).wf = true) : Calls Try.prog 6 #[v, .int .u8 a1] w fun e w' => e = .returned (.bool true) ∧ Below w.heap.size w w' := by
  obtain ⟨t, rfl, ht⟩ : ∃ t : Nat, a1 = (t : Int) ∧ t < 256 := by
    have := bounds_u8 w1
    exact ⟨a1.toNat, by omega, by omega⟩
  have HV := Lib.hid hv
  clear hv w1
  go_enter Try.func6, Try.ntmps6
  go_wp2_with fail
  refine (bawake_ok _).mono ?_
  rintro e w1 ⟨rfl, hb1⟩
  have HK1 := Lib.hid hb1
  clear hb1
  go_wp2_with fail
  refine (efew_any v L _ (HV.out.bel HK1.out)).mono ?_
  rintro e w2 ⟨⟨q, rfl, hq⟩, hb2⟩
  have HK2 := Lib.hid (bwstep HK1.out hb2)
  clear hb2 HK1
  cases q
  · clear hq
    go_wp2_with fail
    refine (bawake_ok _).mono ?_
    rintro e w9 ⟨rfl, hb9⟩
    have H9 := Lib.hid (bwstep HK2.out hb9)
    clear hb9
    go_wp2_with fail
    go_ret
    exact ⟨rfl, H9.out⟩
  · obtain ⟨hl80, hok⟩ := hq rfl
    clear hq
    have HOK := Lib.hid hok
    clear hok
    go_wp2_with fail
    refine (rsort_any v L _ (HV.out.bel HK2.out) HOK.out (by omega)).mono ?_
    rintro e w3 ⟨⟨v3, rfl, h3⟩, hb3⟩
    obtain ⟨hs1, hs2, hs3⟩ := sortC_ok HOK.out
    have HR3 := Lib.hid (h3.rd (S := []) (fun _ h => by cases h))
    have hs0 : Sorted (sortC L) := sorted_iff.2 ⟨hs2, hs1⟩
    have HBL := Lib.hid (blks_cut (size := 1 + (t : Int)) (by omega) hs0 (by omega))
    have HK3 := Lib.hid (bwstep HK2.out hb3)
    have hcu := bcut_ok v3 (sortC L) (1 + (t : Int)) w3 HR3.out hs0 (by omega) (by omega)
    have hll : (sortC L).length ≤ 80 := by omega
    clear hs0 hs1 hs2 hs3 h3 hb3 HK2 HV HOK
    generalize sortC L = S at *
    generalize cutB (1 + (t : Int)) S = LL at *
    go_wp2_with fail
    refine hcu.mono ?_
    rintro e w4 ⟨⟨x, vs, rfl, hx⟩, hb4⟩
    have HX4 := Lib.hid hx.rd
    have HR4 := Lib.hid (HR3.out.bel hb4)
    have HK4 := Lib.hid (bwstep HK3.out hb4)
    clear hx hb4 hcu HR3 HK3
    obtain ⟨Ax, cx, rfl, hxc, hxm⟩ := HX4.out.shape
    unfold maxLen at hxm
    have hLL := HBL.out.len
    go_wp2_with fail
    go_loopw [8, 10] (fun p i wr => ∃ k : Nat, k ≤ LL.length ∧ i = .int .i64 (k : Int) ∧ Hid (Ow wr w4.heap.size 5 p ((flatB (LL.take k)).map bv)) ∧ Hid (Below w4.heap.size w4 wr)) (fun _ i _ => LL.length - (intOf i).toNat)
    case atStart => exact ⟨0, by omega, rfl, Lib.hid (Ow.nilB _ _ _), Lib.hid (Below.refl _ _)⟩
    case round =>
      obtain ⟨k, hk, rfl, HO, HBW⟩ := hrel
      obtain ⟨wo, hwo⟩ : ∃ wo, wo = wr := ⟨_, rfl⟩
      subst hwo
      by_cases hlt : k < LL.length
      · obtain ⟨b, off, rfl, hbl⟩ := HX4.out.open_ (by omega)
        have hh3 : (0 : Int) ≤ (k : Int) := by omega
        have hh4 : (k : Int) < (LL.length : Int) := by omega
        have hfk : LL[k]? = some (LL[k]'hlt) := List.getElem?_eq_getElem _
        generalize LL[k]'hlt = M at hfk
        obtain ⟨hbo, hsM, hlM, hrM⟩ := HBL.out.ok k M hfk
        have HBO := Lib.hid hbo
        have HSM := Lib.hid hsM
        have HRM := Lib.hid hrM
        have HFK := Lib.hid hfk
        obtain ⟨A1, c1, hc1, h1c, h1m, hr1⟩ := HX4.out.row hfk
        have HR1 := Lib.hid hr1
        have HC1 : Hid (∀ wz, Below w4.heap.size w4 wz → wz.cell? ⟨b, off + k, none⟩ = some (.slice A1 M.length c1)) := Lib.hid fun wz hz => (hz.cell (p := ⟨b, off + k, none⟩) hbl).trans hc1
        unfold maxLen at h1m
        have hmp : 0 < M.length := List.length_pos_iff.2 hbo.ne
        clear hfk hbo hsM hrM hr1 hc1
        go_wp2_with fail
        go_loopw [11, 12] (fun n i wy => ∃ (j m : Nat), j ≤ M.length ∧ i = .int .i64 (j : Int) ∧ n = .int .i64 (m : Int) ∧ Hid (m = (flatC (M.take j)).length) ∧ m ≤ 401 * j ∧ Hid (Below wo.heap.size wo wy)) (fun _ i _ => M.length - (intOf i).toNat)
        case atStart => exact ⟨0, 0, by omega, rfl, rfl, Lib.hid (by simp [flatC]), by omega, Lib.hid (Below.refl _ _)⟩
        case round =>
          obtain ⟨j, m, hj, rfl, rfl, HM, hm4, HBJ⟩ := hrel
          obtain ⟨wy0, hwy⟩ : ∃ wy0, wy0 = wr := ⟨_, rfl⟩
          subst hwy
          have hc1 := HC1.out _ (HBW.out.trans (HBJ.out.mono HBW.out.size))
          by_cases hlj : j < M.length
          · obtain ⟨b1, o1, rfl, -, -⟩ := HR1.out.open_ hmp
            have hh5 : (0 : Int) ≤ (j : Int) := by omega
            have hh6 : (j : Int) < (M.length : Int) := by omega
            have hfj : M[j]? = some (M[j]'hlj) := List.getElem?_eq_getElem _
            generalize M[j]'hlj = f at hfj
            obtain ⟨⟨c0, c1', c2, c3, c4⟩, -⟩ := (HR1.out.bel (HBW.out.trans (HBJ.out.mono HBW.out.size))).at_ hfj
            have hok := HSM.out.ok f (List.mem_of_getElem? hfj)
            have hcl := cellB_le hok
            have hpu := fun w => rput_ok f w hok
            have hlts := HBO.out.lt j hlj
            rw [← HM.out] at hlts
            have hgt : decide ((t : Int) < (m : Int)) = false := decide_eq_false (by omega)
            have hgt2 : decide (t < m) = false := decide_eq_false (by omega)
            have HM2 : Hid (m + (cellB f).length = (flatC (M.take (j + 1))).length) := Lib.hid (by rw [flatC_snoc hfj, List.length_append, HM.out])
            have hm5 : m + (cellB f).length ≤ 401 * (j + 1) := by omega
            clear hfj hok hlts
            go_wp2_with fail
            refine (hpu _).mono ?_
            rintro e wp ⟨⟨u, rfl, hu⟩, hbp⟩
            obtain ⟨Au, cu, rfl, -, -⟩ := hu.rd.shapeM
            have HBP := Lib.hid (bwstep HBJ.out hbp)
            clear hu hbp hpu hc1 c0 c1' c2 c3 c4
            generalize (cellB f).length = z at *
            go_wp2_with fail
            go_roundw
            case rel => exact ⟨j + 1, m + z, by omega, by go_num, by go_num, HM2, hm5, HBP⟩
            case measure => simp [intOf]; omega
          · obtain rfl : j = M.length := by omega
            have HBX := Lib.hid (HBW.out.trans (HBJ.out.mono HBW.out.size))
            have hml0 : ((M.length : Int) == 0) = false := beq_false_of_ne (by omega)
            have hmm := HM.out
            rw [List.take_length] at hmm
            have hbp := bput_ok _ M wy0 (HR1.out.bel HBX.out) HSM.out HBO.out.ne HRM.out
            have HSN := Lib.hid (flatB_snoc HFK.out)
            have hsz : (flatB (LL.take k)).length + (blkB M).length ≤ 140737488355328 := by
              have h1 := flatB_take_le LL (k + 1)
              have h2 := HBL.out.sz
              rw [HSN.out, List.length_append] at h1
              omega
            have HSZ := Lib.hid hsz
            have HO2 := Lib.hid (HO.out.below HBJ.out)
            have hlast : (decide ((m : Int) ≤ (t : Int)) = true → decide ((k : Int) + 1 < (LL.length : Int)) = false) := fun h => by
              by_cases hkl : k + 1 = LL.length
              · exact decide_eq_false (by omega)
              · have := HBO.out.ge (decide_eq_false hkl)
                have := of_decide_eq_true h
                omega
            have HLA := Lib.hid hlast
            clear hmm hsz hlast
            by_cases hmt : (m : Int) ≤ (t : Int)
            · have hmd : decide ((m : Int) ≤ (t : Int)) = true := decide_eq_true hmt
              have hmd2 : decide (m ≤ t) = true := decide_eq_true (by omega)
              have hkd := HLA.out hmd
              clear hmt HLA HM
              go_wp2_with fail
              refine hbp.mono ?_
              rintro e w5 ⟨⟨y, rfl, hy⟩, hb5⟩
              have ho5 := HO2.out.below hb5
              have hyr := hy.rd
              have hbb := HBX.out.trans (hb5.mono HBX.out.size)
              have hB5 := hbb.size
              have hsz := HSZ.out
              clear hy hb5 hbp hc1
              go_wp2_with (at_builtin; refine wpList_appB bytesT rfl (.tmp 98) (.tmp 99) rfl rfl ho5 rfl hyr hsz hB5 ?_; intro v6 w6 ho6 hg6 _; have HO6 := Lib.hid ho6; have HB6 := Lib.hid (hbb.grown hg6 hB5 ho5.ge); clear ho6 hg6 ho5 hyr hbb)
              go_roundw
              case rel => exact ⟨k + 1, by omega, by go_num, Lib.hid (by rw [HSN.out]; exact HO6.out), HB6⟩
              case measure => simp [intOf]; omega
            · have hmd : decide ((m : Int) ≤ (t : Int)) = false := decide_eq_false hmt
              have hmd2 : decide (m ≤ t) = false := decide_eq_false (by omega)
              clear hmt HLA HM
              go_wp2_with fail
              refine hbp.mono ?_
              rintro e w5 ⟨⟨y, rfl, hy⟩, hb5⟩
              have ho5 := HO2.out.below hb5
              have hyr := hy.rd
              have hbb := HBX.out.trans (hb5.mono HBX.out.size)
              have hB5 := hbb.size
              have hsz := HSZ.out
              clear hy hb5 hbp hc1
              go_wp2_with (at_builtin; refine wpList_appB bytesT rfl (.tmp 98) (.tmp 99) rfl rfl ho5 rfl hyr hsz hB5 ?_; intro v6 w6 ho6 hg6 _; have HO6 := Lib.hid ho6; have HB6 := Lib.hid (hbb.grown hg6 hB5 ho5.ge); clear ho6 hg6 ho5 hyr hbb)
              go_roundw
              case rel => exact ⟨k + 1, by omega, by go_num, Lib.hid (by rw [HSN.out]; exact HO6.out), HB6⟩
              case measure => simp [intOf]; omega
      · obtain rfl : k = LL.length := by omega
        have ho9 := HO.out
        rw [List.take_length] at ho9
        have HO9 := Lib.hid ho9
        clear ho9 HO hxc
        go_wp2_with fail
        go_loopw [8, 9, 15] (fun p q i wy => ∃ k : Nat, k ≤ LL.length ∧ i = .int .i64 (k : Int) ∧ Hid (Ow wy w4.heap.size 5 p ((flatB (LL.drop k)).map bv)) ∧ Hid (OwL wy w4.heap.size q (LL.take k).flatten) ∧ Hid (Below w4.heap.size w4 wy)) (fun _ _ i _ => LL.length - (intOf i).toNat)
        case atStart => exact ⟨0, by omega, rfl, HO9, Lib.hid (OwL.nil _ _), HBW⟩
        case round =>
          obtain ⟨k, hk, rfl, HP, HQ, HBY⟩ := hrel
          by_cases hlt : k < LL.length
          · have hh3 : (0 : Int) ≤ (k : Int) := by omega
            have hh4 : (k : Int) < (LL.length : Int) := by omega
            have hfk : LL[k]? = some (LL[k]'hlt) := List.getElem?_eq_getElem _
            generalize LL[k]'hlt = M at hfk
            obtain ⟨hbo, hsM, hlM, hrM⟩ := HBL.out.ok k M hfk
            have HBA : Hid (BlkAt (flatB (LL.drop k)) M (flatB (LL.drop (k + 1)))) := Lib.hid ⟨flatB_drop hfk, hsM, hbo.ne, hrM⟩
            have HFS := Lib.hid (flatten_snoc hfk)
            have hdl := flatB_drop_le LL k
            have hge := bget_any _ _ wr _ HP.out.rd (Nat.le_refl _) (by have := HBL.out.sz; omega)
            have hlA : (LL.take k).flatten.length + M.length ≤ 2199023255552 := by
              have h1 := flatten_take_le LL (k + 1)
              rw [HFS.out, List.length_append, HBL.out.flat] at h1
              omega
            have HLA := Lib.hid hlA
            clear hfk hbo hsM hlM hrM hdl hlA
            go_wp2_with fail
            refine hge.mono ?_
            rintro e w5 ⟨he, hb5⟩
            rcases he with ⟨L', m', x, y, hat, rfl, hx, hy⟩ | ⟨hno, rfl⟩
            · obtain ⟨rfl, rfl⟩ := hat.one HBA.out
              have hqo := HQ.out.below hb5
              have hbb := HBY.out.trans (hb5.mono HBY.out.size)
              have hB5 := hbb.size
              have HY := Lib.hid (hy.mono HBY.out.size)
              have hxr := hx.rd (S := []) (fun _ h => by cases h)
              have hlA := HLA.out
              clear hat hx hy hb5 hge
              go_wp2_with (at_builtin; refine wpList_appL rfl (.tmp 115) (.tmp 116) rfl rfl hqo rfl hxr hlA hB5 ?_; intro v6 w6 ho6 hg6 h6; have HO6 := Lib.hid ho6; have HB6 := Lib.hid (hbb.grown hg6 hB5 (fun k hk => (hqo.lt k hk).1)); have HY6 := Lib.hid (HY.out.kept hg6 (fun k hk e => ow_apartB HY.out hqo k hk e)); clear ho6 hg6 h6 hqo hxr hbb)
              go_roundw
              case rel => exact ⟨k + 1, by omega, by go_num, HY6, Lib.hid (by rw [HFS.out]; exact HO6.out), HB6⟩
              case measure => simp [intOf]; omega
            · exact absurd ⟨_, _, HBA.out⟩ hno
          · obtain rfl : k = LL.length := by omega
            have hp9 := HP.out
            rw [List.drop_length] at hp9
            have hq9 := HQ.out
            rw [List.take_length, HBL.out.flat] at hq9
            obtain ⟨Ap, cp', rfl, -, -⟩ := hp9.rd.shapeM
            have hzero : (flatB []).length = 0 := rfl
            rw [hzero]
            have hsm := rsameL_self u9 v3 S wr (hq9.rd (fun _ h => by cases h)) (HR4.out.bel HBY.out) (by omega)
            clear hp9 hq9 hzero
            go_wp2_with fail
            refine hsm.mono ?_
            rintro e w6 ⟨rfl, hb6⟩
            have HE := Lib.hid (bwtrans (bwtrans HK4.out HBY.out (Nat.le_refl _)) hb6 (Nat.le_refl _))
            clear hb6 hsm
            go_wp2_with fail
            go_ret
            exact ⟨rfl, HE.out⟩
end Go.Proofs.Ytpflcnndloielaa
