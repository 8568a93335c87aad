/- The walk of MergeWins. -/
import Derived.Test.YtknkdehjgkjljaaMl1
import Derived.Test.YtknkdehjgkjljaaMgW
import Derived.Test.YtknkdehjgkjljaaCso
namespace Go.Proofs.Ytknkdehjgkjljaa
open Go.RowKit Ce

theorem Ce.noKey_snoc {M : List Cl} {n : Nat} {g x : Cl} (h : M[n]? = some g) : noKey (M.take (n + 1)) x = (noKey (M.take n) x && (ccmp g x != 0)) := by
  obtain ⟨hl, rfl⟩ := List.getElem?_eq_some_iff.1 h
  unfold noKey
  rw [List.take_succ_eq_append_getElem hl, List.all_append]
  congr 1
  simp only [List.all_cons, List.all_nil, Bool.and_true]
  by_cases h0 : ccmp M[n] x = 0
  · rw [h0]; rfl
  · rw [decide_eq_false h0]
    exact (bne_iff_ne.2 h0).symm
theorem Ce.nk_snoc {A : List (List Cl)} {n : Nat} {M : List Cl} {x : Cl} (h : A[n]? = some M) : nk (A.take (n + 1)) x = (nk (A.take n) x && noKey M x) := by
  obtain ⟨hl, rfl⟩ := List.getElem?_eq_some_iff.1 h
  unfold nk
  rw [List.take_succ_eq_append_getElem hl, List.all_append]
  simp
def Ce.hasB (M : List Cl) (x : Cl) : Bool := M.any fun c => decide (c = x)
theorem Ce.hasB_snoc {M : List Cl} {n : Nat} {g x : Cl} (h : M[n]? = some g) : hasB (M.take (n + 1)) x = (hasB (M.take n) x || decide (g = x)) := by
  obtain ⟨hl, rfl⟩ := List.getElem?_eq_some_iff.1 h
  unfold hasB
  rw [List.take_succ_eq_append_getElem hl, List.any_append]
  simp
theorem Ce.hasB_mem {M : List Cl} {x : Cl} (h : x ∈ M) : hasB M x = true := by
  unfold hasB
  exact List.any_eq_true.2 ⟨x, h, decide_eq_true rfl⟩
def Ce.WinsG (b2 q2 n b1 q1 k b3 o3 j i l1 l2 c1 c2 : Nat) (g f : Cl) (w5 w' : World) : Prop := w'.cell? ⟨b2, q2 + n * 5, none⟩ = some (.string g.row) ∧ w'.cell? ⟨b2, q2 + n * 5 + 1, none⟩ = some (.string g.col) ∧ w'.cell? ⟨b2, q2 + n * 5 + 2, none⟩ = some (.int .i64 g.at_) ∧ w'.cell? ⟨b2, q2 + n * 5 + 3, none⟩ = some (.string g.val) ∧ w'.cell? ⟨b2, q2 + n * 5 + 4, none⟩ = some (.bool g.gone) ∧ w'.cell? ⟨b1, q1 + k * 5, none⟩ = some (.string f.row) ∧ w'.cell? ⟨b1, q1 + k * 5 + 1, none⟩ = some (.string f.col) ∧ w'.cell? ⟨b1, q1 + k * 5 + 2, none⟩ = some (.int .i64 f.at_) ∧ w'.cell? ⟨b1, q1 + k * 5 + 3, none⟩ = some (.string f.val) ∧ w'.cell? ⟨b1, q1 + k * 5 + 4, none⟩ = some (.bool f.gone) ∧ w'.cell? ⟨b3, o3 + j, none⟩ = some (.slice (some ⟨b2, q2, none⟩) l2 c2) ∧ w'.cell? ⟨b3, o3 + i, none⟩ = some (.slice (some ⟨b1, q1, none⟩) l1 c1) ∧ Below w5.heap.size w5 w'
def Ce.WinsE (b4 q4 n b1 q1 k b3 o3 i l1 c1 : Nat) (g f : Cl) (w5 w' : World) : Prop := w'.cell? ⟨b4, q4 + n * 5, none⟩ = some (.string g.row) ∧ w'.cell? ⟨b4, q4 + n * 5 + 1, none⟩ = some (.string g.col) ∧ w'.cell? ⟨b4, q4 + n * 5 + 2, none⟩ = some (.int .i64 g.at_) ∧ w'.cell? ⟨b4, q4 + n * 5 + 3, none⟩ = some (.string g.val) ∧ w'.cell? ⟨b4, q4 + n * 5 + 4, none⟩ = some (.bool g.gone) ∧ w'.cell? ⟨b1, q1 + k * 5, none⟩ = some (.string f.row) ∧ w'.cell? ⟨b1, q1 + k * 5 + 1, none⟩ = some (.string f.col) ∧ w'.cell? ⟨b1, q1 + k * 5 + 2, none⟩ = some (.int .i64 f.at_) ∧ w'.cell? ⟨b1, q1 + k * 5 + 3, none⟩ = some (.string f.val) ∧ w'.cell? ⟨b1, q1 + k * 5 + 4, none⟩ = some (.bool f.gone) ∧ w'.cell? ⟨b3, o3 + i, none⟩ = some (.slice (some ⟨b1, q1, none⟩) l1 c1) ∧ Below w5.heap.size w5 w'
theorem Ce.WinsG.bel {b2 q2 n b1 q1 k b3 o3 j i l1 l2 c1 c2 : Nat} {g f : Cl} {w5 w' : World} (h : WinsG b2 q2 n b1 q1 k b3 o3 j i l1 l2 c1 c2 g f w5 w') : Below w5.heap.size w5 w' := h.2.2.2.2.2.2.2.2.2.2.2.2
set_option maxHeartbeats 8000000 in
set_option maxRecDepth 100000 in
theorem mergeWins_walk (v : Value) (LL : List (List Cl)) (w : World) (hv : RdB w v LL) (hz : ∀ M ∈ LL, M.length < 2199023255552) (hy : LL.length ≤ 140737488351232) : Calls Try.prog 5 #[v] w fun e w' => e = .returned (.bool true) ∧ Below w.heap.size w w' := by
  have HV := Lib.hid hv
  clear hv
  go_enter Try.func5, Try.ntmps5
  go_wp2_with fail
  refine (awake13_ok _).mono ?_
  rintro e w1 ⟨rfl, hb1⟩
  have HK1 := Lib.hid hb1
  clear hb1
  go_wp2_with fail
  refine (rfew13_any v LL _ (HV.out.bel HK1.out) hz hy).mono ?_
  rintro e w2 ⟨⟨q, rfl, hq⟩, hb2⟩
  have HK2 := Lib.hid (bwstep HK1.out hb2)
  clear hb2 HK1
  cases q
  · clear hq
    go_wp2_with fail
    refine (awake13_ok _).mono ?_
    rintro e w9 ⟨rfl, hb9⟩
    have H9 := Lib.hid (bwstep HK2.out hb9)
    clear hb9
    go_wp2_with fail
    go_ret
    exact ⟨rfl, H9.out⟩
  · have hfew : Few13 LL := hq rfl
    have HLS := Lib.hid (few_sorts hfew)
    have HOK := Lib.hid (fun M hM => (hfew.2.2 M hM).2)
    have HLE := Lib.hid (fun M hM => (hfew.2.2 M hM).1)
    have hn20 := hfew.1
    clear hq hfew
    go_wp2_with fail
    refine (rsorts_any v LL _ (HV.out.bel HK2.out) HOK.out (fun M hM => Nat.le_trans (HLE.out M hM) (by decide)) (by omega)).mono ?_
    rintro e w3 ⟨⟨x3, vs, rfl, hx3⟩, hb3⟩
    have HB3 := Lib.hid (bwstep HK2.out hb3)
    have HX := Lib.hid hx3.rd
    generalize LL.map sortC = SL at *
    clear hx3 hb3
    have hal := all_len2 HLS.out
    have hsn := HLS.out.n
    go_wp2_with fail
    refine (all_any x3 SL _ HX.out HLS.out.srt (Nat.le_trans HLS.out.fl (by decide)) (Nat.le_trans HLS.out.n (by decide))).mono ?_
    rintro e w4 ⟨⟨x4, rfl, hx4⟩, hb4⟩
    have hrd4 := hx4.rd0
    have HB4 := Lib.hid (bwstep HB3.out hb4)
    have HX4 := Lib.hid (HX.out.bel hb4)
    have hAO := ok_all HLS.out.ok
    have hso := rsorted_any x4 (allP SL) w4 hrd4 (by omega) (fun c hc => (hAO c hc).sh)
    rw [sortedB_true (sorted_iff.2 ⟨hAO, srt_all SL⟩)] at hso
    have HSO := Lib.hid hso
    have HFF := Lib.hid (fun i k M f hM hf hp => found_first (LL := SL) (i := i) (k := k) (M := M) (f := f) HLS.out.srt hM hf hp)
    have hfl0 := frst_len SL HLS.out.srt
    generalize allP SL = A at *
    clear hx4 hb4 hso hAO HX
    go_wp2_with fail
    refine HSO.out.mono ?_
    rintro e w5 ⟨rfl, hb5⟩
    have HX5 := Lib.hid (HX4.out.bel hb5)
    have HA5 := Lib.hid (hrd4.bel hb5)
    have HB5 := Lib.hid (bwstep HB4.out hb5)
    obtain ⟨A3, c3, rfl, hc3, hm3⟩ := HX5.out.shape
    obtain ⟨A4, c4, rfl, hc4, hm4⟩ := HA5.out.shape
    unfold maxLen at hm3 hm4
    have HF0 : Hid (0 + frst (nk (SL.take 0)) (SL.drop 0) = A.length) := Lib.hid (by rw [Nat.zero_add]; exact hfl0)
    clear hb5 hrd4 HSO HX4 HB4 HB3 hfl0
    go_wp2_with fail
    go_loopw [5, 6] (fun u5 u6 wr => ∃ K i : Nat, u5 = .int .i64 (K : Int) ∧ u6 = .int .i64 (i : Int) ∧ i ≤ SL.length ∧ K ≤ A.length ∧ Hid (K + frst (nk (SL.take i)) (SL.drop i) = A.length) ∧ Hid (Below w5.heap.size w5 wr)) (fun _ u6 _ => SL.length - (intOf u6).toNat)
    case atStart => exact ⟨0, 0, rfl, rfl, by omega, by omega, HF0, Lib.hid (Below.refl _ _)⟩
    case round =>
      clear HF0
      obtain ⟨K, i, rfl, rfl, hi, hKA, HK, HBW⟩ := hrel
      by_cases hin : i < SL.length
      · have hi1 : (i : Int) < (SL.length : Int) := by omega
        have hi0 : (0 : Int) ≤ (i : Int) := by omega
        have hfi : SL[i]? = some (SL[i]'hin) := List.getElem?_eq_getElem _
        generalize SL[i]'hin = M at hfi
        have hml := HLS.out.le M (List.mem_of_getElem? hfi)
        have HFI := Lib.hid hfi
        have HDR := Lib.hid (frst_drop hfi)
        have HMO := Lib.hid (HLS.out.ok M (List.mem_of_getElem? hfi))
        obtain ⟨b3, o3, rfl, hb3⟩ := HX5.out.open_ (by omega)
        obtain ⟨A1, c1, hc0, hcl1, hcm1, hr1⟩ := HX5.out.row hfi
        unfold maxLen at hcm1
        have HCI : Hid (∀ z, Below w5.heap.size w5 z → z.cell? ⟨b3, o3 + i, none⟩ = some (.slice A1 M.length c1)) := Lib.hid fun z hz => (hz.cell (p := ⟨b3, o3 + i, none⟩) hb3).trans hc0
        have HR1 := Lib.hid hr1
        have HK2x : Hid (K + (((M.drop 0).filter (nk (SL.take i))).length + frst (nk (SL.take (i + 1))) (SL.drop (i + 1))) = A.length) := Lib.hid (by rw [List.drop_zero, ← HDR.out]; exact HK.out)
        clear hfi hc0 hr1 HDR HK
        obtain ⟨wo, hwo⟩ : ∃ wo, wo = wr := ⟨_, rfl⟩
        subst hwo
        go_wp2_with fail
        go_loopw [5, 7] (fun u5 u7 wr => ∃ K k : Nat, u5 = .int .i64 (K : Int) ∧ u7 = .int .i64 (k : Int) ∧ k ≤ M.length ∧ K ≤ A.length ∧ Hid (K + (((M.drop k).filter (nk (SL.take i))).length + frst (nk (SL.take (i + 1))) (SL.drop (i + 1))) = A.length) ∧ Hid (Below w5.heap.size w5 wr)) (fun _ u7 _ => M.length - (intOf u7).toNat)
        case atStart => exact ⟨K, 0, rfl, rfl, by omega, hKA, HK2x, HBW⟩
        case round =>
          clear HK2x HBW hKA
          obtain ⟨K2, k, rfl, rfl, hk, hKA, HK, HBW⟩ := hrel
          have ci := HCI.out _ HBW.out
          by_cases hkn : k < M.length
          · have hk1 : (k : Int) < (M.length : Int) := by omega
            have hk0 : (0 : Int) ≤ (k : Int) := by omega
            have hfk : M[k]? = some (M[k]'hkn) := List.getElem?_eq_getElem _
            generalize M[k]'hkn = f at hfk
            have HFK := Lib.hid hfk
            have HFO := Lib.hid (HMO.out f (List.mem_of_getElem? hfk))
            have HCD := Lib.hid (count_drop hfk (nk (SL.take i)))
            obtain ⟨b1, q1, rfl, hbl1, -⟩ := HR1.out.open_ (by omega)
            have HF5 : Hid (∀ z, Below w5.heap.size w5 z → FiveAt b1 (q1 + k * 5) f z) := Lib.hid fun z hz => ((HR1.out.bel hz).at_ hfk).1
            clear hfk
            obtain ⟨w6, hw6⟩ : ∃ w6, w6 = wr := ⟨_, rfl⟩
            subst hw6
            go_wp2_with fail
            clear ci
            go_loopw [8, 9] (fun u8 u9 wr => ∃ j : Nat, u8 = .bool (nk (SL.take j) f) ∧ u9 = .int .i64 (j : Int) ∧ j ≤ i ∧ Hid (Below w5.heap.size w5 wr)) (fun _ u9 _ => i - (intOf u9).toNat)
            case atStart => exact ⟨0, rfl, rfl, by omega, HBW⟩
            case round =>
              clear HBW
              obtain ⟨j, rfl, rfl, hj, HBW⟩ := hrel
              by_cases hji : j < i
              · have hj1 : (j : Int) < (i : Int) := by omega
                have hj2 : (j : Int) < (SL.length : Int) := by omega
                have hj0 : (0 : Int) ≤ (j : Int) := by omega
                have hfj : SL[j]? = some (SL[j]'(by omega)) := List.getElem?_eq_getElem _
                generalize SL[j]'(by omega) = M2 at hfj
                have hml2 := HLS.out.le M2 (List.mem_of_getElem? hfj)
                have HQ := Lib.hid (nk_snoc (x := f) hfj)
                have HMO2 := Lib.hid (HLS.out.ok M2 (List.mem_of_getElem? hfj))
                obtain ⟨A2, c2, hc0, hcl2, hcm2, hr2⟩ := HX5.out.row hfj
                unfold maxLen at hcm2
                have HCJ : Hid (∀ z, Below w5.heap.size w5 z → z.cell? ⟨b3, o3 + j, none⟩ = some (.slice A2 M2.length c2)) := Lib.hid fun z hz => (hz.cell (p := ⟨b3, o3 + j, none⟩) hb3).trans hc0
                have HR2 := Lib.hid hr2
                generalize nk (SL.take j) f = q at *
                have HQ0 : Hid (q = (q && noKey (M2.take 0) f)) := Lib.hid (by simp [noKey])
                clear hfj hc0 hr2
                obtain ⟨w7, hw7⟩ : ∃ w7, w7 = wr := ⟨_, rfl⟩
                subst hw7
                go_wp2_with fail
                go_loopw [8, 10] (fun u8 u10 wr => ∃ (n : Nat) (r : Bool), u8 = .bool r ∧ u10 = .int .i64 (n : Int) ∧ n ≤ M2.length ∧ Hid (r = (q && noKey (M2.take n) f)) ∧ Hid (Below w5.heap.size w5 wr)) (fun _ u10 _ => M2.length - (intOf u10).toNat)
                case atStart => exact ⟨0, q, rfl, rfl, by omega, HQ0, HBW⟩
                case round =>
                  clear HBW HQ0
                  obtain ⟨n, r, rfl, rfl, hn, HR, HBW⟩ := hrel
                  have cj := HCJ.out _ HBW.out
                  by_cases hnn : n < M2.length
                  · have hn1 : (n : Int) < (M2.length : Int) := by omega
                    have hn0 : (0 : Int) ≤ (n : Int) := by omega
                    have hfn : M2[n]? = some (M2[n]'hnn) := List.getElem?_eq_getElem _
                    generalize M2[n]'hnn = g at hfn
                    have HNS := Lib.hid (noKey_snoc (x := f) hfn)
                    have HGO := Lib.hid (HMO2.out g (List.mem_of_getElem? hfn))
                    obtain ⟨b2, q2, rfl, hbl2, -⟩ := HR2.out.open_ (by omega)
                    have HG5 : Hid (∀ z, Below w5.heap.size w5 z → FiveAt b2 (q2 + n * 5) g z) := Lib.hid fun z hz => ((HR2.out.bel hz).at_ hfn).1
                    clear hfn
                    obtain ⟨w8, hw8⟩ : ∃ w8, w8 = wr := ⟨_, rfl⟩
                    subst hw8
                    cases r
                    · have HRN : Hid (false = (q && noKey (M2.take (n + 1)) f)) := Lib.hid (by rw [HNS.out, ← Bool.and_assoc, ← HR.out]; rfl)
                      go_wp2_with fail
                      go_quiet (fail)
                      go_wp2_with fail
                      go_roundw
                      case rel => exact ⟨n + 1, false, rfl, by go_num, by omega, HRN, Lib.hid (bwstep HBW.out (bwN nq))⟩
                      case measure => simp [intOf]; omega
                    · have HRN : Hid ((ccmp g f != 0) = (q && noKey (M2.take (n + 1)) f)) := Lib.hid (by rw [HNS.out, ← Bool.and_assoc, ← HR.out]; rfl)
                      have HALL : Hid (∀ z, Below w5.heap.size w5 z → WinsG b2 q2 n b1 q1 k b3 o3 j i M.length M2.length c1 c2 g f w5 z) := Lib.hid fun z hz => by
                        obtain ⟨p0, p1, p2, p3, p4⟩ := HG5.out z hz
                        obtain ⟨r0, r1, r2, r3, r4⟩ := HF5.out z hz
                        exact ⟨p0, p1, p2, p3, p4, r0, r1, r2, r3, r4, HCJ.out z hz, HCI.out z hz, hz⟩
                      have HT := Lib.hid (HALL.out _ (bwstep HBW.out (Below.refl _ _).drew))
                      have HU : Hid (∀ y z : World, WinsG b2 q2 n b1 q1 k b3 o3 j i M.length M2.length c1 c2 g f w5 y → Below y.heap.size y z → WinsG b2 q2 n b1 q1 k b3 o3 j i M.length M2.length c1 c2 g f w5 z) := Lib.hid fun y z hS hb => HALL.out z (bwstep hS.bel hb)
                      go_wp2_with fail
                      clear cj
                      go_region_held3 (fun w' => w'.cell? ⟨b2, q2 + n * 5, none⟩ = some (.string g.row) ∧ w'.cell? ⟨b2, q2 + n * 5 + 1, none⟩ = some (.string g.col) ∧ w'.cell? ⟨b2, q2 + n * 5 + 2, none⟩ = some (.int .i64 g.at_) ∧ w'.cell? ⟨b2, q2 + n * 5 + 3, none⟩ = some (.string g.val) ∧ w'.cell? ⟨b2, q2 + n * 5 + 4, none⟩ = some (.bool g.gone) ∧ w'.cell? ⟨b1, q1 + k * 5, none⟩ = some (.string f.row) ∧ w'.cell? ⟨b1, q1 + k * 5 + 1, none⟩ = some (.string f.col) ∧ w'.cell? ⟨b1, q1 + k * 5 + 2, none⟩ = some (.int .i64 f.at_) ∧ w'.cell? ⟨b1, q1 + k * 5 + 3, none⟩ = some (.string f.val) ∧ w'.cell? ⟨b1, q1 + k * 5 + 4, none⟩ = some (.bool f.gone) ∧ w'.cell? ⟨b3, o3 + j, none⟩ = some (.slice (some ⟨b2, q2, none⟩) M2.length c2) ∧ w'.cell? ⟨b3, o3 + i, none⟩ = some (.slice (some ⟨b1, q1, none⟩) M.length c1) ∧ Below w5.heap.size w5 w') (first | exact HT.out | assumption | exact HU.out _ _ (by assumption) (by assumption))
                        (first | (go_at_call 23; refine (rcompare_any g f _ HGO.out.sh HFO.out.sh).mono ?_; rintro e wn ⟨rfl, hbn⟩))
                      all_goals
                        have HBN := Lib.hid (bwstep HBW.out (bwstep (Below.refl _ _).drew hbn))
                        go_wp2_with fail
                        go_roundw
                        case rel => exact ⟨n + 1, _, rfl, by go_num, by omega, HRN, HBN⟩
                        case measure => simp [intOf]; omega
                  · obtain rfl : n = M2.length := by omega
                    rw [List.take_length] at HR
                    go_wp2_with fail
                    go_roundw
                    case rel => exact ⟨j + 1, by rw [HQ.out, ← HR.out], by go_num, by omega, HBW⟩
                    case measure => simp [intOf]; omega
              · obtain rfl : j = i := by omega
                have HFT := Lib.hid (fun hp => HFF.out j k M f HFI.out HFK.out hp)
                have HA0 : Hid (Ce.hasB (A.take 0) f = false) := Lib.hid (by simp [Ce.hasB])
                generalize nk (SL.take j) f = q at *
                obtain ⟨w7, hw7⟩ : ∃ w7, w7 = wr := ⟨_, rfl⟩
                subst hw7
                go_wp2_with fail
                go_loopw [11, 12] (fun u11 u12 wr => ∃ (n : Nat) (r : Bool), u11 = .bool r ∧ u12 = .int .i64 (n : Int) ∧ n ≤ A.length ∧ Hid (Ce.hasB (A.take n) f = r) ∧ Hid (Below w5.heap.size w5 wr)) (fun _ u12 _ => A.length - (intOf u12).toNat)
                case atStart => exact ⟨0, false, rfl, rfl, by omega, HA0, HBW⟩
                case round =>
                  clear HBW HA0
                  obtain ⟨n, r, rfl, rfl, hn, HR, HBW⟩ := hrel
                  by_cases hnn : n < A.length
                  · have hn1 : (n : Int) < (A.length : Int) := by omega
                    have hn0 : (0 : Int) ≤ (n : Int) := by omega
                    have hfn : A[n]? = some (A[n]'hnn) := List.getElem?_eq_getElem _
                    generalize A[n]'hnn = g at hfn
                    have HNS := Lib.hid (hasB_snoc (x := f) hfn)
                    obtain ⟨b4, q4, rfl, hbl4, -⟩ := HA5.out.open_ (by omega)
                    have HG5 : Hid (∀ z, Below w5.heap.size w5 z → FiveAt b4 (q4 + n * 5) g z) := Lib.hid fun z hz => ((HA5.out.bel hz).at_ hfn).1
                    clear hfn
                    obtain ⟨w8, hw8⟩ : ∃ w8, w8 = wr := ⟨_, rfl⟩
                    subst hw8
                    cases r
                    · have HALL : Hid (∀ z, Below w5.heap.size w5 z → WinsE b4 q4 n b1 q1 k b3 o3 j M.length c1 g f w5 z) := Lib.hid fun z hz => by
                        obtain ⟨p0, p1, p2, p3, p4⟩ := HG5.out z hz
                        obtain ⟨r0, r1, r2, r3, r4⟩ := HF5.out z hz
                        exact ⟨p0, p1, p2, p3, p4, r0, r1, r2, r3, r4, HCI.out z hz, hz⟩
                      have HT := Lib.hid (HALL.out _ (bwstep HBW.out (Below.refl _ _).drew))
                      have HBN := Lib.hid (bwstep HBW.out (Below.refl _ _).drew)
                      clear HALL HG5
                      by_cases hgf : g = f
                      · subst hgf
                        have HRN : Hid (Ce.hasB (A.take (n + 1)) g = true) := Lib.hid (by rw [HNS.out, decide_eq_true rfl, Bool.or_true])
                        clear HNS
                        go_wp2_with fail
                        go_region_held3 (fun w' => w'.cell? ⟨b4, q4 + n * 5, none⟩ = some (.string g.row) ∧ w'.cell? ⟨b4, q4 + n * 5 + 1, none⟩ = some (.string g.col) ∧ w'.cell? ⟨b4, q4 + n * 5 + 2, none⟩ = some (.int .i64 g.at_) ∧ w'.cell? ⟨b4, q4 + n * 5 + 3, none⟩ = some (.string g.val) ∧ w'.cell? ⟨b4, q4 + n * 5 + 4, none⟩ = some (.bool g.gone) ∧ w'.cell? ⟨b1, q1 + k * 5, none⟩ = some (.string g.row) ∧ w'.cell? ⟨b1, q1 + k * 5 + 1, none⟩ = some (.string g.col) ∧ w'.cell? ⟨b1, q1 + k * 5 + 2, none⟩ = some (.int .i64 g.at_) ∧ w'.cell? ⟨b1, q1 + k * 5 + 3, none⟩ = some (.string g.val) ∧ w'.cell? ⟨b1, q1 + k * 5 + 4, none⟩ = some (.bool g.gone) ∧ w'.cell? ⟨b3, o3 + j, none⟩ = some (.slice (some ⟨b1, q1, none⟩) M.length c1) ∧ Below w5.heap.size w5 w') (first | exact HT.out | assumption)
                          (fail)
                        all_goals
                          go_wp2_with fail
                          go_roundw
                          case rel => exact ⟨n + 1, _, rfl, by go_num, by omega, HRN, HBN⟩
                          case measure => simp [intOf]; omega
                      · have HRN : Hid (Ce.hasB (A.take (n + 1)) f = false) := Lib.hid (by rw [HNS.out, HR.out, decide_eq_false hgf]; rfl)
                        clear HNS
                        by_cases e0 : g.row = f.row
                        · by_cases e1 : g.col = f.col
                          · by_cases e2 : g.at_ = f.at_
                            · by_cases e3 : g.val = f.val
                              · by_cases e4 : g.gone = f.gone
                                · exact absurd (Cl.ext' e0 e1 e2 e3 e4) hgf
                                · have s0 := str_eq e0
                                  have s1 := str_eq e1
                                  have s2 : (g.at_ == f.at_) = true := beq_iff_eq.2 e2
                                  have s3 := str_eq e3
                                  have s4 : (g.gone == f.gone) = false := beq_eq_false_iff_ne.2 e4
                                  clear e0 e1 e2 e3 e4 hgf
                                  go_wp2_with fail
                                  go_region_held3 (fun w' => w'.cell? ⟨b4, q4 + n * 5, none⟩ = some (.string g.row) ∧ w'.cell? ⟨b4, q4 + n * 5 + 1, none⟩ = some (.string g.col) ∧ w'.cell? ⟨b4, q4 + n * 5 + 2, none⟩ = some (.int .i64 g.at_) ∧ w'.cell? ⟨b4, q4 + n * 5 + 3, none⟩ = some (.string g.val) ∧ w'.cell? ⟨b4, q4 + n * 5 + 4, none⟩ = some (.bool g.gone) ∧ w'.cell? ⟨b1, q1 + k * 5, none⟩ = some (.string f.row) ∧ w'.cell? ⟨b1, q1 + k * 5 + 1, none⟩ = some (.string f.col) ∧ w'.cell? ⟨b1, q1 + k * 5 + 2, none⟩ = some (.int .i64 f.at_) ∧ w'.cell? ⟨b1, q1 + k * 5 + 3, none⟩ = some (.string f.val) ∧ w'.cell? ⟨b1, q1 + k * 5 + 4, none⟩ = some (.bool f.gone) ∧ w'.cell? ⟨b3, o3 + j, none⟩ = some (.slice (some ⟨b1, q1, none⟩) M.length c1) ∧ Below w5.heap.size w5 w') (first | exact HT.out | assumption)
                                    (fail)
                                  all_goals
                                    go_wp2_with fail
                                    go_roundw
                                    case rel => exact ⟨n + 1, _, rfl, by go_num, by omega, HRN, HBN⟩
                                    case measure => simp [intOf]; omega
                              · have s0 := str_eq e0
                                have s1 := str_eq e1
                                have s2 : (g.at_ == f.at_) = true := beq_iff_eq.2 e2
                                have s3 := str_ne e3
                                clear e0 e1 e2 e3 hgf
                                go_wp2_with fail
                                go_region_held3 (fun w' => w'.cell? ⟨b4, q4 + n * 5, none⟩ = some (.string g.row) ∧ w'.cell? ⟨b4, q4 + n * 5 + 1, none⟩ = some (.string g.col) ∧ w'.cell? ⟨b4, q4 + n * 5 + 2, none⟩ = some (.int .i64 g.at_) ∧ w'.cell? ⟨b4, q4 + n * 5 + 3, none⟩ = some (.string g.val) ∧ w'.cell? ⟨b4, q4 + n * 5 + 4, none⟩ = some (.bool g.gone) ∧ w'.cell? ⟨b1, q1 + k * 5, none⟩ = some (.string f.row) ∧ w'.cell? ⟨b1, q1 + k * 5 + 1, none⟩ = some (.string f.col) ∧ w'.cell? ⟨b1, q1 + k * 5 + 2, none⟩ = some (.int .i64 f.at_) ∧ w'.cell? ⟨b1, q1 + k * 5 + 3, none⟩ = some (.string f.val) ∧ w'.cell? ⟨b1, q1 + k * 5 + 4, none⟩ = some (.bool f.gone) ∧ w'.cell? ⟨b3, o3 + j, none⟩ = some (.slice (some ⟨b1, q1, none⟩) M.length c1) ∧ Below w5.heap.size w5 w') (first | exact HT.out | assumption)
                                  (fail)
                                all_goals
                                  go_wp2_with fail
                                  go_roundw
                                  case rel => exact ⟨n + 1, _, rfl, by go_num, by omega, HRN, HBN⟩
                                  case measure => simp [intOf]; omega
                            · have s0 := str_eq e0
                              have s1 := str_eq e1
                              have s2 : (g.at_ == f.at_) = false := beq_eq_false_iff_ne.2 e2
                              clear e0 e1 e2 hgf
                              go_wp2_with fail
                              go_region_held3 (fun w' => w'.cell? ⟨b4, q4 + n * 5, none⟩ = some (.string g.row) ∧ w'.cell? ⟨b4, q4 + n * 5 + 1, none⟩ = some (.string g.col) ∧ w'.cell? ⟨b4, q4 + n * 5 + 2, none⟩ = some (.int .i64 g.at_) ∧ w'.cell? ⟨b4, q4 + n * 5 + 3, none⟩ = some (.string g.val) ∧ w'.cell? ⟨b4, q4 + n * 5 + 4, none⟩ = some (.bool g.gone) ∧ w'.cell? ⟨b1, q1 + k * 5, none⟩ = some (.string f.row) ∧ w'.cell? ⟨b1, q1 + k * 5 + 1, none⟩ = some (.string f.col) ∧ w'.cell? ⟨b1, q1 + k * 5 + 2, none⟩ = some (.int .i64 f.at_) ∧ w'.cell? ⟨b1, q1 + k * 5 + 3, none⟩ = some (.string f.val) ∧ w'.cell? ⟨b1, q1 + k * 5 + 4, none⟩ = some (.bool f.gone) ∧ w'.cell? ⟨b3, o3 + j, none⟩ = some (.slice (some ⟨b1, q1, none⟩) M.length c1) ∧ Below w5.heap.size w5 w') (first | exact HT.out | assumption)
                                (fail)
                              all_goals
                                go_wp2_with fail
                                go_roundw
                                case rel => exact ⟨n + 1, _, rfl, by go_num, by omega, HRN, HBN⟩
                                case measure => simp [intOf]; omega
                          · have s0 := str_eq e0
                            have s1 := str_ne e1
                            clear e0 e1 hgf
                            go_wp2_with fail
                            go_region_held3 (fun w' => w'.cell? ⟨b4, q4 + n * 5, none⟩ = some (.string g.row) ∧ w'.cell? ⟨b4, q4 + n * 5 + 1, none⟩ = some (.string g.col) ∧ w'.cell? ⟨b4, q4 + n * 5 + 2, none⟩ = some (.int .i64 g.at_) ∧ w'.cell? ⟨b4, q4 + n * 5 + 3, none⟩ = some (.string g.val) ∧ w'.cell? ⟨b4, q4 + n * 5 + 4, none⟩ = some (.bool g.gone) ∧ w'.cell? ⟨b1, q1 + k * 5, none⟩ = some (.string f.row) ∧ w'.cell? ⟨b1, q1 + k * 5 + 1, none⟩ = some (.string f.col) ∧ w'.cell? ⟨b1, q1 + k * 5 + 2, none⟩ = some (.int .i64 f.at_) ∧ w'.cell? ⟨b1, q1 + k * 5 + 3, none⟩ = some (.string f.val) ∧ w'.cell? ⟨b1, q1 + k * 5 + 4, none⟩ = some (.bool f.gone) ∧ w'.cell? ⟨b3, o3 + j, none⟩ = some (.slice (some ⟨b1, q1, none⟩) M.length c1) ∧ Below w5.heap.size w5 w') (first | exact HT.out | assumption)
                              (fail)
                            all_goals
                              go_wp2_with fail
                              go_roundw
                              case rel => exact ⟨n + 1, _, rfl, by go_num, by omega, HRN, HBN⟩
                              case measure => simp [intOf]; omega
                        · have s0 := str_ne e0
                          clear e0 hgf
                          go_wp2_with fail
                          go_region_held3 (fun w' => w'.cell? ⟨b4, q4 + n * 5, none⟩ = some (.string g.row) ∧ w'.cell? ⟨b4, q4 + n * 5 + 1, none⟩ = some (.string g.col) ∧ w'.cell? ⟨b4, q4 + n * 5 + 2, none⟩ = some (.int .i64 g.at_) ∧ w'.cell? ⟨b4, q4 + n * 5 + 3, none⟩ = some (.string g.val) ∧ w'.cell? ⟨b4, q4 + n * 5 + 4, none⟩ = some (.bool g.gone) ∧ w'.cell? ⟨b1, q1 + k * 5, none⟩ = some (.string f.row) ∧ w'.cell? ⟨b1, q1 + k * 5 + 1, none⟩ = some (.string f.col) ∧ w'.cell? ⟨b1, q1 + k * 5 + 2, none⟩ = some (.int .i64 f.at_) ∧ w'.cell? ⟨b1, q1 + k * 5 + 3, none⟩ = some (.string f.val) ∧ w'.cell? ⟨b1, q1 + k * 5 + 4, none⟩ = some (.bool f.gone) ∧ w'.cell? ⟨b3, o3 + j, none⟩ = some (.slice (some ⟨b1, q1, none⟩) M.length c1) ∧ Below w5.heap.size w5 w') (first | exact HT.out | assumption)
                            (fail)
                          all_goals
                            go_wp2_with fail
                            go_roundw
                            case rel => exact ⟨n + 1, _, rfl, by go_num, by omega, HRN, HBN⟩
                            case measure => simp [intOf]; omega
                    · have HRN : Hid (Ce.hasB (A.take (n + 1)) f = true) := Lib.hid (by rw [HNS.out, HR.out, Bool.true_or])
                      go_wp2_with fail
                      go_quiet (fail)
                      go_wp2_with fail
                      go_roundw
                      case rel => exact ⟨n + 1, true, rfl, by go_num, by omega, HRN, Lib.hid (bwstep HBW.out (bwN nq))⟩
                      case measure => simp [intOf]; omega
                  · obtain rfl : n = A.length := by omega
                    rw [List.take_length] at HR
                    cases q
                    · have HKN : Hid (K2 + (((M.drop (k + 1)).filter (nk (SL.take j))).length + frst (nk (SL.take (j + 1))) (SL.drop (j + 1))) = A.length) := Lib.hid (by
                        have e1 := HK.out
                        rw [HCD.out] at e1
                        simpa using e1)
                      go_wp2_with fail
                      go_roundw
                      case rel => exact ⟨K2, k + 1, rfl, by go_num, by omega, hKA, HKN, HBW⟩
                      case measure => simp [intOf]; omega
                    · have HKN : Hid (K2 + 1 + (((M.drop (k + 1)).filter (nk (SL.take j))).length + frst (nk (SL.take (j + 1))) (SL.drop (j + 1))) = A.length) := Lib.hid (by
                        have e1 := HK.out
                        rw [HCD.out] at e1
                        simp only [if_true] at e1
                        omega)
                      obtain rfl : r = true := by rw [← HR.out]; exact hasB_mem (HFT.out rfl)
                      have hK9 : K2 + 1 ≤ A.length := by have := HKN.out; omega
                      go_wp2_with fail
                      go_roundw
                      case rel => exact ⟨K2 + 1, k + 1, by go_num, by go_num, by omega, hK9, HKN, HBW⟩
                      case measure => simp [intOf]; omega
          · obtain rfl : k = M.length := by omega
            have HKN : Hid (K2 + frst (nk (SL.take (i + 1))) (SL.drop (i + 1)) = A.length) := Lib.hid (by
              have := HK.out
              rw [List.drop_length] at this
              simpa using this)
            go_wp2_with fail
            go_roundw
            case rel => exact ⟨K2, i + 1, rfl, by go_num, by omega, hKA, HKN, HBW⟩
            case measure => simp [intOf]; omega
      · obtain rfl : i = SL.length := by omega
        have HKE : Hid (K = A.length) := Lib.hid (by
          have := HK.out
          rw [frst_end] at this
          omega)
        obtain rfl := HKE.out
        go_wp2_with fail
        go_ret
        exact ⟨by simp, bwstep HB5.out HBW.out⟩
end Go.Proofs.Ytknkdehjgkjljaa
