/- The walk of TreeLevels, by the contracts of a tree. TreeLevels: its walk, by the contracts of package tree. -/
import Derived.Test.YtgcbmdolbmmljaaGreatTrX
import Derived.Test.YtgcbmdolbmmljaaGreatCrA
import Derived.Test.YtgcbmdolbmmljaaGreatTreF
namespace Go.Proofs.YtgcbmdolbmmljaaGreat
open Go.RowKit Ce

variable {At : World → List Nat → List Nat → Nat → Sf → Tr → Prop}
theorem Ce.intsT : ET Tryz.prog 50 3 (.int .i64 0) 8 := ⟨Tryz.underlying50, by kernel_rfl⟩
theorem Ce.szs_snoc {M : List Cl} {j : Nat} {g : Cl} (h : M[j]? = some g) : szs (M.take (j + 1)) = szs (M.take j) + ((cellB g).length : Int) := by
  obtain ⟨hl, rfl⟩ := List.getElem?_eq_some_iff.1 h
  rw [List.take_succ_eq_append_getElem hl, szs_app]
  simp [szs]
theorem Ce.szs_lim : ∀ {M : List Cl}, (∀ c ∈ M, c.ok) → 0 ≤ szs M ∧ szs M ≤ 401 * (M.length : Int)
  | [], _ => by simp [szs]
  | c :: M, h => by
    have h1 := szs_lim (M := M) fun d hd => h d (by simp [hd])
    have h2 := szs_ok (h c (by simp))
    rw [szs, List.length_cons]
    omega
theorem Ce.cascC_ge (fan : Nat) : ∀ (n : Nat) (X : List Nat), X.length ≤ (cascC fan n X).length
  | 0, X => by rw [cascC]; omega
  | _ + 1, [] => by rw [cascC]; simp
  | _ + 1, [t] => by rw [cascC]; split <;> simp
  | n + 1, t :: u :: X => by
    rw [cascC]
    split
    · have := cascC_ge fan n (1 :: X)
      simp only [List.length_cons] at this ⊢
      omega
    · have := cascC_ge fan n (u :: X)
      simp only [List.length_cons] at this ⊢
      omega
theorem Ce.cascAt_ge {fan k : Nat} {X : List Nat} (hk : k ≤ X.length) : X.length ≤ (cascAt fan k X).length := by
  unfold cascAt
  have := cascC_ge fan (X.length - k) (X.drop k)
  rw [List.length_append, List.length_take]
  rw [List.length_drop] at this
  omega
def Ce.bump : List Nat → List Nat
  | [] => [1]
  | n :: X => (n + 1) :: X
/-- one put more: what it does to the numbers -/
theorem Ce.lev_next {s : Sf} {t : Tr} {L : List Cl} {k : Nat} {c : Cl} (h : PutK s t L k) (hok : ∀ c ∈ L, c.ok) (hl : L.length ≤ 79) (hk : L[k]? = some c) (_hm : t.mem.length ≤ k) (hn : (t.lv.map List.length).length ≤ k) (hb : ∀ n ∈ t.lv.map List.length, n ≤ k) :
    (s.mem ≤ szs (put1 c t.mem) → ((t.after s c).lv.map List.length = cascC s.fan.toNat (bump (t.lv.map List.length)).length (bump (t.lv.map List.length)) ∧ (t.after s c).mem = [] ∧ ((t.after s c).lv.map List.length).length ≤ k + 1 ∧ ∀ n ∈ (t.after s c).lv.map List.length, n ≤ k + 1)) ∧
    (¬ s.mem ≤ szs (put1 c t.mem) → ((t.after s c).lv = t.lv ∧ (t.after s c).mem = put1 c t.mem)) := by
  have hco := hok c (List.mem_of_getElem? hk)
  have hkl := (List.getElem?_eq_some_iff.1 hk).1
  have hsl := (sortC_ind hok (k + 1)).2.2
  have hput : put1 c t.cells = sortC (L.take (k + 1)) := by rw [h.c, sortC_snoc hk]
  have hle : (put1 c t.cells).length ≤ 400 := by rw [hput]; omega
  have hst : t.after s c = t.step s c := by unfold Tr.after; rw [if_pos hco, if_pos hle]
  rw [hst]
  refine ⟨fun hs => ?_, fun hs => ?_⟩
  · have e : t.step s c = (t.put c).flush s.fan.toNat := by unfold Tr.step; rw [if_pos (show s.mem ≤ szs (t.put c).mem from hs)]
    have hne : (t.put c).mem ≠ [] := fun q => by
      have h1 : szs (put1 c t.mem) = 0 := by rw [show put1 c t.mem = [] from q]; rfl
      have := h.g.r.m1
      omega
    have e2 : (t.step s c).lv.map List.length = cascC s.fan.toNat (bump (t.lv.map List.length)).length (bump (t.lv.map List.length)) := by
      rw [e, lens_flush hne]
      show cascC _ (match t.lv.map List.length with | [] => [1] | n :: X => (n + 1) :: X).length (match t.lv.map List.length with | [] => [1] | n :: X => (n + 1) :: X) = _
      cases t.lv.map List.length <;> rfl
    have hbl : (bump (t.lv.map List.length)).length ≤ k + 1 ∧ ∀ n ∈ bump (t.lv.map List.length), n ≤ k + 1 := by
      cases hq : t.lv.map List.length with
      | nil => exact ⟨by simp [bump], fun n hn => by simp [bump] at hn; omega⟩
      | cons a X =>
        rw [hq] at hn hb
        refine ⟨by simp only [bump, List.length_cons] at hn ⊢; omega, fun n hn => ?_⟩
        rcases List.mem_cons.1 hn with rfl | hn
        · have := hb a (by simp); omega
        · have := hb n (by simp [hn]); omega
    refine ⟨e2, by rw [e]; rfl, ?_, ?_⟩
    · rw [e2]
      cases hq : t.lv.map List.length with
      | nil =>
        have hf : 1 ≤ s.fan.toNat := by have := h.g.r.f1; omega
        show (cascC s.fan.toNat (0 + 1) [1]).length ≤ k + 1
        rw [cascC_one hf]
        simp
      | cons a X =>
        rw [hq] at hn
        have := cascC_len s.fan.toNat (bump (a :: X)).length (bump (a :: X))
        simp only [bump, List.length_cons] at this hn ⊢
        omega
    · rw [e2]
      exact cascC_le (by omega) _ _ hbl.2
  · have e : t.step s c = t.put c := by unfold Tr.step; rw [if_neg (show ¬ s.mem ≤ szs (t.put c).mem from hs)]
    rw [e]
    exact ⟨rfl, rfl⟩
set_option maxHeartbeats 8000000 in
set_option maxRecDepth 100000 in
theorem treeLevels_gen (I : TreeI At) (s : Sf) (v : Value) (L : List Cl) (w : World) (hv : RdL w [] v L) : Calls Tryz.prog 4 #[s.v, v] w fun e w' => e = .returned (.bool true) ∧ Below w.heap.size w w' := by
  have HV := Lib.hid hv
  obtain ⟨Av, cv, rfl, hcv, hmv⟩ := hv.shape
  clear hv
  go_enter Tryz.func4, Tryz.ntmps4
  go_wp2_with (refine St.box sfD rfl (.tmp 0) s rfl rfl ?_)
  constructor
  intro w0 hI0 hb0 hz0
  have HI0 := Lib.hid hI0
  have HK0 := Lib.hid hb0
  clear hI0 hb0 hz0
  go_wp2_with fail
  refine (awake14_ok I _).mono ?_
  rintro e w1 ⟨rfl, hb1⟩
  have HK1 := Lib.hid (bwstep HK0.out hb1)
  have HI1 := Lib.hid (HI0.out.up hb1)
  clear hb1 HI0 HK0
  go_wp2_with fail
  refine (efew_any _ L _ (HV.out.bel HK1.out)).mono ?_
  rintro e w2 ⟨⟨q, rfl, hq⟩, hb2⟩
  have HK2 := Lib.hid (bwstep HK1.out hb2)
  have HI2 := Lib.hid (HI1.out.up hb2)
  clear hb2 HI1 HK1
  cases q
  · clear hq
    go_wp2_with fail
    refine (awake14_ok I _).mono ?_
    rintro e w9 ⟨rfl, hb9⟩
    have H9 := Lib.hid (bwstep HK2.out hb9)
    clear hb9
    go_wp2_with fail
    go_ret
    exact ⟨rfl, H9.out⟩
  · obtain ⟨hl80, hok⟩ := hq rfl
    have HOK := Lib.hid hok
    clear hq hok
    by_cases h40 : L.length ≤ 40
    · have h41 : ¬ (40 : Int) < (L.length : Int) := by omega
      have h42 : decide ((40 : Int) < (L.length : Int)) = false := decide_eq_false h41
      go_wp2_with (refine St.load sfOk rfl (.tmp 2) rfl rfl HI2.out ?_)
      refine (right14_any s _).mono ?_
      rintro e w3 ⟨rfl, hb3⟩
      have HK3 := Lib.hid (bwstep HK2.out hb3)
      have HI3 := Lib.hid (HI2.out.up hb3)
      clear hb3 HI2 HK2
      by_cases hsr : s.right
      · rw [decide_eq_true hsr]
        go_wp2_with (refine St.load sfOk rfl (.tmp 2) rfl rfl HI3.out ?_)
        refine (I.new_ok s _ [] hsr (by simp)).mono ?_
        rintro e w4 ⟨⟨b, M, rfl, hat, hM⟩, hb4⟩
        obtain ⟨fn, hfn⟩ : ∃ fn : Nat, s.fan = (fn : Int) := ⟨s.fan.toNat, by have := hsr.f1; omega⟩
        have hfn1 : 1 ≤ fn := by have := hsr.f1; omega
        have hfnn : s.fan.toNat = fn := by omega
        have hmem1 := hsr.m1
        have hmem2 := hsr.m2
        have HBX : Hid (∀ z, Below w3.heap.size w3 z → (z.cell? ⟨w.heap.size, 0, none⟩ = some (.int .i64 s.mem) ∧ z.cell? ⟨w.heap.size, 2, none⟩ = some (.int .i64 (fn : Int)))) := Lib.hid fun z hz => by
          rw [← hfn]
          exact ⟨(HI3.out.up hz).at_ rfl, (HI3.out.up hz).at_ rfl⟩
        have HT0 : Hid (LvT At w3 w4 b s Tr.empty (.slice none 0 0) (Tr.empty.lv.map List.length) (.slice none 0 0) Tr.empty.mem ∧ PutK s Tr.empty L 0 ∧ Tr.empty.mem.length ≤ 0 ∧ (Tr.empty.lv.map List.length).length ≤ 0 ∧ ∀ n ∈ Tr.empty.lv.map List.length, n ≤ 0) := Lib.hid ⟨⟨M ++ [], M, hat, hM, fun k hk => (I.sub hat k (by simpa using hk)).2, hb4, RdL.nil _ _, Ow.nil _ _ _, fun k hk => by simp [Value.ownBlock] at hk⟩, PutK.start s hsr L, by decide, by decide, fun n hn => by cases hn⟩
        clear hat hM hb4 HI3
        go_wp2_with fail
        go_loopw [7, 8, 9] (fun x y i wr => ∃ (k : Nat) (x7 : Value) (t : Tr), x = x7 ∧ i = .int .i64 (k : Int) ∧ k ≤ L.length ∧ Hid (LvT At w3 wr b s t x7 (t.lv.map List.length) y t.mem ∧ PutK s t L k ∧ t.mem.length ≤ k ∧ (t.lv.map List.length).length ≤ k ∧ ∀ n ∈ t.lv.map List.length, n ≤ k)) (fun _ _ i _ => L.length - (intOf i).toNat)
        case atStart => exact ⟨0, _, Tr.empty, rfl, rfl, by omega, HT0⟩
        case round =>
          clear HT0
          obtain ⟨k, x7, t, rfl, rfl, hk, HT⟩ := hrel
          by_cases hkn : k < L.length
          · have hk1 : (k : Int) < (L.length : Int) := by omega
            have hk0 : (0 : Int) ≤ (k : Int) := by omega
            have hfk : L[k]? = some (L[k]'hkn) := List.getElem?_eq_getElem _
            generalize L[k]'hkn = f at hfk
            have hfo := HOK.out f (List.mem_of_getElem? hfk)
            obtain ⟨bv, ov, rfl, -, -⟩ := HV.out.open_ (by omega)
            have H5 : Hid (∀ z, Below w3.heap.size w3 z → FiveAt bv (ov + k * 5) f z) := Lib.hid fun z hz => ((HV.out.bel (bwstep HK3.out hz)).at_ hfk).1
            have HPK := Lib.hid HT.out.2.1
            have HPN := Lib.hid (HT.out.2.1.next HOK.out (by omega) hfk)
            have HLN := Lib.hid (lev_next HT.out.2.1 HOK.out (by omega) hfk HT.out.2.2.1 HT.out.2.2.2.1 HT.out.2.2.2.2)
            have HMO := Lib.hid (HT.out.2.1.g.ok.okm)
            have hml := HT.out.2.2.1
            have HLL := Lib.hid HT.out.2.2.2
            have HL4 := Lib.hid HT.out.1
            have HFO := Lib.hid hfo
            clear hfk hfo HT
            obtain ⟨wo, hwo⟩ : ∃ wo, wo = wr := ⟨_, rfl⟩
            subst hwo
            have H5a := Lib.hid (H5.out _ HL4.out.bel)
            go_wp2_with (first | (refine loadV (c := f) rfl (.tmp 53) rfl ⟨bv, ov + k * 5, none⟩ rfl H5a.out.all ?_))
            refine (rput1_any _ t.mem f _ HL4.out.rd0 HFO.out HMO.out (by omega)).mono ?_
            rintro e w5 ⟨⟨y5, rfl, hy5⟩, hb5⟩
            have HL5 := Lib.hid (HL4.out.mem I hb5 hy5)
            have hM2 : (put1 f t.mem).length ≤ k + 1 := by have := len_put1 f t.mem; omega
            have HM2O : Hid (∀ c ∈ put1 f t.mem, c.ok) := Lib.hid (ok_put1 HFO.out HMO.out)
            clear hb5 hy5 HL4 H5a
            generalize put1 f t.mem = M2 at *
            obtain ⟨A5, c5, hxx, hc5, hm5⟩ := HL5.out.rd0.shape
            subst hxx
            unfold maxLen at hm5
            go_wp2_with fail
            go_loopw [10, 11] (fun n i wr => ∃ j : Nat, n = .int .i64 (szs (M2.take j)) ∧ i = .int .i64 (j : Int) ∧ j ≤ M2.length ∧ Hid (Below w5.heap.size w5 wr)) (fun _ i _ => M2.length - (intOf i).toNat)
            case atStart => exact ⟨0, by simp [szs], rfl, by omega, Lib.hid (Below.refl _ _)⟩
            case round =>
              obtain ⟨j, rfl, rfl, hj, HBJ⟩ := hrel
              by_cases hjn : j < M2.length
              · have hj1 : (j : Int) < (M2.length : Int) := by omega
                have hj0 : (0 : Int) ≤ (j : Int) := by omega
                have hfj : M2[j]? = some (M2[j]'hjn) := List.getElem?_eq_getElem _
                generalize M2[j]'hjn = g at hfj
                have HGO := Lib.hid (HM2O.out g (List.mem_of_getElem? hfj))
                have HSN := Lib.hid (szs_snoc hfj)
                obtain ⟨b5, o5, rfl, -, -, -⟩ := HL5.out.rd0.open_ (by omega)
                have HG5 := Lib.hid ((HL5.out.rd0.bel HBJ.out).at_ hfj).1
                have hzb := szs_lim (M := M2.take j) fun c hc => HM2O.out c (List.mem_of_mem_take hc)
                have hzl : ((cellB g).length : Int) ≤ 401 := szs_ok HGO.out
                have hztl : (M2.take j).length ≤ 100 := by rw [List.length_take]; omega
                generalize hzz : szs (M2.take j) = z at *
                clear hfj hzz
                obtain ⟨wj, hwj⟩ : ∃ wj, wj = wr := ⟨_, rfl⟩
                subst hwj
                go_wp2_with (first | (refine loadV (c := g) rfl (.tmp 65) rfl ⟨b5, o5 + j * 5, none⟩ rfl HG5.out.all ?_))
                refine (rput_ok g _ HGO.out).mono ?_
                rintro e w6 ⟨⟨x6, rfl, hx6⟩, hb6⟩
                obtain ⟨A6, c6, rfl, -, -⟩ := hx6.rd.shapeM
                have HB6 := Lib.hid (bwstep HBJ.out hb6)
                generalize (cellB g).length = n6 at *
                have hw6 : IntKind.i64.wrap (z + (n6 : Int)) = z + (n6 : Int) := by rw [IntKind.wrap_i64]; omega
                clear hx6 hb6 HG5
                go_wp2_with fail
                go_roundw
                case rel => exact ⟨j + 1, by rw [HSN.out], by go_num, by omega, HB6⟩
                case measure => simp [intOf]; omega
              · obtain rfl : j = M2.length := by omega
                rw [List.take_length]
                have HL6 := Lib.hid (HL5.out.up I HBJ.out)
                obtain ⟨wj, hwj⟩ : ∃ wj, wj = wr := ⟨_, rfl⟩
                subst hwj
                obtain ⟨b0, b2⟩ := HBX.out _ HL6.out.bel
                clear HL5 HBJ
                by_cases hfl : s.mem ≤ szs M2
                · obtain ⟨hF, hFm, hFl, hFb⟩ := HLN.out.1 hfl
                  rw [hfnn] at hF
                  have HEM := Lib.hid hFm
                  obtain ⟨F, hFF⟩ : ∃ F, F = (t.after s f).lv.map List.length := ⟨_, rfl⟩
                  rw [← hFF] at hF hFl hFb
                  have HNX : Hid ((t.after s f).lv.map List.length = F ∧ (t.after s f).mem.length ≤ k + 1 ∧ ((t.after s f).lv.map List.length).length ≤ k + 1 ∧ ∀ n ∈ (t.after s f).lv.map List.length, n ≤ k + 1) := Lib.hid (by rw [← hFF, hFm]; exact ⟨rfl, by simp, hFl, hFb⟩)
                  have HHF := Lib.hid hF
                  clear hF hFm hFb hFF HLN
                  have HLL2 := HLL
                  generalize t.lv.map List.length = lv0 at *
                  rcases lv0 with _ | ⟨n0, X0⟩
                  · obtain ⟨A7, c71, hxx, hc71, hm71⟩ := HL6.out.ow.rd.shapeM
                    rw [List.length_nil] at hxx
                    subst hxx
                    have HLS := Lib.hid (HL6.out.new I (lv' := [1]) (bwalloc (bwrefl wj) (.cells #[.int .i64 1] 3)) (Ow.new wj #[.int .i64 1] rfl (by simp [maxLen]) rfl (Nat.le_refl _)))
                    go_wp2_with fail
                    have HFS : Hid (cascAt fn 0 [1] = F) := Lib.hid (by rw [cascAt_start, HHF.out]; rfl)
                    have HLX : Hid (LvT At w3 (wj.alloc (.cells #[.int .i64 1] 3)) b s t (.slice (some ⟨wj.heap.size, 0, none⟩) 1 1) [1] (.slice none 0 0) []) := Lib.hid HLS.out.nil
                    clear HLS HL6
                    have HLT7 := HLX
                    go_loopw [7, 12] (fun u7 u12 wr => ∃ (k3 : Nat) (X : List Nat) (g c7 : Nat), u7 = .slice (some ⟨g, 0, none⟩) X.length c7 ∧ u12 = .int .i64 (k3 : Int) ∧ k3 ≤ X.length ∧ X.length ≤ c7 ∧ c7 ≤ 9223372036854775807 ∧ Hid (cascAt fn k3 X = F) ∧ Hid (LvT At w3 wr b s t (.slice (some ⟨g, 0, none⟩) X.length c7) X (.slice none 0 0) [])) (fun _ u12 _ => F.length - (intOf u12).toNat)
                    case atStart => exact ⟨0, [1], wj.heap.size, 1, rfl, rfl, by omega, by first | omega | simp | (simp; omega), by omega, HFS, HLT7⟩
                    case round =>
                      clear HLT7 HFS
                      obtain ⟨k3, X, g, c7, rfl, rfl, hk3, hc7, hm7, HCA, HLT⟩ := hrel
                      have hXF : X.length ≤ F.length := by rw [← HCA.out]; exact cascAt_ge hk3
                      by_cases hk3n : k3 < X.length
                      · have hk31 : (k3 : Int) < (X.length : Int) := by omega
                        have hk30 : (0 : Int) ≤ (k3 : Int) := by omega
                        obtain ⟨g', hA, -, -, e1, f1, -⟩ := HLT.out.ow.at_ (k := k3) (by simpa using hk3n)
                        obtain ⟨rfl⟩ : g = g' := by injection hA with q; injection q
                        clear hA
                        rw [List.getElem_map] at e1
                        unfold Ce.iv at e1
                        obtain ⟨-, b2⟩ := HBX.out _ HLT.out.bel
                        have HNE := Lib.hid (fun (hk : k3 < X.length) (hf : ¬ fn < X[k3]) => cascAt_stay hk hf)
                        have HLA := Lib.hid (fun (he : k3 + 1 = X.length) (hf : fn < X[k3]'hk3n) => cascAt_last hfn1 he hf)
                        have HNX3 := Lib.hid (fun (he : k3 + 1 < X.length) (hf : fn < X[k3]'hk3n) => cascAt_next he hf)
                        generalize hxk : X[k3]'hk3n = xk at *
                        obtain ⟨wo3, hwo3⟩ : ∃ wo3, wo3 = wr := ⟨_, rfl⟩
                        subst hwo3
                        go_wp2_with fail
                        go_quiet (fail)
                        have HL9 := Lib.hid (HLT.out.up I (bwN nq))
                        generalize wo3.drewN nq = w9 at *
                        clear e1 f1 b2 HLT
                        by_cases hgt : fn < xk
                        · have hgt1 : (fn : Int) < (xk : Int) := by omega
                          have hgt2 : decide ((fn : Int) < (xk : Int)) = true := decide_eq_true hgt1
                          obtain ⟨g', hA, -, -, e1, f1, -⟩ := HL9.out.ow.at_ (k := k3) (by simpa using hk3n)
                          obtain ⟨rfl⟩ : g = g' := by injection hA with q; injection q
                          clear hA
                          have HLB := Lib.hid (HL9.out.store I hk3n 0)
                          have hw31 : IntKind.i64.wrap ((k3 : Int) + 1) = (k3 : Int) + 1 := by rw [IntKind.wrap_i64]; omega
                          by_cases hla : k3 + 1 = X.length
                          · have hla1 : ((k3 : Int) + 1 == (X.length : Int)) = true := by rw [beq_iff_eq]; omega
                            have hla4 : (0 : Int) ≤ (k3 : Int) + 1 := by omega
                            have HBA := Lib.hid (bwalloc (bwrefl (w9.setCell ⟨g, k3, none⟩ (.int .i64 0))) (.cells #[.int .i64 0] 3))
                            have HLB2 := Lib.hid (HLB.out.up I HBA.out)
                            have HRD : Hid (Rd ((w9.setCell ⟨g, k3, none⟩ (.int .i64 0)).alloc (.cells #[.int .i64 0] 3)) ((w9.setCell ⟨g, k3, none⟩ (.int .i64 0)).alloc (.cells #[.int .i64 0] 3)).heap.size (.slice (some ⟨(w9.setCell ⟨g, k3, none⟩ (.int .i64 0)).heap.size, 0, none⟩) 1 1) (([0] : List Nat).map Ce.iv)) := Lib.hid (Rd.newW _ 3 #[.int .i64 0] rfl (by simp [maxLen]) rfl)
                            have HO1 : Hid (((X.set k3 0).map Ce.iv).length + (([0] : List Nat).map Ce.iv).length ≤ maxLen) := Lib.hid (by simp [maxLen]; omega)
                            have HO2 : Hid ((((X.set k3 0).map Ce.iv).length + (([0] : List Nat).map Ce.iv).length) * 8 ≤ 140737488355328) := Lib.hid (by simp; omega)
                            have hlenX : ((X.set k3 0 ++ [0]).map Ce.iv).length = X.length + 1 := by simp
                            have hlenX0 : (X.set k3 0 ++ [0]).length = X.length + 1 := by simp
                            have hlenY : ((X.set k3 0 ++ [0]).set (k3 + 1) 1).length = X.length + 1 := by simp
                            have HCN : Hid (cascAt fn (k3 + 1) ((X.set k3 0 ++ [0]).set (k3 + 1) 1) = F) := Lib.hid (by rw [HLA.out hla hgt]; exact HCA.out)
                            have HLAH := Lib.hid hla
                            have hla5 : (k3 : Int) + 1 < (X.length : Int) + 1 := by omega
                            clear hla
                            go_wp2_with (at_builtin; refine wpList_app intsT rfl rfl (.tmp 104) (.tmp 105) rfl (by simp [Act.eval]) HLB2.out.ow (by simp [Act.eval]) HRD.out (Ce.iv_one _) HO1.out HO2.out HLB2.out.bel.size ?_; intro v6 w6 o6 g6 h6; have HLC := Lib.hid (HLB2.out.app I (v := 0) g6 (by rw [List.map_append]; exact o6) h6); clear o6 g6 h6; obtain ⟨A6, c6, hx6, hc6, hm6⟩ := HLC.out.ow.rd.shapeM; rw [hlenX0] at hx6 hc6; subst hx6; unfold maxLen at hm6; obtain ⟨g6, rfl, -, -, e6, f6, -⟩ := HLC.out.ow.at_ (k := k3 + 1) (by rw [hlenX]; have := HLAH.out; omega); have HLD := Lib.hid (HLC.out.store I (i := k3 + 1) (by rw [hlenX0]; have := HLAH.out; omega) 1))
                            go_roundw
                            case rel => exact ⟨k3 + 1, (X.set k3 0 ++ [0]).set (k3 + 1) 1, g6, c6, by rw [hlenY], by go_num, by rw [hlenY]; omega, by rw [hlenY]; omega, hm6, HCN, by rw [hlenY]; exact HLD⟩
                            case measure => simp [intOf]; omega
                          · have hla1 : ((k3 : Int) + 1 == (X.length : Int)) = false := by rw [beq_eq_false_iff_ne]; omega
                            have hla2 : ¬ (k3 : Int) + 1 = (X.length : Int) := by omega
                            have hla3 : (k3 : Int) + 1 < (X.length : Int) := by omega
                            have hla4 : (0 : Int) ≤ (k3 : Int) + 1 := by omega
                            have hlenY : ((X.set k3 0).set (k3 + 1) 1).length = X.length := by simp
                            have HCN : Hid (cascAt fn (k3 + 1) ((X.set k3 0).set (k3 + 1) 1) = F) := Lib.hid (by rw [HNX3.out (by omega) hgt]; exact HCA.out)
                            obtain ⟨g', hA, -, -, e6, f6, -⟩ := HL9.out.ow.at_ (k := k3 + 1) (by simp; omega)
                            obtain ⟨rfl⟩ : g = g' := by injection hA with q; injection q
                            clear hA
                            have HLD := Lib.hid (HLB.out.store I (i := k3 + 1) (by simp; omega) 1)
                            go_wp2_with fail
                            go_roundw
                            case rel => exact ⟨k3 + 1, (X.set k3 0).set (k3 + 1) 1, g, c7, by rw [hlenY], by go_num, by rw [hlenY]; omega, by rw [hlenY]; omega, hm7, HCN, by rw [hlenY]; exact HLD⟩
                            case measure => simp [intOf]; omega
                        · have hgt1 : ¬ (fn : Int) < (xk : Int) := by omega
                          have hgt2 : decide ((fn : Int) < (xk : Int)) = false := decide_eq_false hgt1
                          have HCN : Hid (cascAt fn (k3 + 1) X = F) := Lib.hid (by rw [HNE.out hk3n (by rw [hxk]; exact hgt)]; exact HCA.out)
                          go_wp2_with fail
                          go_roundw
                          case rel => exact ⟨k3 + 1, X, g, c7, rfl, by go_num, by omega, hc7, hm7, HCN, HL9⟩
                          case measure => simp [intOf]; omega
                      · obtain rfl : k3 = X.length := by omega
                        obtain rfl : X = F := by rw [← HCA.out, cascAt_end]
                        obtain ⟨wo3, hwo3⟩ : ∃ wo3, wo3 = wr := ⟨_, rfl⟩
                        subst hwo3
                        have hmx := hm7
                        have hxl : X.length ≤ c7 := hc7
                        have H5p := Lib.hid (H5.out _ HLT.out.bel)
                        have hput := HLT.out.put I f HPK.out.g (fun _ => HPN.out.1)
                        rw [HPN.out.2.1] at hput
                        have HPUT := Lib.hid hput
                        clear hput HLT
                        go_wp2_with (first | (refine loadV (c := f) rfl (.tmp 114) rfl ⟨bv, ov + k * 5, none⟩ rfl H5p.out.all ?_))
                        refine HPUT.out.mono ?_
                        rintro e wp ⟨rfl, hp⟩
                        have HP := Lib.hid hp
                        clear hp HPUT H5p
                        have hlv := HP.out.levels I HPN.out.2.2.g
                        rw [HNX.out.1] at hlv
                        have HLV := Lib.hid hlv
                        clear hlv
                        go_wp2_with fail
                        refine HLV.out.mono ?_
                        rintro e wq ⟨⟨xq, rfl, hxq⟩, hbq⟩
                        obtain ⟨Aq, cq, hxx, hcq, hmq⟩ := hxq.rd.shapeM
                        subst hxx
                        unfold maxLen at hmq
                        have HQ := Lib.hid (HP.out.up I hbq)
                        have HXQ := Lib.hid hxq
                        have hlb : X.length ≤ 100 := by
                          have h1 := HNX.out.2.2.1
                          rw [HNX.out.1] at h1
                          omega
                        clear hxq hbq HP HLV
                        go_wp2_with fail
                        go_loopw [14] (fun i wr => ∃ j : Nat, i = .int .i64 (j : Int) ∧ j ≤ X.length ∧ Hid (Below wq.heap.size wq wr)) (fun i _ => X.length - (intOf i).toNat)
                        case atStart => exact ⟨0, rfl, by omega, Lib.hid (Below.refl _ _)⟩
                        case round =>
                          obtain ⟨j, rfl, hj, HBJ⟩ := hrel
                          by_cases hjn : j < X.length
                          · have hj1 : (j : Int) < (X.length : Int) := by omega
                            have hj0 : (0 : Int) ≤ (j : Int) := by omega
                            obtain ⟨gx, hgx, -, -, e1, -, -⟩ := (HQ.out.up I HBJ.out).ow.at_ (k := j) (by simpa using hjn)
                            obtain ⟨rfl⟩ : g = gx := by injection hgx with q; injection q
                            clear hgx
                            obtain ⟨gq, rfl, -, -, e2, -, -⟩ := (HXQ.out.below HBJ.out).at_ (k := j) (by simpa using hjn)
                            rw [List.getElem_map] at e1 e2
                            unfold Ce.iv at e1 e2
                            generalize X[j] = nj at *
                            go_wp2_with fail
                            go_quiet (fail)
                            go_wp2_with fail
                            go_roundw
                            case rel => exact ⟨j + 1, by go_num, by omega, Lib.hid (bwstep HBJ.out (bwN nq))⟩
                            case measure => simp [intOf]; omega
                          · obtain rfl : j = X.length := by omega
                            have HZ := Lib.hid (HQ.out.up I HBJ.out)
                            go_wp2_with fail
                            go_roundw
                            case rel =>
                              refine ⟨k + 1, _, t.after s f, rfl, by go_num, by omega, Lib.hid ⟨?_, HPN.out.2.2, HNX.out.2⟩⟩
                              rw [HNX.out.1, HEM.out]
                              exact HZ.out
                            case measure => simp [intOf]; omega
                  · obtain ⟨A7, c71, hxx, hc71, hm71⟩ := HL6.out.ow.rd.shapeM
                    rw [List.length_cons] at hxx
                    subst hxx
                    obtain ⟨g71, rfl, -, -, e71, f71, -⟩ := HL6.out.ow.at_ (k := 0) (by simp)
                    simp only [List.length_cons] at hc71
                    unfold maxLen at hm71
                    have HLS := Lib.hid (HL6.out.store I (i := 0) (by simp) (n0 + 1))
                    have hx00 : ((X0.length : Int) + 1 == 0) = false := by
                      rw [beq_eq_false_iff_ne]
                      omega
                    have hn01 : n0 ≤ 100 := by have := HLL2.out.2 n0 (by simp); omega
                    have hw7 : IntKind.i64.wrap ((n0 : Int) + 1) = ((n0 + 1 : Nat) : Int) := by rw [IntKind.wrap_i64]; omega
                    try simp only [List.length_map, List.length_cons] at HLS
                    rw [List.getElem_map] at e71
                    simp only [List.getElem_cons_zero] at e71
                    unfold Ce.iv at e71 HLS
                    go_wp2_with fail
                    have HFS : Hid (cascAt fn 0 ((n0 + 1) :: X0) = F) := Lib.hid (by rw [cascAt_start, HHF.out]; rfl)
                    have HLX := Lib.hid HLS.out.nil
                    clear HLS HL6 e71 f71
                    have HLT7 := HLX
                    go_loopw [7, 12] (fun u7 u12 wr => ∃ (k3 : Nat) (X : List Nat) (g c7 : Nat), u7 = .slice (some ⟨g, 0, none⟩) X.length c7 ∧ u12 = .int .i64 (k3 : Int) ∧ k3 ≤ X.length ∧ X.length ≤ c7 ∧ c7 ≤ 9223372036854775807 ∧ Hid (cascAt fn k3 X = F) ∧ Hid (LvT At w3 wr b s t (.slice (some ⟨g, 0, none⟩) X.length c7) X (.slice none 0 0) [])) (fun _ u12 _ => F.length - (intOf u12).toNat)
                    case atStart => exact ⟨0, ((n0 + 1) :: X0), g71, c71, rfl, rfl, by omega, by first | omega | simp | (simp; omega), by omega, HFS, HLT7⟩
                    case round =>
                      clear HLT7 HFS
                      obtain ⟨k3, X, g, c7, rfl, rfl, hk3, hc7, hm7, HCA, HLT⟩ := hrel
                      have hXF : X.length ≤ F.length := by rw [← HCA.out]; exact cascAt_ge hk3
                      by_cases hk3n : k3 < X.length
                      · have hk31 : (k3 : Int) < (X.length : Int) := by omega
                        have hk30 : (0 : Int) ≤ (k3 : Int) := by omega
                        obtain ⟨g', hA, -, -, e1, f1, -⟩ := HLT.out.ow.at_ (k := k3) (by simpa using hk3n)
                        obtain ⟨rfl⟩ : g = g' := by injection hA with q; injection q
                        clear hA
                        rw [List.getElem_map] at e1
                        unfold Ce.iv at e1
                        obtain ⟨-, b2⟩ := HBX.out _ HLT.out.bel
                        have HNE := Lib.hid (fun (hk : k3 < X.length) (hf : ¬ fn < X[k3]) => cascAt_stay hk hf)
                        have HLA := Lib.hid (fun (he : k3 + 1 = X.length) (hf : fn < X[k3]'hk3n) => cascAt_last hfn1 he hf)
                        have HNX3 := Lib.hid (fun (he : k3 + 1 < X.length) (hf : fn < X[k3]'hk3n) => cascAt_next he hf)
                        generalize hxk : X[k3]'hk3n = xk at *
                        obtain ⟨wo3, hwo3⟩ : ∃ wo3, wo3 = wr := ⟨_, rfl⟩
                        subst hwo3
                        go_wp2_with fail
                        go_quiet (fail)
                        have HL9 := Lib.hid (HLT.out.up I (bwN nq))
                        generalize wo3.drewN nq = w9 at *
                        clear e1 f1 b2 HLT
                        by_cases hgt : fn < xk
                        · have hgt1 : (fn : Int) < (xk : Int) := by omega
                          have hgt2 : decide ((fn : Int) < (xk : Int)) = true := decide_eq_true hgt1
                          obtain ⟨g', hA, -, -, e1, f1, -⟩ := HL9.out.ow.at_ (k := k3) (by simpa using hk3n)
                          obtain ⟨rfl⟩ : g = g' := by injection hA with q; injection q
                          clear hA
                          have HLB := Lib.hid (HL9.out.store I hk3n 0)
                          have hw31 : IntKind.i64.wrap ((k3 : Int) + 1) = (k3 : Int) + 1 := by rw [IntKind.wrap_i64]; omega
                          by_cases hla : k3 + 1 = X.length
                          · have hla1 : ((k3 : Int) + 1 == (X.length : Int)) = true := by rw [beq_iff_eq]; omega
                            have hla4 : (0 : Int) ≤ (k3 : Int) + 1 := by omega
                            have HBA := Lib.hid (bwalloc (bwrefl (w9.setCell ⟨g, k3, none⟩ (.int .i64 0))) (.cells #[.int .i64 0] 3))
                            have HLB2 := Lib.hid (HLB.out.up I HBA.out)
                            have HRD : Hid (Rd ((w9.setCell ⟨g, k3, none⟩ (.int .i64 0)).alloc (.cells #[.int .i64 0] 3)) ((w9.setCell ⟨g, k3, none⟩ (.int .i64 0)).alloc (.cells #[.int .i64 0] 3)).heap.size (.slice (some ⟨(w9.setCell ⟨g, k3, none⟩ (.int .i64 0)).heap.size, 0, none⟩) 1 1) (([0] : List Nat).map Ce.iv)) := Lib.hid (Rd.newW _ 3 #[.int .i64 0] rfl (by simp [maxLen]) rfl)
                            have HO1 : Hid (((X.set k3 0).map Ce.iv).length + (([0] : List Nat).map Ce.iv).length ≤ maxLen) := Lib.hid (by simp [maxLen]; omega)
                            have HO2 : Hid ((((X.set k3 0).map Ce.iv).length + (([0] : List Nat).map Ce.iv).length) * 8 ≤ 140737488355328) := Lib.hid (by simp; omega)
                            have hlenX : ((X.set k3 0 ++ [0]).map Ce.iv).length = X.length + 1 := by simp
                            have hlenX0 : (X.set k3 0 ++ [0]).length = X.length + 1 := by simp
                            have hlenY : ((X.set k3 0 ++ [0]).set (k3 + 1) 1).length = X.length + 1 := by simp
                            have HCN : Hid (cascAt fn (k3 + 1) ((X.set k3 0 ++ [0]).set (k3 + 1) 1) = F) := Lib.hid (by rw [HLA.out hla hgt]; exact HCA.out)
                            have HLAH := Lib.hid hla
                            have hla5 : (k3 : Int) + 1 < (X.length : Int) + 1 := by omega
                            clear hla
                            go_wp2_with (at_builtin; refine wpList_app intsT rfl rfl (.tmp 104) (.tmp 105) rfl (by simp [Act.eval]) HLB2.out.ow (by simp [Act.eval]) HRD.out (Ce.iv_one _) HO1.out HO2.out HLB2.out.bel.size ?_; intro v6 w6 o6 g6 h6; have HLC := Lib.hid (HLB2.out.app I (v := 0) g6 (by rw [List.map_append]; exact o6) h6); clear o6 g6 h6; obtain ⟨A6, c6, hx6, hc6, hm6⟩ := HLC.out.ow.rd.shapeM; rw [hlenX0] at hx6 hc6; subst hx6; unfold maxLen at hm6; obtain ⟨g6, rfl, -, -, e6, f6, -⟩ := HLC.out.ow.at_ (k := k3 + 1) (by rw [hlenX]; have := HLAH.out; omega); have HLD := Lib.hid (HLC.out.store I (i := k3 + 1) (by rw [hlenX0]; have := HLAH.out; omega) 1))
                            go_roundw
                            case rel => exact ⟨k3 + 1, (X.set k3 0 ++ [0]).set (k3 + 1) 1, g6, c6, by rw [hlenY], by go_num, by rw [hlenY]; omega, by rw [hlenY]; omega, hm6, HCN, by rw [hlenY]; exact HLD⟩
                            case measure => simp [intOf]; omega
                          · have hla1 : ((k3 : Int) + 1 == (X.length : Int)) = false := by rw [beq_eq_false_iff_ne]; omega
                            have hla2 : ¬ (k3 : Int) + 1 = (X.length : Int) := by omega
                            have hla3 : (k3 : Int) + 1 < (X.length : Int) := by omega
                            have hla4 : (0 : Int) ≤ (k3 : Int) + 1 := by omega
                            have hlenY : ((X.set k3 0).set (k3 + 1) 1).length = X.length := by simp
                            have HCN : Hid (cascAt fn (k3 + 1) ((X.set k3 0).set (k3 + 1) 1) = F) := Lib.hid (by rw [HNX3.out (by omega) hgt]; exact HCA.out)
                            obtain ⟨g', hA, -, -, e6, f6, -⟩ := HL9.out.ow.at_ (k := k3 + 1) (by simp; omega)
                            obtain ⟨rfl⟩ : g = g' := by injection hA with q; injection q
                            clear hA
                            have HLD := Lib.hid (HLB.out.store I (i := k3 + 1) (by simp; omega) 1)
                            go_wp2_with fail
                            go_roundw
                            case rel => exact ⟨k3 + 1, (X.set k3 0).set (k3 + 1) 1, g, c7, by rw [hlenY], by go_num, by rw [hlenY]; omega, by rw [hlenY]; omega, hm7, HCN, by rw [hlenY]; exact HLD⟩
                            case measure => simp [intOf]; omega
                        · have hgt1 : ¬ (fn : Int) < (xk : Int) := by omega
                          have hgt2 : decide ((fn : Int) < (xk : Int)) = false := decide_eq_false hgt1
                          have HCN : Hid (cascAt fn (k3 + 1) X = F) := Lib.hid (by rw [HNE.out hk3n (by rw [hxk]; exact hgt)]; exact HCA.out)
                          go_wp2_with fail
                          go_roundw
                          case rel => exact ⟨k3 + 1, X, g, c7, rfl, by go_num, by omega, hc7, hm7, HCN, HL9⟩
                          case measure => simp [intOf]; omega
                      · obtain rfl : k3 = X.length := by omega
                        obtain rfl : X = F := by rw [← HCA.out, cascAt_end]
                        obtain ⟨wo3, hwo3⟩ : ∃ wo3, wo3 = wr := ⟨_, rfl⟩
                        subst hwo3
                        have hmx := hm7
                        have hxl : X.length ≤ c7 := hc7
                        have H5p := Lib.hid (H5.out _ HLT.out.bel)
                        have hput := HLT.out.put I f HPK.out.g (fun _ => HPN.out.1)
                        rw [HPN.out.2.1] at hput
                        have HPUT := Lib.hid hput
                        clear hput HLT
                        go_wp2_with (first | (refine loadV (c := f) rfl (.tmp 114) rfl ⟨bv, ov + k * 5, none⟩ rfl H5p.out.all ?_))
                        refine HPUT.out.mono ?_
                        rintro e wp ⟨rfl, hp⟩
                        have HP := Lib.hid hp
                        clear hp HPUT H5p
                        have hlv := HP.out.levels I HPN.out.2.2.g
                        rw [HNX.out.1] at hlv
                        have HLV := Lib.hid hlv
                        clear hlv
                        go_wp2_with fail
                        refine HLV.out.mono ?_
                        rintro e wq ⟨⟨xq, rfl, hxq⟩, hbq⟩
                        obtain ⟨Aq, cq, hxx, hcq, hmq⟩ := hxq.rd.shapeM
                        subst hxx
                        unfold maxLen at hmq
                        have HQ := Lib.hid (HP.out.up I hbq)
                        have HXQ := Lib.hid hxq
                        have hlb : X.length ≤ 100 := by
                          have h1 := HNX.out.2.2.1
                          rw [HNX.out.1] at h1
                          omega
                        clear hxq hbq HP HLV
                        go_wp2_with fail
                        go_loopw [14] (fun i wr => ∃ j : Nat, i = .int .i64 (j : Int) ∧ j ≤ X.length ∧ Hid (Below wq.heap.size wq wr)) (fun i _ => X.length - (intOf i).toNat)
                        case atStart => exact ⟨0, rfl, by omega, Lib.hid (Below.refl _ _)⟩
                        case round =>
                          obtain ⟨j, rfl, hj, HBJ⟩ := hrel
                          by_cases hjn : j < X.length
                          · have hj1 : (j : Int) < (X.length : Int) := by omega
                            have hj0 : (0 : Int) ≤ (j : Int) := by omega
                            obtain ⟨gx, hgx, -, -, e1, -, -⟩ := (HQ.out.up I HBJ.out).ow.at_ (k := j) (by simpa using hjn)
                            obtain ⟨rfl⟩ : g = gx := by injection hgx with q; injection q
                            clear hgx
                            obtain ⟨gq, rfl, -, -, e2, -, -⟩ := (HXQ.out.below HBJ.out).at_ (k := j) (by simpa using hjn)
                            rw [List.getElem_map] at e1 e2
                            unfold Ce.iv at e1 e2
                            generalize X[j] = nj at *
                            go_wp2_with fail
                            go_quiet (fail)
                            go_wp2_with fail
                            go_roundw
                            case rel => exact ⟨j + 1, by go_num, by omega, Lib.hid (bwstep HBJ.out (bwN nq))⟩
                            case measure => simp [intOf]; omega
                          · obtain rfl : j = X.length := by omega
                            have HZ := Lib.hid (HQ.out.up I HBJ.out)
                            go_wp2_with fail
                            go_roundw
                            case rel =>
                              refine ⟨k + 1, _, t.after s f, rfl, by go_num, by omega, Lib.hid ⟨?_, HPN.out.2.2, HNX.out.2⟩⟩
                              rw [HNX.out.1, HEM.out]
                              exact HZ.out
                            case measure => simp [intOf]; omega
                · have HNX : Hid ((t.after s f).lv.map List.length = t.lv.map List.length ∧ (t.after s f).mem.length ≤ k + 1 ∧ ((t.after s f).lv.map List.length).length ≤ k + 1 ∧ ∀ n ∈ (t.after s f).lv.map List.length, n ≤ k + 1) := Lib.hid (by
                    obtain ⟨q1, q2⟩ := HLN.out.2 (by omega)
                    rw [q1, q2]
                    exact ⟨rfl, hM2, by have := HLL.out.1; omega, fun n hn => by have := HLL.out.2 n hn; omega⟩)
                  have HEM : Hid ((t.after s f).mem = M2) := Lib.hid (HLN.out.2 (by omega)).2
                  have HLT := HL6
                  clear HLN HL6
                  generalize t.lv.map List.length = lvx at *
                  have H5p := Lib.hid (H5.out _ HLT.out.bel)
                  obtain ⟨Ax, cx, hxx, hcx, hmx⟩ := HLT.out.ow.rd.shapeM
                  subst hxx
                  unfold maxLen at hmx
                  have hput := HLT.out.put I f HPK.out.g (fun _ => HPN.out.1)
                  rw [HPN.out.2.1] at hput
                  have HPUT := Lib.hid hput
                  clear hput HLT
                  go_wp2_with (first | (refine loadV (c := f) rfl (.tmp 114) rfl ⟨bv, ov + k * 5, none⟩ rfl H5p.out.all ?_))
                  refine HPUT.out.mono ?_
                  rintro e wp ⟨rfl, hp⟩
                  have HP := Lib.hid hp
                  clear hp HPUT H5p
                  have hlv := HP.out.levels I HPN.out.2.2.g
                  rw [HNX.out.1] at hlv
                  have HLV := Lib.hid hlv
                  clear hlv
                  go_wp2_with fail
                  refine HLV.out.mono ?_
                  rintro e wq ⟨⟨xq, rfl, hxq⟩, hbq⟩
                  obtain ⟨Aq, cq, hxx, hcq, hmq⟩ := hxq.rd.shapeM
                  subst hxx
                  unfold maxLen at hmq
                  have HQ := Lib.hid (HP.out.up I hbq)
                  have HXQ := Lib.hid hxq
                  have hlb : lvx.length ≤ 100 := by
                    have h1 := HNX.out.2.2.1
                    rw [HNX.out.1] at h1
                    omega
                  clear hxq hbq HP HLV
                  go_wp2_with fail
                  go_loopw [14] (fun i wr => ∃ j : Nat, i = .int .i64 (j : Int) ∧ j ≤ lvx.length ∧ Hid (Below wq.heap.size wq wr)) (fun i _ => lvx.length - (intOf i).toNat)
                  case atStart => exact ⟨0, rfl, by omega, Lib.hid (Below.refl _ _)⟩
                  case round =>
                    obtain ⟨j, rfl, hj, HBJ⟩ := hrel
                    by_cases hjn : j < lvx.length
                    · have hj1 : (j : Int) < (lvx.length : Int) := by omega
                      have hj0 : (0 : Int) ≤ (j : Int) := by omega
                      obtain ⟨gx, rfl, -, -, e1, -, -⟩ := (HQ.out.up I HBJ.out).ow.at_ (k := j) (by simpa using hjn)
                      obtain ⟨gq, rfl, -, -, e2, -, -⟩ := (HXQ.out.below HBJ.out).at_ (k := j) (by simpa using hjn)
                      rw [List.getElem_map] at e1 e2
                      unfold Ce.iv at e1 e2
                      generalize lvx[j] = nj at *
                      go_wp2_with fail
                      go_quiet (fail)
                      go_wp2_with fail
                      go_roundw
                      case rel => exact ⟨j + 1, by go_num, by omega, Lib.hid (bwstep HBJ.out (bwN nq))⟩
                      case measure => simp [intOf]; omega
                    · obtain rfl : j = lvx.length := by omega
                      have HZ := Lib.hid (HQ.out.up I HBJ.out)
                      go_wp2_with fail
                      go_roundw
                      case rel =>
                        refine ⟨k + 1, _, t.after s f, rfl, by go_num, by omega, Lib.hid ⟨?_, HPN.out.2.2, HNX.out.2⟩⟩
                        rw [HNX.out.1, HEM.out]
                        exact HZ.out
                      case measure => simp [intOf]; omega
          · obtain rfl : k = L.length := by omega
            have HBF := Lib.hid (bwstep HK3.out HT.out.1.bel)
            clear HT
            go_wp2_with fail
            go_ret
            exact ⟨rfl, HBF.out⟩
      · rw [decide_eq_false hsr]
        go_wp2_with fail
        refine (awake14_ok I _).mono ?_
        rintro e w9 ⟨rfl, hb9⟩
        have H9 := Lib.hid (bwstep HK3.out hb9)
        clear hb9
        go_wp2_with fail
        go_ret
        exact ⟨rfl, H9.out⟩
    · have h41 : (40 : Int) < (L.length : Int) := by omega
      go_wp2_with fail
      refine (awake14_ok I _).mono ?_
      rintro e w9 ⟨rfl, hb9⟩
      have H9 := Lib.hid (bwstep HK2.out hb9)
      clear hb9
      go_wp2_with fail
      go_ret
      exact ⟨rfl, H9.out⟩
end Go.Proofs.YtgcbmdolbmmljaaGreat

namespace Go.Proofs.YtgcbmdolbmmljaaGreat
open Go.RowKit Ce

theorem treeLevels_walk (s : Sf) (v : Value) (L : List Cl) (w : World) (hv : RdL w [] v L) : Calls Tryz.prog 4 #[s.v, v] w fun e w' => e = .returned (.bool true) ∧ Below w.heap.size w w' := treeLevels_gen treeI s v L w hv
end Go.Proofs.YtgcbmdolbmmljaaGreat
