/- The statement DiskSynced: its walk, to the end. -/
import Derived.Test.YtiiibiajkhkplaaDskK
import Derived.Test.YtiiibiajkhkplaaDskJ
import Derived.Test.YtiiibiajkhkplaaDoC
import Derived.Test.YtiiibiajkhkplaaActF
import Derived.Test.YtiiibiajkhkplaaRefA
namespace Go.Proofs.Ytiiibiajkhkplaa
open Go.RowKit Go.Maps Dk

theorem crash_at : ∀ (M : List Fl) (ks : List Int) (k : Nat) (f : Fl), M[k]? = some f → ∃ j, j ≤ rst f ∧ (crash M ks)[k]? = some (keepF f j)
  | [], _, _, _, h => by simp at h
  | g :: M, ks, k, f, h => by
    have one : ∀ n ks', n ≤ rst g → ∃ j, j ≤ rst f ∧ (keepF g n :: crash M ks')[k]? = some (keepF f j) := fun n ks' hn => by
      cases k with
      | zero =>
        simp only [List.getElem?_cons_zero, Option.some.injEq] at h
        subst h
        exact ⟨n, hn, by simp⟩
      | succ k =>
        rw [List.getElem?_cons_succ] at h
        obtain ⟨j, h1, h2⟩ := crash_at M ks' k f h
        exact ⟨j, h1, by rw [List.getElem?_cons_succ]; exact h2⟩
    by_cases h0 : rst g = 0
    · rw [crash_skip _ h0]; exact one 0 ks (by omega)
    · cases ks with
      | nil => rw [crash_none h0]; exact one 0 [] (by omega)
      | cons q r => rw [crash_one q r h0]; exact one _ r (by have := Nat.mod_lt q.natAbs (show 0 < rst g + 1 by omega); omega)
theorem crash_again : ∀ (M : List Fl) (ks : List Int), (∀ f ∈ M, f.s = f.l.length) → crash M ks = M
  | [], _, _ => rfl
  | f :: M, ks, h => by
    have hf := h f (by simp)
    have h0 : rst f = 0 := by unfold rst; omega
    rw [crash_skip _ h0, keepF_full (by omega) h0, crash_again M ks fun g hg => h g (by simp [hg])]
theorem sizeA : (Try.prog.info? 31).map (·.size) = some 6 := by kernel_rfl
theorem RdA.whole {w : World} {B n b off m c k : Nat} {f : Nat → AcV} (h : RdA w B (.slice (some ⟨b, off, none⟩) m c) n f) (hk : k < n) : ∀ (i : Nat) (v : Value), (cells6 (f k))[i]? = some v → w.cell? ((⟨b, off + k * 6, none⟩ : Addr).add i) = some v := fun i v hv => by
  obtain ⟨b', off', e, _, hc⟩ := h.open_ (by omega)
  simp only [Option.some.injEq, Addr.mk.injEq, and_true] at e
  obtain ⟨rfl, rfl⟩ := e
  rw [Addr.add_lit]
  exact hc k hk i v hv
/-- the k-th file, where it lies -/
theorem fl_at {L : List Fr} {M : List Fl} (h : L.map Fr.fl = M) {k : Nat} {f : Fl} (hk : M[k]? = some f) : ∃ r ∈ L, r.fl = f ∧ L[k]? = some r := by
  rw [← h, List.getElem?_map] at hk
  cases hr : L[k]? with
  | none => rw [hr] at hk; cases hk
  | some r =>
    rw [hr] at hk
    exact ⟨r, List.mem_of_getElem? hr, by simpa using hk, rfl⟩
set_option maxHeartbeats 4000000 in
set_option maxRecDepth 100000 in
theorem diskSynced_walk (x : Value) (n : Nat) (f : Nat → AcV) (y : Value) (ks : List Int) (w : World) (hx : RdA w w.heap.size x n f) (hok : ∀ j, j < n → AcOk (f j).a) (hy : Rd w w.heap.size y (ks.map iv)) (hkr : ∀ q ∈ ks, inR64 q) :
    Calls Try.prog 4 #[x, y] w fun e w' => e = .returned (.bool true) ∧ Below w.heap.size w w' := by
  obtain ⟨A, c, rfl, hc, hm⟩ := hx.shape
  obtain ⟨Ay, cy, rfl, hcy, hmy⟩ := hy.shapeM
  unfold maxLen at hm hmy
  have HOK := Lib.hid hok
  have HKR := Lib.hid hkr
  clear hok hkr
  go_enter Try.func4, Try.ntmps4
  go_wp2_with fail
  refine (dawake_ok _).mono ?_
  rintro e w1 ⟨rfl, hb1⟩
  go_wp2_with fail
  refine (fewA_any _ n f _ (hx.up hb1) HOK.out).mono ?_
  rintro e w2 ⟨⟨q, rfl, hq⟩, hb2⟩
  have hb2 := bwstep hb1 hb2
  cases q
  · go_wp2_with fail
    refine (dawake_ok _).mono ?_
    rintro e w3 ⟨rfl, hb3⟩
    go_wp2_with fail
    go_ret
    exact ⟨rfl, bwstep hb2 hb3⟩
  · obtain ⟨h100, hsm⟩ := hq rfl
    have HSM := Lib.hid hsm
    clear hq hsm hb1
    by_cases hk100 : (100 : Int) < (ks.length : Int)
    · go_wp2_with fail
      refine (dawake_ok _).mono ?_
      rintro e w3 ⟨rfl, hb3⟩
      go_wp2_with fail
      go_ret
      exact ⟨rfl, bwstep hb2 hb3⟩
    · go_wp2_with fail
      refine (dnew_any 60000 w2 (by omega) (by omega)).mono ?_
      rintro e w3 ⟨db, mb, rfl, hd3, hb3⟩
      rw [show capN 60000 = 60000 from rfl] at hd3
      have HD := Lib.hid hd3
      have HB2 := Lib.hid hb2
      have HB3 := Lib.hid (bwstep hb2 hb3)
      clear hd3 hb3 hb2
      go_wp2_with fail
      go_loopw [6] (fun i wr => ∃ (k : Nat) (L : List Fr), k ≤ n ∧ i = .int .i64 (k : Int) ∧ DiskAt wr w2.heap.size (.pointer (some ⟨db, 0, none⟩)) db mb 60000 (total (L.map Fr.fl)) L ∧ Inv 60000 (L.map Fr.fl) ∧ L.length ≤ k ∧ Below w.heap.size w wr) (fun i _ => n - (intOf i).toNat)
      case atStart => exact ⟨0, [], Nat.zero_le _, rfl, HD.out, ⟨List.Pairwise.nil, by simp, by simp [total], by omega, by simp⟩, Nat.zero_le _, HB3.out⟩
      case round =>
        obtain ⟨k, L, hk, rfl, hd, hI, hLk, hb⟩ := hrel
        by_cases hlt : k < n
        · obtain ⟨b, off, rfl, -, -⟩ := hx.open_ (by omega)
          have hxr := (hx.below hb)
          have hwh := hxr.whole hlt
          have hrow := hxr.row hlt
          have hO := HOK.out k hlt
          have hS := HSM.out k hlt
          have hge : ∀ q ∈ fp db mb L, w.heap.size ≤ q := fun q hq => Nat.le_trans HB2.out.size (hd.ge q hq)
          have hdo := do_any hd hI (by omega) (Nat.le_of_lt (Nat.lt_of_le_of_lt hd.geb.1 (hd.lt db (mem_fp.2 (.inl rfl))))) (f k) (RdS.of_low hrow.1 hb.size hge) (RdV.of_low hrow.2 hb.size hge) (by have := hS.b; omega) (by have := hS.n; omega) (by have := hS.o; omega) (fun q hq => hO.kr q hq)
          have HDO := Lib.hid hdo
          have HI := Lib.hid hI
          have HB := Lib.hid hb
          have HGE := Lib.hid hd.ge
          obtain ⟨F, hF⟩ : ∃ F, F = cells6 (f k) := ⟨_, rfl⟩
          rw [← hF] at hwh
          have hF6 : F.length = 6 := by rw [hF]; rfl
          have HF := Lib.hid hF
          clear hxr hrow hO hS hge hdo hI hb hd hF
          go_wp2_with (refine wpList_loadC rfl 31 (.tmp 49) rfl ⟨b, off + k * 6, none⟩ rfl F _ hwh Try.underlying31 rfl (by rw [hF6]; exact sizeA) ?_; rw [HF.out])
          refine HDO.out.mono ?_
          rintro e w5 ⟨rfl, L', st, hL'⟩
          have hb5 := HB.out.trans (st.kp.below (fun q hq => Nat.le_trans HB2.out.size (HGE.out q hq)) HB.out.size)
          have hI5 := HI.out.do (f k).a
          have hln := do_len HI.out (f k).a
          rw [← hL'] at hI5 hln
          have hd5 := Lib.hid st.at_
          simp only [List.length_map] at hln
          have HI5 := Lib.hid hI5
          have HB5 := Lib.hid hb5
          clear st hL' hI5 hb5 hwh
          go_wp2_with fail
          go_roundw
          case rel => exact ⟨k + 1, L', by omega, by go_num, hd5.out, HI5.out, by omega, HB5.out⟩
          case measure => simp [intOf]; omega
        · obtain rfl : k = n := by omega
          obtain ⟨M, hM⟩ : ∃ M, M = L.map Fr.fl := ⟨_, rfl⟩
          have hlen : M.length ≤ 100 := by rw [hM, List.length_map]; omega
          have hB2 : w2.heap.size ≤ wr.heap.size := Nat.le_of_lt (Nat.lt_of_le_of_lt hd.geb.1 (hd.lt db (mem_fp.2 (.inl rfl))))
          have hcp := copy_any hd (by omega) (fun g hg => by
            have := len_le_total (List.mem_map.2 ⟨g, hg, rfl⟩ : g.fl ∈ L.map Fr.fl)
            have := hI.tot
            omega) (fun g hg => by have := named_le (hI.nmd g.fl (List.mem_map.2 ⟨g, hg, rfl⟩)); omega)
          rw [← hM] at hcp
          have HD := Lib.hid hd
          have HI := Lib.hid hI
          have HB := Lib.hid hb
          have HM := Lib.hid hM
          clear hd hI hb hM
          go_wp2_with fail
          refine hcp.mono ?_
          rintro e w5 ⟨⟨cb, cmb, Lc, rfl, hdc, hLc⟩, hb5⟩
          have hdd := HD.out.below hb5
          have hbb := bwstep HB.out hb5
          have hge : ∀ q ∈ fp db mb L, w.heap.size ≤ q := fun q hq => Nat.le_trans HB2.out.size (hdd.ge q hq)
          have hdis : ∀ q ∈ fp cb cmb Lc, q ∉ fp db mb L := fun q hq hq2 => by
            have := hdc.ge q hq
            have := HD.out.lt q hq2
            omega
          have hcr := cr_any hdd HI.out (by omega) (Nat.le_trans hB2 hb5.size) (RdV.of_low (hy.below hbb) hbb.size hge) (fun q hq => HKR.out q hq)
          have HDC := Lib.hid hdc
          have HLC := Lib.hid hLc
          have HBB := Lib.hid hbb
          have HGE := Lib.hid hge
          have HDS := Lib.hid hdis
          have HW5 := Lib.hid (Nat.le_trans hB2 hb5.size)
          clear hcp hdc hLc hdd hbb hge hdis hb5
          go_wp2_with fail
          refine hcr.mono ?_
          rintro e w6 ⟨rfl, L2, st, hL2⟩
          have hdc := HDC.out.kp st.kp HDS.out
          have hdd := st.at_
          have hbb := HBB.out.trans (st.kp.below HGE.out HBB.out.size)
          have hLl : Lc.length ≤ 100 := by have := congrArg List.length HLC.out; rw [List.length_map] at this; omega
          have hL2l : L2.length ≤ 100 := by
            have := congrArg List.length hL2
            rw [List.length_map] at this
            have h2 := congrArg List.length (crash_spec (L.map Fr.fl) ks HI.out.fine).1
            rw [List.length_map, List.length_map, List.length_map] at h2
            omega
          have HDS2 : Hid (∀ q ∈ fp cb cmb Lc, q ∉ fp db mb L2) := Lib.hid fun q hq hq2 => by
            rcases st.sub q hq2 with h1 | h1
            · exact HDS.out q hq h1
            · have := HDC.out.lt q hq; omega
          have hn1 := names_any hdc (by omega)
          rw [← HM.out] at hL2
          have HL2 := Lib.hid hL2
          have HDC := Lib.hid hdc
          have HDD := Lib.hid hdd
          have HDD0 := Lib.hid hdd
          have HBB := Lib.hid hbb
          have HW6 := Lib.hid (Nat.le_trans HW5.out st.kp.size)
          clear hcr hdc hdd hbb st hL2
          go_wp2_with fail
          refine hn1.mono ?_
          rintro e w7 ⟨⟨nv, rfl, ho7⟩, hb7⟩
          have hdc := HDC.out.below hb7
          have hdd := HDD.out.below hb7
          have hbb := bwstep HBB.out hb7
          have hn2 := names_any hdd (by omega)
          have hnv := ho7.rd
          have e7 : (Lc.map fun f => f.fl.nm) = M.map (·.nm) := by rw [← HLC.out, List.map_map]; rfl
          have e8 : (L2.map fun f => f.fl.nm) = M.map (·.nm) := by
            have h1 : (L2.map fun f => f.fl.nm) = (L2.map Fr.fl).map (·.nm) := by rw [List.map_map]; rfl
            rw [h1, HL2.out, HM.out]
            exact (crash_spec (L.map Fr.fl) ks HI.out.fine).2.1
          rw [e7] at hnv
          rw [e8] at hn2
          obtain ⟨An, cn, en, hcn, hmn⟩ := hnv.shapeM
          rw [List.length_map] at en hcn
          subst en
          unfold maxLen at hmn
          have HDC := Lib.hid hdc
          have HDD := Lib.hid hdd
          have HBB := Lib.hid hbb
          have HS67 := Lib.hid hb7.size
          have HNO : Hid (0 < (M.map (·.nm)).length → ∀ q, (Value.slice An M.length cn).ownBlock = some q → q ∉ fp db mb L2) := Lib.hid fun _ q hq hq2 => by
            have h1 := ho7.ge q hq
            have h2 := HDD0.out.lt q hq2
            omega
          clear hn1 ho7 hb7 hdc hdd hbb e7 e8
          go_wp2_with fail
          refine hn2.mono ?_
          rintro e w8 ⟨⟨nv2, rfl, ho8⟩, hb8⟩
          have hnv := hnv.up hb8
          have hrs := rstrings_any _ _ (M.map (·.nm)) (M.map (·.nm)) _ _ w8 (Nat.le_refl _) (Nat.le_refl _) hnv ho8.rd
          rw [show sameT (M.map (·.nm)) (M.map (·.nm)) = true by simp [sameT]] at hrs
          have HDC := Lib.hid (HDC.out.below hb8)
          have HDD := Lib.hid (HDD.out.below hb8)
          have HBB := Lib.hid (bwstep HBB.out hb8)
          have HNV := Lib.hid hnv
          have HS78 := Lib.hid hb8.size
          clear hn2 ho8 hb8 hnv
          go_wp2_with fail
          refine hrs.mono ?_
          rintro e w9 ⟨rfl, hb9⟩
          have HDC := Lib.hid (HDC.out.below hb9)
          have HDD := Lib.hid (HDD.out.below hb9)
          have HBB := Lib.hid (bwstep HBB.out hb9)
          have HNV := Lib.hid (HNV.out.up hb9)
          have HS69 := Lib.hid (Nat.le_trans (Nat.le_trans HS67.out HS78.out) hb9.size)
          clear hrs hb9
          go_wp2_with fail
          go_loopw [9] (fun i wz => ∃ z : Nat, z ≤ M.length ∧ i = .int .i64 (z : Int) ∧ Below w9.heap.size w9 wz) (fun i _ => M.length - (intOf i).toNat)
          case atStart => exact ⟨0, Nat.zero_le _, rfl, Below.refl _ _⟩
          case round =>
            obtain ⟨z, hz, rfl, hbz⟩ := hrel
            by_cases hlz : z < M.length
            · obtain ⟨g, hg⟩ : ∃ g, M[z]? = some g := ⟨_, List.getElem?_eq_getElem hlz⟩
              obtain ⟨rc, hrc, erc, -⟩ := fl_at HLC.out hg
              obtain ⟨j, hj, hgj⟩ := crash_at M ks z g hg
              obtain ⟨rd, hrd, erd, -⟩ := fl_at HL2.out hgj
              have hgM : g ∈ L.map Fr.fl := HM.out ▸ List.mem_of_getElem? hg
              have hgs := HI.out.fine g hgM
              have hgl : g.l.length ≤ 60000 := Nat.le_trans (len_le_total hgM) HI.out.tot
              have hgn := named_le (HI.out.nmd g hgM)
              have hgn9 : g.nm.size ≤ 1000000000 := by omega
              have hjl : g.s + j ≤ g.l.length := by unfold rst at hj; omega
              obtain ⟨bn, on, rfl, hbn, hcell⟩ := HNV.out.cellM (by rw [List.length_map]; omega)
              have hcz := hcell z (by rw [List.length_map]; exact hlz)
              rw [List.getElem_map, (List.getElem?_eq_some_iff.1 hg).2] at hcz
              simp only [sv] at hcz
              have HCZ : Hid (∀ wz, Below w9.heap.size w9 wz → wz.cell? ⟨bn, on + z, none⟩ = some (.string g.nm)) := Lib.hid fun wz hb => (hb.cell (p := ⟨bn, on + z, none⟩) hbn).trans hcz
              have hcz := HCZ.out wr hbz
              have hz1 := HDC.out.below hbz
              have hfc := fnd_self (L := Lc) hz1.srt hrc (s := g.nm.data.toList) (by rw [erc]; rfl)
              have r1 := read_ok hz1 g.nm hgn9 hrc hfc (by rw [erc]; omega)
              rw [erc] at r1
              have HZ := Lib.hid hbz
              have HG := Lib.hid hg
              clear hcell hz1 hbz hgM hg hgj hbn
              go_wp2_with fail
              refine r1.mono ?_
              rintro e x1 ⟨⟨v1, rfl, o1⟩, b1⟩
              have b1 := bwstep HZ.out b1
              have hz1 := HDC.out.below b1
              have r2 := synced_ok hz1 g.nm hgn9 hrc hfc (by rw [erc]; omega) (by rw [erc]; omega)
              rw [erc] at r2
              have hcz := HCZ.out x1 b1
              have k1 := o1.rd
              have B1 := Lib.hid b1
              clear r1 b1 hz1 o1
              go_wp2_with fail
              refine r2.mono ?_
              rintro e x2 ⟨⟨v2, rfl, o2⟩, b2⟩
              have k1 := k1.up b2
              have b2 := bwstep B1.out b2
              have hz2 := HDD.out.below b2
              have hnd : fnd fk g.nm.data.toList L2 = some rd := fnd_self (L := L2) hz2.srt hrd (s := g.nm.data.toList) (by rw [erd]; rfl)
              have hkl : (keepF g j).l.length = g.s + j := by unfold keepF; simp; omega
              have hks : (keepF g j).s = g.s + j := rfl
              have r3 := read_ok hz2 g.nm hgn9 hrd hnd (by rw [erd]; omega)
              rw [erd] at r3
              have hcz := HCZ.out x2 b2
              have k2 := o2.rd
              have B2 := Lib.hid b2
              clear r2 b2 hz2 o2 B1
              go_wp2_with fail
              refine r3.mono ?_
              rintro e x3 ⟨⟨v3, rfl, o3⟩, b3⟩
              have k1 := k1.up b3
              have k2 := k2.up b3
              have b3 := bwstep B2.out b3
              have hz3 := HDD.out.below b3
              have r4 := synced_ok hz3 g.nm hgn9 hrd hnd (by rw [erd]; omega) (by rw [erd]; omega)
              rw [erd] at r4
              have hcz := HCZ.out x3 b3
              have k3 := o3.rd
              have B3 := Lib.hid b3
              clear r3 b3 hz3 o3 B2
              go_wp2_with fail
              refine r4.mono ?_
              rintro e x4 ⟨⟨v4, rfl, o4⟩, b4⟩
              have k1 := k1.up b4
              have k2 := k2.up b4
              have k3 := k3.up b4
              have B4 := Lib.hid (bwstep B3.out b4)
              have k4 := o4.rd
              rw [show (keepF g j).l.take (keepF g j).s = (keepF g j).l by rw [hks, ← hkl, List.take_length]] at k4
              have hkd : (keepF g j).l = g.l.take (g.s + j) := rfl
              obtain ⟨A1, c1, rfl, hc1, hm1⟩ := k1.shapeM
              obtain ⟨A2, c2, e2, hc2, hm2⟩ := k2.shapeM
              obtain ⟨A3, c3, e3, hc3, hm3⟩ := k3.shapeM
              obtain ⟨A4, c4, e4, hc4, hm4⟩ := k4.shapeM
              rw [List.length_take, Nat.min_eq_left hgs] at e2
              rw [hkl] at e3 e4
              subst e2 e3 e4
              unfold maxLen at hm1
              have kcut := k1.cutTo hjl
              rw [← List.map_take, ← hkd] at kcut
              have t1 : ¬ ((g.l.length : Int) < ((g.s + j : Nat) : Int)) := by omega
              have t2 : ¬ (((g.s + j : Nat) : Int) < (g.s : Int)) := by omega
              have t3 : (0 : Int) ≤ ((g.s + j : Nat) : Int) := by omega
              have t4 : ((g.s + j : Nat) : Int) ≤ (c1 : Int) := by omega
              have t5 : g.s + j ≤ c1 := by omega
              have s1 := rsame_any _ _ _ _ _ _ x4 k3 kcut
              have s2 := rsame_any _ _ _ _ _ _ x4 k4 k3
              rw [sameB_self] at s1 s2
              clear r4 b4 o4 k1 k2 k3 k4 kcut B3 hcz hkl hks hkd
              generalize g.s + j = mj at *
              go_wp2_with fail
              refine s1.mono ?_
              rintro e x5 ⟨rfl, rfl⟩
              go_wp2_with fail
              refine s2.mono ?_
              rintro e x5 ⟨rfl, rfl⟩
              go_wp2_with fail
              go_roundw
              case rel => exact ⟨z + 1, by omega, by go_num, B4.out⟩
              case measure => simp [intOf]; omega
            · obtain rfl : z = M.length := by omega
              have hI2 : Inv 60000 (L2.map Fr.fl) := by rw [HL2.out, HM.out]; exact HI.out.cr ks
              have hd9 := HDD.out.below hbz
              have hcp := copy_any hd9 (by omega) (fun q hq => by
                have := len_le_total (List.mem_map.2 ⟨q, hq, rfl⟩ : q.fl ∈ L2.map Fr.fl)
                have := hI2.tot
                omega) (fun q hq => by have := named_le (hI2.nmd q.fl (List.mem_map.2 ⟨q, hq, rfl⟩)); omega)
              have HD9 := Lib.hid hd9
              have HI2 := Lib.hid hI2
              have HB9 := Lib.hid (bwstep HBB.out hbz)
              have HN9 := Lib.hid (HNV.out.up hbz)
              have HZS := Lib.hid (Nat.le_trans HW6.out (show w6.heap.size ≤ w9.heap.size from HS69.out))
              have HZR := Lib.hid hbz.size
              clear hd9 hI2 hbz hz hlz
              go_wp2_with fail
              refine hcp.mono ?_
              rintro e y1 ⟨⟨eb, emb, Le, rfl, hde, hLe⟩, hb1⟩
              have hdd := HD9.out.below hb1
              have hbb := bwstep HB9.out hb1
              have hge : ∀ q ∈ fp db mb L2, w.heap.size ≤ q := fun q hq => Nat.le_trans HB2.out.size (hdd.ge q hq)
              have hdis : ∀ q ∈ fp eb emb Le, q ∉ fp db mb L2 := fun q hq hq2 => by
                have := hde.ge q hq
                have := HD9.out.lt q hq2
                omega
              have hdn : 0 < (M.map (·.nm)).length → ∀ q, (Value.slice An M.length cn).ownBlock = some q → q ∉ fp db mb L2 := fun hp q hq hq2 => HNO.out hp q hq hq2
              have hcr := cr_any hdd HI2.out (by omega) (Nat.le_of_lt (Nat.lt_of_le_of_lt hdd.geb.1 (hdd.lt db (mem_fp.2 (.inl rfl))))) (RdV.of_low (hy.below hbb) hbb.size hge) (fun q hq => HKR.out q hq)
              have HDE := Lib.hid hde
              have HLE := Lib.hid hLe
              have HBB := Lib.hid hbb
              have HGE := Lib.hid hge
              have HDS := Lib.hid hdis
              have HN1 := Lib.hid (HN9.out.up hb1)
              clear hcp hde hLe hdd hbb hge hdis hb1
              go_wp2_with fail
              refine hcr.mono ?_
              rintro e y2 ⟨rfl, L3, st, hL3⟩
              have hde := HDE.out.kp st.kp HDS.out
              have hnv := HN1.out.kp (fun hp q hq => HNO.out (by simpa using hp) q hq) st.kp
              have hbb := HBB.out.trans (st.kp.below HGE.out HBB.out.size)
              have e3 : L3.map Fr.fl = L2.map Fr.fl := by
                rw [hL3]
                refine crash_again _ _ fun q hq => ?_
                rw [HL2.out, HM.out] at hq
                exact (crash_spec (L.map Fr.fl) ks HI.out.fine).2.2.2 q hq
              have HDE := Lib.hid hde
              have HDD := Lib.hid st.at_
              have HBB := Lib.hid hbb
              have HNV := Lib.hid hnv
              have HL3 := Lib.hid e3
              have hlm : (L2.map Fr.fl).length = M.length := by
                rw [HL2.out, HM.out]
                have := congrArg List.length (crash_spec (L.map Fr.fl) ks HI.out.fine).1
                simpa using this
              clear hcr hde hnv hbb st hL3 e3
              go_wp2_with fail
              go_loopw [19] (fun i wz => ∃ z : Nat, z ≤ M.length ∧ i = .int .i64 (z : Int) ∧ Below y2.heap.size y2 wz) (fun i _ => M.length - (intOf i).toNat)
              case atStart => exact ⟨0, Nat.zero_le _, rfl, Below.refl _ _⟩
              case round =>
                obtain ⟨z, hz, rfl, hbz⟩ := hrel
                by_cases hlz : z < M.length
                · obtain ⟨g0, hg0⟩ : ∃ g, M[z]? = some g := ⟨_, List.getElem?_eq_getElem hlz⟩
                  obtain ⟨g, hg⟩ : ∃ g, (L2.map Fr.fl)[z]? = some g := ⟨_, List.getElem?_eq_getElem (by omega)⟩
                  have hgM : g ∈ L2.map Fr.fl := List.mem_of_getElem? hg
                  obtain ⟨j, hj, hgj⟩ := crash_at M ks z g0 hg0
                  have hgn0 : g.nm = g0.nm := by
                    rw [HL2.out, hgj] at hg
                    injection hg with hg
                    rw [← hg]; rfl
                  obtain ⟨re, hre, ere, -⟩ := fl_at HLE.out hg
                  obtain ⟨rd, hrd, erd, -⟩ := fl_at HL3.out hg
                  have hgl : g.l.length ≤ 60000 := Nat.le_trans (len_le_total hgM) HI2.out.tot
                  have hgn := named_le (HI2.out.nmd g hgM)
                  have hgn9 : g.nm.size ≤ 1000000000 := by omega
                  obtain ⟨bn, on, rfl, hbn, hcell⟩ := HNV.out.cellM (by rw [List.length_map]; omega)
                  have hcz := hcell z (by rw [List.length_map]; exact hlz)
                  rw [List.getElem_map, (List.getElem?_eq_some_iff.1 hg0).2, ← hgn0] at hcz
                  simp only [sv] at hcz
                  have HCZ : Hid (∀ wz, Below y2.heap.size y2 wz → wz.cell? ⟨bn, on + z, none⟩ = some (.string g.nm)) := Lib.hid fun wz hb => (hb.cell (p := ⟨bn, on + z, none⟩) hbn).trans hcz
                  have hcz := HCZ.out _ hbz
                  have hz1 := HDD.out.below hbz
                  have r1 := read_ok hz1 g.nm hgn9 hrd (fnd_self (L := L3) hz1.srt hrd (s := g.nm.data.toList) (by rw [erd]; rfl)) (by rw [erd]; omega)
                  rw [erd] at r1
                  have HZ := Lib.hid hbz
                  clear hcell hz1 hbz hgM hg hg0 hgj hbn hgn0 hj
                  go_wp2_with fail
                  refine r1.mono ?_
                  rintro e x1 ⟨⟨v1, rfl, o1⟩, b1⟩
                  have b1 := bwstep HZ.out b1
                  have hz1 := HDE.out.below b1
                  have r2 := read_ok hz1 g.nm hgn9 hre (fnd_self (L := Le) hz1.srt hre (s := g.nm.data.toList) (by rw [ere]; rfl)) (by rw [ere]; omega)
                  rw [ere] at r2
                  have hcz := HCZ.out x1 b1
                  have k1 := o1.rd
                  have B1 := Lib.hid b1
                  clear r1 b1 hz1 o1
                  go_wp2_with fail
                  refine r2.mono ?_
                  rintro e x2 ⟨⟨v2, rfl, o2⟩, b2⟩
                  have s1 := rsame_any _ _ _ _ _ _ x2 (k1.up b2) o2.rd
                  rw [sameB_self] at s1
                  have B2 := Lib.hid (bwstep B1.out b2)
                  clear r2 b2 k1 o2 hcz B1
                  go_wp2_with fail
                  refine s1.mono ?_
                  rintro e x3 ⟨rfl, rfl⟩
                  go_wp2_with fail
                  go_roundw
                  case rel => exact ⟨z + 1, by omega, by go_num, B2.out⟩
                  case measure => simp [intOf]; omega
                · go_wp2_with fail
                  go_ret
                  exact ⟨rfl, bwstep HBB.out hbz⟩
end Go.Proofs.Ytiiibiajkhkplaa
