/- The statement DiskActs: its walk, to the end. -/
import Derived.Test.YtblejjjifokmgaaRdo
import Derived.Test.YtblejjjifokmgaaSm
import Derived.Test.YtblejjjifokmgaaDskJ
import Derived.Test.YtblejjjifokmgaaActF
import Derived.Test.YtblejjjifokmgaaDskA
namespace Go.Proofs.Ytblejjjifokmgaa
open Go.RowKit Go.Maps Dk

theorem wpList_loadW {P : Program} {ops : Array Oper} {rest : List Oper} {o : Oper} {a : Act} {w : World} {Q : Exit → Act → World → Prop} (hw : Region.wanted o (yielded ops a.tmps) = true) (ty : TypeId) (x : Operand) (ho : o.op = .load ty x) (ad : Addr) (hx : a.eval x = .pointer (some ad)) (vs : List Value) (d : TypeDesc)
    (hc : ∀ (k : Nat) (v : Value), vs[k]? = some v → w.cell? (ad.add k) = some v) (hu : P.underlying ty = some d) (hd : (match d with | .struct _ | .array _ _ => true | _ => false) = true) (hi : (P.info? ty).map (·.size) = some vs.length)
    (h : wpList P ops Q rest (a.put o.dst (.agg vs.toArray)) w) : wpList P ops Q (o :: rest) a w := by
  refine wpList_step fun K hK => ?_
  rw [if_pos hw]
  unfold Oper.wp execOp
  simp only [ho, hx, Instr.loadAt, Instr.sureAddr, Sem.run_bind, Sem.run_pure, Result.andThen_ok, run_loadC w ty ad vs d hc hu hd hi]
  exact hK _ _ h
/-- what stands at the head of the loop -/
structure ActS (w w2 : World) (db mb cap k : Nat) (L : List Fr) (M : List Rf) (m : Value) (wr : World) : Prop where
  d : DiskAt wr w2.heap.size (.pointer (some ⟨db, 0, none⟩)) db mb cap (total (L.map Fr.fl)) L
  i : Inv cap (L.map Fr.fl)
  len : L.length ≤ k
  r : RdF wr (fp db mb L) m M
  e : M.map Rf.fl = L.map Fr.fl
  bel : Below w.heap.size w wr
theorem ActS.ml {w w2 : World} {db mb cap k : Nat} {L : List Fr} {M : List Rf} {m : Value} {wr : World} (h : ActS w w2 db mb cap k L M m wr) : M.length = L.length := by
  have := congrArg List.length h.e
  simpa using this
set_option maxHeartbeats 8000000 in
set_option maxRecDepth 100000 in
theorem diskActs_walk (x : Value) (n : Nat) (f : Nat → AcV) (c : Int) (w : World) (hx : RdA w w.heap.size x n f) (hok : ∀ j, j < n → AcOk (f j).a) (hcw : (Lit.int .i64 c).wf = true) :
    Calls Try.prog 3 #[x, .int .i64 c] w fun e w' => e = .returned (.bool true) ∧ Below w.heap.size w w' := by
  obtain ⟨A, cx, rfl, hc, hm⟩ := hx.shape
  unfold maxLen at hm
  obtain ⟨hc1, hc2⟩ := bounds_i64 hcw
  clear hcw
  have HOK := Lib.hid hok
  have HX := Lib.hid hx
  clear hok hx
  obtain ⟨cap, hcap⟩ : ∃ cap, cap = capN c := ⟨_, rfl⟩
  have HCAP := Lib.hid hcap
  clear hcap
  rcases (show (c < 0 ∧ (cap : Int) = 0) ∨ (65536 < c ∧ (cap : Int) = 65536) ∨ ((0 ≤ c ∧ c ≤ 65536) ∧ (cap : Int) = c) by have := HCAP.out; unfold capN at this; omega) with ⟨hcc, hZ⟩ | ⟨hcc, hZ⟩ | ⟨⟨hcc, hcd⟩, hZ⟩
  all_goals
    have HZ := Lib.hid hZ
    clear hZ
    go_enter Try.func3, Try.ntmps3
    go_wp2_with fail
    refine (dawake_ok _).mono ?_
    rintro e w1 ⟨rfl, hb1⟩
    go_wp2_with fail
    refine (fewA_any _ n f _ (HX.out.up hb1) HOK.out).mono ?_
    rintro e w2 ⟨⟨q, rfl, hq⟩, hb2⟩
    have hb2 := bwstep hb1 hb2
    cases q
    · go_wp2_with fail
      refine (dawake_ok _).mono ?_
      rintro e w3 ⟨rfl, hb3⟩
      go_wp2_with fail
      go_ret
      exact ⟨rfl, bwstep hb2 hb3⟩
    · obtain ⟨h100, hsm⟩ := hq rfl
      have HSM := Lib.hid hsm
      clear hq hsm hb1
      go_wp2_with fail
      refine (dnew_any c w2 hc1 hc2).mono ?_
      rintro e w3 ⟨db, mb, rfl, hd3, hb3⟩
      rw [← HCAP.out] at hd3
      have HD := Lib.hid hd3
      have HB2 := Lib.hid hb2
      have HB3 := Lib.hid (bwstep hb2 hb3)
      clear hd3 hb3 hb2
      go_wp2_with fail
      go_loopw [7, 8] (fun m i wr => ∃ (k : Nat) (L : List Fr) (M : List Rf), k ≤ n ∧ i = .int .i64 (k : Int) ∧ Hid (ActS w w2 db mb cap k L M m wr)) (fun _ i _ => n - (intOf i).toNat)
      case atStart =>
        refine ⟨0, [], [], Nat.zero_le _, rfl, Lib.hid ⟨HD.out, ⟨List.Pairwise.nil, by simp, by simp [total], by have := HCAP.out; unfold capN at this; omega, by simp⟩, Nat.le_refl _, RdF.nil _ _, rfl, HB3.out⟩⟩
      case round =>
        obtain ⟨k, L, M, hk, rfl, HA⟩ := hrel
        by_cases hlt : k < n
        · obtain ⟨b, off, rfl, -, -⟩ := HX.out.open_ (by omega)
          have hh3 : (0 : Int) ≤ (k : Int) := by omega
          have hh4 : (k : Int) < (n : Int) := by omega
          have hxr := HX.out.below HA.out.bel
          obtain ⟨p0, -, -, -, -, -⟩ := hxr.cells hlt
          have hO := HOK.out k hlt
          have hS := HSM.out k hlt
          by_cases ho1 : (f k).a.op < 0
          · go_wp2_with fail
            go_ret
            exact ⟨rfl, HA.out.bel⟩
          by_cases ho2 : 6 < (f k).a.op
          · go_wp2_with fail
            go_ret
            exact ⟨rfl, HA.out.bel⟩
          have HOP : Hid (0 ≤ (f k).a.op ∧ (f k).a.op ≤ 6) := Lib.hid ⟨by omega, by omega⟩
          have hml := HA.out.ml
          have hlen := HA.out.len
          have hcp := copy_any HA.out.d (by omega) (fun g hg => by
            have := len_le_total (List.mem_map.2 ⟨g, hg, rfl⟩ : g.fl ∈ L.map Fr.fl)
            have := HA.out.i.tot
            have := HA.out.i.capb
            omega) (fun g hg => by have := named_le (HA.out.i.nmd g.fl (List.mem_map.2 ⟨g, hg, rfl⟩)); omega)
          have HO := Lib.hid hO
          have HS := Lib.hid hS
          have HML := Lib.hid hml
          have HLEN := Lib.hid hlen
          clear hxr hO hS hml hlen
          go_wp2_with fail
          refine hcp.mono ?_
          rintro e w5 ⟨⟨cb, cmb, Lc, rfl, hdc, hLc⟩, hb5⟩
          have hd5 := HA.out.d.below hb5
          have hr5 : RdF w5 (fp db mb L ++ fp cb cmb Lc) u7 M := HA.out.r.up (Kp.of_below hb5 _) (fun q hq => (List.mem_append.1 hq).elim .inl (fun h => .inr (hdc.ge q h)))
          have hb05 := bwstep HA.out.bel hb5
          have hge1 : ∀ q ∈ fp db mb L, w.heap.size ≤ q := fun q hq => Nat.le_trans HB2.out.size (HA.out.d.ge q hq)
          have hge : ∀ q ∈ fp db mb L ++ fp cb cmb Lc, w.heap.size ≤ q := fun q hq => (List.mem_append.1 hq).elim (hge1 q) (fun h => Nat.le_trans HA.out.bel.size (hdc.ge q h))
          have hlow : ∀ q ∈ fp db mb L ++ fp cb cmb Lc, q < w5.heap.size := fun q hq => (List.mem_append.1 hq).elim (hd5.lt q) (hdc.lt q)
          have hdis : ∀ q ∈ fp cb cmb Lc, q ∉ fp db mb L := fun q hq hq2 => by
            have := hdc.ge q hq
            have := HA.out.d.lt q hq2
            omega
          have hrow := (HX.out.below hb05).row hlt
          have hwh := (HX.out.below hb05).whole hlt
          have hrd := rdo_any hr5 hlow (by have := HML.out; have := HLEN.out; omega) cap (by rw [HA.out.e]; exact HA.out.i) (f k) (RdS.of_low hrow.1 hb05.size hge) (RdV.of_low hrow.2 hb05.size hge) (fun q hq => HO.out.kr q hq) (by have := HS.out.b; omega) HOP.out.1 HOP.out.2
          rw [HA.out.e, HZ.out] at hrd
          obtain ⟨F, hF⟩ : ∃ F, F = cells6 (f k) := ⟨_, rfl⟩
          rw [← hF] at hwh hrd
          have hF6 : F.length = 6 := by rw [hF]; rfl
          have HF := Lib.hid hF
          have hI7 := HA.out.i.do (f k).a
          have hln := do_len HA.out.i (f k).a
          rw [List.length_map] at hln
          have hdoA := fun (w6 : World) (hb6 : Below w5.heap.size w5 w6) => do_any (hd5.below hb6) HA.out.i (by have := HLEN.out; omega) (Nat.le_of_lt (Nat.lt_of_le_of_lt (hd5.below hb6).geb.1 ((hd5.below hb6).lt db (mem_fp.2 (.inl rfl))))) (f k)
          rw [← hF] at hdoA
          obtain ⟨⟨R1, er⟩, hR⟩ : ∃ R, R = doF cap (f k).a (L.map Fr.fl) := ⟨_, rfl⟩
          rw [← hR] at hrd hdoA hI7 hln
          have hee : (er != er) = false := by simp
          have HD5 := Lib.hid hd5
          have HR5 := Lib.hid hr5
          have HDC := Lib.hid hdc
          have HLC := Lib.hid hLc
          have HB05 := Lib.hid hb05
          have HGE1 := Lib.hid hge1
          have HDIS := Lib.hid hdis
          have HI7 := Lib.hid hI7
          have HLN := Lib.hid hln
          have HRD := Lib.hid hrd
          have HDO := Lib.hid hdoA
          clear hcp hdc hLc hb5 hd5 hr5 hb05 hge1 hge hlow hdis hrow hrd hF hI7 hln hdoA hR p0
          go_wp2_with (refine wpList_loadC rfl 31 (.tmp 62) rfl ⟨b, off + k * 6, none⟩ rfl F _ hwh Try.underlying31 rfl (by rw [hF6]; exact sizeA) ?_)
          refine HRD.out.mono ?_
          rintro e w6 ⟨⟨v6, M6, rfl, hr6, hM6⟩, hb6⟩
          have hb06 := bwstep HB05.out hb6
          have hwh6 := (HX.out.below hb06).whole hlt
          have hrow6 := (HX.out.below hb06).row hlt
          rw [← HF.out] at hwh6
          have hdo := HDO.out w6 hb6 (RdS.of_low hrow6.1 hb06.size HGE1.out) (RdV.of_low hrow6.2 hb06.size HGE1.out) (by have := HS.out.b; omega) (by have := HS.out.n; omega) (by have := HS.out.o; omega) (fun q hq => HO.out.kr q hq)
          have HB6 := Lib.hid hb6
          have HB06 := Lib.hid hb06
          have HR6 := Lib.hid hr6
          have HM6 := Lib.hid hM6
          have HDOX := Lib.hid hdo
          clear hb6 hb06 hr6 hM6 hdo hrow6 hwh HRD HDO
          go_wp2_with (refine wpList_loadW rfl 31 (.tmp 74) rfl ⟨b, off + k * 6, none⟩ rfl F _ hwh6 Try.underlying31 rfl (by rw [hF6]; exact sizeA) ?_)
          refine HDOX.out.mono ?_
          rintro e w7 ⟨rfl, L', st, hL'⟩
          have hd7 := st.at_
          have hI7 : Inv cap (L'.map Fr.fl) := hL' ▸ HI7.out
          have hl7 : L'.length ≤ k + 1 := by
            have h1 := congrArg List.length hL'
            rw [List.length_map] at h1
            have h2 := HLN.out
            have h3 := HLEN.out
            simp only at h1 h2
            omega
          have kS : Kp (fp db mb L ++ fp cb cmb Lc) w6 w7 := st.kp.sub_ (fun q hq => List.mem_append_left _ hq)
          have hr7 : RdF w7 (fp db mb L') v6 M6 := HR6.out.up kS (fun q hq => (st.sub q hq).elim (fun h => .inl (List.mem_append_left _ h)) .inr)
          have hM7 : M6.map Rf.fl = L'.map Fr.fl := HM6.out.trans hL'.symm
          have hw7 : RdF w7 [] u7 M := (HR5.out.bel HB6.out).up kS (fun q hq => by cases hq)
          have hc7 := (HDC.out.below HB6.out).kp st.kp HDIS.out
          have hb07 := HB06.out.trans (st.kp.below HGE1.out HB06.out.size)
          rw [← HLC.out] at hc7
          have hs1 := same_any hd7 hI7 (hr7.mono (S' := []) (fun q hq => by cases hq)) hM7 (by omega)
          have HD7 := Lib.hid hd7
          have HIN := Lib.hid hI7
          have HL7 := Lib.hid hl7
          have HR7 := Lib.hid hr7
          have HM7 := Lib.hid hM7
          have HW7 := Lib.hid hw7
          have HC7 := Lib.hid hc7
          have HB07 := Lib.hid hb07
          have HS1 := Lib.hid hs1
          clear hd7 hI7 hl7 hr7 hM7 hw7 hc7 hb07 hs1 kS st hL' hwh6 hF6 HDOX
          go_wp2_with fail
          refine HS1.out.mono ?_
          rintro e w8 ⟨rfl, hb8⟩
          have hlc : Lc.length ≤ 1000000 := by have h1 := congrArg List.length HLC.out; simp only [List.length_map] at h1; have := HLEN.out; omega
          have hs2 := same_any (HC7.out.below hb8) (by rw [HLC.out]; exact HA.out.i) (HW7.out.bel hb8) (HA.out.e.trans HLC.out.symm) hlc
          have HD8 := Lib.hid (HD7.out.below hb8)
          have HR8 := Lib.hid (HR7.out.bel hb8)
          have HB08 := Lib.hid (bwstep HB07.out hb8)
          have HS2 := Lib.hid hs2
          clear hb8 hs2 hlc HS1
          go_wp2_with fail
          refine HS2.out.mono ?_
          rintro e w9 ⟨rfl, hb9⟩
          have HA9 : Hid (ActS w w2 db mb cap (k + 1) L' M6 v6 w9) := Lib.hid ⟨HD8.out.below hb9, HIN.out, HL7.out, HR8.out.bel hb9, HM7.out, bwstep HB08.out hb9⟩
          clear hb9 HS2
          go_wp2_with fail
          go_roundw
          case rel => exact ⟨k + 1, L', M6, by omega, by go_num, HA9⟩
          case measure => simp [intOf]; omega
        · have hsq : (⟨#[63]⟩ : ByteArray).size ≤ 1000000000 := by decide
          have hd := HA.out.d
          have hfm : fnd key (⟨#[63]⟩ : ByteArray).data.toList (L.map Fr.fl) = (fnd fk (⟨#[63]⟩ : ByteArray).data.toList L).map Fr.fl := fnd_map (k := fk) (k' := key) (g := Fr.fl) (fun _ => rfl) _ L
          have hsrt : Srt rk M := rl_srt.1 (by rw [HA.out.e]; exact HA.out.i.srt)
          have hfi := fun w' hv => rfind_any u7 M (fp db mb L) ⟨#[63]⟩ w' hv
          rcases rfnd_cases hsrt ⟨#[63]⟩ with ⟨h1, h2⟩ | ⟨P, g, C, hLe, h1, h2, h3, h4, h5⟩
          · rw [h2] at hfi
            rw [HA.out.e, hfm, Option.map_eq_none_iff] at h1
            have hrn := fun w' (hd' : DiskAt w' w2.heap.size (.pointer (some ⟨db, 0, none⟩)) db mb cap (total (L.map Fr.fl)) L) => read_no hd' ⟨#[63]⟩ hsq h1
            have hsn := fun w' (hd' : DiskAt w' w2.heap.size (.pointer (some ⟨db, 0, none⟩)) db mb cap (total (L.map Fr.fl)) L) => synced_no hd' ⟨#[63]⟩ hsq h1
            have HF1 := Lib.hid hfi
            clear h1 h2 hfi hfm hsq
            go_wp2_with fail
            refine (hrn _ hd).mono ?_
            rintro e w4 ⟨rfl, rfl⟩
            go_wp2_with fail
            refine (hsn _ hd).mono ?_
            rintro e w4 ⟨rfl, rfl⟩
            clear hrn hsn
            go_wp2_with fail
            refine (HF1.out _ HA.out.r.c).mono ?_
            rintro e w4 ⟨rfl, rfl⟩
            go_wp2_with fail
            go_ret
            exact ⟨rfl, HA.out.bel⟩
          · rw [h3] at hfi
            rw [HA.out.e, hfm, Option.map_eq_some_iff] at h2
            obtain ⟨r, hr1, hr2⟩ := h2
            obtain ⟨hrL, hrk⟩ : r ∈ L ∧ fk r = (⟨#[63]⟩ : ByteArray).data.toList := ⟨List.mem_of_find?_eq_some hr1, by simpa [fnd] using List.find?_some hr1⟩
            have hfr : r.fl ∈ L.map Fr.fl := List.mem_map.2 ⟨r, hrL, rfl⟩
            have hln : r.fl.l.length ≤ 1000000000 := by have := len_le_total hfr; have := HA.out.i.tot; have := HA.out.i.capb; omega
            have hfi2 := HA.out.i.fine _ hfr
            have hrn := read_ok hd ⟨#[63]⟩ hsq hrL hr1 hln
            have hsn := fun w' (hd' : DiskAt w' w2.heap.size (.pointer (some ⟨db, 0, none⟩)) db mb cap (total (L.map Fr.fl)) L) => synced_ok hd' ⟨#[63]⟩ hsq hrL hr1 hln hfi2
            have HF1 := Lib.hid hfi
            have hge0 : (0 : Int) ≤ (P.length : Int) := by omega
            have HSN := Lib.hid hsn
            have HRN := Lib.hid hrn
            have HDD := Lib.hid hd
            clear h1 h3 h4 h5 hLe hfi hfm hsq hr1 hr2 hrL hrk hfr hln hfi2 hrn hsn hd
            go_wp2_with fail
            refine HRN.out.mono ?_
            rintro e w4 ⟨⟨v4, rfl, h4⟩, hb4⟩
            clear h4
            go_wp2_with fail
            refine (HSN.out _ (HDD.out.below hb4)).mono ?_
            rintro e w5 ⟨⟨v5, rfl, h5⟩, hb5⟩
            clear h5
            have HB5 := Lib.hid (bwstep (bwstep HA.out.bel hb4) hb5)
            have hrc := (HA.out.r.bel (hb4.trans (hb5.mono hb4.size))).c
            clear hb4 hb5
            go_wp2_with fail
            refine (HF1.out _ hrc).mono ?_
            rintro e w6 ⟨rfl, rfl⟩
            go_wp2_with fail
            go_ret
            exact ⟨rfl, HB5.out⟩
end Go.Proofs.Ytblejjjifokmgaa
