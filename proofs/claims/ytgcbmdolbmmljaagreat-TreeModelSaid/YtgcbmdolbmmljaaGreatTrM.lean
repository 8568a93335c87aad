/- The walk of TreeModel, by the contracts of a tree. -/
import Derived.Test.YtgcbmdolbmmljaaGreatTrA
import Derived.Test.YtgcbmdolbmmljaaGreatMs
import Derived.Test.YtgcbmdolbmmljaaGreatCpo
import Derived.Deep.RegionHeld3
namespace Go.Proofs.YtgcbmdolbmmljaaGreat
open Go.RowKit Ce

variable {At : World → List Nat → List Nat → Nat → Sf → Tr → Prop}
/-- a tree and a list of what it tells, beside it -/
def Ce.ModT (At : World → List Nat → List Nat → Nat → Sf → Tr → Prop) (w0 w : World) (b : Nat) (s : Sf) (t : Tr) (x : Value) (m : List Cl) : Prop :=
  ∃ S M, At w S M b s t ∧ (∀ k ∈ M, w0.heap.size ≤ k) ∧ Below w0.heap.size w0 w ∧ RdL w M x m
section
variable {w0 w w' : World} {b : Nat} {s : Sf} {t : Tr} {x : Value} {m K : List Cl}
theorem Ce.ModT.up (I : TreeI At) (h : ModT At w0 w b s t x m) (hb : Below w.heap.size w w') : ModT At w0 w' b s t x m := by
  obtain ⟨S, M, h1, h2, h3, h4⟩ := h
  exact ⟨S, M, I.bel h1 hb, h2, bwstep h3 hb, h4.bel hb⟩
theorem Ce.ModT.bel (h : ModT At w0 w b s t x m) : Below w0.heap.size w0 w := by
  obtain ⟨S, M, -, -, h3, -⟩ := h
  exact h3
theorem Ce.ModT.rd0 (h : ModT At w0 w b s t x m) : RdL w [] x m := by
  obtain ⟨S, M, -, -, -, h4⟩ := h
  exact h4.up (Kp.refl M w) (by simp)
theorem Ce.ModT.next (I : TreeI At) {y : Value} {m' : List Cl} (h : ModT At w0 w b s t x m) (hb : Below w.heap.size w w') (hy : OwL w' w.heap.size y m') : ModT At w0 w' b s t y m' := by
  obtain ⟨S, M, h1, h2, h3, h4⟩ := h
  exact ⟨S, M, I.bel h1 hb, h2, bwstep h3 hb, hy.rd fun k hk => (I.sub h1 k hk).2⟩
theorem Ce.ModT.put (I : TreeI At) (c : Cl) (h : ModT At w0 w b s t x m) (hg : GoodT s t K) (hf : c.ok → FitsK (c :: K)) :
    Calls Tryz.prog 14 #[.pointer (some ⟨b, 0, none⟩), c.v] w fun e w' => e = .returned (.int .i64 (t.code c)) ∧ ModT At w0 w' b s (t.after s c) x m := by
  obtain ⟨S, M, h1, h2, h3, h4⟩ := h
  refine (I.put c h1 hg hf).mono ?_
  rintro e w' ⟨M', rfl, k1, k2, k3⟩
  exact ⟨rfl, _, M', k1, fun k hk => (k3 k hk).elim (h2 k) fun q => Nat.le_trans h3.size q, h3.trans (k2.below h2 h3.size), h4.up k2 k3⟩
theorem Ce.ModT.flush (I : TreeI At) (h : ModT At w0 w b s t x m) (hg : GoodT s t K) :
    Calls Tryz.prog 15 #[.pointer (some ⟨b, 0, none⟩)] w fun e w' => (∃ u, e = .returned u) ∧ ModT At w0 w' b s (t.flush s.fan.toNat) x m := by
  obtain ⟨S, M, h1, h2, h3, h4⟩ := h
  refine (I.flush h1 hg).mono ?_
  rintro e w' ⟨M', hu, k1, k2, k3⟩
  exact ⟨hu, _, M', k1, fun k hk => (k3 k hk).elim (h2 k) fun q => Nat.le_trans h3.size q, h3.trans (k2.below h2 h3.size), h4.up k2 k3⟩
theorem Ce.ModT.get (I : TreeI At) (row col : ByteArray) (at_ : Int) (h : ModT At w0 w b s t x m) (hg : GoodT s t K) (h1 : row.size ≤ 1000000) (h2 : col.size ≤ 1000000) :
    Calls Tryz.prog 16 #[.pointer (some ⟨b, 0, none⟩), .string row, .string col, .int .i64 at_] w fun e w' => e = .returned (.tuple #[.string (getV t row col at_), .bool (getB t row col at_)]) ∧ Below w.heap.size w w' := by
  obtain ⟨S, M, h3, -⟩ := h
  exact I.get row col at_ h3 hg h1 h2
theorem Ce.ModT.scan (I : TreeI At) (fr to : ByteArray) (at_ : Int) (h : ModT At w0 w b s t x m) (hg : GoodT s t K) (h1 : fr.size ≤ 1000000) (h2 : to.size ≤ 1000000) :
    Calls Tryz.prog 19 #[.pointer (some ⟨b, 0, none⟩), .string fr, .string to, .int .i64 at_] w fun e w' => (∃ y, e = .returned y ∧ RdL w' [] y (someP fr to at_ t.cells)) ∧ Below w.heap.size w w' := by
  obtain ⟨S, M, h3, -⟩ := h
  refine (I.scan fr to at_ h3 hg h1 h2).mono ?_
  rintro e w' ⟨⟨x, rfl, hx⟩, hb⟩
  exact ⟨⟨x, rfl, hx.rd (fun _ h => by cases h)⟩, hb⟩
theorem Ce.ModT.cells (I : TreeI At) (h : ModT At w0 w b s t x m) (hg : GoodT s t K ∧ t.cells = m) :
    Calls Tryz.prog 21 #[.pointer (some ⟨b, 0, none⟩)] w fun e w' => (∃ y, e = .returned y ∧ RdL w' [] y m) ∧ Below w.heap.size w w' := by
  obtain ⟨S, M, h3, -⟩ := h
  refine (I.cells h3 hg.1).mono ?_
  rintro e w' ⟨⟨y, rfl, hy⟩, hb⟩
  rw [hg.2] at hy
  exact ⟨⟨y, rfl, hy.rd (fun _ h => by cases h)⟩, hb⟩
end
/-- so few cells were put -/
def Ce.FewK (K m : List Cl) (k : Nat) : Prop := K.length ≤ k ∧ szs K ≤ 401 * (K.length : Int) ∧ m.length ≤ k
def Ce.ActS (g : Nat) (a : Ac) (w0 w' : World) : Prop := w'.cell? ⟨g, 1, none⟩ = some (.string a.c.row) ∧ w'.cell? ⟨g, 2, none⟩ = some (.string a.c.col) ∧ w'.cell? ⟨g, 3, none⟩ = some (.int .i64 a.c.at_) ∧ Below w0.heap.size w0 w'
/-- the act's cell, where it stands as a part of it -/
theorem Ce.ac_part {g : Nat} {a : Ac} {w : World} (h : acD.In g a w) : ∀ (i : Nat) (u : Value), a.c.cs.toList[i]? = some u → w.cell? ((⟨g, 1, none⟩ : Addr).add i) = some u := fun i u hu => by
  rw [Addr.add_lit]
  have h1 : (Ac.cs a)[1 + i]? = some u := by
    have hi : i < 5 := by
      have := (List.getElem?_eq_some_iff.1 hu).1
      simpa [Cl.cs] using this
    match i, hi with
    | 0, _ => exact hu
    | 1, _ => exact hu
    | 2, _ => exact hu
    | 3, _ => exact hu
    | 4, _ => exact hu
  exact h.at_ h1
set_option maxHeartbeats 8000000 in
set_option maxRecDepth 100000 in
theorem treeModel_gen (I : TreeI At) (s : Sf) (v : Value) (L : List Ac) (w : World) (hv : St.RdS acD w [] v L) (_hz : ∀ a ∈ L, (Lit.int .i64 a.do_).wf = true) : Calls Tryz.prog 3 #[s.v, v] w fun e w' => e = .returned (.bool true) ∧ Below w.heap.size w w' := by
  have HV := Lib.hid hv
  obtain ⟨Av, cv, rfl, hcv, hmv⟩ := hv.shape
  clear hv
  go_enter Tryz.func3, Tryz.ntmps3
  go_wp2_with (refine St.box sfD rfl (.tmp 0) s rfl rfl ?_)
  constructor
  intro wA hIA hbA hzA
  have HIA := Lib.hid hIA
  have HKA := Lib.hid hbA
  clear hIA hbA hzA
  go_wp2_with fail
  refine (awake14_ok I _).mono ?_
  rintro e w1 ⟨rfl, hb1⟩
  have HK1 := Lib.hid (bwstep HKA.out hb1)
  have HI1 := Lib.hid (HIA.out.up hb1)
  clear hb1 HIA HKA
  go_wp2_with fail
  refine (few14_any _ L _ (HV.out.bel HK1.out)).mono ?_
  rintro e w2 ⟨⟨q, rfl, hq⟩, rfl⟩
  have HK2 := HK1
  cases q
  · clear hq
    go_wp2_with fail
    refine (awake14_ok I _).mono ?_
    rintro e w9 ⟨rfl, hb9⟩
    have H9 := Lib.hid (bwstep HK2.out hb9)
    clear hb9
    go_wp2_with fail
    go_ret
    exact ⟨rfl, H9.out⟩
  · have hfew := hq rfl
    have HFW := Lib.hid hfew.2
    have hl50 := hfew.1
    clear hq hfew HK2
    by_cases hsr : s.right
    · go_wp2_with (refine St.load sfOk rfl (.tmp 2) rfl rfl HI1.out ?_)
      refine (OneT.new I s _ hsr).mono ?_
      rintro e w3 ⟨b, rfl, hT⟩
      obtain ⟨S, M, hat, hM, hbM⟩ := hT
      have HI3 := Lib.hid (HI1.out.up hbM)
      have HT3 : Hid (ModT At w1 w3 b s Tr.empty (.slice none 0 0) []) := Lib.hid ⟨S, M, hat, hM, hbM, RdL.nil _ _⟩
      clear hat hM hbM HI1
      go_wp2_with (refine St.load sfOk rfl (.tmp 2) rfl rfl HI3.out ?_)
      refine (right14_any s _).mono ?_
      rintro e w4 ⟨rfl, hb4⟩
      rw [decide_eq_true hsr]
      have HT4 : Hid (∃ t m K, ModT At w1 w4 b s t (.slice none 0 0) m ∧ (GoodT s t K ∧ t.cells = m) ∧ FewK K m 0) := Lib.hid ⟨_, _, [], HT3.out.up I hb4, ⟨⟨hsr, Tr.empty_ok, Tr.empty_in, fits_nil⟩, rfl⟩, by decide, by simp [szs], by decide⟩
      clear hb4 HT3 HI3
      go_wp2_with fail
      go_loopw [7, 8] (fun x i wr => ∃ (k : Nat) (x7 : Value), x = x7 ∧ i = .int .i64 (k : Int) ∧ k ≤ L.length ∧ Hid (∃ t m K, ModT At w1 wr b s t x7 m ∧ (GoodT s t K ∧ t.cells = m) ∧ FewK K m k)) (fun _ i _ => L.length - (intOf i).toNat)
      case atStart => exact ⟨0, _, rfl, rfl, by omega, HT4⟩
      case round =>
        clear HT4
        obtain ⟨k, x7, rfl, rfl, hk, HT⟩ := hrel
        by_cases hkn : k < L.length
        · have hk1 : (k : Int) < (L.length : Int) := by omega
          have hk0 : (0 : Int) ≤ (k : Int) := by omega
          have hfk : L[k]? = some (L[k]'hkn) := List.getElem?_eq_getElem _
          generalize L[k]'hkn = f at hfk
          obtain ⟨hz1, hz2, hz3⟩ := HFW.out f (List.mem_of_getElem? hfk)
          obtain ⟨t, m, K, hmod, hgood, hfewk⟩ := HT.out
          obtain ⟨bv, ov, rfl, -, -, -⟩ := HV.out.open_ (by omega)
          have H6 := Lib.hid (((HV.out.bel (bwstep HK1.out hmod.bel)).all acOk hfk))
          obtain ⟨Am, cm, hxm, hcm, hmm⟩ := hmod.rd0.shape
          subst hxm
          have hK1 := hfewk.1
          have hK2 := hfewk.2.1
          have hm1 := hfewk.2.2
          have HM := Lib.hid hmod
          have HGX := Lib.hid hgood
          clear hfk hmod hgood hfewk HT
          obtain ⟨wo, hwo⟩ : ∃ wo, wo = wr := ⟨_, rfl⟩
          subst hwo
          go_wp2_with (first | (refine St.loadAt acOk rfl (.tmp 51) rfl ⟨bv, ov + k * 6, none⟩ rfl H6.out ?_) | (refine St.alloc acOk rfl rfl ?_))
          constructor
          intro w5 hI5 hb5 hz5
          go_wp2_with (refine St.store acOk (c := f) rfl (.tmp 9) (.tmp 52) rfl rfl rfl hI5 ?_)
          constructor
          intro w6 hs6
          have hb6 := hs6.bel hb5 (Nat.le_refl _)
          have HM6 := Lib.hid (HM.out.up I hb6)
          have HI6 := Lib.hid hs6.i
          clear hI5 hb5 hz5 hs6 hb6 HM H6
          have d0 : w6.cell? ⟨wo.heap.size, 0, none⟩ = some (.int .i64 f.do_) := HI6.out.at_ rfl
          have d1 : w6.cell? ⟨wo.heap.size, 1, none⟩ = some (.string f.c.row) := HI6.out.at_ rfl
          have d2 : w6.cell? ⟨wo.heap.size, 2, none⟩ = some (.string f.c.col) := HI6.out.at_ rfl
          have d3 : w6.cell? ⟨wo.heap.size, 3, none⟩ = some (.int .i64 f.c.at_) := HI6.out.at_ rfl
          have hmo : (∀ c ∈ m, c.ok) ∧ Srt m := by
            rw [← HGX.out.2]
            exact ⟨ok_all HGX.out.1.ok.all, srt_all _⟩
          have HMO := Lib.hid hmo
          clear hmo
          by_cases h0 : f.do_ = 0
          · have g0 : (f.do_ == 0) = true := beq_iff_eq.2 h0
            rw [h0] at d0
            have HP := Lib.hid (ac_part HI6.out)
            go_wp2_with (first | (refine loadV (c := f.c) rfl (.tmp 56) rfl ⟨wo.heap.size, 1, none⟩ rfl HP.out ?_))
            refine (rright_any f.c _).mono ?_
            rintro e w7 ⟨rfl, hb7⟩
            have HM7 := Lib.hid (HM6.out.up I hb7)
            have HI7 := Lib.hid (HI6.out.up hb7)
            have HP7 := Lib.hid (ac_part HI7.out)
            clear hb7 HM6 HI6 HP d0 d1 d2 d3
            by_cases hok : f.c.ok
            · rw [decide_eq_true hok]
              go_wp2_with (first | (refine loadV (c := f.c) rfl (.tmp 61) rfl ⟨wo.heap.size, 1, none⟩ rfl HP7.out ?_))
              refine (rput1_any _ m f.c _ HM7.out.rd0 hok HMO.out.1 (by omega)).mono ?_
              rintro e w8 ⟨⟨y, rfl, hy⟩, hb8⟩
              have HM8 := Lib.hid (HM7.out.next I hb8 hy)
              have HP8 := Lib.hid (ac_part (HI7.out.up hb8))
              have hpl := len_put1 f.c m
              have hle : (put1 f.c t.cells).length ≤ 400 := by rw [HGX.out.2]; omega
              obtain ⟨q1, q2⟩ := after_put HGX.out.1.ok hok hle s
              obtain ⟨q3, q4⟩ := fits_snoc HGX.out.1.f hok (by omega) hK2
              have hput := HM8.out.put I f.c HGX.out.1 (fun _ => q3)
              rw [q2] at hput
              have HPUT := Lib.hid hput
              have HGY : Hid (GoodT s (t.after s f.c) (f.c :: K) ∧ (t.after s f.c).cells = put1 f.c m) := Lib.hid ⟨⟨HGX.out.1.r, after_ok HGX.out.1.ok s _, after_in HGX.out.1.i s _, q3⟩, by rw [q1, HGX.out.2]⟩
              have HLX : Hid (FewK (f.c :: K) (put1 f.c m) (k + 1)) := Lib.hid ⟨by rw [List.length_cons]; omega, q4, by omega⟩
              have HGX := HGY
              have hmx : (put1 f.c m).length ≤ 100 := by omega
              generalize put1 f.c m = m2 at *
              clear hb8 hy HM7 HI7 HP7 hput HM8 q1 q2 q3 q4 hle hpl HGY
              go_wp2_with (first | (refine loadV (c := f.c) rfl (.tmp 65) rfl ⟨wo.heap.size, 1, none⟩ rfl HP8.out ?_))
              refine HPUT.out.mono ?_
              rintro e w9 ⟨rfl, h9⟩
              have HMX := Lib.hid h9
              clear h9 HPUT HP8
              go_wp2_with fail
              refine (HMX.out.cells I HGX.out).mono ?_
              rintro e wy ⟨⟨xy, rfl, hxy⟩, hby⟩
              have HY := Lib.hid (HMX.out.up I hby)
              have HXY := Lib.hid hxy
              clear hxy hby HMX
              go_wp2_with fail
              refine (rsameL_self xy _ _ wy HXY.out HY.out.rd0 (by omega)).mono ?_
              rintro e wz ⟨rfl, hbz⟩
              have HZ := Lib.hid (HY.out.up I hbz)
              clear hbz HXY HY
              go_wp2_with fail
              go_roundw
              case rel => exact ⟨k + 1, _, rfl, by go_num, by omega, Lib.hid ⟨_, _, _, HZ.out, HGX.out, HLX.out⟩⟩
              case measure => simp [intOf]; omega
            · rw [decide_eq_false hok]
              obtain ⟨q1, q2⟩ := after_no hok s (t := t)
              have hput := HM7.out.put I f.c HGX.out.1 (fun h => absurd h hok)
              rw [q1, q2] at hput
              have HPUT := Lib.hid hput
              have HLX : Hid (FewK K m (k + 1)) := Lib.hid ⟨by omega, hK2, by omega⟩
              clear HM7 HI7 hput q1 q2
              go_wp2_with (first | (refine loadV (c := f.c) rfl (.tmp 65) rfl ⟨wo.heap.size, 1, none⟩ rfl HP7.out ?_))
              refine HPUT.out.mono ?_
              rintro e w9 ⟨rfl, h9⟩
              have HMX := Lib.hid h9
              clear h9 HPUT HP7
              go_wp2_with fail
              refine (HMX.out.cells I HGX.out).mono ?_
              rintro e wy ⟨⟨xy, rfl, hxy⟩, hby⟩
              have HY := Lib.hid (HMX.out.up I hby)
              have HXY := Lib.hid hxy
              clear hxy hby HMX
              go_wp2_with fail
              refine (rsameL_self xy _ _ wy HXY.out HY.out.rd0 (by omega)).mono ?_
              rintro e wz ⟨rfl, hbz⟩
              have HZ := Lib.hid (HY.out.up I hbz)
              clear hbz HXY HY
              go_wp2_with fail
              go_roundw
              case rel => exact ⟨k + 1, _, rfl, by go_num, by omega, Lib.hid ⟨_, _, _, HZ.out, HGX.out, HLX.out⟩⟩
              case measure => simp [intOf]; omega
          · have g0 : (f.do_ == 0) = false := beq_eq_false_iff_ne.2 h0
            have HLX : Hid (FewK K m (k + 1)) := Lib.hid ⟨by omega, hK2, by omega⟩
            by_cases h1 : f.do_ = 1
            · rw [h1] at d0
              have hfl := HM6.out.flush I HGX.out.1
              have HFL := Lib.hid hfl
              have HGY : Hid (GoodT s (t.flush s.fan.toNat) K ∧ (t.flush s.fan.toNat).cells = m) := Lib.hid ⟨⟨HGX.out.1.r, flush_ok HGX.out.1.ok _, inK_flush HGX.out.1.i _, HGX.out.1.f⟩, by rw [flush_cells HGX.out.1.ok]; exact HGX.out.2⟩
              have HGX := HGY
              clear hfl HM6 HI6 HGY h0 g0 h1
              go_wp2_with fail
              refine HFL.out.mono ?_
              rintro e w9 ⟨⟨x9, rfl⟩, h9⟩
              have HMX := Lib.hid h9
              clear h9 HFL
              go_wp2_with fail
              refine (HMX.out.cells I HGX.out).mono ?_
              rintro e wy ⟨⟨xy, rfl, hxy⟩, hby⟩
              have HY := Lib.hid (HMX.out.up I hby)
              have HXY := Lib.hid hxy
              clear hxy hby HMX
              go_wp2_with fail
              refine (rsameL_self xy _ _ wy HXY.out HY.out.rd0 (by omega)).mono ?_
              rintro e wz ⟨rfl, hbz⟩
              have HZ := Lib.hid (HY.out.up I hbz)
              clear hbz HXY HY
              go_wp2_with fail
              go_roundw
              case rel => exact ⟨k + 1, _, rfl, by go_num, by omega, Lib.hid ⟨_, _, _, HZ.out, HGX.out, HLX.out⟩⟩
              case measure => simp [intOf]; omega
            · have g1 : (f.do_ == 1) = false := beq_eq_false_iff_ne.2 h1
              by_cases h2 : f.do_ = 2
              · rw [h2] at d0
                clear h0 g0 h1 g1 h2
                go_wp2_with fail
                refine (HM6.out.get I f.c.row f.c.col f.c.at_ HGX.out.1 (by omega) (by omega)).mono ?_
                rintro e w7 ⟨rfl, hb7⟩
                have HM7 := Lib.hid (HM6.out.up I hb7)
                have HI7 := Lib.hid (HI6.out.up hb7)
                clear hb7 HM6 HI6 d0 d1 d2 d3
                have d0 : w7.cell? ⟨wo.heap.size, 0, none⟩ = some (.int .i64 f.do_) := HI7.out.at_ rfl
                have d1 : w7.cell? ⟨wo.heap.size, 1, none⟩ = some (.string f.c.row) := HI7.out.at_ rfl
                have d2 : w7.cell? ⟨wo.heap.size, 2, none⟩ = some (.string f.c.col) := HI7.out.at_ rfl
                have d3 : w7.cell? ⟨wo.heap.size, 3, none⟩ = some (.int .i64 f.c.at_) := HI7.out.at_ rfl
                have hnw := rnewest_any (.slice Am m.length cm) m f.c.row f.c.col f.c.at_ w7 HM7.out.rd0 HMO.out.2 (by omega) HMO.out.1
                have HNW := Lib.hid hnw
                have HCE := Lib.hid HGX.out.2
                have HCS : Hid ((getV t f.c.row f.c.col f.c.at_ = ⟨#[]⟩ ∧ getB t f.c.row f.c.col f.c.at_ = false ∧ nwB f.c.row f.c.col f.c.at_ m = false) ∨ (∃ d : Cl, d.gone = true ∧ getV t f.c.row f.c.col f.c.at_ = ⟨#[]⟩ ∧ getB t f.c.row f.c.col f.c.at_ = false ∧ nwB f.c.row f.c.col f.c.at_ m = true ∧ nwC f.c.row f.c.col f.c.at_ m = d) ∨ (∃ d : Cl, d.gone = false ∧ getV t f.c.row f.c.col f.c.at_ = d.val ∧ getB t f.c.row f.c.col f.c.at_ = true ∧ nwB f.c.row f.c.col f.c.at_ m = true ∧ nwC f.c.row f.c.col f.c.at_ m = d)) := Lib.hid <| by
                  unfold getV getB nwB nwC
                  rw [HCE.out]
                  cases hn : newest f.c.row f.c.col f.c.at_ m with
                  | none => exact .inl ⟨rfl, rfl, rfl⟩
                  | some d =>
                    cases hgo : d.gone with
                    | true => exact .inr (.inl ⟨d, hgo, by simp [hgo], by simp [hgo], rfl, rfl⟩)
                    | false => exact .inr (.inr ⟨d, hgo, by simp [hgo], by simp [hgo], rfl, rfl⟩)
                clear hnw HCE
                generalize getV t f.c.row f.c.col f.c.at_ = gv at *
                generalize getB t f.c.row f.c.col f.c.at_ = gb at *
                generalize nwC f.c.row f.c.col f.c.at_ m = nc at *
                generalize nwB f.c.row f.c.col f.c.at_ m = nb at *
                go_wp2_with fail
                refine HNW.out.mono ?_
                rintro e w8 ⟨rfl, hb8⟩
                have HM8 := Lib.hid (HM7.out.up I hb8)
                clear hb8 HM7 HI7 HNW d0 d1 d2 d3
                go_wp2_with (refine allocC rfl rfl ?_)
                constructor
                intro w9 hI9 hb9 hz9
                go_wp2_with (refine storeC (c := nc) rfl (.tmp 13) (.tmp 104) rfl rfl rfl hI9 ?_)
                constructor
                intro wx hsx
                have HMX := Lib.hid (HM8.out.up I (hsx.bel hb9 (Nat.le_refl _)))
                obtain ⟨c0, c1, c2, c3, c4⟩ := hsx.i.five
                clear hI9 hb9 hz9 hsx HM8
                rcases HCS.out with ⟨rfl, rfl, rfl⟩ | ⟨d, hgo, rfl, rfl, rfl, rfl⟩ | ⟨d, hgo, rfl, rfl, rfl, rfl⟩
                · clear HCS
                  go_wp2_with fail
                  refine (HMX.out.cells I HGX.out).mono ?_
                  rintro e wy ⟨⟨xy, rfl, hxy⟩, hby⟩
                  have HY := Lib.hid (HMX.out.up I hby)
                  have HXY := Lib.hid hxy
                  clear hxy hby HMX
                  go_wp2_with fail
                  refine (rsameL_self xy _ _ wy HXY.out HY.out.rd0 (by omega)).mono ?_
                  rintro e wz ⟨rfl, hbz⟩
                  have HZ := Lib.hid (HY.out.up I hbz)
                  clear hbz HXY HY
                  go_wp2_with fail
                  go_roundw
                  case rel => exact ⟨k + 1, _, rfl, by go_num, by omega, Lib.hid ⟨_, _, _, HZ.out, HGX.out, HLX.out⟩⟩
                  case measure => simp [intOf]; omega
                · rw [hgo] at c4
                  clear HCS hgo
                  go_wp2_with fail
                  refine (HMX.out.cells I HGX.out).mono ?_
                  rintro e wy ⟨⟨xy, rfl, hxy⟩, hby⟩
                  have HY := Lib.hid (HMX.out.up I hby)
                  have HXY := Lib.hid hxy
                  clear hxy hby HMX
                  go_wp2_with fail
                  refine (rsameL_self xy _ _ wy HXY.out HY.out.rd0 (by omega)).mono ?_
                  rintro e wz ⟨rfl, hbz⟩
                  have HZ := Lib.hid (HY.out.up I hbz)
                  clear hbz HXY HY
                  go_wp2_with fail
                  go_roundw
                  case rel => exact ⟨k + 1, _, rfl, by go_num, by omega, Lib.hid ⟨_, _, _, HZ.out, HGX.out, HLX.out⟩⟩
                  case measure => simp [intOf]; omega
                · rw [hgo] at c4
                  clear HCS hgo
                  go_wp2_with fail
                  refine (HMX.out.cells I HGX.out).mono ?_
                  rintro e wy ⟨⟨xy, rfl, hxy⟩, hby⟩
                  have HY := Lib.hid (HMX.out.up I hby)
                  have HXY := Lib.hid hxy
                  clear hxy hby HMX
                  go_wp2_with fail
                  refine (rsameL_self xy _ _ wy HXY.out HY.out.rd0 (by omega)).mono ?_
                  rintro e wz ⟨rfl, hbz⟩
                  have HZ := Lib.hid (HY.out.up I hbz)
                  clear hbz HXY HY
                  go_wp2_with fail
                  go_roundw
                  case rel => exact ⟨k + 1, _, rfl, by go_num, by omega, Lib.hid ⟨_, _, _, HZ.out, HGX.out, HLX.out⟩⟩
                  case measure => simp [intOf]; omega
              · have g2 : (f.do_ == 2) = false := beq_eq_false_iff_ne.2 h2
                have HSS : Hid (∀ z, Below w6.heap.size w6 z → ActS wo.heap.size f w6 z) := Lib.hid fun z hz => ⟨(HI6.out.up hz).at_ rfl, (HI6.out.up hz).at_ rfl, (HI6.out.up hz).at_ rfl, hz⟩
                have HTT := Lib.hid (HSS.out _ (Below.refl _ _).drew)
                have HD : Hid (Below w6.heap.size w6 w6.drew) := Lib.hid (Below.refl _ _).drew
                have HSC : Hid (∀ z, Below w6.heap.size w6 z → Calls Tryz.prog 19 #[.pointer (some ⟨b, 0, none⟩), .string f.c.row, .string f.c.col, .int .i64 f.c.at_] z fun e z' => (∃ y, e = .returned y ∧ RdL z' [] y (someP f.c.row f.c.col f.c.at_ m)) ∧ Below z.heap.size z z') := Lib.hid fun z hz => by
                  have := (HM6.out.up I hz).scan I f.c.row f.c.col f.c.at_ HGX.out.1 (by omega) (by omega)
                  rwa [HGX.out.2] at this
                have HSO : Hid (∀ z, Below w6.heap.size w6 z → Calls Tryz.prog 20 #[.slice Am m.length cm, .string f.c.row, .string f.c.col, .int .i64 f.c.at_] z fun e z' => (∃ y, e = .returned y ∧ RdL z' [] y (someP f.c.row f.c.col f.c.at_ m)) ∧ Below z.heap.size z z') := Lib.hid fun z hz => by
                  refine (some14_any _ m f.c.row f.c.col f.c.at_ z (HM6.out.up I hz).rd0 HMO.out.2 HMO.out.1 (by omega) (by omega) (by omega)).mono ?_
                  rintro e z' ⟨⟨y, rfl, hy⟩, hb⟩
                  exact ⟨⟨y, rfl, hy.rd (fun _ h => by cases h)⟩, hb⟩
                have hvl : (someP f.c.row f.c.col f.c.at_ m).length ≤ 100 := Nat.le_trans (List.length_filter_le _ _) (Nat.le_trans (List.length_filter_le _ _) (by omega))
                generalize someP f.c.row f.c.col f.c.at_ m = Y at *
                clear h0 h1 h2 HI6
                go_wp2_with fail
                go_region_held3 (fun w' => w'.cell? ⟨wo.heap.size, 1, none⟩ = some (.string f.c.row) ∧ w'.cell? ⟨wo.heap.size, 2, none⟩ = some (.string f.c.col) ∧ w'.cell? ⟨wo.heap.size, 3, none⟩ = some (.int .i64 f.c.at_) ∧ Below w6.heap.size w6 w') (first | exact HTT.out | assumption | (exact HSS.out _ (by assumption)))
                  (first
                    | (go_at_call 18; refine (rsameL_self _ _ Y _ hp1 hp2 (by omega)).mono ?_; rintro e wp3 ⟨rfl, hr3⟩; have hq3 := bwstep hq2 hr3; clear hr3)
                    | (go_at_call 20; refine (HSO.out _ hq1).mono ?_; rintro e wp2 ⟨⟨x2, rfl, hp2⟩, hr2⟩; have hp1 := hp1a.bel hr2; have hq2 := bwstep hq1 hr2; clear hr2 hp1a)
                    | (go_at_call 19; refine (HSC.out _ HD.out).mono ?_; rintro e wp1 ⟨⟨x1, rfl, hp1a⟩, hr1⟩; have hq1 := bwstep HD.out hr1; clear hr1))
                all_goals
                  have HMX := Lib.hid (HM6.out.up I hq3)
                  clear hp1 hp2 hq1 hq2 hq3 d0 d1 d2 d3 HSS HTT HD HSC HSO HM6
                  go_wp2_with fail
                  refine (HMX.out.cells I HGX.out).mono ?_
                  rintro e wy ⟨⟨xy, rfl, hxy⟩, hby⟩
                  have HY := Lib.hid (HMX.out.up I hby)
                  have HXY := Lib.hid hxy
                  clear hxy hby HMX
                  go_wp2_with fail
                  refine (rsameL_self xy _ _ wy HXY.out HY.out.rd0 (by omega)).mono ?_
                  rintro e wz ⟨rfl, hbz⟩
                  have HZ := Lib.hid (HY.out.up I hbz)
                  clear hbz HXY HY
                  go_wp2_with fail
                  go_roundw
                  case rel => exact ⟨k + 1, _, rfl, by go_num, by omega, Lib.hid ⟨_, _, _, HZ.out, HGX.out, HLX.out⟩⟩
                  case measure => simp [intOf]; omega
        · obtain rfl : k = L.length := by omega
          obtain ⟨t, m, K, hmod, -, -⟩ := HT.out
          have HBF := Lib.hid (bwstep HK1.out hmod.bel)
          clear hmod HT
          go_wp2_with fail
          go_ret
          exact ⟨rfl, HBF.out⟩
    · go_wp2_with (refine St.load sfOk rfl (.tmp 2) rfl rfl HI1.out ?_)
      refine (I.new_no s _ hsr).mono ?_
      rintro e w3 ⟨rfl, hb3⟩
      have HK3 := Lib.hid (bwstep HK1.out hb3)
      have HI3 := Lib.hid (HI1.out.up hb3)
      clear hb3 HI1
      go_wp2_with (refine St.load sfOk rfl (.tmp 2) rfl rfl HI3.out ?_)
      refine (right14_any s _).mono ?_
      rintro e w4 ⟨rfl, hb4⟩
      rw [decide_eq_false hsr]
      have HK4 := Lib.hid (bwstep HK3.out hb4)
      clear hb4 HI3
      go_wp2_with fail
      go_ret
      exact ⟨rfl, HK4.out⟩
end Go.Proofs.YtgcbmdolbmmljaaGreat
