/- The contract of cutStarts of package table. -/
import Derived.Test.YtdemdmingelamaaTcp
import Derived.Test.YtdemdmingelamaaTbb
import Derived.Test.YtdemdmingelamaaCpA
import Derived.Test.YtdemdmingelamaaBlmA
namespace Go.Proofs.Ytdemdmingelamaa.Ce
open Go.RowKit Frm

/-- what is told -/
def CutStarts (l : List UInt8) (w : World) (e : Ending) (w' : World) : Prop :=
  (∃ x y ss lf D, e = .returned (.tuple #[x, y]) ∧ Ow w' w.heap.size 3 x (ss.map Blm.nvB) ∧ D ≤ w'.heap.size ∧ Rd w' D y (lf.map bv) ∧ lf.length ≤ l.length ∧ ss.length ≤ l.length ∧ (∀ s ∈ ss, s ≤ 4294967295) ∧ ∀ LL t, FootAt l LL t → ss = starts LL 0 ∧ lf = t) ∧ Below w.heap.size w w'
theorem numOf_le (l : List UInt8) : numOf l ≤ 4294967295 := by
  have := Go.Proofs.Ytdemdmingelamaa.numOf_lt l
  omega
/-- behind k blocks -/
structure StS (l : List UInt8) (k : Nat) (ss : List Nat) (lf : List UInt8) : Prop where
  n : ss.length = k
  le : 4 * k + lf.length ≤ l.length
  b : ∀ s ∈ ss, s ≤ 4294967295
  sto : StartsTo l k ss lf
theorem StS.more {l lf m : List UInt8} {k : Nat} {ss : List Nat} {c : Cl} (h : StS l k ss lf) (hk : k < cnN l) (hS : Stands (lf.take 149) c m) (h4 : 4 ≤ m.length) {q : Nat} (hq : q = (lf.take 149).length - (m.drop 4).length) :
    StS l (k + 1) (ss ++ [numOf m]) (lf.drop q) ∧ q ≤ lf.length ∧ 0 < lf.length := by
  subst hq
  have hl := congrArg List.length hS.2
  have hle := h.le
  rw [List.length_append, List.length_take] at hl
  have := cellB_ge hS.1
  refine ⟨⟨by rw [List.length_append, h.n]; rfl, ?_, fun s hs => ?_, startsTo_more h.sto hk hS⟩, ?_, by omega⟩
  · rw [List.length_drop, List.length_take, List.length_drop]
    omega
  · rcases List.mem_append.1 hs with hs | hs
    · exact h.b s hs
    · rw [List.mem_singleton.1 hs]
      exact numOf_le m
  · rw [List.length_take, List.length_drop]
    omega
set_option maxHeartbeats 2000000 in
set_option maxRecDepth 100000 in
theorem cutStarts_any (v : Value) (l : List UInt8) (B : Nat) (w : World) (hr : Rd w B v (l.map bv)) (hl : l.length ≤ 1000000) :
    Calls Try.prog 44 #[v] w (CutStarts l w) := by
  have hcn := cutNum_any v l B w hr (by omega)
  obtain ⟨N, hN⟩ : ∃ N, N = cnN l := ⟨_, rfl⟩
  rw [← hN] at hcn
  have HS0 : Hid (StS l 0 [] (cnR l)) := Lib.hid ⟨rfl, by have := cnR_len l; omega, fun s hs => (by cases hs), startsTo_zero l⟩
  have HN := Lib.hid hN
  clear hN hr
  go_enter Try.func44, Try.ntmps44
  go_wp2_with fail
  refine hcn.mono ?_
  rintro e w1 ⟨⟨u, q, rfl, hu⟩, hb1⟩
  have HU := Lib.hid hu
  have HB1 := Lib.hid hb1
  clear hcn hu hb1
  go_wp2_with fail
  go_loopw [5, 7, 21] (fun lv sv i wr => ∃ (k : Nat) (ss : List Nat) (lf : List UInt8), k ≤ N ∧ i = .int .i64 (k : Int) ∧ Ow wr w1.heap.size 3 sv (ss.map Blm.nvB) ∧ Rd wr w1.heap.size lv (lf.map bv) ∧ Hid (StS l k ss lf) ∧ Below w1.heap.size w1 wr) (fun _ _ i _ => N - (intOf i).toNat)
  case atStart => exact ⟨0, [], cnR l, by omega, rfl, Ow.nil _ _ _, HU.out.rd, HS0, Below.refl _ _⟩
  case round =>
    obtain ⟨k, ss, lf, hk, rfl, ho, hf, HS, hbw⟩ := hrel
    have hle := HS.out.le
    have hsl := HS.out.n
    have hkb : k ≤ 1000000 := by omega
    have HBW := Lib.hid hbw
    have HO := Lib.hid ho
    have HF := Lib.hid hf
    clear ho hf hbw
    by_cases hlt : k < N
    · have HLT : Hid (k < cnN l) := Lib.hid (by rw [← HN.out]; exact hlt)
      obtain ⟨Af, cf, rfl, hfc, hfm⟩ := HF.out.shapeM
      unfold maxLen at hfm
      obtain ⟨n, hn⟩ : ∃ n, n = min lf.length 149 := ⟨_, rfl⟩
      have hkl : (lf.take 149).length = n := by rw [List.length_take]; omega
      have hk1 : n ≤ lf.length := by omega
      have hk2 : min (lf.length : Int) 149 = (n : Int) := by omega
      have htk : lf.take 149 = lf.take n := by
        rw [hn]
        by_cases h : lf.length ≤ 149
        · rw [List.take_of_length_le h, Nat.min_eq_left h, List.take_length]
        · rw [Nat.min_eq_right (by omega)]
      have hrh := HF.out.cutTo (hi := n) hk1
      rw [← List.map_take, ← htk] at hrh
      have hk0 : (0 : Int) ≤ (n : Int) := by omega
      have hk3 : (n : Int) ≤ (lf.length : Int) := by omega
      have hk4 : (n : Int) ≤ (cf : Int) := by omega
      obtain ⟨wo, hwo⟩ : ∃ wo, wo = wr := ⟨_, rfl⟩
      subst hwo
      by_cases hst : ∃ c m, Stands (lf.take 149) c m
      · obtain ⟨c, m, hs⟩ := hst
        have hcu := cut_ok _ _ m c _ wo hrh HBW.out.size (by omega) hs
        by_cases h4 : 4 ≤ m.length
        · have hml : m.length ≤ n := by
            have := congrArg List.length hs.2
            rw [hkl, List.length_append] at this
            omega
          obtain ⟨q, hq⟩ : ∃ q, q = (lf.take 149).length - (m.drop 4).length := ⟨_, rfl⟩
          obtain ⟨hS1, hql, hlp⟩ := HS.out.more HLT.out hs h4 hq
          have HS1 := Lib.hid hS1
          obtain ⟨y, hy⟩ : ∃ y, (m.drop 4).length = y := ⟨_, rfl⟩
          have HY := Lib.hid hy
          have hyn : y ≤ n := by rw [← hy, List.length_drop]; omega
          rw [hkl, hy] at hq
          have hqi : (n : Int) - (y : Int) = (q : Int) := by omega
          have hq0 : (0 : Int) ≤ (q : Int) := by omega
          have hwq : IntKind.i64.wrap (q : Int) = (q : Int) := by rw [IntKind.wrap_i64]; omega
          have hq3 : (q : Int) ≤ (lf.length : Int) := by omega
          have hq4 : (lf.length : Int) ≤ (cf : Int) := by omega
          have hM4 := numOf_le m
          have hcm := fun (w : World) (v : Value) (hr : Rd w w.heap.size v (m.map bv)) => cutNum_ok v m w.heap.size w hr h4 (by omega)
          have hcE : cf = q → ∀ wz, Below w1.heap.size w1 wz → Rd wz w1.heap.size (.slice Af 0 0) ((lf.drop q).map bv) := fun e wz hb => by
            subst e
            have := (HF.out).fromEnd hql
            rw [← List.map_drop] at this
            obtain ⟨A', c', e', p1, p2, p3⟩ := this
            injection e' with e1 e2 e3
            have : lf.drop cf = [] := List.eq_nil_of_length_eq_zero (by simpa using e2.symm)
            rw [this]
            exact ⟨Af, 0, rfl, Nat.le_refl _, by simp [maxLen], fun h => absurd h (by simp)⟩
          have hcN : ¬ cf = q → Rd wo w1.heap.size (.slice (Af.map fun x => x.add q) (lf.length - q) (cf - q)) ((lf.drop q).map bv) := fun e => by
            have := HF.out.from_ hql e
            rwa [← List.map_drop] at this
          have HCE := Lib.hid hcE
          have HCN := Lib.hid hcN
          have hl1 : (ss.map Blm.nvB).length + ([numOf m].map Blm.nvB).length ≤ maxLen := by simp [maxLen]; omega
          have hl2 : ((ss.map Blm.nvB).length + ([numOf m].map Blm.nvB).length) * 8 ≤ 140737488355328 := by simp; omega
          have HL1 := Lib.hid hl1
          have HL2 := Lib.hid hl2
          have HQE : Hid (cf = q → lf.length = q) := Lib.hid fun e => by omega
          have HMA : Hid (List.map Blm.nvB ss ++ List.map Blm.nvB [numOf m] = List.map Blm.nvB (ss ++ [numOf m])) := Lib.hid (by rw [List.map_append])
          clear hn hkl hk1 htk hrh hs hml hS1 hcE hcN hl1 hl2 hlp hle hsl hq hyn
          generalize numOf m = z at *
          generalize lf.drop q = lfq at *
          go_wp2_with fail
          refine hcu.mono ?_
          rintro e w2 ⟨⟨r2, rfl, hr2⟩, hb2⟩
          have HB2 := Lib.hid (bwstep HBW.out hb2)
          have HB2o := Lib.hid hb2
          have HR2 := Lib.hid hr2
          clear hb2 hr2 hcu
          go_wp2_with (refine allocC rfl rfl ?_)
          constructor
          intro w3 hI3 hb3 hz3
          go_wp2_with (refine storeC (c := c) rfl (.tmp 9) (.tmp 31) rfl rfl rfl hI3 ?_)
          constructor
          intro w4 hs4
          have hb4 := hs4.bel hb3 (Nat.le_refl _)
          have HB4 := Lib.hid (bwstep HB2o.out hb4)
          have HR4 := Lib.hid (HR2.out.below hb4).rd
          clear hI3 hb3 hz3 hs4 hb4
          go_wp2_with fail
          refine (hcm _ _ HR4.out).mono ?_
          rintro e w5 ⟨r5, rfl, hr5, hb5⟩
          have HB5 := Lib.hid (bwstep HB4.out hb5)
          have HB15 := Lib.hid (bwstep HBW.out HB5.out)
          obtain ⟨A5, c5, hv5, -, -⟩ := hr5.rd.shapeM
          rw [HY.out] at hv5
          subst hv5
          have HO5 := HO.out.below HB5.out
          have bA := bwalloc (bwrefl w5) (.cells #[.int .i64 (z : Int)] 3)
          have hx0 := Rd.newW (xs := [z].map Blm.nvB) w5 3 #[.int .i64 (z : Int)] rfl (by simp [maxLen]) rfl
          have hx1 := hx0.up (bwrefl (w5.alloc (.cells #[.int .i64 (z : Int)] 3))).drew
          have ho1 := HO5.below bA.drew
          have hB1 := Nat.le_trans HB15.out.size bA.size
          have hBA := bwstep HB15.out bA.drew
          have bA2 := bA.drew
          clear hb5 hr5 hx0 bA hy
          by_cases hcc : cf = q
          · have hCE := Lib.hid (HCE.out hcc)
            have HLL := Lib.hid (HQE.out hcc)
            clear HCE HCN HQE
            subst hcc
            have hlc := HLL.out
            clear hfc hq3 hq4 hql
            rw [hlc] at *
            clear hlc
            go_wp2_with fail
            go_region_law (refine step_appE Blm.natsT rfl rfl (.tmp 42) (.tmp 44) rfl (by simp [Act.eval]) ho1 (by simp [Act.eval]) hx1 (Blm.one_nv _) HL1.out HL2.out hB1 ?_; intro v6 w6 o6 g6 h6; have HO6 := Lib.hid o6; have HB6 := Lib.hid (hBA.grown g6 hB1 (fun k hk => (ho1.lt k hk).1)); clear o6 g6 h6 ho1 hx1)
            go_wp2_with fail
            rw [HMA.out] at HO6
            go_roundw
            case rel => exact ⟨k + 1, _, _, by omega, by go_num, HO6.out, hCE.out w6 HB6.out, HS1, HB6.out⟩
            case measure => simp [intOf]; omega
          · have HCM := Lib.hid (HCN.out hcc)
            clear HCE HCN HQE
            go_wp2_with fail
            go_region_law (refine step_appE Blm.natsT rfl rfl (.tmp 42) (.tmp 44) rfl (by simp [Act.eval]) ho1 (by simp [Act.eval]) hx1 (Blm.one_nv _) HL1.out HL2.out hB1 ?_; intro v6 w6 o6 g6 h6; have HO6 := Lib.hid o6; have HB6 := Lib.hid (hBA.grown g6 hB1 (fun k hk => (ho1.lt k hk).1)); have HBO6 := Lib.hid (((bwstep HB5.out bA2).mono HBW.out.size).grown g6 hB1 (fun k hk => (ho1.lt k hk).1)); clear o6 g6 h6 ho1 hx1)
            go_wp2_with fail
            rw [HMA.out] at HO6
            go_roundw
            case rel => exact ⟨k + 1, _, _, by omega, by go_num, HO6.out, HCM.out.below HBO6.out, HS1, HB6.out⟩
            case measure => simp [intOf]; omega
        · have HNO : Hid (∀ LL t, FootAt l LL t → ([] : List Nat) = starts LL 0 ∧ ([] : List UInt8) = t) := Lib.hid fun LL t hf => startsTo_all (startsTo_none HS.out.sto HLT.out (fun c' m' hs' => by obtain ⟨-, rfl⟩ := hs.one hs'; exact h4) [] [] _) hf
          have h40 : m.length < 4 := by omega
          have H40 := Lib.hid h40
          clear hn hkl hk1 htk hrh hs h4 h40
          go_wp2_with fail
          refine hcu.mono ?_
          rintro e w2 ⟨⟨r2, rfl, hr2⟩, hb2⟩
          have HB2 := Lib.hid (bwstep HBW.out hb2)
          have HR2 := Lib.hid hr2
          clear hb2 hr2 hcu
          go_wp2_with (refine allocC rfl rfl ?_)
          constructor
          intro w3 hI3 hb3 hz3
          go_wp2_with (refine storeC (c := c) rfl (.tmp 9) (.tmp 31) rfl rfl rfl hI3 ?_)
          constructor
          intro w4 hs4
          have hb4 := hs4.bel hb3 (Nat.le_refl _)
          have HB4 := Lib.hid (bwstep HB2.out hb4)
          have HR4 := Lib.hid (HR2.out.below hb4).rd
          clear hI3 hb3 hz3 hs4 hb4
          go_wp2_with fail
          refine (cutNum_no _ m _ _ HR4.out H40.out).mono ?_
          rintro e w5 ⟨r5, rfl, -, hb5⟩
          have HB5 := Lib.hid (bwstep HB1.out (bwstep HB4.out hb5))
          clear hb5
          go_wp2_with fail
          go_ret2
          exact ⟨⟨_, _, [], [], 0, rfl, Ow.nil _ _ _, Nat.zero_le _, Rd.nil _ _, by simp, by simp, fun s hs => (by cases hs), HNO.out⟩, HB5.out⟩
      · have hcu := cut_no _ (lf.take 149) _ wo hrh HBW.out.size (by omega) hst
        have HNO : Hid (∀ LL t, FootAt l LL t → ([] : List Nat) = starts LL 0 ∧ ([] : List UInt8) = t) := Lib.hid fun LL t hf => startsTo_all (startsTo_none HS.out.sto HLT.out (fun c' m' hs' => absurd ⟨c', m', hs'⟩ hst) [] [] _) hf
        clear hn hkl hk1 htk hrh hst
        go_wp2_with fail
        refine hcu.mono ?_
        rintro e w2 ⟨rfl, hb2⟩
        have HB2 := Lib.hid (bwstep HBW.out hb2)
        clear hb2 hcu
        go_wp2_with (refine allocC rfl rfl ?_)
        constructor
        intro w3 hI3 hb3 hz3
        go_wp2_with (refine storeC (c := Cl.zero) rfl (.tmp 9) (.tmp 31) rfl rfl rfl hI3 ?_)
        constructor
        intro w4 hs4
        have HB4 := Lib.hid (bwstep HB2.out (hs4.bel hb3 (Nat.le_refl _)))
        clear hI3 hb3 hz3 hs4
        go_wp2_with fail
        refine (cutNum_no _ [] 0 _ (Rd.nil _ _) (by simp)).mono ?_
        rintro e w5 ⟨r5, rfl, -, hb5⟩
        have HB5 := Lib.hid (bwstep HB1.out (bwstep HB4.out hb5))
        clear hb5
        go_wp2_with fail
        go_ret2
        exact ⟨⟨_, _, [], [], 0, rfl, Ow.nil _ _ _, Nat.zero_le _, Rd.nil _ _, by simp, by simp, fun s hs => (by cases hs), HNO.out⟩, HB5.out⟩
    · obtain rfl : k = N := by omega
      have HFIN : Hid (∀ LL t, FootAt l LL t → ss = starts LL 0 ∧ lf = t) := Lib.hid fun LL t hf => startsTo_all (HN.out ▸ HS.out.sto) hf
      have hbb := HS.out.b
      have HBS := Lib.hid hbb
      clear hbb
      go_wp2_with fail
      go_ret2
      exact ⟨⟨_, _, ss, lf, _, rfl, HO.out.mono HB1.out.size, HBW.out.size, HF.out, by omega, by omega, HBS.out, HFIN.out⟩, bwstep HB1.out HBW.out⟩
end Go.Proofs.Ytdemdmingelamaa.Ce
