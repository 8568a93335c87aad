/- The contracts of the reference functions of layer 13: newest, Visible, Clean, All, Sorts. -/
import Derived.Test.YtknkdehjgkjljaaMgP
import Derived.Test.YtknkdehjgkjljaaCbA
import Derived.Test.YtknkdehjgkjljaaCsA
import Derived.Test.YtknkdehjgkjljaaCpo
namespace Go.Proofs.Ytknkdehjgkjljaa.Ce
open Go.RowKit

theorem isNewB_eq (L : List Cl) (t : Int) (c : Cl) : isNewB L t c = (nwB c.row c.col t L && decide (nwC c.row c.col t L = c)) := by
  unfold isNewB nwB nwC
  cases newest c.row c.col t L with
  | none => rfl
  | some d =>
    rw [Option.isSome_some, Bool.true_and, Option.getD_some, Bool.eq_iff_iff, beq_iff_eq, decide_eq_true_iff]
    exact ⟨fun h => Option.some.inj h, fun h => by rw [h]⟩
set_option maxHeartbeats 2000000 in
set_option maxRecDepth 100000 in
theorem mnew_any (v : Value) (L : List Cl) (c : Cl) (t : Int) (w : World) (hv : RdL w [] v L) (hs : Srt L) (hL : L.length ≤ 1000000000) (hok : ∀ c ∈ L, c.ok) :
    Calls Try.prog 31 #[v, c.v, .int .i64 t] w fun e w' => e = .returned (.bool (isNewB L t c)) ∧ Below w.heap.size w w' := by
  have HR : Hid (∀ w', Below w.heap.size w w' → Calls Try.prog 39 #[v, .string c.row, .string c.col, .int .i64 t] w' fun e w2 => e = .returned (.tuple #[(nwC c.row c.col t L).v, .bool (nwB c.row c.col t L)]) ∧ Below w'.heap.size w' w2) := Lib.hid fun w' hb => rnewest_any v L c.row c.col t w' (hv.bel hb) hs hL hok
  have HE := Lib.hid (isNewB_eq L t c)
  clear hv hs hok
  generalize nwC c.row c.col t L = x at HR HE
  generalize nwB c.row c.col t L = b at HR HE
  go_enter Try.func31, Try.ntmps31
  go_wp2_with (refine boxC rfl (.tmp 1) c rfl rfl ?_)
  constructor
  intro w1 hI1 hb1 hz1
  have c0 := hI1.c0
  have c1 := hI1.c1
  have HI1 := Lib.hid hI1
  have HB1 := Lib.hid hb1
  clear hI1 hb1 hz1
  go_wp2_with fail
  refine (HR.out _ HB1.out).mono ?_
  rintro e w2 ⟨rfl, hb2⟩
  have HI2 := Lib.hid (HI1.out.up hb2)
  have HB2 := Lib.hid (bwstep HB1.out hb2)
  clear c0 c1 hb2
  go_wp2_with (refine allocC rfl rfl ?_)
  constructor
  intro w3 hI3 hb3 hz3
  have hne : w.heap.size ≠ w2.heap.size := by have := HI2.out.lt; omega
  go_wp2_with (refine storeC (c := x) rfl (.tmp 7) (.tmp 17) rfl rfl rfl hI3 ?_)
  constructor
  intro w4 hs4
  have HX4 := Lib.hid hs4.i
  have HI4 := Lib.hid (hs4.up (HI2.out.up hb3) hne)
  have HB4 := Lib.hid (bwstep HB2.out (hs4.bel hb3 (Nat.le_refl _)))
  clear hI3 hb3 hz3 hs4 HI2 HB2
  cases b
  · have HF : Hid (isNewB L t c = false) := Lib.hid (by rw [HE.out]; rfl)
    go_wp2_with fail
    go_ret
    rw [HF.out]
    exact ⟨rfl, HB4.out⟩
  · have HF : Hid (isNewB L t c = decide (x = c)) := Lib.hid (by rw [HE.out]; rfl)
    go_wp2_with (first
      | (refine loadC rfl (.tmp 7) rfl rfl HX4.out ?_)
      | (refine loadC rfl (.tmp 4) rfl rfl HI4.out ?_)
      | (refine eqC rfl (.tmp 21) (.tmp 22) _ rfl x c rfl rfl rfl ?_))
    go_ret
    rw [HF.out]
    exact ⟨rfl, HB4.out⟩
theorem filter_snoc {L : List Cl} {k : Nat} {f : Cl} (h : L[k]? = some f) (p : Cl → Bool) : (L.take (k + 1)).filter p = (L.take k).filter p ++ (if p f = true then [f] else []) := by
  obtain ⟨hl, rfl⟩ := List.getElem?_eq_some_iff.1 h
  rw [List.take_succ_eq_append_getElem hl, List.filter_append]
  congr 1
  cases hp : p L[k] <;> simp [hp]
set_option maxHeartbeats 4000000 in
set_option maxRecDepth 100000 in
theorem rvis_any (v : Value) (L : List Cl) (t : Int) (w : World) (hv : RdL w [] v L) (hs : Srt L) (hL : L.length ≤ 1000000000) (hok : ∀ c ∈ L, c.ok) :
    Calls Try.prog 21 #[v, .int .i64 t] w fun e w' => (∃ x, e = .returned x ∧ OwL w' w.heap.size x (visP t L)) ∧ Below w.heap.size w w' := by
  obtain ⟨A, c, rfl, hc, hm⟩ := hv.shape
  unfold maxLen at hm
  have HV := Lib.hid hv
  have HN : Hid (∀ f w', Below w.heap.size w w' → Calls Try.prog 31 #[.slice A L.length c, f.v, .int .i64 t] w' fun e w2 => e = .returned (.bool (isNewB L t f)) ∧ Below w'.heap.size w' w2) := Lib.hid fun f w' hb => mnew_any _ L f t w' (hv.bel hb) hs hL hok
  clear hv hs hok
  go_enter Try.func21, Try.ntmps21
  go_wp2_with fail
  go_loopw [5, 6] (fun o i wr => ∃ k : Nat, k ≤ L.length ∧ i = .int .i64 (k : Int) ∧ Hid (OwL wr w.heap.size o ((L.take k).filter fun c => isNewB L t c && !c.gone)) ∧ Below w.heap.size w wr) (fun _ i _ => L.length - (intOf i).toNat)
  case atStart => exact ⟨0, by omega, rfl, Lib.hid (by simpa using OwL.nil _ _), Below.refl _ _⟩
  case round =>
    obtain ⟨k, hk, rfl, HO, hbw⟩ := hrel
    have HBW := Lib.hid hbw
    by_cases hlt : k < L.length
    · obtain ⟨b, off, rfl, -, -⟩ := HV.out.open_ (by omega)
      have hh3 : (0 : Int) ≤ (k : Int) := by omega
      have hh4 : (k : Int) < (L.length : Int) := by omega
      have hfk : L[k]? = some (L[k]'hlt) := List.getElem?_eq_getElem _
      generalize L[k]'hlt = f at hfk
      have HF5 : Hid (∀ z, Below w.heap.size w z → FiveAt b (off + k * 5) f z) := Lib.hid fun z hz => ((HV.out.bel hz).at_ hfk).1
      have HS := Lib.hid (filter_snoc hfk fun c => isNewB L t c && !c.gone)
      have hnf := fun z hz => HN.out f z hz
      obtain ⟨c0, c1, c2, c3, c4⟩ := HF5.out _ hbw
      have hlen : ((L.take k).filter fun c => isNewB L t c && !c.gone).length ≤ 1000000000 := Nat.le_trans (List.length_filter_le _ _) (by simp; omega)
      generalize (L.take k).filter (fun c => isNewB L t c && !c.gone) = F at HO HS hlen
      clear hfk hbw
      generalize isNewB L t f = q at HS hnf
      have HN2 := Lib.hid hnf
      clear hnf
      obtain ⟨wo, hwo⟩ : ∃ wo, wo = wr := ⟨_, rfl⟩
      subst hwo
      go_wp2_with fail
      refine (HN2.out _ HBW.out).mono ?_
      rintro e w2 ⟨rfl, hb2⟩
      have HO2 := Lib.hid (HO.out.below hb2)
      have HB2 := Lib.hid (bwstep HBW.out hb2)
      clear c0 c1 c2 c3 c4 hb2 HN2
      obtain ⟨c0, c1, c2, c3, c4⟩ := HF5.out _ HB2.out
      cases hq : (q && !f.gone)
      · have HE : Hid (((L.take (k + 1)).filter fun c => isNewB L t c && !c.gone) = F) := Lib.hid (by rw [HS.out, hq]; simp)
        clear HS
        cases q
        · clear hq
          go_wp2_with fail
          go_roundw
          case rel => exact ⟨k + 1, by omega, by go_num, Lib.hid (by rw [HE.out]; exact HO2.out), HB2.out⟩
          case measure => simp [intOf]; omega
        · have hg : f.gone = true := by simpa using hq
          clear hq
          rw [hg] at c4
          clear hg
          go_wp2_with fail
          go_roundw
          case rel => exact ⟨k + 1, by omega, by go_num, Lib.hid (by rw [HE.out]; exact HO2.out), HB2.out⟩
          case measure => simp [intOf]; omega
      · have HE : Hid (((L.take (k + 1)).filter fun c => isNewB L t c && !c.gone) = F ++ [f]) := Lib.hid (by rw [HS.out, hq]; simp)
        clear HS
        obtain ⟨hq1, hg⟩ : q = true ∧ f.gone = false := by simpa using hq
        clear hq
        subst hq1
        have hx := RdL.one w2 [] f (by simp) 35
        have ho2 := HO2.out.below (bwalloc (bwrefl w2) (.cells #[.string f.row, .string f.col, .int .i64 f.at_, .string f.val, .bool f.gone] 35))
        have hb2 := bwalloc HB2.out (.cells #[.string f.row, .string f.col, .int .i64 f.at_, .string f.val, .bool f.gone] 35)
        have hs2 := hb2.size
        have hl2 : F.length + [f].length ≤ 2199023255552 := by simp; omega
        rw [hg] at c4 hx ho2 hb2 hs2
        clear hg
        go_wp2_with (at_builtin; refine wpList_appL rfl (.tmp 28) (.tmp 33) rfl rfl ho2 rfl hx hl2 hs2 ?_; intro v3 w3 ho3 hg3 _; have HO3 := Lib.hid ho3; have HB3 := Lib.hid (hb2.grown hg3 hs2 (fun q hq => (ho2.lt q hq).1)); clear ho3 hg3)
        go_roundw
        case rel => exact ⟨k + 1, by omega, by go_num, Lib.hid (by rw [HE.out]; exact HO3.out), HB3.out⟩
        case measure => simp [intOf]; omega
    · obtain rfl : k = L.length := by omega
      rw [List.take_length] at HO
      go_wp2_with fail
      go_ret
      exact ⟨⟨_, rfl, HO.out⟩, HBW.out⟩
set_option maxHeartbeats 4000000 in
set_option maxRecDepth 100000 in
theorem rclean_any (v : Value) (L : List Cl) (t : Int) (w : World) (hv : RdL w [] v L) (hs : Srt L) (hL : L.length ≤ 1000000000) (hok : ∀ c ∈ L, c.ok) :
    Calls Try.prog 19 #[v, .int .i64 t] w fun e w' => (∃ x, e = .returned x ∧ OwL w' w.heap.size x (cleanP t L)) ∧ Below w.heap.size w w' := by
  obtain ⟨A, c, rfl, hc, hm⟩ := hv.shape
  unfold maxLen at hm
  have HV := Lib.hid hv
  have HN : Hid (∀ f w', Below w.heap.size w w' → Calls Try.prog 31 #[.slice A L.length c, f.v, .int .i64 t] w' fun e w2 => e = .returned (.bool (isNewB L t f)) ∧ Below w'.heap.size w' w2) := Lib.hid fun f w' hb => mnew_any _ L f t w' (hv.bel hb) hs hL hok
  clear hv hs hok
  go_enter Try.func19, Try.ntmps19
  go_wp2_with fail
  go_loopw [5, 6] (fun o i wr => ∃ k : Nat, k ≤ L.length ∧ i = .int .i64 (k : Int) ∧ Hid (OwL wr w.heap.size o ((L.take k).filter fun c => decide (t < c.at_) || (isNewB L t c && !c.gone))) ∧ Below w.heap.size w wr) (fun _ i _ => L.length - (intOf i).toNat)
  case atStart => exact ⟨0, by omega, rfl, Lib.hid (by simpa using OwL.nil _ _), Below.refl _ _⟩
  case round =>
    obtain ⟨k, hk, rfl, HO, hbw⟩ := hrel
    have HBW := Lib.hid hbw
    by_cases hlt : k < L.length
    · obtain ⟨b, off, rfl, -, -⟩ := HV.out.open_ (by omega)
      have hh3 : (0 : Int) ≤ (k : Int) := by omega
      have hh4 : (k : Int) < (L.length : Int) := by omega
      have hfk : L[k]? = some (L[k]'hlt) := List.getElem?_eq_getElem _
      generalize L[k]'hlt = f at hfk
      have HF5 : Hid (∀ z, Below w.heap.size w z → FiveAt b (off + k * 5) f z) := Lib.hid fun z hz => ((HV.out.bel hz).at_ hfk).1
      have HS := Lib.hid (filter_snoc hfk fun c => decide (t < c.at_) || (isNewB L t c && !c.gone))
      have hnf := fun z hz => HN.out f z hz
      obtain ⟨c0, c1, c2, c3, c4⟩ := HF5.out _ hbw
      have hlen : ((L.take k).filter fun c => decide (t < c.at_) || (isNewB L t c && !c.gone)).length ≤ 1000000000 := Nat.le_trans (List.length_filter_le _ _) (by simp; omega)
      generalize (L.take k).filter (fun c => decide (t < c.at_) || (isNewB L t c && !c.gone)) = F at HO HS hlen
      clear hfk hbw
      generalize isNewB L t f = q at HS hnf
      have HN2 := Lib.hid hnf
      clear hnf
      obtain ⟨wo, hwo⟩ : ∃ wo, wo = wr := ⟨_, rfl⟩
      subst hwo
      have hl2 : F.length + [f].length ≤ 2199023255552 := by simp; omega
      by_cases htf : t < f.at_
      · have hdt : decide (t < f.at_) = true := decide_eq_true htf
        have HE : Hid (((L.take (k + 1)).filter fun c => decide (t < c.at_) || (isNewB L t c && !c.gone)) = F ++ [f]) := Lib.hid (by rw [HS.out, hdt]; simp)
        have hx := RdL.one wo [] f (by simp) 35
        have ho2 := HO.out.below (bwalloc (bwrefl wo) (.cells #[.string f.row, .string f.col, .int .i64 f.at_, .string f.val, .bool f.gone] 35))
        have hb2 := bwalloc HBW.out (.cells #[.string f.row, .string f.col, .int .i64 f.at_, .string f.val, .bool f.gone] 35)
        have hs2 := hb2.size
        clear HS HN2
        go_wp2_with (at_builtin; refine wpList_appL rfl (.tmp 37) (.tmp 42) rfl rfl ho2 rfl hx hl2 hs2 ?_; intro v3 w3 ho3 hg3 _; have HO3 := Lib.hid ho3; have HB3 := Lib.hid (hb2.grown hg3 hs2 (fun q hq => (ho2.lt q hq).1)); clear ho3 hg3)
        go_roundw
        case rel => exact ⟨k + 1, by omega, by go_num, Lib.hid (by rw [HE.out]; exact HO3.out), HB3.out⟩
        case measure => simp [intOf]; omega
      · have hdt : decide (t < f.at_) = false := decide_eq_false htf
        rw [hdt, Bool.false_or] at HS
        go_wp2_with fail
        refine (HN2.out _ HBW.out).mono ?_
        rintro e w2 ⟨rfl, hb2⟩
        have HO2 := Lib.hid (HO.out.below hb2)
        have HB2 := Lib.hid (bwstep HBW.out hb2)
        clear c0 c1 c2 c3 c4 hb2 HN2
        obtain ⟨c0, c1, c2, c3, c4⟩ := HF5.out _ HB2.out
        cases hq : (q && !f.gone)
        · have HE : Hid (((L.take (k + 1)).filter fun c => decide (t < c.at_) || (isNewB L t c && !c.gone)) = F) := Lib.hid (by rw [HS.out, hq]; simp)
          clear HS
          cases q
          · clear hq
            go_wp2_with fail
            go_roundw
            case rel => exact ⟨k + 1, by omega, by go_num, Lib.hid (by rw [HE.out]; exact HO2.out), HB2.out⟩
            case measure => simp [intOf]; omega
          · have hg : f.gone = true := by simpa using hq
            clear hq
            rw [hg] at c4
            clear hg
            go_wp2_with fail
            go_roundw
            case rel => exact ⟨k + 1, by omega, by go_num, Lib.hid (by rw [HE.out]; exact HO2.out), HB2.out⟩
            case measure => simp [intOf]; omega
        · have HE : Hid (((L.take (k + 1)).filter fun c => decide (t < c.at_) || (isNewB L t c && !c.gone)) = F ++ [f]) := Lib.hid (by rw [HS.out, hq]; simp)
          clear HS
          obtain ⟨hq1, hg⟩ : q = true ∧ f.gone = false := by simpa using hq
          clear hq
          subst hq1
          have hx := RdL.one w2 [] f (by simp) 35
          have ho2 := HO2.out.below (bwalloc (bwrefl w2) (.cells #[.string f.row, .string f.col, .int .i64 f.at_, .string f.val, .bool f.gone] 35))
          have hb2 := bwalloc HB2.out (.cells #[.string f.row, .string f.col, .int .i64 f.at_, .string f.val, .bool f.gone] 35)
          have hs2 := hb2.size
          rw [hg] at c4 hx ho2 hb2 hs2
          clear hg
          go_wp2_with (at_builtin; refine wpList_appL rfl (.tmp 37) (.tmp 42) rfl rfl ho2 rfl hx hl2 hs2 ?_; intro v3 w3 ho3 hg3 _; have HO3 := Lib.hid ho3; have HB3 := Lib.hid (hb2.grown hg3 hs2 (fun q hq => (ho2.lt q hq).1)); clear ho3 hg3)
          go_roundw
          case rel => exact ⟨k + 1, by omega, by go_num, Lib.hid (by rw [HE.out]; exact HO3.out), HB3.out⟩
          case measure => simp [intOf]; omega
    · obtain rfl : k = L.length := by omega
      rw [List.take_length] at HO
      go_wp2_with fail
      go_ret
      exact ⟨⟨_, rfl, HO.out⟩, HBW.out⟩
theorem over_snoc {M acc : List Cl} {k : Nat} {f : Cl} (h : M[k]? = some f) : over (M.take (k + 1)) acc = put1 f (over (M.take k) acc) := by
  obtain ⟨hl, rfl⟩ := List.getElem?_eq_some_iff.1 h
  unfold over
  rw [List.take_succ_eq_append_getElem hl, List.foldl_append]
  rfl
theorem all_drop {LL : List (List Cl)} {j : Nat} {M : List Cl} (h : LL[j]? = some M) : allP (LL.drop j) = over M (allP (LL.drop (j + 1))) := by
  obtain ⟨hl, rfl⟩ := List.getElem?_eq_some_iff.1 h
  rw [List.drop_eq_getElem_cons hl, allP_cons]
theorem all_len : ∀ LL : List (List Cl), (allP LL).length ≤ LL.flatten.length
  | [] => by simp [allP]
  | M :: LL => by
    have h1 := all_len LL
    have h2 := len_over M (allP LL)
    rw [allP_cons, List.flatten_cons, List.length_append]
    omega
theorem flatten_drop_le (LL : List (List Cl)) (j : Nat) : (LL.drop j).flatten.length ≤ LL.flatten.length := by
  have := congrArg (fun X : List (List Cl) => X.flatten.length) (List.take_append_drop j LL)
  simp only [List.flatten_append, List.length_append] at this
  omega
theorem mem_flatten_le {LL : List (List Cl)} {M : List Cl} (h : M ∈ LL) : M.length ≤ LL.flatten.length := by
  obtain ⟨a, b, rfl⟩ := List.append_of_mem h
  simp only [List.flatten_append, List.flatten_cons, List.length_append]
  omega
set_option maxHeartbeats 4000000 in
set_option maxRecDepth 100000 in
theorem rall_any (v : Value) (LL : List (List Cl)) (w : World) (hv : RdB w v LL) (hok : ∀ M ∈ LL, ∀ c ∈ M, c.ok) (hl : LL.flatten.length ≤ 400000) (hn : LL.length ≤ 1000000) :
    Calls Try.prog 15 #[v] w fun e w' => (∃ x, e = .returned x ∧ OwL w' w.heap.size x (allP LL)) ∧ Below w.heap.size w w' := by
  obtain ⟨A, c, rfl, hc, hm⟩ := hv.shape
  unfold maxLen at hm
  have HV := Lib.hid hv
  have HOK := Lib.hid hok
  have HLN := Lib.hid hl
  clear hv hok
  go_enter Try.func15, Try.ntmps15
  go_wp2_with fail
  go_loopw [3, 4, 5] (fun o i _ wr => ∃ j : Nat, j ≤ LL.length ∧ i = .int .i64 ((j : Int) - 1) ∧ Hid (OwL wr w.heap.size o (allP (LL.drop j))) ∧ Below w.heap.size w wr) (fun _ i _ _ => (intOf i + 1).toNat)
  case atStart => exact ⟨LL.length, Nat.le_refl _, vi (by simp), Lib.hid (by rw [List.drop_length]; exact OwL.nil _ _), Below.refl _ _⟩
  case round =>
    obtain ⟨j, hj, rfl, HO, hbw⟩ := hrel
    have HBW := Lib.hid hbw
    by_cases hp : 0 < j
    · obtain ⟨i, rfl⟩ : ∃ i, j = i + 1 := ⟨j - 1, by omega⟩
      have hi1 : (((i + 1 : Nat) : Int) - 1) = (i : Int) := by omega
      rw [hi1]
      clear hi1
      have hlt : i < LL.length := by omega
      have hfk : LL[i]? = some (LL[i]'hlt) := List.getElem?_eq_getElem _
      generalize LL[i]'hlt = M at hfk
      have hMm := List.mem_of_getElem? hfk
      have HAD := Lib.hid (all_drop hfk)
      have HMK := Lib.hid (HOK.out M hMm)
      have hMl := mem_flatten_le hMm
      have hal := Nat.le_trans (all_len (LL.drop (i + 1))) (flatten_drop_le LL (i + 1))
      have hAO : ∀ c ∈ allP (LL.drop (i + 1)), c.ok := ok_all fun A hA => HOK.out A (List.mem_of_mem_drop hA)
      obtain ⟨b, off, rfl, hb⟩ := HV.out.open_ (by omega)
      obtain ⟨A1, c1, hc1, hcl1, hcm1, hr1⟩ := HV.out.row hfk
      unfold maxLen at hcm1
      have HRW : Hid (∀ z, Below w.heap.size w z → z.cell? ⟨b, off + i, none⟩ = some (.slice A1 M.length c1)) := Lib.hid fun z hz => (hz.cell (by exact hb)).trans hc1
      have HR1 := Lib.hid hr1
      generalize allP (LL.drop (i + 1)) = acc at HO HAD hal hAO
      have HAO := Lib.hid hAO
      have hh3 : (0 : Int) ≤ (i : Int) := by omega
      have hh4 : (i : Int) < (LL.length : Int) := by omega
      clear hfk hMm hbw hAO hc1 hr1
      obtain ⟨wo, hwo⟩ : ∃ wo, wo = wr := ⟨_, rfl⟩
      subst hwo
      obtain ⟨p3, hp3⟩ : ∃ p3, p3 = u3 := ⟨_, rfl⟩
      subst hp3
      obtain ⟨p5, hp5⟩ : ∃ p5, p5 = u5 := ⟨_, rfl⟩
      subst hp5
      go_wp2_with fail
      go_loopw [3, 5] (fun o q wr => ∃ k : Nat, k ≤ M.length ∧ q = .int .i64 (k : Int) ∧ Hid (OwL wr w.heap.size o (over (M.take k) acc)) ∧ Below w.heap.size w wr) (fun _ q _ => M.length - (intOf q).toNat)
      case atStart => exact ⟨0, Nat.zero_le _, rfl, Lib.hid (by simpa [over] using HO.out), HBW.out⟩
      case round =>
        clear HO HBW
        obtain ⟨k, hk, rfl, HO, hbw⟩ := hrel
        have HBW := Lib.hid hbw
        have hc1 := HRW.out _ hbw
        by_cases hlk : k < M.length
        · have hfk : M[k]? = some (M[k]'hlk) := List.getElem?_eq_getElem _
          generalize M[k]'hlk = f at hfk
          obtain ⟨b1, o1, rfl, -, -⟩ := HR1.out.open_ (by omega)
          obtain ⟨⟨c0, c1', c2, c3, c4⟩, -⟩ := (HR1.out.bel hbw).at_ hfk
          have HS := Lib.hid (over_snoc (acc := acc) hfk)
          have hfo := HMK.out f (List.mem_of_getElem? hfk)
          have hln := len_over (M.take k) acc
          rw [List.length_take] at hln
          have hP := Lib.hid (rput1_any _ _ f wr (HO.out.rd (S := []) (fun _ h => by cases h)) hfo (ok_over HAO.out (fun d hd => HMK.out d (List.mem_of_mem_take hd))) (by omega))
          clear hfk hbw hfo
          obtain ⟨wi, hwi⟩ : ∃ wi, wi = wr := ⟨_, rfl⟩
          subst hwi
          go_wp2_with fail
          refine hP.out.mono ?_
          rintro e w2 ⟨⟨v2, rfl, h2⟩, hb2⟩
          have HO2 := Lib.hid (h2.mono HBW.out.size)
          have HB2 := Lib.hid (bwstep HBW.out hb2)
          clear h2 hb2 hP
          go_wp2_with fail
          go_roundw
          case rel => exact ⟨k + 1, by omega, by go_num, Lib.hid (by rw [HS.out]; exact HO2.out), HB2.out⟩
          case measure => simp [intOf]; omega
        · obtain rfl : k = M.length := by omega
          rw [List.take_length] at HO
          clear hbw
          go_wp2_with fail
          go_roundw
          case rel => exact ⟨i, by omega, by go_num, Lib.hid (by rw [HAD.out]; exact HO.out), HBW.out⟩
          case measure => simp [intOf]
    · obtain rfl : j = 0 := by omega
      rw [List.drop_zero] at HO
      go_wp2_with fail
      go_ret
      exact ⟨⟨_, rfl, HO.out⟩, HBW.out⟩
end Go.Proofs.Ytknkdehjgkjljaa.Ce
