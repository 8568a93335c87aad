/- The contracts of the reference functions of layer 13: newest, Visible, Clean, All, Sorts. The contracts of the reference functions of layer 13: Sorts, Few. -/
import Derived.Test.YtgcbmdolbmmljaaGreatMgPl
import Derived.Test.YtgcbmdolbmmljaaGreatCbA
import Derived.Test.YtgcbmdolbmmljaaGreatCsA
import Derived.Test.YtgcbmdolbmmljaaGreatCpo
import Derived.IntWalk
namespace Go.Proofs.YtgcbmdolbmmljaaGreat.Ce
open Go.RowKit

theorem isNewB_eq (L : List Cl) (t : Int) (c : Cl) : isNewB L t c = (nwB c.row c.col t L && decide (nwC c.row c.col t L = c)) := by
  unfold isNewB nwB nwC
  cases newest c.row c.col t L with
  | none => rfl
  | some d =>
    rw [Option.isSome_some, Bool.true_and, Option.getD_some, Bool.eq_iff_iff, beq_iff_eq, decide_eq_true_iff]
    exact ⟨fun h => Option.some.inj h, fun h => by rw [h]⟩
set_option maxHeartbeats 2000000 in
set_option maxRecDepth 100000 in
theorem rnw13_any (v : Value) (L : List Cl) (c : Cl) (t : Int) (w : World) (hv : RdL w [] v L) (hs : Srt L) (hL : L.length ≤ 1000000000) (hok : ∀ c ∈ L, c.ok) :
    Calls Tryz.prog 62 #[v, c.v, .int .i64 t] w fun e w' => e = .returned (.bool (isNewB L t c)) ∧ Below w.heap.size w w' := by
  have HR : Hid (∀ w', Below w.heap.size w w' → Calls Tryz.prog 17 #[v, .string c.row, .string c.col, .int .i64 t] w' fun e w2 => e = .returned (.tuple #[(nwC c.row c.col t L).v, .bool (nwB c.row c.col t L)]) ∧ Below w'.heap.size w' w2) := Lib.hid fun w' hb => rnewest_any v L c.row c.col t w' (hv.bel hb) hs hL hok
  have HE := Lib.hid (isNewB_eq L t c)
  clear hv hs hok
  generalize nwC c.row c.col t L = x at HR HE
  generalize nwB c.row c.col t L = b at HR HE
  go_enter Tryz.func62, Tryz.ntmps62
  go_wp2_with (refine boxC rfl (.tmp 1) c rfl rfl ?_)
  constructor
  intro w1 hI1 hb1 hz1
  have c0 := hI1.c0
  have c1 := hI1.c1
  have HI1 := Lib.hid hI1
  have HB1 := Lib.hid hb1
  clear hI1 hb1 hz1
  go_wp2_with fail
  refine (HR.out _ HB1.out).mono ?_
  rintro e w2 ⟨rfl, hb2⟩
  have HI2 := Lib.hid (HI1.out.up hb2)
  have HB2 := Lib.hid (bwstep HB1.out hb2)
  clear c0 c1 hb2
  go_wp2_with (refine allocC rfl rfl ?_)
  constructor
  intro w3 hI3 hb3 hz3
  have hne : w.heap.size ≠ w2.heap.size := by have := HI2.out.lt; omega
  go_wp2_with (refine storeC (c := x) rfl (.tmp 7) (.tmp 17) rfl rfl rfl hI3 ?_)
  constructor
  intro w4 hs4
  have HX4 := Lib.hid hs4.i
  have HI4 := Lib.hid (hs4.up (HI2.out.up hb3) hne)
  have HB4 := Lib.hid (bwstep HB2.out (hs4.bel hb3 (Nat.le_refl _)))
  clear hI3 hb3 hz3 hs4 HI2 HB2
  cases b
  · have HF : Hid (isNewB L t c = false) := Lib.hid (by rw [HE.out]; rfl)
    go_wp2_with fail
    go_ret
    rw [HF.out]
    exact ⟨rfl, HB4.out⟩
  · have HF : Hid (isNewB L t c = decide (x = c)) := Lib.hid (by rw [HE.out]; rfl)
    go_wp2_with (first
      | (refine loadC rfl (.tmp 7) rfl rfl HX4.out ?_)
      | (refine loadC rfl (.tmp 4) rfl rfl HI4.out ?_)
      | (refine eqC rfl (.tmp 21) (.tmp 22) _ rfl x c rfl rfl rfl ?_))
    go_ret
    rw [HF.out]
    exact ⟨rfl, HB4.out⟩
theorem filter_snoc {L : List Cl} {k : Nat} {f : Cl} (h : L[k]? = some f) (p : Cl → Bool) : (L.take (k + 1)).filter p = (L.take k).filter p ++ (if p f = true then [f] else []) := by
  obtain ⟨hl, rfl⟩ := List.getElem?_eq_some_iff.1 h
  rw [List.take_succ_eq_append_getElem hl, List.filter_append]
  congr 1
  cases hp : p L[k] <;> simp [hp]
set_option maxHeartbeats 4000000 in
set_option maxRecDepth 100000 in
theorem rvis_any (v : Value) (L : List Cl) (t : Int) (w : World) (hv : RdL w [] v L) (hs : Srt L) (hL : L.length ≤ 1000000000) (hok : ∀ c ∈ L, c.ok) :
    Calls Tryz.prog 42 #[v, .int .i64 t] w fun e w' => (∃ x, e = .returned x ∧ OwL w' w.heap.size x (visP t L)) ∧ Below w.heap.size w w' := by
  obtain ⟨A, c, rfl, hc, hm⟩ := hv.shape
  unfold maxLen at hm
  have HV := Lib.hid hv
  have HN : Hid (∀ f w', Below w.heap.size w w' → Calls Tryz.prog 62 #[.slice A L.length c, f.v, .int .i64 t] w' fun e w2 => e = .returned (.bool (isNewB L t f)) ∧ Below w'.heap.size w' w2) := Lib.hid fun f w' hb => rnw13_any _ L f t w' (hv.bel hb) hs hL hok
  clear hv hs hok
  go_enter Tryz.func42, Tryz.ntmps42
  go_wp2_with fail
  go_loopw [5, 6] (fun o i wr => ∃ k : Nat, k ≤ L.length ∧ i = .int .i64 (k : Int) ∧ Hid (OwL wr w.heap.size o ((L.take k).filter fun c => isNewB L t c && !c.gone)) ∧ Below w.heap.size w wr) (fun _ i _ => L.length - (intOf i).toNat)
  case atStart => exact ⟨0, by omega, rfl, Lib.hid (by simpa using OwL.nil _ _), Below.refl _ _⟩
  case round =>
    obtain ⟨k, hk, rfl, HO, hbw⟩ := hrel
    have HBW := Lib.hid hbw
    by_cases hlt : k < L.length
    · obtain ⟨b, off, rfl, -, -⟩ := HV.out.open_ (by omega)
      have hh3 : (0 : Int) ≤ (k : Int) := by omega
      have hh4 : (k : Int) < (L.length : Int) := by omega
      have hfk : L[k]? = some (L[k]'hlt) := List.getElem?_eq_getElem _
      generalize L[k]'hlt = f at hfk
      have HF5 : Hid (∀ z, Below w.heap.size w z → FiveAt b (off + k * 5) f z) := Lib.hid fun z hz => ((HV.out.bel hz).at_ hfk).1
      have HS := Lib.hid (filter_snoc hfk fun c => isNewB L t c && !c.gone)
      have hnf := fun z hz => HN.out f z hz
      obtain ⟨c0, c1, c2, c3, c4⟩ := HF5.out _ hbw
      have hlen : ((L.take k).filter fun c => isNewB L t c && !c.gone).length ≤ 1000000000 := Nat.le_trans (List.length_filter_le _ _) (by simp; omega)
      generalize (L.take k).filter (fun c => isNewB L t c && !c.gone) = F at HO HS hlen
      clear hfk hbw
      generalize isNewB L t f = q at HS hnf
      have HN2 := Lib.hid hnf
      clear hnf
      obtain ⟨wo, hwo⟩ : ∃ wo, wo = wr := ⟨_, rfl⟩
      subst hwo
      go_wp2_with fail
      refine (HN2.out _ HBW.out).mono ?_
      rintro e w2 ⟨rfl, hb2⟩
      have HO2 := Lib.hid (HO.out.below hb2)
      have HB2 := Lib.hid (bwstep HBW.out hb2)
      clear c0 c1 c2 c3 c4 hb2 HN2
      obtain ⟨c0, c1, c2, c3, c4⟩ := HF5.out _ HB2.out
      cases hq : (q && !f.gone)
      · have HE : Hid (((L.take (k + 1)).filter fun c => isNewB L t c && !c.gone) = F) := Lib.hid (by rw [HS.out, hq]; simp)
        clear HS
        cases q
        · clear hq
          go_wp2_with fail
          go_roundw
          case rel => exact ⟨k + 1, by omega, by go_num, Lib.hid (by rw [HE.out]; exact HO2.out), HB2.out⟩
          case measure => simp [intOf]; omega
        · have hg : f.gone = true := by simpa using hq
          clear hq
          rw [hg] at c4
          clear hg
          go_wp2_with fail
          go_roundw
          case rel => exact ⟨k + 1, by omega, by go_num, Lib.hid (by rw [HE.out]; exact HO2.out), HB2.out⟩
          case measure => simp [intOf]; omega
      · have HE : Hid (((L.take (k + 1)).filter fun c => isNewB L t c && !c.gone) = F ++ [f]) := Lib.hid (by rw [HS.out, hq]; simp)
        clear HS
        obtain ⟨hq1, hg⟩ : q = true ∧ f.gone = false := by simpa using hq
        clear hq
        subst hq1
        have hx := RdL.one w2 [] f (by simp) 34
        have ho2 := HO2.out.below (bwalloc (bwrefl w2) (.cells #[.string f.row, .string f.col, .int .i64 f.at_, .string f.val, .bool f.gone] 34))
        have hb2 := bwalloc HB2.out (.cells #[.string f.row, .string f.col, .int .i64 f.at_, .string f.val, .bool f.gone] 34)
        have hs2 := hb2.size
        have hl2 : F.length + [f].length ≤ 2199023255552 := by simp; omega
        rw [hg] at c4 hx ho2 hb2 hs2
        clear hg
        go_wp2_with (at_builtin; refine wpList_appL rfl (.tmp 28) (.tmp 33) rfl rfl ho2 rfl hx hl2 hs2 ?_; intro v3 w3 ho3 hg3 _; have HO3 := Lib.hid ho3; have HB3 := Lib.hid (hb2.grown hg3 hs2 (fun q hq => (ho2.lt q hq).1)); clear ho3 hg3)
        go_roundw
        case rel => exact ⟨k + 1, by omega, by go_num, Lib.hid (by rw [HE.out]; exact HO3.out), HB3.out⟩
        case measure => simp [intOf]; omega
    · obtain rfl : k = L.length := by omega
      rw [List.take_length] at HO
      go_wp2_with fail
      go_ret
      exact ⟨⟨_, rfl, HO.out⟩, HBW.out⟩
theorem over_snoc {M acc : List Cl} {k : Nat} {f : Cl} (h : M[k]? = some f) : over (M.take (k + 1)) acc = put1 f (over (M.take k) acc) := by
  obtain ⟨hl, rfl⟩ := List.getElem?_eq_some_iff.1 h
  unfold over
  rw [List.take_succ_eq_append_getElem hl, List.foldl_append]
  rfl
theorem all_drop {LL : List (List Cl)} {j : Nat} {M : List Cl} (h : LL[j]? = some M) : allP (LL.drop j) = over M (allP (LL.drop (j + 1))) := by
  obtain ⟨hl, rfl⟩ := List.getElem?_eq_some_iff.1 h
  rw [List.drop_eq_getElem_cons hl, allP_cons]
theorem all_len : ∀ LL : List (List Cl), (allP LL).length ≤ LL.flatten.length
  | [] => by simp [allP]
  | M :: LL => by
    have h1 := all_len LL
    have h2 := len_over M (allP LL)
    rw [allP_cons, List.flatten_cons, List.length_append]
    omega
theorem flatten_drop_le (LL : List (List Cl)) (j : Nat) : (LL.drop j).flatten.length ≤ LL.flatten.length := by
  have := congrArg (fun X : List (List Cl) => X.flatten.length) (List.take_append_drop j LL)
  simp only [List.flatten_append, List.length_append] at this
  omega
theorem mem_flatten_le {LL : List (List Cl)} {M : List Cl} (h : M ∈ LL) : M.length ≤ LL.flatten.length := by
  obtain ⟨a, b, rfl⟩ := List.append_of_mem h
  simp only [List.flatten_append, List.flatten_cons, List.length_append]
  omega
end Go.Proofs.YtgcbmdolbmmljaaGreat.Ce

namespace Go.Proofs.YtgcbmdolbmmljaaGreat.Ce
open Go.RowKit

/-- few lists, of few right cells -/
def Few13 (LL : List (List Cl)) : Prop := LL.length ≤ 20 ∧ LL.flatten.length ≤ 100 ∧ ∀ M ∈ LL, M.length ≤ 80 ∧ ∀ c ∈ M, c.ok
def Few13End (LL : List (List Cl)) (w : World) (e : Ending) (w' : World) : Prop := (∃ q : Bool, e = .returned (.bool q) ∧ (q = true → Few13 LL)) ∧ Below w.heap.size w w'
theorem flatlen_snoc {LL : List (List Cl)} {k : Nat} {M : List Cl} (h : LL[k]? = some M) : (LL.take (k + 1)).flatten.length = (LL.take k).flatten.length + M.length := by
  obtain ⟨hl, rfl⟩ := List.getElem?_eq_some_iff.1 h
  rw [List.take_succ_eq_append_getElem hl, List.flatten_append, List.length_append]
  simp
end Go.Proofs.YtgcbmdolbmmljaaGreat.Ce
