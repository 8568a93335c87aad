/- The contracts of what only reads matrices: Right, the reference's Right, Few, Same. The contract of the product. -/
import Derived.Test.YtfnenehiapibiaaSl
import Derived.Deep.QuietTactic
import Derived.BigQuiet
import Derived.IntWalk
import Derived.Test.YtfnenehiapibiaaMatMk
namespace Go.Proofs.Ytfnenehiapibiaa
open Go.RowKit

/-- a callee that only draws, its world by 'Below' alone -/
theorem Calls.bel {P : Program} {f : FuncId} {args : Array Value} {w : World} {e0 : Ending} (h : Calls P f args w fun e w' => e = e0 ∧ ∃ m, w' = w.drewN m) : Calls P f args w fun e w' => e = e0 ∧ Below w.heap.size w w' :=
  h.mono fun _ _ ⟨he, _, hm⟩ => ⟨he, hm ▸ bwN _⟩
/-- is it a matrix? -/
def isR (n : Nat) (g : Nat → List UInt8) : Bool := decide (0 < n) && decide (0 < (g 0).length) && (List.range n).all fun j => decide ((g j).length = (g 0).length)
theorem isR_true {n : Nat} {g : Nat → List UInt8} (h0 : 0 < n) (h1 : 0 < (g 0).length) (h : ∀ j, j < n → (g j).length = (g 0).length) : isR n g = true := by
  unfold isR
  rw [decide_eq_true h0, decide_eq_true h1, List.all_eq_true.2 (fun j hj => decide_eq_true (h j (List.mem_range.1 hj)))]
  rfl
theorem isR_none {n : Nat} {g : Nat → List UInt8} (h0 : n = 0) : isR n g = false := by
  unfold isR
  rw [decide_eq_false (by omega)]
  rfl
theorem isR_empty {n : Nat} {g : Nat → List UInt8} (h0 : (g 0).length = 0) : isR n g = false := by
  unfold isR
  rw [decide_eq_false (p := 0 < (g 0).length) (by omega), Bool.and_false]
  rfl
theorem isR_not {n k : Nat} {g : Nat → List UInt8} (hk : k < n) (h : (g k).length ≠ (g 0).length) : isR n g = false := by
  unfold isR
  have : ((List.range n).all fun j => decide ((g j).length = (g 0).length)) = false := by
    rw [List.all_eq_false]
    exact ⟨k, List.mem_range.2 hk, by simpa using h⟩
  rw [this, Bool.and_false]
theorem isR_out {n : Nat} {g : Nat → List UInt8} (h : isR n g = true) : 0 < n ∧ 0 < (g 0).length ∧ ∀ j, j < n → (g j).length = (g 0).length := by
  unfold isR at h
  simp only [Bool.and_eq_true, decide_eq_true_iff, List.all_eq_true] at h
  exact ⟨h.1.1, h.1.2, fun j hj => h.2 j (List.mem_range.2 hj)⟩
set_option maxHeartbeats 1000000 in
set_option maxRecDepth 100000 in
theorem right_any (v : Value) (n : Nat) (g : Nat → List UInt8) (B : Nat) (w : World) (hr : RdM w B v n g) :
    Calls Try.prog 31 #[v] w fun e w' => e = .returned (.bool (isR n g)) ∧ w = w' := by
  obtain ⟨A, c, rfl, hc, hm⟩ := hr.shape
  unfold maxLen at hm
  by_cases h0 : n = 0
  · have HF := Lib.hid (isR_none (g := g) h0)
    subst h0
    clear hr
    go_enter Try.func31, Try.ntmps31
    go_wp2_with fail
    go_ret
    exact ⟨ret1 (vb HF.out.symm), rfl⟩
  obtain ⟨b, off, rfl, hb⟩ := hr.open_ (by omega)
  obtain ⟨A0, c0, hcell0, h0c, h0m, hr0⟩ := hr.row (j := 0) (by omega)
  rw [Nat.add_zero] at hcell0
  have hn : ((n : Int) == 0) = false := by simp; omega
  clear hr0
  by_cases h1 : (g 0).length = 0
  · have HF := Lib.hid (isR_empty (n := n) h1)
    rw [h1] at hcell0
    clear hr h1
    go_enter Try.func31, Try.ntmps31
    go_wp2_with fail
    go_ret
    exact ⟨ret1 (vb HF.out.symm), rfl⟩
  have hl : (((g 0).length : Int) == 0) = false := by simp; exact fun e => h1 (by rw [e]; rfl)
  have h0pos : 0 < n := by omega
  clear h0
  go_enter Try.func31, Try.ntmps31
  go_wp2_with fail
  go_loop [4, 17] (fun _ i => ∃ k : Nat, k ≤ n ∧ i = .int .i64 k ∧ ∀ j, j < k → (g j).length = (g 0).length) (fun _ i => n - (intOf i).toNat)
  case atStart => exact ⟨0, by omega, rfl, fun j hj => by omega⟩
  case round =>
    obtain ⟨k, hk, rfl, hall⟩ := hrel
    by_cases hlt : k < n
    · obtain ⟨A1, c1, hcell1, h1c, h1m, hr1⟩ := hr.row hlt
      have HA := Lib.hid hall
      clear hall hr1
      by_cases he : (g k).length = (g 0).length
      · rw [he] at hcell1
        have HE := Lib.hid he
        clear he
        go_wp2_with fail
        go_round
        case rel => exact ⟨k + 1, by omega, by go_num, fun j hj => by
          by_cases e : j = k
          · subst e; exact HE.out
          · exact HA.out j (by omega)⟩
        case measure => simp [intOf]; omega
      · have HF := Lib.hid (isR_not hlt he)
        have hne : (((g k).length : Int) != ((g 0).length : Int)) = true := bne_iff_ne.2 (fun e => he (Int.ofNat.inj e))
        clear he
        go_wp2_with fail
        go_ret
        exact ⟨ret1 (vb HF.out.symm), rfl⟩
    · obtain rfl : k = n := by omega
      have HF := Lib.hid (isR_true h0pos (by omega) hall)
      clear hall
      go_wp2_with fail
      go_ret
      exact ⟨ret1 (vb HF.out.symm), rfl⟩
/-- is it a small matrix? -/
def few (n : Nat) (g : Nat → List UInt8) (most : Nat) : Bool := decide (n ≤ most) && isR n g && decide ((g 0).length ≤ most)
/-- the same matrices? -/
def sameM (n : Nat) (g : Nat → List UInt8) (n' : Nat) (g' : Nat → List UInt8) : Bool := decide (n = n') && (List.range n).all fun j => decide (g j = g' j)
theorem sameM_true {n : Nat} {g g' : Nat → List UInt8} (h : ∀ j, j < n → g j = g' j) : sameM n g n g' = true := by
  unfold sameM
  rw [decide_eq_true rfl, List.all_eq_true.2 (fun j hj => decide_eq_true (h j (List.mem_range.1 hj)))]
  rfl
theorem sameM_ne {n n' : Nat} {g g' : Nat → List UInt8} (h : n ≠ n') : sameM n g n' g' = false := by
  unfold sameM
  rw [decide_eq_false h]
  rfl
theorem sameM_not {n k : Nat} {g g' : Nat → List UInt8} (hk : k < n) (h : g k ≠ g' k) : sameM n g n g' = false := by
  unfold sameM
  have : ((List.range n).all fun j => decide (g j = g' j)) = false := by
    rw [List.all_eq_false]
    exact ⟨k, List.mem_range.2 hk, by simpa using h⟩
  rw [this, Bool.and_false]
set_option maxHeartbeats 1000000 in
set_option maxRecDepth 100000 in
theorem rsameM_any (x y : Value) (n n' : Nat) (g g' : Nat → List UInt8) (B D : Nat) (w : World) (hx : RdM w B x n g) (hy : RdM w D y n' g') :
    Calls Try.prog 15 #[x, y] w fun e w' => e = .returned (.bool (sameM n g n' g')) ∧ ∃ m, w' = w.drewN m := by
  obtain ⟨A, c, rfl, hc, hm⟩ := hx.shape
  obtain ⟨A', c', rfl, hc', hm'⟩ := hy.shape
  unfold maxLen at hm hm'
  by_cases hn : n = n'
  · subst hn
    go_enter Try.func15, Try.ntmps15
    go_wp2_with fail
    go_loopw [5] (fun i wr => ∃ k : Nat, k ≤ n ∧ i = .int .i64 k ∧ (∀ j, j < k → g j = g' j) ∧ ∃ m, wr = w.drewN m) (fun i _ => n - (intOf i).toNat)
    case atStart => exact ⟨0, by omega, rfl, fun j hj => by omega, 0, rfl⟩
    case round =>
      obtain ⟨k, hk, rfl, hall, m, rfl⟩ := hrel
      have HA := Lib.hid hall
      clear hall
      by_cases hlt : k < n
      · obtain ⟨b, off, rfl, hb⟩ := hx.open_ (by omega)
        obtain ⟨b', off', rfl, hb'⟩ := hy.open_ (by omega)
        obtain ⟨A1, c1, hcell1, h1c, h1m, hr1⟩ := hx.row hlt
        obtain ⟨A2, c2, hcell2, h2c, h2m, hr2⟩ := hy.row hlt
        have s1 := fun q : Nat => run_strS (P := Try.prog) (w := w.drewN q) Try.underlying39 Try.underlying5 Try.underlying9 (hr1.below (bwN' w q)) _ c1 rfl
        have s2 := fun q : Nat => run_strS (P := Try.prog) (w := w.drewN q) Try.underlying39 Try.underlying5 Try.underlying9 (hr2.below (bwN' w q)) _ c2 rfl
        clear hr1 hr2
        by_cases he : g k = g' k
        · have HE := Lib.hid he
          have hs : (g k == g' k) = true := beq_iff_eq.2 he
          clear he
          go_wp2_with fail
          go_quiet (fail)
          go_wp2_with fail
          go_roundw
          case rel => exact ⟨k + 1, by omega, by go_num, fun j hj => by
            by_cases e : j = k
            · subst e; exact HE.out
            · exact HA.out j (by omega), _, rfl⟩
          case measure => simp [intOf]; omega
        · have HF := Lib.hid (sameM_not hlt he)
          have hs : (g k == g' k) = false := beq_eq_false_iff_ne.2 he
          clear he
          go_wp2_with fail
          go_quiet (fail)
          go_wp2_with fail
          go_ret
          exact ⟨ret1 (vb HF.out.symm), _, by first | rfl | exact drewN_two _ _ _⟩
      · obtain rfl : k = n := by omega
        have HF := Lib.hid (sameM_true HA.out)
        go_wp2_with fail
        go_ret
        exact ⟨ret1 (vb HF.out.symm), _, by first | rfl | exact drewN_two _ _ _⟩
  · have HF := Lib.hid (sameM_ne (g := g) (g' := g') hn)
    have hne : ((n : Int) != (n' : Int)) = true := bne_iff_ne.2 (fun e => hn (Int.ofNat.inj e))
    clear hn hx hy
    go_enter Try.func15, Try.ntmps15
    go_wp2_with fail
    go_ret
    exact ⟨ret1 (vb HF.out.symm), 0, rfl⟩
end Go.Proofs.Ytfnenehiapibiaa

namespace Go.Proofs.Ytfnenehiapibiaa
open Go.RowKit
open Mx (rw rw_len rw_get rw_congr dl cod mm fm sm)

theorem isR_rw {n wd : Nat} (f : Mx.M) (hn : 0 < n) (hw : 0 < wd) : isR n (fun i => rw wd (f i)) = true := isR_true hn (by rw [rw_len]; exact hw) (fun j _ => by rw [rw_len, rw_len])
theorem rowL_rw (c : UInt8) (wd : Nat) (f : Nat → UInt8) : rowL c.toNat (rw wd f) = rw wd (fun j => fm c (f j)) := Mx.rw_map wd f _
/-- new memory is apart from what was there -/
theorem Apart.fresh {w0 w1 w2 : World} {B e e' : Nat} {u x : Value} {xs ys : List Value} (hu : Ow w1 B e u xs) (hx : Ow w2 w0.heap.size e' x ys) (hs : w1.heap.size ≤ w0.heap.size) : Apart x u := fun k h1 h2 => by
  have := (hx.lt k h1).1
  have := (hu.lt k h2).2
  omega
/-- the product behind i rows and j elements -/
def mst (q : Nat) (a b : Mx.M) (i j : Nat) : Mx.M := fun i' j' => if i' < i then mm q a b i' j' else if i' = i then sm j (fun l => fm (a i l) (b l j')) else 0
theorem mst_step (q : Nat) (a b : Mx.M) (i j i' j' : Nat) : (if i' = i then mst q a b i j i j' ^^^ fm (a i j) (b j j') else mst q a b i j i' j') = mst q a b i (j + 1) i' j' := by
  unfold mst
  by_cases e : i' = i
  · subst e
    rw [if_pos rfl, if_neg (by omega), if_pos rfl, if_neg (by omega), if_pos rfl]
    rfl
  · rw [if_neg e, if_neg e, if_neg e]
theorem mst_next (q : Nat) (a b : Mx.M) (i i' j' : Nat) : mst q a b i q i' j' = mst q a b (i + 1) 0 i' j' := by
  unfold mst
  by_cases h1 : i' < i
  · rw [if_pos h1, if_pos (by omega)]
  · by_cases h2 : i' = i
    · subst h2; rw [if_neg h1, if_pos rfl, if_pos (by omega)]; rfl
    · rw [if_neg h1, if_neg h2, if_neg (by omega)]
      by_cases h3 : i' = i + 1
      · rw [if_pos h3]; rfl
      · rw [if_neg h3]
theorem mst_zero (q : Nat) (a b : Mx.M) (i' j' : Nat) : mst q a b 0 0 i' j' = 0 := by
  unfold mst
  rw [if_neg (by omega)]
  split <;> rfl
theorem mst_step' {w' : World} {B m c n q r i j : Nat} {A : Option Addr} {vs : Nat → Value} {a b : Mx.M} (h : OwM w' B (.slice A m c) vs n (fun i' => if i' = i then rw r (fun j' => mst q a b i j i j' ^^^ fm (a i j) (b j j')) else rw r (mst q a b i j i'))) :
    OwM w' B (.slice A m c) vs n (fun i' => rw r (mst q a b i (j + 1) i')) :=
  h.congr fun i' _ => by
    by_cases e : i' = i
    · rw [if_pos e]
      exact rw_congr fun j' _ => by rw [← mst_step, if_pos e]
    · rw [if_neg e]
      exact rw_congr fun j' _ => by rw [← mst_step, if_neg e]
set_option maxHeartbeats 1000000 in
set_option maxRecDepth 100000 in
theorem mmul_no (v v' : Value) (n q q' r : Nat) (a b : Mx.M) (w : World) (ha : RdM w w.heap.size v n (fun i => rw q (a i))) (hb : RdM w w.heap.size v' q' (fun i => rw r (b i))) (hn : 0 < n) (hq : 0 < q) (hq' : 0 < q') (hr : 0 < r) (hne : q ≠ q') :
    Calls Try.prog 24 #[v, v'] w fun e w' => e = .returned (.slice none 0 0) ∧ w = w' := by
  obtain ⟨A, c, rfl, hc, hm⟩ := ha.shape
  obtain ⟨A', c', rfl, hc', hm'⟩ := hb.shape
  have p1 := right_any _ n _ _ w ha
  have p2 := right_any _ q' _ _ w hb
  rw [isR_rw a hn hq] at p1
  rw [isR_rw b hq' hr] at p2
  obtain ⟨ba, offa, rfl, hba⟩ := ha.open_ hn
  obtain ⟨A0, c0, hcell0, h0c, h0m, hr0⟩ := ha.rowT (j := 0) hn
  rw [Nat.add_zero] at hcell0
  have t : ((q : Int) != (q' : Int)) = true := bne_iff_ne.2 (fun e => hne (Int.ofNat.inj e))
  clear hne hr0 ha hb
  go_enter Try.func24, Try.ntmps24
  go_wp2_with fail
  refine p1.mono ?_
  rintro e w1 ⟨rfl, rfl⟩
  go_wp2_with fail
  refine p2.mono ?_
  rintro e w1 ⟨rfl, rfl⟩
  go_wp2_with fail
  go_ret
  exact ⟨rfl, rfl⟩
set_option maxHeartbeats 4000000 in
set_option maxRecDepth 100000 in
theorem mmul_any (v v' : Value) (n q r : Nat) (a b : Mx.M) (w : World) (ha : RdM w w.heap.size v n (fun i => rw q (a i))) (hb : RdM w w.heap.size v' q (fun i => rw r (b i))) (hn : 0 < n) (hq : 0 < q) (hr : 0 < r) (hn2 : n ≤ 1000000000) (hr2 : r ≤ 140737488355328) :
    Calls Try.prog 24 #[v, v'] w fun e w' => (∃ x vs, e = .returned x ∧ OwM w' w.heap.size x vs n (fun i => rw r (mm q a b i))) ∧ Below w.heap.size w w' := by
  obtain ⟨A, c, rfl, hc, hm⟩ := ha.shape
  obtain ⟨A', c', rfl, hc', hm'⟩ := hb.shape
  unfold maxLen at hm hm'
  have p1 := right_any _ n _ _ w ha
  have p2 := right_any _ q _ _ w hb
  rw [isR_rw a hn hq] at p1
  rw [isR_rw b hq hr] at p2
  obtain ⟨ba, offa, rfl, hba⟩ := ha.open_ hn
  obtain ⟨bb, offb, rfl, hbb⟩ := hb.open_ hq
  obtain ⟨A0, c0, hcell0, h0c, h0m, hr0⟩ := ha.rowT (j := 0) hn
  obtain ⟨A1, c1, hcell1, h1c, h1m, hr1⟩ := hb.rowT (j := 0) hq
  rw [Nat.add_zero] at hcell0 hcell1
  go_enter Try.func24, Try.ntmps24
  go_wp2_with fail
  refine p1.mono ?_
  rintro e w1 ⟨rfl, rfl⟩
  go_wp2_with fail
  refine p2.mono ?_
  rintro e w1 ⟨rfl, rfl⟩
  go_wp2_with fail
  refine (new_any _).mono ?_
  rintro e w1 ⟨⟨p, rfl, hp, hf⟩, hb1⟩
  have hcell1' := (hb1.cell (p := ⟨bb, offb, none⟩) hbb).trans hcell1
  clear hcell0 hcell1 hr0 hr1 p1 p2
  go_wp2_with fail
  refine (zeros_any n r _ hn2 hr2).mono ?_
  rintro e w2 ⟨⟨vm, vs, rfl, ho⟩, hb2⟩
  obtain ⟨Am, cm, rfl, hcm, hmm⟩ := ho.rd.shape
  unfold maxLen at hmm
  clear hp hcell1'
  have ha1 := ha.up hb1
  have hbr1 := hb.up hb1
  clear ha hb
  go_wp2_with fail
  go_loopw [7, 8, 9, 10, 38] (fun _ _ _ _ i wr => ∃ k : Nat, k ≤ n ∧ i = .int .i64 k ∧ OwM wr w1.heap.size (.slice Am n cm) vs n (fun i => rw r (mst q a b k 0 i)) ∧ Below w1.heap.size w1 wr) (fun _ _ _ _ i _ => n - (intOf i).toNat)
  case atStart => exact ⟨0, by omega, rfl, ho.congr (fun i _ => rw_congr fun j _ => (mst_zero q a b i j).symm), hb2⟩
  case round =>
    clear ho hb2
    obtain ⟨i, hi, rfl, ho, hbw⟩ := hrel
    by_cases hlt : i < n
    · obtain ⟨gb, g, c2, rfl, hv, hcell, h2c, h2m, hBg, hgs, hcv, hfz, hset⟩ := ho.at_ (k := 0) hlt hr
      obtain ⟨A3, c3, hcell3, h3c, h3m, hr3⟩ := (ha1.below hbw).rowT hlt
      obtain ⟨A4, c4, hcell4, -, -, hr4⟩ := ha1.rowT hlt
      have hAA : A4 = A3 ∧ c4 = c3 := by
        have := (hbw.cell (p := ⟨ba, offa + i, none⟩) (Nat.lt_of_lt_of_le hba hb1.size)).symm.trans hcell3
        rw [hcell4] at this
        injection this with this
        injection this with q1 q2 q3
        exact ⟨q1, q3⟩
      obtain ⟨rfl, rfl⟩ := hAA
      obtain ⟨ba3, offa3, rfl, hba3, hca3⟩ := hr4.cellR hq
      unfold maxLen at h2m h3m
      clear hset hcv hfz hr3 hca3 hcell4
      go_wp2_with fail
      go_loopw [9, 10, 48] (fun _ _ j wr => ∃ k : Nat, k ≤ q ∧ j = .int .i64 k ∧ OwM wr w1.heap.size (.slice (some ⟨gb, 0, none⟩) n cm) vs n (fun i' => rw r (mst q a b i k i')) ∧ Below w1.heap.size w1 wr) (fun _ _ j _ => q - (intOf j).toNat)
      case atStart => exact ⟨0, by omega, rfl, ho, hbw⟩
      case round =>
        clear ho hbw hcell hcell3
        obtain ⟨j, hj, rfl, ho, hbw⟩ := hrel
        by_cases hjl : j < q
        · obtain ⟨ba4, offa4, hAe, -, hca⟩ := (hr4.below hbw).cellR hq
          have hcaj := hca j hjl
          injection hAe with hAe
          injection hAe with q1 q2
          subst q1
          subst q2
          clear hca
          obtain ⟨A5, c5, hcell5, h5c, h5m, hr5⟩ := (hbr1.up hbw).rowT hjl
          have hfw := hf.below hbw
          go_wp2_with fail
          refine (row_any p (a i j).toNat _ (rw r (b j)) _ hfw (a i j).toNat_lt hr5 (by rw [rw_len]; exact hr2)).mono ?_
          rintro e w3 ⟨⟨x, rfl, hox⟩, hb3⟩
          rw [rowL_rw] at hox
          have ho3 := ho.below hb3
          have hap := Apart.fresh (ho.row i hlt) hox (Nat.le_refl _)
          have hrow := ho3.row i hlt
          have hbw3 := hbw.trans (hb3.mono hbw.size)
          rw [hv] at hap hrow
          go_wp2_with fail
          refine (turn_any _ x _ _ _ r _ _ _ hrow hox hap).mono ?_
          rintro e w4 ⟨rfl, ho4, hg4⟩
          have HO := Lib.hid (mst_step' (ho3.setRow hlt (by rw [hv]; exact hg4) (by rw [hv]; exact ho4)))
          have hb4 := ho3.grown hlt (w' := w4) (by rw [hv]; exact hg4) hbw3 (Nat.le_refl _) hbw3.size
          clear ho ho3 hap hrow hox ho4 hg4 hb3 hbw3 hbw hfw hr5
          go_wp2_with fail
          go_roundw
          case rel => exact ⟨j + 1, by omega, by go_num, HO.out, hb4⟩
          case measure => simp [intOf]; omega
        · obtain rfl : j = q := by omega
          have HO := Lib.hid (ho.congr (g' := fun i' => rw r (mst j a b (i + 1) 0 i')) (fun i' _ => rw_congr fun j' _ => mst_next j a b i i' j'))
          clear ho
          go_wp2_with fail
          go_roundw
          case rel => exact ⟨i + 1, by omega, by go_num, HO.out, hbw⟩
          case measure => simp [intOf]; omega
    · obtain rfl : i = n := by omega
      have ho2 := ho.congr (g' := fun i' => rw r (mm q a b i')) (fun i' hi' => rw_congr fun j _ => by unfold mst; rw [if_pos hi'])
      clear ho
      go_wp2_with fail
      go_ret
      exact ⟨⟨_, vs, rfl, ho2.mono hb1.size⟩, bwstep hb1 hbw⟩
end Go.Proofs.Ytfnenehiapibiaa
