/- The contract of the product. -/
import Derived.Test.YtjhnbhgpnmfdgaaMatE
import Derived.Test.YtjhnbhgpnmfdgaaMatR
namespace Go.Proofs.Ytjhnbhgpnmfdgaa
open Go.RowKit
open Mx (rw rw_len rw_get rw_congr dl cod mm fm sm)

theorem isR_rw {n wd : Nat} (f : Mx.M) (hn : 0 < n) (hw : 0 < wd) : isR n (fun i => rw wd (f i)) = true := isR_true hn (by rw [rw_len]; exact hw) (fun j _ => by rw [rw_len, rw_len])
theorem rowL_rw (c : UInt8) (wd : Nat) (f : Nat → UInt8) : rowL c.toNat (rw wd f) = rw wd (fun j => fm c (f j)) := Mx.rw_map wd f _
/-- new memory is apart from what was there -/
theorem Apart.fresh {w0 w1 w2 : World} {B e e' : Nat} {u x : Value} {xs ys : List Value} (hu : Ow w1 B e u xs) (hx : Ow w2 w0.heap.size e' x ys) (hs : w1.heap.size ≤ w0.heap.size) : Apart x u := fun k h1 h2 => by
  have := (hx.lt k h1).1
  have := (hu.lt k h2).2
  omega
/-- the product behind i rows and j elements -/
def mst (q : Nat) (a b : Mx.M) (i j : Nat) : Mx.M := fun i' j' => if i' < i then mm q a b i' j' else if i' = i then sm j (fun l => fm (a i l) (b l j')) else 0
theorem mst_step (q : Nat) (a b : Mx.M) (i j i' j' : Nat) : (if i' = i then mst q a b i j i j' ^^^ fm (a i j) (b j j') else mst q a b i j i' j') = mst q a b i (j + 1) i' j' := by
  unfold mst
  by_cases e : i' = i
  · subst e
    rw [if_pos rfl, if_neg (by omega), if_pos rfl, if_neg (by omega), if_pos rfl]
    rfl
  · rw [if_neg e, if_neg e, if_neg e]
theorem mst_next (q : Nat) (a b : Mx.M) (i i' j' : Nat) : mst q a b i q i' j' = mst q a b (i + 1) 0 i' j' := by
  unfold mst
  by_cases h1 : i' < i
  · rw [if_pos h1, if_pos (by omega)]
  · by_cases h2 : i' = i
    · subst h2; rw [if_neg h1, if_pos rfl, if_pos (by omega)]; rfl
    · rw [if_neg h1, if_neg h2, if_neg (by omega)]
      by_cases h3 : i' = i + 1
      · rw [if_pos h3]; rfl
      · rw [if_neg h3]
theorem mst_zero (q : Nat) (a b : Mx.M) (i' j' : Nat) : mst q a b 0 0 i' j' = 0 := by
  unfold mst
  rw [if_neg (by omega)]
  split <;> rfl
theorem mst_step' {w' : World} {B m c n q r i j : Nat} {A : Option Addr} {vs : Nat → Value} {a b : Mx.M} (h : OwM w' B (.slice A m c) vs n (fun i' => if i' = i then rw r (fun j' => mst q a b i j i j' ^^^ fm (a i j) (b j j')) else rw r (mst q a b i j i'))) :
    OwM w' B (.slice A m c) vs n (fun i' => rw r (mst q a b i (j + 1) i')) :=
  h.congr fun i' _ => by
    by_cases e : i' = i
    · rw [if_pos e]
      exact rw_congr fun j' _ => by rw [← mst_step, if_pos e]
    · rw [if_neg e]
      exact rw_congr fun j' _ => by rw [← mst_step, if_neg e]
set_option maxHeartbeats 1000000 in
set_option maxRecDepth 100000 in
theorem mmul_no (v v' : Value) (n q q' r : Nat) (a b : Mx.M) (w : World) (ha : RdM w w.heap.size v n (fun i => rw q (a i))) (hb : RdM w w.heap.size v' q' (fun i => rw r (b i))) (hn : 0 < n) (hq : 0 < q) (hq' : 0 < q') (hr : 0 < r) (hne : q ≠ q') :
    Calls Try.prog 14 #[v, v'] w fun e w' => e = .returned (.slice none 0 0) ∧ w = w' := by
  obtain ⟨A, c, rfl, hc, hm⟩ := ha.shape
  obtain ⟨A', c', rfl, hc', hm'⟩ := hb.shape
  have p1 := right_any _ n _ _ w ha
  have p2 := right_any _ q' _ _ w hb
  rw [isR_rw a hn hq] at p1
  rw [isR_rw b hq' hr] at p2
  obtain ⟨ba, offa, rfl, hba⟩ := ha.open_ hn
  obtain ⟨A0, c0, hcell0, h0c, h0m, hr0⟩ := ha.rowT (j := 0) hn
  rw [Nat.add_zero] at hcell0
  have t : ((q : Int) != (q' : Int)) = true := bne_iff_ne.2 (fun e => hne (Int.ofNat.inj e))
  clear hne hr0 ha hb
  go_enter Try.func14, Try.ntmps14
  go_wp2_with fail
  refine p1.mono ?_
  rintro e w1 ⟨rfl, rfl⟩
  go_wp2_with fail
  refine p2.mono ?_
  rintro e w1 ⟨rfl, rfl⟩
  go_wp2_with fail
  go_ret
  exact ⟨rfl, rfl⟩
set_option maxHeartbeats 4000000 in
set_option maxRecDepth 100000 in
theorem mmul_any (v v' : Value) (n q r : Nat) (a b : Mx.M) (w : World) (ha : RdM w w.heap.size v n (fun i => rw q (a i))) (hb : RdM w w.heap.size v' q (fun i => rw r (b i))) (hn : 0 < n) (hq : 0 < q) (hr : 0 < r) (hn2 : n ≤ 1000000000) (hr2 : r ≤ 140737488355328) :
    Calls Try.prog 14 #[v, v'] w fun e w' => (∃ x vs, e = .returned x ∧ OwM w' w.heap.size x vs n (fun i => rw r (mm q a b i))) ∧ Below w.heap.size w w' := by
  obtain ⟨A, c, rfl, hc, hm⟩ := ha.shape
  obtain ⟨A', c', rfl, hc', hm'⟩ := hb.shape
  unfold maxLen at hm hm'
  have p1 := right_any _ n _ _ w ha
  have p2 := right_any _ q _ _ w hb
  rw [isR_rw a hn hq] at p1
  rw [isR_rw b hq hr] at p2
  obtain ⟨ba, offa, rfl, hba⟩ := ha.open_ hn
  obtain ⟨bb, offb, rfl, hbb⟩ := hb.open_ hq
  obtain ⟨A0, c0, hcell0, h0c, h0m, hr0⟩ := ha.rowT (j := 0) hn
  obtain ⟨A1, c1, hcell1, h1c, h1m, hr1⟩ := hb.rowT (j := 0) hq
  rw [Nat.add_zero] at hcell0 hcell1
  go_enter Try.func14, Try.ntmps14
  go_wp2_with fail
  refine p1.mono ?_
  rintro e w1 ⟨rfl, rfl⟩
  go_wp2_with fail
  refine p2.mono ?_
  rintro e w1 ⟨rfl, rfl⟩
  go_wp2_with fail
  refine (new_any _).mono ?_
  rintro e w1 ⟨⟨p, rfl, hp, hf⟩, hb1⟩
  have hcell1' := (hb1.cell (p := ⟨bb, offb, none⟩) hbb).trans hcell1
  clear hcell0 hcell1 hr0 hr1 p1 p2
  go_wp2_with fail
  refine (zeros_any n r _ hn2 hr2).mono ?_
  rintro e w2 ⟨⟨vm, vs, rfl, ho⟩, hb2⟩
  obtain ⟨Am, cm, rfl, hcm, hmm⟩ := ho.rd.shape
  unfold maxLen at hmm
  clear hp hcell1'
  have ha1 := ha.up hb1
  have hbr1 := hb.up hb1
  clear ha hb
  go_wp2_with fail
  go_loopw [7, 8, 9, 10, 38] (fun _ _ _ _ i wr => ∃ k : Nat, k ≤ n ∧ i = .int .i64 k ∧ OwM wr w1.heap.size (.slice Am n cm) vs n (fun i => rw r (mst q a b k 0 i)) ∧ Below w1.heap.size w1 wr) (fun _ _ _ _ i _ => n - (intOf i).toNat)
  case atStart => exact ⟨0, by omega, rfl, ho.congr (fun i _ => rw_congr fun j _ => (mst_zero q a b i j).symm), hb2⟩
  case round =>
    clear ho hb2
    obtain ⟨i, hi, rfl, ho, hbw⟩ := hrel
    by_cases hlt : i < n
    · obtain ⟨gb, g, c2, rfl, hv, hcell, h2c, h2m, hBg, hgs, hcv, hfz, hset⟩ := ho.at_ (k := 0) hlt hr
      obtain ⟨A3, c3, hcell3, h3c, h3m, hr3⟩ := (ha1.below hbw).rowT hlt
      obtain ⟨A4, c4, hcell4, -, -, hr4⟩ := ha1.rowT hlt
      have hAA : A4 = A3 ∧ c4 = c3 := by
        have := (hbw.cell (p := ⟨ba, offa + i, none⟩) (Nat.lt_of_lt_of_le hba hb1.size)).symm.trans hcell3
        rw [hcell4] at this
        injection this with this
        injection this with q1 q2 q3
        exact ⟨q1, q3⟩
      obtain ⟨rfl, rfl⟩ := hAA
      obtain ⟨ba3, offa3, rfl, hba3, hca3⟩ := hr4.cellR hq
      unfold maxLen at h2m h3m
      clear hset hcv hfz hr3 hca3 hcell4
      go_wp2_with fail
      go_loopw [9, 10, 48] (fun _ _ j wr => ∃ k : Nat, k ≤ q ∧ j = .int .i64 k ∧ OwM wr w1.heap.size (.slice (some ⟨gb, 0, none⟩) n cm) vs n (fun i' => rw r (mst q a b i k i')) ∧ Below w1.heap.size w1 wr) (fun _ _ j _ => q - (intOf j).toNat)
      case atStart => exact ⟨0, by omega, rfl, ho, hbw⟩
      case round =>
        clear ho hbw hcell hcell3
        obtain ⟨j, hj, rfl, ho, hbw⟩ := hrel
        by_cases hjl : j < q
        · obtain ⟨ba4, offa4, hAe, -, hca⟩ := (hr4.below hbw).cellR hq
          have hcaj := hca j hjl
          injection hAe with hAe
          injection hAe with q1 q2
          subst q1
          subst q2
          clear hca
          obtain ⟨A5, c5, hcell5, h5c, h5m, hr5⟩ := (hbr1.up hbw).rowT hjl
          have hfw := hf.below hbw
          go_wp2_with fail
          refine (row_any p (a i j).toNat _ (rw r (b j)) _ hfw (a i j).toNat_lt hr5 (by rw [rw_len]; exact hr2)).mono ?_
          rintro e w3 ⟨⟨x, rfl, hox⟩, hb3⟩
          rw [rowL_rw] at hox
          have ho3 := ho.below hb3
          have hap := Apart.fresh (ho.row i hlt) hox (Nat.le_refl _)
          have hrow := ho3.row i hlt
          have hbw3 := hbw.trans (hb3.mono hbw.size)
          rw [hv] at hap hrow
          go_wp2_with fail
          refine (turn_any _ x _ _ _ r _ _ _ hrow hox hap).mono ?_
          rintro e w4 ⟨rfl, ho4, hg4⟩
          have HO := Lib.hid (mst_step' (ho3.setRow hlt (by rw [hv]; exact hg4) (by rw [hv]; exact ho4)))
          have hb4 := ho3.grown hlt (w' := w4) (by rw [hv]; exact hg4) hbw3 (Nat.le_refl _) hbw3.size
          clear ho ho3 hap hrow hox ho4 hg4 hb3 hbw3 hbw hfw hr5
          go_wp2_with fail
          go_roundw
          case rel => exact ⟨j + 1, by omega, by go_num, HO.out, hb4⟩
          case measure => simp [intOf]; omega
        · obtain rfl : j = q := by omega
          have HO := Lib.hid (ho.congr (g' := fun i' => rw r (mst j a b (i + 1) 0 i')) (fun i' _ => rw_congr fun j' _ => mst_next j a b i i' j'))
          clear ho
          go_wp2_with fail
          go_roundw
          case rel => exact ⟨i + 1, by omega, by go_num, HO.out, hbw⟩
          case measure => simp [intOf]; omega
    · obtain rfl : i = n := by omega
      have ho2 := ho.congr (g' := fun i' => rw r (mm q a b i')) (fun i' hi' => rw_congr fun j _ => by unfold mst; rw [if_pos hi'])
      clear ho
      go_wp2_with fail
      go_ret
      exact ⟨⟨_, vs, rfl, ho2.mono hb1.size⟩, bwstep hb1 hbw⟩
end Go.Proofs.Ytjhnbhgpnmfdgaa
