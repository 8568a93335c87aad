/- The contracts of One and Coding. -/
import Derived.Test.YtjhnbhgpnmfdgaaMatB
namespace Go.Proofs.Ytjhnbhgpnmfdgaa
open Go.RowKit
open Mx (rw rw_len rw_get rw_congr dl cod)

/-- one element turned to u -/
def upd (f : Mx.M) (i k : Nat) (u : UInt8) : Mx.M := fun i' j => if i' = i ∧ j = k then u else f i' j
/-- an element of an owned matrix: read, and written -/
theorem OwM.at_ {w : World} {B n m c i k wd : Nat} {A : Option Addr} {vs : Nat → Value} {f : Mx.M} (h : OwM w B (.slice A m c) vs n (fun i => rw wd (f i))) (hi : i < n) (hk : k < wd) :
    ∃ gb g c', A = some ⟨gb, 0, none⟩ ∧ vs i = .slice (some ⟨g, 0, none⟩) wd c' ∧ w.cell? ⟨gb, i, none⟩ = some (.slice (some ⟨g, 0, none⟩) wd c') ∧ wd ≤ c' ∧ c' ≤ maxLen ∧ B ≤ g ∧ g < w.heap.size ∧
      w.cell? ⟨g, k, none⟩ = some (.int .u8 ((f i k).toNat : Int)) ∧ w.frozen? ⟨g, k, none⟩ = false ∧ ∀ u : UInt8, OwM (w.setCell ⟨g, k, none⟩ (bv u)) B (.slice A m c) vs n (fun i' => rw wd (upd f i k u i')) := by
  obtain ⟨gb, hA, hgb, hgs, hgc, hgf, hset⟩ := h.out.at_ (k := i) (by simpa using hi)
  have hr := h.row i hi
  obtain ⟨A', c', hv, h1, h2⟩ := hr.rd.shapeR
  rw [hv] at hr
  obtain ⟨g, hA', hg1, hg2, hc2, hf2, hset2⟩ := hr.atR hk
  subst hA'
  refine ⟨gb, g, c', hA, hv, by rw [hgc]; simp [hv], h1, h2, hg1, hg2, hc2, hf2, fun u => ?_⟩
  have hgk := grownBy_setCell w g k (bv u)
  have := h.setRow (j := i) (w' := w.setCell ⟨g, k, none⟩ (bv u)) hi (by rw [hv]; exact hgk) (by rw [hv]; exact hset2 u)
  refine this.congr fun i' _ => ?_
  by_cases e : i' = i
  · subst e
    rw [if_pos rfl]
    exact rw_congr fun j _ => by unfold upd; simp
  · rw [if_neg e]
    exact rw_congr fun j _ => by unfold upd; rw [if_neg (fun h => e h.1)]
/-- One behind k rounds -/
def orow (k : Nat) : Mx.M := fun i j => if i < k then dl i j else 0
theorem orow_step (k : Nat) : upd (orow k) k k 1 = orow (k + 1) := by
  funext i j
  unfold upd orow
  by_cases h1 : i = k
  · subst h1
    rw [if_pos (show i < i + 1 by omega)]
    by_cases h2 : j = i
    · subst h2; rw [if_pos ⟨rfl, rfl⟩, Mx.dl_self]
    · rw [if_neg (fun h => h2 h.2), if_neg (by omega), Mx.dl_ne (fun h => h2 h.symm)]
  · rw [if_neg (fun h => h1 h.1)]
    by_cases h2 : i < k
    · rw [if_pos h2, if_pos (by omega)]
    · rw [if_neg h2, if_neg (by omega)]
theorem bv_one : bv 1 = .int .u8 1 := rfl
set_option maxHeartbeats 1000000 in
set_option maxRecDepth 100000 in
theorem one_any (n : Nat) (w : World) (h1 : 1 ≤ n) (h2 : n ≤ 255) :
    Calls Try.prog 16 #[.int .i64 (n : Int)] w fun e w' => (∃ v vs, e = .returned v ∧ OwM w' w.heap.size v vs n (fun i => rw n (dl i))) ∧ Below w.heap.size w w' := by
  have t1 : ¬ (n : Int) < 1 := by omega
  have t2 : ¬ (255 : Int) < n := by omega
  go_enter Try.func16, Try.ntmps16
  go_wp2_with fail
  refine (zeros_any n n _ (by omega) (by omega)).mono ?_
  rintro e w1 ⟨⟨v, vs, rfl, ho⟩, hb⟩
  obtain ⟨A, c, rfl, hc, hm⟩ := ho.rd.shape
  unfold maxLen at hm
  go_wp2_with fail
  go_loopw [4, 5, 17] (fun _ _ i wr => ∃ k : Nat, k ≤ n ∧ i = .int .i64 k ∧ OwM wr w.heap.size (.slice A n c) vs n (fun i => rw n (orow k i)) ∧ Below w.heap.size w wr) (fun _ _ i _ => n - (intOf i).toNat)
  case atStart => exact ⟨0, by omega, rfl, ho.congr (fun i _ => rw_congr fun j _ => by unfold orow; rw [if_neg (by omega)]), hb⟩
  case round =>
    clear ho hb
    obtain ⟨k, hk, rfl, ho, hb⟩ := hrel
    by_cases hlt : k < n
    · obtain ⟨gb, g, c', rfl, hv, hcell, h1c, h2c, hBg, hgs, hcv, hfz, hset⟩ := ho.at_ hlt hlt
      have hs := hset 1
      rw [orow_step, bv_one] at hs
      have HS := Lib.hid hs
      have HB := Lib.hid (hb.setCell (p := ⟨g, k, none⟩) hBg (.int .u8 1))
      clear hset hs ho hb hv
      go_wp2_with fail
      go_roundw
      case rel => exact ⟨k + 1, by omega, by go_num, HS.out, HB.out⟩
      case measure => simp [intOf]; omega
    · obtain rfl : k = n := by omega
      have ho2 := ho.congr (g' := fun i => rw k (dl i)) (fun i hi => rw_congr fun j _ => by unfold orow; rw [if_pos hi])
      clear ho
      go_wp2_with fail
      go_ret
      exact ⟨⟨_, vs, rfl, ho2⟩, hb⟩
/-- the coding behind i rows and j elements -/
def cst (k i j : Nat) : Mx.M := fun i' j' => if i' < i ∨ i' = i ∧ j' < j then cod k i' j' else 0
theorem cst_step (k i j : Nat) : upd (cst k i j) i j (cod k i j) = cst k i (j + 1) := by
  funext i' j'
  unfold upd cst
  by_cases e : i' = i ∧ j' = j
  · rw [if_pos e, if_pos (.inr ⟨e.1, by omega⟩), e.1, e.2]
  · rw [if_neg e]
    by_cases h : i' < i ∨ i' = i ∧ j' < j
    · rw [if_pos h, if_pos (by omega)]
    · rw [if_neg h, if_neg (by omega)]
theorem cst_next (k i : Nat) (i' j' : Nat) (hj : j' < k) : cst k i k i' j' = cst k (i + 1) 0 i' j' := by
  unfold cst
  by_cases h : i' < i ∨ i' = i ∧ j' < k
  · rw [if_pos h, if_pos (by omega)]
  · rw [if_neg h, if_neg (by omega)]
theorem cst_unit (k i : Nat) (hi : i < k) : upd (cst k i 0) i i 1 = cst k (i + 1) 0 := by
  funext i' j'
  unfold upd cst
  by_cases e : i' = i
  · subst e
    have hc : cod k i' j' = dl i' j' := by unfold cod; rw [if_pos hi]
    rw [if_pos (show i' < i' + 1 ∨ _ from .inl (by omega)), hc]
    by_cases e2 : j' = i'
    · subst e2; rw [if_pos ⟨rfl, rfl⟩, Mx.dl_self]
    · rw [if_neg (fun h => e2 h.2), if_neg (by omega), Mx.dl_ne (fun h => e2 h.symm)]
  · rw [if_neg (fun h => e h.1)]
    by_cases h : i' < i
    · rw [if_pos (.inl h), if_pos (.inl (by omega))]
    · rw [if_neg (by omega), if_neg (by omega)]
theorem byte_xor (i j : Nat) (hi : i < 256) (hj : j < 256) : bits .xor .i64 (i : Int) (j : Int) % 256 = ((i ^^^ j : Nat) : Int) := by
  have hx : i ^^^ j < 256 := Gf.xor_lt hi hj
  rw [xor_i64 i j (by omega) (by omega)]
  omega
theorem cod_val (k i j : Nat) (hi : ¬ i < k) (h : i < 256) (hj : j < 256) : ((Gf.inv (i ^^^ j) : Nat) : Int) = ((cod k i j).toNat : Int) := by
  have hx : i ^^^ j < 256 := Gf.xor_lt h hj
  unfold cod
  rw [if_neg hi, Mx.fi_nat, Mx.ofNat_nat hx]
set_option maxHeartbeats 2000000 in
set_option maxRecDepth 100000 in
theorem coding_any (k n : Nat) (w : World) (h1 : 1 ≤ k) (h2 : k ≤ n) (h3 : n ≤ 200) :
    Calls Try.prog 19 #[.int .i64 (k : Int), .int .i64 (n : Int)] w fun e w' => (∃ v vs, e = .returned v ∧ OwM w' w.heap.size v vs n (fun i => rw k (cod k i))) ∧ Below w.heap.size w w' := by
  have t1 : ¬ (k : Int) < 1 := by omega
  have t2 : ¬ (n : Int) < k := by omega
  have t3 : ¬ (200 : Int) < n := by omega
  go_enter Try.func19, Try.ntmps19
  go_wp2_with fail
  refine (new_any _).mono ?_
  rintro e w1 ⟨⟨p, rfl, hp, hf⟩, hb1⟩
  go_wp2_with fail
  refine (zeros_any n k _ (by omega) (by omega)).mono ?_
  rintro e w2 ⟨⟨v, vs, rfl, ho⟩, hb2⟩
  obtain ⟨A, c, rfl, hc, hm⟩ := ho.rd.shape
  unfold maxLen at hm
  clear hp
  go_wp2_with fail
  go_loopw [7, 8, 9, 27] (fun _ _ _ i wr => ∃ k' : Nat, k' ≤ n ∧ i = .int .i64 k' ∧ OwM wr w1.heap.size (.slice A n c) vs n (fun i => rw k (cst k k' 0 i)) ∧ Below w1.heap.size w1 wr) (fun _ _ _ i _ => n - (intOf i).toNat)
  case atStart => exact ⟨0, by omega, rfl, ho.congr (fun i _ => rw_congr fun j _ => by unfold cst; rw [if_neg (by omega)]), hb2⟩
  case round =>
    clear ho hb2
    obtain ⟨i, hi, rfl, ho, hb⟩ := hrel
    by_cases hlt : i < n
    · by_cases hik : i < k
      · obtain ⟨gb, g, c', rfl, hv, hcell, h1c, h2c, hBg, hgs, hcv, hfz, hset⟩ := ho.at_ hlt hik
        have hs := hset 1
        rw [cst_unit k i hik, bv_one] at hs
        have HS := Lib.hid hs
        have HB := Lib.hid (hb.setCell (p := ⟨g, i, none⟩) hBg (.int .u8 1))
        clear hset hs ho hb hv
        go_wp2_with fail
        go_roundw
        case rel => exact ⟨i + 1, by omega, by go_num, HS.out, HB.out⟩
        case measure => simp [intOf]; omega
      · obtain ⟨gb, g, c', rfl, hv, hcell, h1c, h2c, hBg, hgs, hcv, hfz, hset⟩ := ho.at_ (k := 0) hlt (by omega)
        unfold maxLen at h2c
        clear hset hcv hfz
        go_wp2_with fail
        go_loopw [9, 40] (fun _ j wr => ∃ j' : Nat, j' ≤ k ∧ j = .int .i64 j' ∧ OwM wr w1.heap.size (.slice (some ⟨gb, 0, none⟩) n c) vs n (fun i' => rw k (cst k i j' i')) ∧ Below w1.heap.size w1 wr) (fun _ j _ => k - (intOf j).toNat)
        case atStart => exact ⟨0, by omega, rfl, ho, hb⟩
        case round =>
          clear ho hb hcell
          obtain ⟨j, hj, rfl, ho, hb⟩ := hrel
          by_cases hjl : j < k
          · obtain ⟨gb', g', c2, hA, hv', -, -, -, -, -, hcv, hfz, hset⟩ := ho.at_ hlt hjl
            rw [hv] at hv'
            injection hv' with q1 q2 q3
            injection q1 with q1
            injection q1 with q1
            subst q1
            have hs := hset (cod k i j)
            rw [cst_step] at hs
            have HX := Lib.hid (cod_val k i j hik (by omega) (by omega))
            have hx : i ^^^ j < 256 := Gf.xor_lt (by omega) (by omega)
            have HS := Lib.hid hs
            have HB := Lib.hid (hb.setCell (p := ⟨g, j, none⟩) hBg (bv (cod k i j)))
            have hfw := hf.below hb
            have HW := Lib.hid (byte_xor i j (by omega) (by omega))
            clear hset hs ho hb hA q2 q3
            go_wp2_with fail
            rw [HW.out]
            refine (inv_any p (i ^^^ j) _ hfw hx).mono ?_
            rintro e w3 ⟨rfl, m, rfl⟩
            go_wp2_with fail
            go_roundw
            case rel => exact ⟨j + 1, by omega, by go_num, by rw [HX.out]; exact HS.out.below (bwN m), by rw [HX.out]; exact below_drewN HB.out m⟩
            case measure => simp [intOf]; omega
          · obtain rfl : j = k := by omega
            have HO := Lib.hid (ho.congr (g' := fun i' => rw j (cst j (i + 1) 0 i')) (fun i' _ => rw_congr fun j' hj' => cst_next j i i' j' hj'))
            clear ho
            go_wp2_with fail
            go_roundw
            case rel => exact ⟨i + 1, by omega, by go_num, HO.out, hb⟩
            case measure => simp [intOf]; omega
    · obtain rfl : i = n := by omega
      have ho2 := ho.congr (g' := fun i => rw k (cod k i)) (fun i hi => rw_congr fun j _ => by unfold cst; rw [if_pos (.inl hi)])
      clear ho
      go_wp2_with fail
      go_ret
      exact ⟨⟨_, vs, rfl, ho2.mono hb1.size⟩, bwstep hb1 hb⟩
end Go.Proofs.Ytjhnbhgpnmfdgaa
