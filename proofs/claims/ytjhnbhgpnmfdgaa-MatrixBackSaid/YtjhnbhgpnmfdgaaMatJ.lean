/- The contract of swap: two rows change places. -/
import Derived.Test.YtjhnbhgpnmfdgaaMatE
import Derived.BigRegion
namespace Go.Proofs.Ytjhnbhgpnmfdgaa
open Go.RowKit
open Mx (rw rw_len rw_get rw_congr sw swp)

/-- cells of the outer slice, known place -/
theorem OwM.outer {w : World} {B n m c : Nat} {A : Option Addr} {vs : Nat → Value} {g : Nat → List UInt8} (h : OwM w B (.slice A m c) vs n g) (hn : 0 < n) :
    ∃ gb, A = some ⟨gb, 0, none⟩ ∧ B ≤ gb ∧ gb < w.heap.size ∧ ∀ i, i < n → w.cell? ⟨gb, i, none⟩ = some (vs i) ∧ w.frozen? ⟨gb, i, none⟩ = false := by
  obtain ⟨gb, hA, hgb, hgs, hgc, hgf, _⟩ := h.out.at_ (k := 0) (by simpa using hn)
  refine ⟨gb, hA, hgb, hgs, fun i hi => ?_⟩
  obtain ⟨gb2, hA2, _, _, hgc2, hgf2, _⟩ := h.out.at_ (k := i) (by simpa using hi)
  rw [hA] at hA2
  injection hA2 with q
  injection q with q
  subst q
  exact ⟨by rw [hgc2]; simp, hgf2⟩
theorem map_swap (n i j : Nat) (hi : i < n) (hj : j < n) (vs : Nat → Value) : (((List.range n).map vs).set i (vs j)).set j (vs i) = (List.range n).map fun x => vs (sw i j x) := by
  rw [map_upd, map_upd]
  refine List.map_congr_left fun x _ => ?_
  unfold sw
  by_cases h1 : x = i
  · subst h1
    by_cases h2 : x = j
    · subst h2; simp
    · simp [h2]
  · by_cases h2 : x = j
    · subst h2; simp [h1]
    · simp [h1, h2]
theorem OwM.swap_ {w : World} {B n m c i j gb : Nat} {vs : Nat → Value} {g : Nat → List UInt8} (h : OwM w B (.slice (some ⟨gb, 0, none⟩) m c) vs n g) (hi : i < n) (hj : j < n) :
    OwM ((w.setCell ⟨gb, i, none⟩ (vs j)).setCell ⟨gb, j, none⟩ (vs i)) B (.slice (some ⟨gb, 0, none⟩) m c) (fun x => vs (sw i j x)) n (fun x => g (sw i j x)) ∧
      w.grownBy ((w.setCell ⟨gb, i, none⟩ (vs j)).setCell ⟨gb, j, none⟩ (vs i)) (some gb) := by
  have hg : w.grownBy ((w.setCell ⟨gb, i, none⟩ (vs j)).setCell ⟨gb, j, none⟩ (vs i)) (some gb) := (grownBy_setCell w gb i _).trans (grownBy_setCell _ gb j _)
  refine ⟨⟨?_, fun x hx => (h.row _ (Mx.sw_lt hi hj hx)).kept hg fun k hk e => h.apo _ (Mx.sw_lt hi hj hx) gb rfl (by rw [hk]; exact e.symm), fun a b ha hb hne => h.ap _ _ (Mx.sw_lt hi hj ha) (Mx.sw_lt hi hj hb) fun e => hne (by
    have := congrArg (sw i j) e
    rwa [Mx.sw_sw, Mx.sw_sw] at this), fun x hx => h.apo _ (Mx.sw_lt hi hj hx)⟩, hg⟩
  obtain ⟨g1, hA1, _, _, _, _, hset1⟩ := h.out.at_ (k := i) (by simpa using hi)
  obtain ⟨rfl⟩ : gb = g1 := by injection hA1 with q; injection q
  obtain ⟨g2, hA2, _, _, _, _, hset2⟩ := (hset1 (vs j)).at_ (k := j) (by simpa using hj)
  obtain ⟨rfl⟩ : gb = g2 := by injection hA2 with q; injection q
  have := hset2 (vs i)
  rw [map_swap n i j hi hj] at this
  exact this
set_option maxHeartbeats 4000000 in
set_option maxRecDepth 100000 in
theorem swap_any (v : Value) (vs : Nat → Value) (B n wd c : Nat) (W : Mx.M) (w : World) (ho : OwM w B v vs n (fun i => rw wd (W i))) (hc : c < n) (hw : c < wd) (hn : n ≤ 1000000000) :
    Calls Try.prog 28 #[v, .int .i64 (c : Int)] w fun e w' =>
      (∃ p, c ≤ p ∧ p < n ∧ W p c ≠ 0 ∧ e = .returned (.bool true) ∧ (∃ vs', OwM w' B v vs' n (fun i => rw wd (swp W c p i))) ∧ w.grownBy w' v.ownBlock) ∨
      ((∀ i, c ≤ i → i < n → W i c = 0) ∧ e = .returned (.bool false) ∧ w = w') := by
  obtain ⟨A, cap, rfl, hcap, hm⟩ := ho.rd.shape
  unfold maxLen at hm
  obtain ⟨gb, rfl, hgb, hgs, hcells⟩ := ho.outer (by omega)
  go_enter Try.func28, Try.ntmps28
  go_wp2_with fail
  go_loop [5] (fun i => ∃ k : Nat, c ≤ k ∧ k ≤ n ∧ i = .int .i64 k ∧ ∀ j, c ≤ j → j < k → W j c = 0) (fun i => n - (intOf i).toNat)
  case atStart => exact ⟨c, by omega, by omega, rfl, fun j h1 h2 => by omega⟩
  case round =>
    obtain ⟨k, hk1, hk, rfl, hall⟩ := hrel
    have HA := Lib.hid hall
    clear hall
    by_cases hlt : k < n
    · obtain ⟨gb', g, c2, hA, hv, hcell, h2c, h2m, hBg, hg2, hcv, hfz, -⟩ := ho.at_ hlt hw
      obtain ⟨rfl⟩ : gb = gb' := by injection hA with q; injection q
      unfold maxLen at h2m
      clear hA
      by_cases hz : W k c = 0
      · rw [hz] at hcv
        have hcv' : w.cell? ⟨g, c, none⟩ = some (.int .u8 0) := hcv
        have HZ := Lib.hid hz
        clear hcv hz
        go_wp2_with fail
        go_round
        case rel => exact ⟨k + 1, by omega, by omega, by go_num, fun j h1 h2 => by
          by_cases e : j = k
          · subst e; exact HZ.out
          · exact HA.out j h1 (by omega)⟩
        case measure => simp [intOf]; omega
      · have HN := Lib.hid hz
        have hne : (((W k c).toNat : Int) != 0) = true := bne_iff_ne.2 (fun e => hz (Mx.nat_zero.1 (by omega)))
        obtain ⟨hs1, hs2⟩ := ho.swap_ hc hlt
        have HS := Lib.hid hs1
        have HG := Lib.hid hs2
        obtain ⟨hk1c, hk1f⟩ := hcells k hlt
        obtain ⟨hcc, hcf⟩ := hcells c hc
        obtain ⟨Ac, cc, hvc, -, -⟩ := (ho.row c hc).rd.shapeR
        rw [hvc] at hcc HS HG
        rw [hv] at hk1c HS HG
        clear hs1 hs2 hz hcells hcell
        by_cases hkc : k = c
        · subst hkc
          rw [hv] at hvc
          rw [← hvc] at hcc HS HG
          clear hvc
          go_wp2_with fail
          go_region
          go_wp2_with fail
          go_ret
          exact .inl ⟨k, hk1, hlt, HN.out, rfl, ⟨_, HS.out.below (bwN 1)⟩, (show w.grownBy _ (some gb) from HG.out).trans ⟨rfl, rfl, rfl, by simp [World.drew, World.setCell], fun _ _ _ => rfl⟩⟩
        · have hne2 : ¬ c = k := fun e => hkc e.symm
          go_wp2_with fail
          go_region
          go_wp2_with fail
          go_ret
          exact .inl ⟨k, hk1, hlt, HN.out, rfl, ⟨_, HS.out.below (bwN 1)⟩, (show w.grownBy _ (some gb) from HG.out).trans ⟨rfl, rfl, rfl, by simp [World.drew, World.setCell], fun _ _ _ => rfl⟩⟩
    · obtain rfl : k = n := by omega
      clear hcells
      go_wp2_with fail
      go_ret
      exact .inr ⟨fun i h1 h2 => HA.out i h1 h2, rfl, rfl⟩
end Go.Proofs.Ytjhnbhgpnmfdgaa
