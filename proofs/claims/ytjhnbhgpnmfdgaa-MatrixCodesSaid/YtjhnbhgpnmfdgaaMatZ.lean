/- The statements of layer 4: the walk of MatrixCodes. -/
import Derived.Test.YtjhnbhgpnmfdgaaMatV
import Derived.OpenShut
namespace Go.Proofs.Ytjhnbhgpnmfdgaa
open Go.RowKit
open Mx (rw rw_len rw_get rw_congr dl cod mm dt rws)

theorem u8Of {s : Int} (h : (Lit.int .u8 s).wf = true) : ∃ t : Nat, s = (t : Int) ∧ t < 256 := by
  have := bounds_u8 h
  exact ⟨s.toNat, by omega, by omega⟩
/-- ints that are places -/
theorem nats_of (l : List Int) (r : Nat) (h : ∀ k (hk : k < l.length), 0 ≤ l[k] ∧ l[k] < r) : ∃ l' : List Nat, l.map iv = l'.map nvI ∧ l'.length = l.length ∧ ∀ k (hk : k < l'.length), l'[k] < r := by
  refine ⟨l.map Int.toNat, ?_, by simp, fun k hk => ?_⟩
  · apply List.ext_getElem?
    intro k
    by_cases hk : k < l.length
    · have := h k hk
      simp only [List.getElem?_map, List.getElem?_eq_getElem hk, Option.map_some, iv, nvI]
      congr 2
      omega
    · rw [List.getElem?_eq_none (by simp; omega), List.getElem?_eq_none (by simp; omega)]
  · have hk' : k < l.length := by simpa using hk
    have := h k hk'
    rw [List.getElem_map]
    omega
set_option maxHeartbeats 16000000 in
set_option maxRecDepth 100000 in
theorem matrixCodes_walk (a0 a1 : Int) (v : Value) (l : List Int) (w : World) (ha0 : (Lit.int .u8 a0).wf = true) (ha1 : (Lit.int .u8 a1).wf = true) (hr : Rd w w.heap.size v (l.map iv)) :
    Calls Try.prog 5 #[.int .u8 a0, .int .u8 a1, v] w fun e w' => e = .returned (.bool true) ∧ Below w.heap.size w w' := by
  obtain ⟨k, rfl, hk⟩ := u8Of ha0
  obtain ⟨m, rfl, hm⟩ := u8Of ha1
  obtain ⟨c, hc, hc1, hc7⟩ : ∃ c : Nat, 1 + (k : Int) % 7 = (c : Int) ∧ 1 ≤ c ∧ c ≤ 7 := ⟨1 + k % 7, by omega, by omega, by omega⟩
  obtain ⟨r, hrr, hcr, hr27⟩ : ∃ r : Nat, (c : Int) + (m : Int) % 20 = (r : Int) ∧ c ≤ r ∧ r ≤ 27 := ⟨c + m % 20, by omega, by omega, by omega⟩
  have HC := Lib.hid hc
  have HR := Lib.hid hrr
  obtain ⟨A, cap, rfl, hcap, hcm⟩ := hr.shapeM
  unfold maxLen at hcm
  clear ha0 ha1 hc hrr
  go_enter Try.func5, Try.ntmps5
  go_wp2_with fail
  rw [HC.out, HR.out]
  clear HC HR hk hm
  refine (awake_ok _).mono ?_
  rintro e wa ⟨rfl, hb⟩
  by_cases h50 : l.length ≤ 50
  · have t50 : ¬ (50 : Int) < (l.length : Int) := by omega
    have l1 := hr.up hb
    clear hr
    go_wp2_with fail
    refine (coding_any c r _ hc1 hcr (by omega)).mono ?_
    rintro e wb ⟨⟨x, vx, rfl, hx⟩, hbx⟩
    have x1 := hx.rd
    have l1 := l1.up hbx
    have hbb := bwstep hb hbx
    clear hbx hx hb
    go_wp2_with fail
    refine (rcod_any c r _ (by omega) (by omega)).mono ?_
    rintro e wc ⟨⟨y, vy, rfl, hy⟩, hbx⟩
    have y1 := hy.rd
    have x1 := x1.up hbx
    have l1 := l1.up hbx
    have hbb := bwstep hbb hbx
    clear hbx hy
    go_wp2_with fail
    refine (Calls.bel (rsameM_any _ _ r r _ _ _ _ _ x1 y1)).mono ?_
    rintro e wd ⟨rfl, hbx⟩
    rw [sameM_rw fun _ _ _ _ => rfl]
    have x1 := x1.up hbx
    have l1 := l1.up hbx
    have hbb := bwstep hbb hbx
    clear hbx y1
    by_cases hok : ∀ k (hk : k < l.length), 0 ≤ l[k] ∧ l[k] < r
    · obtain ⟨l', hl', hlen, hlt⟩ := nats_of l r hok
      rw [hl'] at l1
      rw [← hlen]
      clear hl' hok
      go_wp2_with fail
      refine (rows_ok _ _ r _ l' _ x1 l1 hlt (by omega) (fun i _ => by rw [rw_len]; omega)).mono ?_
      rintro e we ⟨⟨z, vz, rfl, hz⟩, hbx⟩
      have z1 := hz.rd
      have x1 := x1.up hbx
      have l1 := l1.up hbx
      have hbb := bwstep hbb hbx
      clear hbx hz
      obtain ⟨Az, cz, rfl, hcz, hmz⟩ := z1.shape
      obtain ⟨Ax, cx, rfl, hcx, hmx⟩ := x1.shape
      obtain ⟨bx, ox, rfl, hbx⟩ := x1.open_ (by omega)
      unfold maxLen at hmz hmx
      go_wp2_with fail
      go_loop [11] (fun i => ∃ k : Nat, k ≤ l'.length ∧ i = .int .i64 k) (fun i => l'.length - (intOf i).toNat)
      case atStart => exact ⟨0, by omega, rfl⟩
      case round =>
        obtain ⟨k, hk, rfl⟩ := hrel
        by_cases hkl : k < l'.length
        · obtain ⟨b, off, rfl, hb, hcell⟩ := l1.cellM (by omega)
          have hck := hcell k hkl
          have hlk := hlt k hkl
          unfold nvI at hck
          clear hcell
          generalize l'[k] = p at *
          have t1 : ¬ (p : Int) < 0 := by omega
          have t2 : ¬ (r : Int) ≤ (p : Int) := by omega
          go_wp2_with fail
          go_round
          case rel => exact ⟨k + 1, by omega, by go_num⟩
          case measure => simp [intOf]; omega
        · obtain rfl : k = l'.length := by omega
          clear hkl hk
          go_wp2_with fail
          go_loopw [12] (fun i wr => ∃ k : Nat, k ≤ l'.length ∧ i = .int .i64 k ∧ Below we.heap.size we wr) (fun i _ => l'.length - (intOf i).toNat)
          case atStart => exact ⟨0, by omega, rfl, Below.refl _ _⟩
          case round =>
            obtain ⟨k, hk, rfl, hw⟩ := hrel
            by_cases hkl : k < l'.length
            · obtain ⟨b, off, rfl, hb, hcell⟩ := (l1.up hw).cellM (by omega)
              have hck := hcell k hkl
              have hlk := hlt k hkl
              have hgd : l'.getD k 0 = l'[k] := by simp [List.getD, hkl]
              unfold nvI at hck
              clear hcell
              generalize l'[k] = p at *
              obtain ⟨bz, oz, rfl, hbz⟩ := z1.open_ (by omega)
              obtain ⟨A1, c1, hcell1, h1c, h1m, hr1⟩ := (z1.up hw).rowT hkl
              obtain ⟨A2, c2, hcell2, h2c, h2m, hr2⟩ := (x1.up hw).rowT hlk
              rw [hgd] at hr1
              have s1 := fun q : Nat => run_strS (P := Try.prog) (w := wr.drewN q) Try.underlying29 Try.underlying5 Try.underlying9 (hr1.below (bwN' wr q)) _ c1 rfl
              have s2 := fun q : Nat => run_strS (P := Try.prog) (w := wr.drewN q) Try.underlying29 Try.underlying5 Try.underlying9 (hr2.below (bwN' wr q)) _ c2 rfl
              have hs : (rw c (cod c p) == rw c (cod c p)) = true := beq_self_eq_true _
              have hp0 : (0 : Int) ≤ (p : Int) := by omega
              have hpr : (p : Int) < (r : Int) := by omega
              clear hr1 hr2 hgd
              go_wp2_with fail
              go_quiet (fail)
              go_wp2_with fail
              go_roundw
              case rel => exact ⟨k + 1, by omega, by go_num, bwstep hw (bwN _)⟩
              case measure => simp [intOf]; omega
            · obtain rfl : k = l'.length := by omega
              go_wp2_with fail
              go_ret
              exact ⟨rfl, bwstep hbb hw⟩
    · have hbad : ∃ k, ∃ h : k < l.length, ¬ (0 ≤ l[k] ∧ l[k] < r) := by
        apply Classical.byContradiction
        intro hno
        exact hok fun k hk => Classical.byContradiction fun h => hno ⟨k, hk, h⟩
      clear hok
      go_wp2_with fail
      refine (rows_no _ _ r _ l _ _ x1 l1 hbad).mono ?_
      rintro e we ⟨rfl, rfl⟩
      have HB := Lib.hid hbad
      clear hbad
      go_wp2_with fail
      go_loop [11] (fun i => ∃ k : Nat, k ≤ l.length ∧ i = .int .i64 k ∧ Hid (∀ j, j < k → ∀ h : j < l.length, 0 ≤ l[j] ∧ l[j] < r)) (fun i => l.length - (intOf i).toNat)
      case atStart => exact ⟨0, by omega, rfl, fun j hj => by omega⟩
      case round =>
        obtain ⟨k, hk, rfl, hall⟩ := hrel
        by_cases hlt : k < l.length
        · obtain ⟨b, off, rfl, hb, hcell⟩ := l1.cellM (by omega)
          have hck := hcell k hlt
          unfold iv at hck
          clear hcell
          have HE : Hid (∀ p, p = l[k] → 0 ≤ p ∧ p < r → ∀ j, j < k + 1 → ∀ h : j < l.length, 0 ≤ l[j] ∧ l[j] < r) := fun p hp h j hj h' => by
            by_cases e : j = k
            · subst e; rw [← hp]; exact h
            · exact hall.out j (by omega) h'
          obtain ⟨p, hp⟩ : ∃ p, p = l[k] := ⟨_, rfl⟩
          have HE := Lib.hid (HE.out p hp)
          rw [← hp] at hck
          clear hp
          by_cases t1 : p < 0
          · go_wp2_with fail
            go_ret
            exact ⟨rfl, hbb⟩
          · by_cases t2 : (r : Int) ≤ p
            · go_wp2_with fail
              go_ret
              exact ⟨rfl, hbb⟩
            · go_wp2_with fail
              go_round
              case rel => exact ⟨k + 1, by omega, by go_num, HE.out ⟨by omega, by omega⟩⟩
              case measure => simp [intOf]; omega
        · exfalso
          obtain ⟨j, hj, hno⟩ := HB.out
          exact hno (hall.out j (by omega) hj)
  · have t50 : (50 : Int) < (l.length : Int) := by omega
    clear hr
    go_wp2_with fail
    refine (awake_ok _).mono ?_
    rintro e wb ⟨rfl, hbx⟩
    have hbb := bwstep hb hbx
    go_wp2_with fail
    go_ret
    exact ⟨rfl, hbb⟩
end Go.Proofs.Ytjhnbhgpnmfdgaa
