/- TableTurned's walk. -/
import Derived.Test.YtdemdmingelamaaTaw
import Derived.Test.YtdemdmingelamaaCbA
import Derived.Test.YtdemdmingelamaaCpo
import Derived.Test.YtdemdmingelamaaCso
import Derived.Test.YtdemdmingelamaaTbb
import Derived.Test.YtdemdmingelamaaTsc
import Derived.Test.YtdemdmingelamaaTurnB
namespace Go.Proofs.Ytdemdmingelamaa
open Go.RowKit Ce Frm

set_option maxHeartbeats 8000000 in
set_option maxRecDepth 100000 in
theorem tableTurned_walk (v : Value) (L : List Cl) (a1 a2 a3 : Int) (w : World) (hv : RdL w [] v L) (w1 : (Lit.int .u8 a1).wf = true) (w2' : (Lit.int .u16 a2).wf = true) (w3' : (Lit.int .u8 a3).wf = true) : Calls Try.prog 6 #[v, .int .u8 a1, .int .u16 a2, .int .u8 a3] w fun e w' => e = .returned (.bool true) ∧ Below w.heap.size w w' := by
  obtain ⟨t, rfl, ht⟩ : ∃ t : Nat, a1 = (t : Int) ∧ t < 256 := by
    have := bounds_u8 w1
    exact ⟨a1.toNat, by omega, by omega⟩
  obtain ⟨p, rfl, hp⟩ : ∃ p : Nat, a2 = (p : Int) ∧ p < 65536 := by
    have := bounds_u16 w2'
    exact ⟨a2.toNat, by omega, by omega⟩
  obtain ⟨u, rfl⟩ : ∃ u : UInt8, a3 = (u.toNat : Int) := by
    have := bounds_u8 w3'
    exact ⟨UInt8.ofNat a3.toNat, by rw [UInt8.toNat_ofNat']; omega⟩
  clear w1 w2' w3'
  have HV := Lib.hid hv
  clear hv
  go_enter Try.func6, Try.ntmps6
  go_wp2_with fail
  refine (tawake_ok _).mono ?_
  rintro e w1 ⟨rfl, hb1⟩
  have HK1 := Lib.hid hb1
  clear hb1
  go_wp2_with fail
  refine (efew_any v L _ (HV.out.bel HK1.out)).mono ?_
  rintro e w2 ⟨⟨q, rfl, hq⟩, hb2⟩
  have HK2 := Lib.hid (bwstep HK1.out hb2)
  clear hb2 HK1
  cases q
  · clear hq
    go_wp2_with fail
    refine (tawake_ok _).mono ?_
    rintro e w9 ⟨rfl, hb9⟩
    have H9 := Lib.hid (bwstep HK2.out hb9)
    clear hb9
    go_wp2_with fail
    go_ret
    exact ⟨rfl, H9.out⟩
  · obtain ⟨hl80, hok⟩ := hq rfl
    have HOK := Lib.hid hok
    clear hq hok
    by_cases hu : u = 0
    · subst hu
      have hu0 : ((0 : UInt8).toNat : Int) = 0 := rfl
      rw [hu0]
      have hu1 : ((0 : Int) == 0) = true := rfl
      go_wp2_with fail
      refine (tawake_ok _).mono ?_
      rintro e w9 ⟨rfl, hb9⟩
      have H9 := Lib.hid (bwstep HK2.out hb9)
      clear hb9
      go_wp2_with fail
      go_ret
      exact ⟨rfl, H9.out⟩
    have hun : u.toNat ≠ 0 := fun h => hu (by rw [← UInt8.toNat_inj]; exact h)
    have hu1 : ((u.toNat : Int) == 0) = false := by rw [beq_eq_false_iff_ne]; omega
    have HU := Lib.hid hu
    obtain ⟨z, hz⟩ : ∃ z : Nat, u.toNat = z := ⟨_, rfl⟩
    have HZ := Lib.hid hz
    rw [hz]
    rw [hz] at hu1 hun
    clear hu hz
    have hso := sorted_sortC HOK.out
    have HSO := Lib.hid hso.1
    have hsl := hso.2
    obtain ⟨S, hS⟩ : ∃ S, sortC L = S := ⟨_, rfl⟩
    rw [hS] at HSO hsl
    have HSL : Hid (S.length ≤ 80) := Lib.hid (by omega)
    have HSS := Lib.hid hS
    clear hso hsl hS
    go_wp2_with fail
    refine (rsort_any v L _ (HV.out.bel HK2.out) HOK.out (by omega)).mono ?_
    rintro e w3 ⟨⟨s3, rfl, hs3⟩, hb3⟩
    rw [HSS.out] at hs3
    have HR3 := Lib.hid (hs3.rd (S := []) (fun _ h => by cases h))
    have HK3 := Lib.hid (bwstep HK2.out hb3)
    clear hs3 hb3 HK2
    have h1t : (1 : Int) ≤ ((t + 1 : Nat) : Int) := by omega
    have hsz : (1 : Int) + (t : Int) = ((t + 1 : Nat) : Int) := by omega
    have hwt : IntKind.i64.wrap ((1 : Int) + (t : Int)) = ((t + 1 : Nat) : Int) := by rw [IntKind.wrap_i64]; omega
    obtain ⟨hf1, hf2⟩ := tab_few2 (size := ((t + 1 : Nat) : Int)) HSO.out HSL.out h1t
    obtain ⟨htab, -, -⟩ := tab_fit (size := ((t + 1 : Nat) : Int)) HSO.out hf1 h1t
    have hbu := tb_ok s3 S ((t + 1 : Nat) : Int) w3 HR3.out HSO.out h1t hf1
    have HTAB := Lib.hid htab
    generalize tabB S (cutB ((t + 1 : Nat) : Int) S) = T at *
    generalize cutB ((t + 1 : Nat) : Int) S = LL at *
    have hTL := tab_len htab
    have hT0 : 4 ≤ T.length := by omega
    clear htab hf1 hTL
    go_wp2_with fail
    refine hbu.mono ?_
    rintro e w4 ⟨⟨x, rfl, hx⟩, hb4⟩
    have HB4 := Lib.hid (bwstep HK3.out hb4)
    have hle4 := Lib.hid hb4.size
    clear hb4 hbu
    obtain ⟨N, hN⟩ : ∃ N, T.length = N := ⟨_, rfl⟩
    have HN := Lib.hid hN
    rw [hN] at hf2 hT0
    obtain ⟨k, hk⟩ : ∃ k, p % N = k := ⟨_, rfl⟩
    have hkN : k < N := by rw [← hk]; exact Nat.mod_lt _ (by omega)
    have hkm : (p : Int) % (N : Int) = (k : Int) := by rw [← hk, Int.natCast_emod]
    have hN0 : ((N : Int) == 0) = false := by rw [beq_eq_false_iff_ne]; omega
    have hN1 : ¬ (N : Int) = 0 := by omega
    obtain ⟨A, c, rfl, hc, hm⟩ := hx.rd.shapeM
    unfold maxLen at hm
    rw [hN] at hc
    have hx2 := hx
    rw [hN] at hx2
    have HX4 := Lib.hid hx2
    have hcu := hx2.rd.cutTo (hi := k) (by omega)
    rw [← List.map_take] at hcu
    have HCU := Lib.hid hcu
    have hk0 : (0 : Int) ≤ (k : Int) := by omega
    have hk1 : (k : Int) ≤ (N : Int) := by omega
    have hk2 : (k : Int) < (N : Int) := by omega
    have hk3 : (k : Int) ≤ (c : Int) := by omega
    rw [hN]
    clear hk hN hx hx2 hcu
    go_wp2_with fail
    refine (open_any _ (T.take k) _ _ HCU.out (Nat.le_refl _) (by rw [List.length_take]; omega)).mono ?_
    rintro e w5 ⟨(⟨S', LL', b', hTA, -, -⟩ | ⟨-, rfl⟩), hb5⟩
    · exact absurd ⟨_, _, hTA⟩ (tab_take HTAB.out (by rw [HN.out]; exact hkN))
    obtain ⟨g, y, rfl, hg1, hg2, hg3, hg4, hset⟩ := ow_turn2 u (HX4.out.below hb5) (k := k) (by rw [HN.out]; exact hkN)
    unfold bv at hg3 hset
    rw [← xor_u8, HZ.out] at hset
    have HST := Lib.hid hset
    have hB6 := (bwstep HB4.out hb5).setCell (p := ⟨g, k, none⟩) (Nat.le_trans (Nat.le_trans HK3.out.size (Nat.le_refl _)) hg1) (.int .u8 (bits .xor .u8 (y.toNat : Int) (z : Int)))
    have HB6 := Lib.hid hB6
    clear hb5 hset hB6 HCU HX4
    go_wp2_with fail
    refine (open_any _ _ _ _ HST.out.rd (Nat.le_refl _) (by rw [List.length_set, HN.out]; exact hf2)).mono ?_
    rintro e w7 ⟨(⟨S', LL', b', hTA, -, -⟩ | ⟨-, rfl⟩), hb7⟩
    · exact absurd ⟨_, _, hTA⟩ (tab_turned HTAB.out (by rw [HN.out]; exact hkN) HU.out)
    have HB7 := Lib.hid (bwstep HB6.out hb7)
    clear hb7 HST
    go_wp2_with fail
    go_ret
    exact ⟨rfl, HB7.out⟩
end Go.Proofs.Ytdemdmingelamaa
