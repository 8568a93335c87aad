/- BlockGets' walk. -/
import Derived.Test.YtpflcnndloielaaBaw
import Derived.Test.YtpflcnndloielaaBrg
import Derived.Test.YtpflcnndloielaaSame
namespace Go.Proofs.Ytpflcnndloielaa
open Go.RowKit Ce

set_option maxHeartbeats 8000000 in
set_option maxRecDepth 100000 in
theorem blockGets_walk (v : Value) (l : List UInt8) (w : World) (hr : Rd w w.heap.size v (l.map bv)) (_z : l.length ≤ 140737488351232) : Calls Try.prog 5 #[v] w fun e w' => e = .returned (.bool true) ∧ Below w.heap.size w w' := by
  obtain ⟨A, c, rfl, hc, hm⟩ := hr.shapeM
  unfold maxLen at hm
  have HR := Lib.hid hr
  clear hr
  go_enter Try.func5, Try.ntmps5
  by_cases hlen : 3000 < l.length
  · have hlb : decide (3000 < l.length) = true := decide_eq_true hlen
    have hlb2 : decide ((3000 : Int) < (l.length : Int)) = true := decide_eq_true (by omega)
    clear hlen
    go_wp2_with fail
    refine (bawake_ok _).mono ?_
    rintro e w1 ⟨rfl, hb1⟩
    have HK1 := Lib.hid hb1
    clear hb1
    go_wp2_with fail
    refine (bawake_ok _).mono ?_
    rintro e w2 ⟨rfl, hb2⟩
    have HK2 := Lib.hid (bwstep HK1.out hb2)
    clear hb2
    go_wp2_with fail
    go_ret
    exact ⟨rfl, HK2.out⟩
  · have hlb : decide (3000 < l.length) = false := decide_eq_false hlen
    have hlb2 : decide ((3000 : Int) < (l.length : Int)) = false := decide_eq_false (by omega)
    have hll : l.length ≤ 3000 := by omega
    clear hlen
    go_wp2_with fail
    refine (bawake_ok _).mono ?_
    rintro e w1 ⟨rfl, hb1⟩
    have HR1 := Lib.hid (HR.out.up hb1)
    have HK1 := Lib.hid hb1
    clear hb1 HR
    go_wp2_with fail
    refine (bget_any _ l w1 _ HR1.out (Nat.le_refl _) (by omega)).mono ?_
    rintro e w2 ⟨he, hb2⟩
    have HR2 := Lib.hid (HR1.out.up hb2)
    have HK2 := Lib.hid (bwstep HK1.out hb2)
    clear hb2 HR1 HK1
    rcases he with ⟨L, m, x, y, hat, rfl, hx, hy⟩ | ⟨hno, rfl⟩
    · have HAT := Lib.hid hat
      have HX := Lib.hid (hx.rd (S := []) (fun _ h => by cases h))
      have HY := Lib.hid hy.rd
      clear hx hy hat
      go_wp2_with fail
      refine (rbget_any _ l w2 HR2.out (by omega)).mono ?_
      rintro e w3 ⟨he, hb3⟩
      have HR3 := Lib.hid (HR2.out.up hb3)
      have HX3 := Lib.hid (HX.out.bel hb3)
      have HY3 := Lib.hid (HY.out.up hb3)
      have HK3 := Lib.hid (bwstep HK2.out hb3)
      clear hb3 HX HY HR2 HK2
      rcases he with ⟨L', m', u, hat', rfl, hu⟩ | ⟨hno, rfl⟩
      · obtain ⟨rfl, rfl⟩ := hat'.one HAT.out
        have hLl : L'.length ≤ 1000000000 := by
          have h1 := flatC_ge hat'.s.ok
          have h2 := hat'.le
          rw [recB_len] at h2
          omega
        have HU := Lib.hid (hu.rd (S := []) (fun _ h => by cases h))
        have hbl := congrArg List.length hat'.e
        rw [List.length_append, blkB_len] at hbl
        have hrl := recB_len L'
        obtain ⟨n, hn⟩ : ∃ n, n = 12 + (recB L').length := ⟨_, rfl⟩
        rw [← hn]
        have hnl : n ≤ l.length := by omega
        have hn0 : ((n : Int) == 0) = false := beq_false_of_ne (by omega)
        have hdn : l.drop n = m' := by
          have e1 : n = (blkB L').length := by rw [blkB_len]; omega
          rw [e1, hat'.e, List.drop_left]
        have hz1 : (0 : Int) ≤ (n : Int) := by omega
        have hz2 : (n : Int) ≤ (l.length : Int) := by omega
        have hz3 : (l.length : Int) ≤ (c : Int) := by omega
        have HD : Hid (∀ (wz : World), Below w3.heap.size w3 wz → (c = n → Rd wz wz.heap.size (.slice A 0 0) (m'.map bv)) ∧ (¬ c = n → Rd wz wz.heap.size (.slice (A.map fun x => x.add n) (l.length - n) (c - n)) (m'.map bv))) := Lib.hid fun wz hz => by
          refine ⟨fun e => ?_, fun e => ?_⟩
          · subst e
            have := (HR3.out.up hz).fromEnd hnl
            rwa [← List.map_drop, hdn] at this
          · have := (HR3.out.up hz).from_ hnl e
            rwa [← List.map_drop, hdn] at this
        clear hat' hu hbl hrl hn hdn HAT
        go_wp2_with fail
        refine (rsameL_self _ _ L' _ HX3.out HU.out hLl).mono ?_
        rintro e w4 ⟨rfl, hb4⟩
        have HY4 := Lib.hid (HY3.out.up hb4)
        have HD4 := Lib.hid (HD.out _ hb4)
        have HK4 := Lib.hid (bwstep HK3.out hb4)
        clear hb4 HD HY3 HX3 HU
        by_cases hcn : c = n
        · have hsm := rsame_any _ _ _ _ _ _ w4 HY4.out (HD4.out.1 hcn)
          rw [sameB_self] at hsm
          have hll2 : l.length = n := by omega
          subst hcn
          clear HD4 hz2 hz3 hc hnl
          rw [hll2] at *
          clear hll2
          go_wp2_with fail
          refine hsm.mono ?_
          rintro e w5 ⟨rfl, rfl⟩
          go_wp2_with fail
          go_ret
          exact ⟨rfl, HK4.out⟩
        · have hsm := rsame_any _ _ _ _ _ _ w4 HY4.out (HD4.out.2 hcn)
          rw [sameB_self] at hsm
          clear HD4
          go_wp2_with fail
          refine hsm.mono ?_
          rintro e w5 ⟨rfl, rfl⟩
          go_wp2_with fail
          go_ret
          exact ⟨rfl, HK4.out⟩
      · exact absurd ⟨_, _, HAT.out⟩ hno
    · have HN := Lib.hid hno
      clear hno
      go_wp2_with fail
      refine (rbget_any _ l w2 HR2.out (by omega)).mono ?_
      rintro e w3 ⟨he, hb3⟩
      have HK3 := Lib.hid (bwstep HK2.out hb3)
      clear hb3
      rcases he with ⟨L', m', u, hat', rfl, hu⟩ | ⟨-, rfl⟩
      · exact absurd ⟨_, _, hat'⟩ HN.out
      · go_wp2_with fail
        go_ret
        exact ⟨rfl, HK3.out⟩
end Go.Proofs.Ytpflcnndloielaa
