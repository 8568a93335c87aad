/- The contract of least of package table: the least size at which no block ends ahead of its last cell. -/
import Derived.Test.YtdemdmingelamaaCsA
import Derived.Test.YtdemdmingelamaaBkP
import Derived.Test.YtdemdmingelamaaBlmA
namespace Go.Proofs.Ytdemdmingelamaa.Ce
open Go.RowKit

/-- one more than the bytes of all cells but the last -/
def most1 (M : List Cl) : Nat := 1 + (flatC (M.take (M.length - 1))).length
def leastP : List (List Cl) → Nat
  | [] => 1
  | M :: LL => max (most1 M) (leastP LL)
/-- from the beginning on -/
def leastQ (LL : List (List Cl)) : Nat → Nat
  | 0 => 1
  | k + 1 => max (leastQ LL k) (most1 (LL.getD k []))
theorem leastQ_ge (LL : List (List Cl)) : ∀ k, 1 ≤ leastQ LL k
  | 0 => Nat.le_refl _
  | k + 1 => by
    have := leastQ_ge LL k
    rw [leastQ]
    omega
theorem leastQ_at {LL : List (List Cl)} {k : Nat} {M : List Cl} (h : LL[k]? = some M) : leastQ LL (k + 1) = max (leastQ LL k) (most1 M) := by
  rw [leastQ, List.getD_eq_getElem?_getD, h]
  rfl
theorem leastQ_mem {LL : List (List Cl)} : ∀ {k j : Nat} {M : List Cl}, LL[j]? = some M → j < k → most1 M ≤ leastQ LL k
  | 0, j, M, _, hj => by omega
  | k + 1, j, M, h, hj => by
    by_cases e : j = k
    · subst e
      rw [leastQ_at h]
      omega
    · have := leastQ_mem (k := k) h (by omega)
      rw [leastQ]
      omega
/-- it isn't above a size that no block but with its last cell has -/
theorem leastQ_le {LL : List (List Cl)} {n : Nat} (h1 : 1 ≤ n) (h : ∀ M ∈ LL, most1 M ≤ n) : ∀ k, leastQ LL k ≤ n
  | 0 => h1
  | k + 1 => by
    have := leastQ_le h1 h k
    rw [leastQ]
    have h2 : most1 (LL.getD k []) ≤ n := by
      rw [List.getD_eq_getElem?_getD]
      cases hk : LL[k]? with
      | none => exact h1
      | some M => exact h M (List.mem_of_getElem? hk)
    omega
set_option maxHeartbeats 4000000 in
set_option maxRecDepth 100000 in
theorem least_any (v : Value) (LL : List (List Cl)) (w : World) (hv : RdB w v LL) (hok : ∀ M ∈ LL, (∀ c ∈ M, c.ok) ∧ M ≠ [] ∧ M.length ≤ 1000000) :
    Calls Try.prog 48 #[v] w fun e w' => e = .returned (.int .i64 (leastQ LL LL.length : Int)) ∧ Below w.heap.size w w' := by
  obtain ⟨A, c, rfl, hc, hcm⟩ := hv.shape
  unfold maxLen at hcm
  have HV := Lib.hid hv
  have HOK := Lib.hid hok
  have HMX : Hid (∀ k, leastQ LL k ≤ 1000000000) := Lib.hid (leastQ_le (by omega) fun M hM => by
    obtain ⟨h1, h2, h3⟩ := hok M hM
    have := flatC_le (L := M.take (M.length - 1)) fun c hc => h1 c (List.mem_of_mem_take hc)
    rw [List.length_take] at this
    unfold most1
    have : min (M.length - 1) M.length ≤ 1000000 := by omega
    omega)
  clear hv hok
  go_enter Try.func48, Try.ntmps48
  go_wp2_with fail
  go_loopw [3, 11] (fun p i wr => ∃ j q : Nat, j ≤ LL.length ∧ i = .int .i64 (j : Int) ∧ p = .int .i64 (q : Int) ∧ Hid (q = leastQ LL j) ∧ Below w.heap.size w wr) (fun _ i _ => LL.length - (intOf i).toNat)
  case atStart => exact ⟨0, 1, by omega, rfl, rfl, Lib.hid rfl, Below.refl _ _⟩
  case round =>
    obtain ⟨j, q, hj, rfl, rfl, HQ, hbw⟩ := hrel
    have HBW := Lib.hid hbw
    by_cases hlt : j < LL.length
    · have hfk : LL[j]? = some (LL[j]'hlt) := List.getElem?_eq_getElem _
      generalize LL[j]'hlt = M at hfk
      obtain ⟨hok, hne, hml⟩ := HOK.out M (List.mem_of_getElem? hfk)
      obtain ⟨b, off, rfl, hb⟩ := HV.out.open_ (by omega)
      obtain ⟨A1, c1, hc0, hcl1, hcm1, hr1⟩ := HV.out.row hfk
      unfold maxLen at hcm1
      have hc1 := (hbw.cell (p := ⟨b, off + j, none⟩) hb).trans hc0
      have HR := Lib.hid (hr1.bel hbw)
      have HL := Lib.hid (leastQ_at hfk)
      have hqm : q ≤ 1000000000 := by rw [HQ.out]; exact HMX.out j
      have hm0 : 0 < M.length := List.length_pos_iff.2 hne
      obtain ⟨n, hn⟩ : ∃ n, M.length = n + 1 := ⟨M.length - 1, by omega⟩
      have HOKM := Lib.hid hok
      have hmf : ∀ k, (flatC (M.take k)).length ≤ 500000000 := fun k => by
        have := flatC_le (L := M.take k) fun c hc => hok c (List.mem_of_mem_take hc)
        rw [List.length_take] at this
        have : min k M.length ≤ 1000000 := by omega
        omega
      have HMF := Lib.hid hmf
      have hM1 : most1 M = 1 + (flatC (M.take n)).length := by unfold most1; rw [hn]; rfl
      have HM1 := Lib.hid hM1
      have hh3 : (0 : Int) ≤ (j : Int) := by omega
      have hh4 : (j : Int) < (LL.length : Int) := by omega
      have HN := Lib.hid hn
      rw [hn] at hc1 hcl1
      have hcl1' : (n : Int) ≤ (c1 : Int) := by omega
      have hn1 : (n : Int) ≤ 1000000 := by omega
      have hw1 : IntKind.i64.wrap (((n + 1 : Nat) : Int) - 1) = (n : Int) := by
        rw [IntKind.wrap_i64]
        omega
      have HRT : Hid (RdL wr [] (.slice A1 n c1) (M.take n)) := Lib.hid (by
        have := HR.out
        rw [hn] at this
        exact this.to_ (by omega))
      obtain ⟨wo, hwo⟩ : ∃ wo, wo = wr := ⟨_, rfl⟩
      subst hwo
      clear hfk hc0 hr1 hok hne hml hmf hM1 hn hm0 hbw hb
      go_wp2_with fail
      go_loopw [6, 21] (fun p i wr => ∃ k : Nat, k ≤ n ∧ i = .int .i64 (k : Int) ∧ (∃ z : Nat, p = .int .i64 (z : Int) ∧ Hid (z = 1 + (flatC (M.take k)).length)) ∧ Below wo.heap.size wo wr) (fun _ i _ => n - (intOf i).toNat)
      case atStart => exact ⟨0, by omega, rfl, ⟨1, rfl, Lib.hid (by simp [flatC])⟩, Below.refl _ _⟩
      case round =>
        obtain ⟨k, hk, rfl, ⟨z, rfl, HZ⟩, hbk⟩ := hrel
        by_cases hlk : k < n
        · have hkM : k < M.length := by have := HN.out; omega
          have hfk : M[k]? = some (M[k]'hkM) := List.getElem?_eq_getElem _
          generalize M[k]'hkM = f at hfk
          have hfT : (M.take n)[k]? = some f := by rw [List.getElem?_take, if_pos hlk]; exact hfk
          have hrt := HRT.out.bel hbk
          obtain ⟨bm, om, rfl, -⟩ := hrt.open_ (by rw [List.length_take]; omega)
          obtain ⟨h5, -⟩ := hrt.at_ hfT
          obtain ⟨c0, c1', c2, c3, c4⟩ := h5
          have hokf := HOKM.out f (List.mem_of_getElem? hfk)
          have hpu := fun w => put_ok f w hokf
          have HSN := Lib.hid (flatC_snoc hfk)
          have hz1 : z + (cellB f).length ≤ 600000000 := by
            have := HMF.out (k + 1)
            rw [HSN.out, List.length_append] at this
            have := HZ.out
            omega
          have hh5 : (0 : Int) ≤ (k : Int) := by omega
          have hh6 : (k : Int) < (n : Int) := by omega
          have HBK := Lib.hid hbk
          clear hfk hfT hrt hokf hbk
          go_wp2_with (refine allocC rfl rfl ?_)
          constructor
          intro w3 hI3 hb3 hz3
          go_wp2_with (refine storeC (c := f) rfl (.tmp 8) (.tmp 24) rfl rfl rfl hI3 ?_)
          constructor
          intro w4 hs4
          have HI4 := Lib.hid hs4.i
          have HB4 := Lib.hid (bwstep HBK.out (hs4.bel hb3 (Nat.le_refl _)))
          clear hI3 hb3 hz3 hs4 c0 c1' c2 c3 c4
          go_wp2_with (refine loadC rfl (.tmp 8) rfl rfl HI4.out ?_)
          refine (hpu _).mono ?_
          rintro e w5 ⟨⟨x, rfl, hx⟩, hb5⟩
          have HB5 := Lib.hid (bwstep HB4.out hb5)
          obtain ⟨Ax, cx, rfl, -, -⟩ := hx.rd.shapeM
          generalize hcl : (cellB f).length = y at *
          have HY := Lib.hid hcl
          clear hx hb5 hpu hcl
          go_wp2_with fail
          go_roundw
          case rel => exact ⟨k + 1, by omega, by go_num, ⟨z + y, by go_num, Lib.hid (by rw [HSN.out, List.length_append, HZ.out, HY.out]; omega)⟩, HB5.out⟩
          case measure => simp [intOf]; omega
        · obtain rfl : k = n := by omega
          have hzm : z = most1 M := by rw [HM1.out]; exact HZ.out
          have HBK := Lib.hid (bwstep HBW.out hbk)
          have HZM := Lib.hid hzm
          have hzl : z ≤ 600000000 := by have := HZ.out; have := HMF.out k; omega
          obtain ⟨x, hx, hmx⟩ : ∃ x : Nat, (max (q : Int) (z : Int)) = (x : Int) ∧ x = max q z := ⟨max q z, by omega, rfl⟩
          have HMX2 := Lib.hid hmx
          clear hzm hbk hmx
          go_wp2_with (refine Blm.wpList_max rfl (.tmp 31) (.tmp 32) _ rfl (q : Int) (z : Int) (x : Int) rfl rfl hx ?_)
          go_roundw
          case rel => exact ⟨j + 1, x, by omega, by go_num, by go_num, Lib.hid (by rw [HL.out, HMX2.out, HQ.out, HZM.out]), HBK.out⟩
          case measure => simp [intOf]; omega
    · obtain rfl : j = LL.length := by omega
      go_wp2_with fail
      go_ret
      exact ⟨ret1 (vi (by rw [HQ.out])), HBW.out⟩
end Go.Proofs.Ytdemdmingelamaa.Ce
