/- The contract of Invert. -/
import Derived.Test.YtjhnbhgpnmfdgaaMatI
import Derived.Test.YtjhnbhgpnmfdgaaMatJ
import Derived.Test.YtjhnbhgpnmfdgaaMatK
namespace Go.Proofs.Ytjhnbhgpnmfdgaa
open Go.RowKit
open Mx (rw rw_len rw_get rw_congr fm fi dl bes rgt mm sm dt rws swp stk)

theorem swp_c (W : Mx.M) (c p : Nat) : swp W c p c = W p := by unfold swp Mx.sw; rw [if_pos rfl]
set_option maxHeartbeats 1000000 in
set_option maxRecDepth 100000 in
theorem invert_no (v : Value) (n q : Nat) (a : Mx.M) (w : World) (ha : RdM w w.heap.size v n (fun i => rw q (a i))) (hn : 0 < n) (hq : 0 < q) (hne : n ≠ q) :
    Calls Try.prog 17 #[v] w fun e w' => e = .returned (.tuple #[.slice none 0 0, .bool false]) ∧ w = w' := by
  obtain ⟨A, c, rfl, hc, hm⟩ := ha.shape
  have p1 := right_any _ n _ _ w ha
  rw [isR_rw a hn hq] at p1
  obtain ⟨ba, offa, rfl, hba⟩ := ha.open_ hn
  obtain ⟨A0, c0, hcell0, h0c, h0m, hr0⟩ := ha.rowT (j := 0) hn
  rw [Nat.add_zero] at hcell0
  have t : ((n : Int) != (q : Int)) = true := bne_iff_ne.2 (fun e => hne (Int.ofNat.inj e))
  clear hne hr0 ha
  go_enter Try.func17, Try.ntmps17
  go_wp2_with fail
  refine p1.mono ?_
  rintro e w1 ⟨rfl, rfl⟩
  go_wp2_with fail
  go_ret2
  exact ⟨rfl, rfl⟩
/-- what Invert answers of a matrix as wide as high -/
def Inverted (n : Nat) (a : Mx.M) (w : World) (e : Ending) (w' : World) : Prop :=
  (∃ x vs X, e = .returned (.tuple #[x, .bool true]) ∧ OwM w' w.heap.size x vs n (fun i => rw n (X i)) ∧
      (∀ i, i < n → ∀ j, j < n → mm n X a i j = dl i j) ∧ (∀ i, i < n → ∀ j, j < n → mm n a X i j = dl i j) ∧ dt n (rws n a) ≠ 0) ∨
  (e = .returned (.tuple #[.slice none 0 0, .bool false]) ∧ dt n (rws n a) = 0 ∧ ∃ y : Nat → UInt8, (∃ j, j < n ∧ y j ≠ 0) ∧ ∀ i, i < n → sm n (fun j => fm (a i j) (y j)) = 0)
set_option maxHeartbeats 4000000 in
set_option maxRecDepth 100000 in
theorem invert_any (v : Value) (n : Nat) (a : Mx.M) (w : World) (ha : RdM w w.heap.size v n (fun i => rw n (a i))) (hn : 0 < n) (hn2 : n ≤ 1000000000) :
    Calls Try.prog 17 #[v] w fun e w' => Inverted n a w e w' ∧ Below w.heap.size w w' := by
  obtain ⟨A, c, rfl, hc, hm⟩ := ha.shape
  have p1 := right_any _ n _ _ w ha
  rw [isR_rw a hn hn] at p1
  obtain ⟨ba, offa, rfl, hba⟩ := ha.open_ hn
  obtain ⟨A0, c0, hcell0, h0c, h0m, hr0⟩ := ha.rowT (j := 0) hn
  rw [Nat.add_zero] at hcell0
  clear hr0
  go_enter Try.func17, Try.ntmps17
  go_wp2_with fail
  refine p1.mono ?_
  rintro e w1 ⟨rfl, rfl⟩
  go_wp2_with fail
  refine (new_any _).mono ?_
  rintro e w1 ⟨⟨p, rfl, -, hf⟩, hb1⟩
  have ha1 := ha.up hb1
  clear hcell0 p1 ha
  go_wp2_with fail
  refine (beside_any _ n a _ ha1 hn hn2).mono ?_
  rintro e w2 ⟨⟨v, vs, rfl, ho⟩, hb2⟩
  obtain ⟨Am, cm, rfl, hcm, hmm⟩ := ho.rd.shape
  unfold maxLen at hmm
  have hp : p < w1.heap.size := hf.lt
  clear ha1
  go_wp2_with fail
  go_loopw [6, 24] (fun _ i wr => ∃ k : Nat, k ≤ n ∧ i = .int .i64 k ∧ (∃ vs W, OwM wr w1.heap.size (.slice Am n cm) vs n (fun i => rw (2 * n) (W i)) ∧ Mx.Gj n a k W) ∧ Below w1.heap.size w1 wr) (fun _ i _ => n - (intOf i).toNat)
  case atStart => exact ⟨0, by omega, rfl, ⟨_, _, ho, Mx.Gj.start n a⟩, hb2⟩
  case round =>
    clear ho hb2
    obtain ⟨k, hk, rfl, ⟨vs, W, ho, hG⟩, hb⟩ := hrel
    by_cases hlt : k < n
    · go_wp2_with fail
      refine (swap_any _ vs w1.heap.size n (2 * n) k W _ ho hlt (by omega) hn2).mono ?_
      rintro e w3 (⟨q, hq1, hq2, hq3, rfl, ⟨vs', ho3⟩, hg3⟩ | ⟨hz, rfl, rfl⟩)
      · have hb3 := hb.grown hg3 hb.size (fun k' hk' => (ho.out.lt k' hk').1)
        have hG2 := (hG.swp hlt hq1 hq2).stl hlt (by rw [swp_c]; exact hq3)
        have hf3 := hf.kept hp hb3
        clear ho hG hg3 hb
        go_wp2_with fail
        refine (settle_any p _ vs' w1.heap.size n (2 * n) k (swp W k q) _ hf3 hp hb3.size ho3 hlt (by omega) hn2 (by omega)).mono ?_
        rintro e w4 ⟨rfl, ho4, hb4⟩
        have hb5 := hb3.trans hb4
        clear ho3 hb3 hb4 hf3
        have HG := Lib.hid hG2
        go_wp2_with fail
        go_roundw
        case rel => exact ⟨k + 1, by omega, by go_num, ⟨_, _, ho4, HG.out⟩, hb5⟩
        case measure => simp [intOf]; omega
      · have HF := Lib.hid (hG.fail hlt hz)
        clear hz hG ho
        go_wp2_with fail
        go_ret2
        exact ⟨.inr ⟨rfl, HF.out⟩, bwstep hb1 hb⟩
    · obtain rfl : k = n := by omega
      have HD := Lib.hid hG.done
      have hr := ho.rd
      clear hG
      go_wp2_with fail
      refine (half_any _ k W _ hr hn hn2).mono ?_
      rintro e w3 ⟨⟨x, vs3, rfl, ho3⟩, hb3⟩
      have hbb := bwstep hb1 hb
      clear ho hr
      go_wp2_with fail
      go_ret2
      exact ⟨.inl ⟨x, vs3, rgt k W, rfl, ho3.mono hbb.size, HD.out⟩, bwstep hbb hb3⟩
end Go.Proofs.Ytjhnbhgpnmfdgaa
