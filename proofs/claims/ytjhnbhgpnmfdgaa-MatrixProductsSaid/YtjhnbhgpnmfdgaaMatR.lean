/- The contracts of what only reads matrices: Right, the reference's Right, Few, Same. -/
import Derived.Test.YtjhnbhgpnmfdgaaSl
import Derived.Deep.QuietTactic
import Derived.BigQuiet
import Derived.IntWalk
namespace Go.Proofs.Ytjhnbhgpnmfdgaa
open Go.RowKit

/-- a callee that only draws, its world by 'Below' alone -/
theorem Calls.bel {P : Program} {f : FuncId} {args : Array Value} {w : World} {e0 : Ending} (h : Calls P f args w fun e w' => e = e0 ∧ ∃ m, w' = w.drewN m) : Calls P f args w fun e w' => e = e0 ∧ Below w.heap.size w w' :=
  h.mono fun _ _ ⟨he, _, hm⟩ => ⟨he, hm ▸ bwN _⟩
/-- is it a matrix? -/
def isR (n : Nat) (g : Nat → List UInt8) : Bool := decide (0 < n) && decide (0 < (g 0).length) && (List.range n).all fun j => decide ((g j).length = (g 0).length)
theorem isR_true {n : Nat} {g : Nat → List UInt8} (h0 : 0 < n) (h1 : 0 < (g 0).length) (h : ∀ j, j < n → (g j).length = (g 0).length) : isR n g = true := by
  unfold isR
  rw [decide_eq_true h0, decide_eq_true h1, List.all_eq_true.2 (fun j hj => decide_eq_true (h j (List.mem_range.1 hj)))]
  rfl
theorem isR_none {n : Nat} {g : Nat → List UInt8} (h0 : n = 0) : isR n g = false := by
  unfold isR
  rw [decide_eq_false (by omega)]
  rfl
theorem isR_empty {n : Nat} {g : Nat → List UInt8} (h0 : (g 0).length = 0) : isR n g = false := by
  unfold isR
  rw [decide_eq_false (p := 0 < (g 0).length) (by omega), Bool.and_false]
  rfl
theorem isR_not {n k : Nat} {g : Nat → List UInt8} (hk : k < n) (h : (g k).length ≠ (g 0).length) : isR n g = false := by
  unfold isR
  have : ((List.range n).all fun j => decide ((g j).length = (g 0).length)) = false := by
    rw [List.all_eq_false]
    exact ⟨k, List.mem_range.2 hk, by simpa using h⟩
  rw [this, Bool.and_false]
theorem isR_out {n : Nat} {g : Nat → List UInt8} (h : isR n g = true) : 0 < n ∧ 0 < (g 0).length ∧ ∀ j, j < n → (g j).length = (g 0).length := by
  unfold isR at h
  simp only [Bool.and_eq_true, decide_eq_true_iff, List.all_eq_true] at h
  exact ⟨h.1.1, h.1.2, fun j hj => h.2 j (List.mem_range.2 hj)⟩
set_option maxHeartbeats 1000000 in
set_option maxRecDepth 100000 in
theorem right_any (v : Value) (n : Nat) (g : Nat → List UInt8) (B : Nat) (w : World) (hr : RdM w B v n g) :
    Calls Try.prog 10 #[v] w fun e w' => e = .returned (.bool (isR n g)) ∧ w = w' := by
  obtain ⟨A, c, rfl, hc, hm⟩ := hr.shape
  unfold maxLen at hm
  by_cases h0 : n = 0
  · have HF := Lib.hid (isR_none (g := g) h0)
    subst h0
    clear hr
    go_enter Try.func10, Try.ntmps10
    go_wp2_with fail
    go_ret
    exact ⟨ret1 (vb HF.out.symm), rfl⟩
  obtain ⟨b, off, rfl, hb⟩ := hr.open_ (by omega)
  obtain ⟨A0, c0, hcell0, h0c, h0m, hr0⟩ := hr.row (j := 0) (by omega)
  rw [Nat.add_zero] at hcell0
  have hn : ((n : Int) == 0) = false := by simp; omega
  clear hr0
  by_cases h1 : (g 0).length = 0
  · have HF := Lib.hid (isR_empty (n := n) h1)
    rw [h1] at hcell0
    clear hr h1
    go_enter Try.func10, Try.ntmps10
    go_wp2_with fail
    go_ret
    exact ⟨ret1 (vb HF.out.symm), rfl⟩
  have hl : (((g 0).length : Int) == 0) = false := by simp; exact fun e => h1 (by rw [e]; rfl)
  have h0pos : 0 < n := by omega
  clear h0
  go_enter Try.func10, Try.ntmps10
  go_wp2_with fail
  go_loop [4, 17] (fun _ i => ∃ k : Nat, k ≤ n ∧ i = .int .i64 k ∧ ∀ j, j < k → (g j).length = (g 0).length) (fun _ i => n - (intOf i).toNat)
  case atStart => exact ⟨0, by omega, rfl, fun j hj => by omega⟩
  case round =>
    obtain ⟨k, hk, rfl, hall⟩ := hrel
    by_cases hlt : k < n
    · obtain ⟨A1, c1, hcell1, h1c, h1m, hr1⟩ := hr.row hlt
      have HA := Lib.hid hall
      clear hall hr1
      by_cases he : (g k).length = (g 0).length
      · rw [he] at hcell1
        have HE := Lib.hid he
        clear he
        go_wp2_with fail
        go_round
        case rel => exact ⟨k + 1, by omega, by go_num, fun j hj => by
          by_cases e : j = k
          · subst e; exact HE.out
          · exact HA.out j (by omega)⟩
        case measure => simp [intOf]; omega
      · have HF := Lib.hid (isR_not hlt he)
        have hne : (((g k).length : Int) != ((g 0).length : Int)) = true := bne_iff_ne.2 (fun e => he (Int.ofNat.inj e))
        clear he
        go_wp2_with fail
        go_ret
        exact ⟨ret1 (vb HF.out.symm), rfl⟩
    · obtain rfl : k = n := by omega
      have HF := Lib.hid (isR_true h0pos (by omega) hall)
      clear hall
      go_wp2_with fail
      go_ret
      exact ⟨ret1 (vb HF.out.symm), rfl⟩
set_option maxHeartbeats 1000000 in
set_option maxRecDepth 100000 in
theorem rright_any (v : Value) (n : Nat) (g : Nat → List UInt8) (B : Nat) (w : World) (hr : RdM w B v n g) :
    Calls Try.prog 11 #[v] w fun e w' => e = .returned (.bool (isR n g)) ∧ ∃ m, w' = w.drewN m := by
  obtain ⟨A, c, rfl, hc, hm⟩ := hr.shape
  unfold maxLen at hm
  by_cases h0 : n = 0
  · have HF := Lib.hid (isR_none (g := g) h0)
    subst h0
    clear hr
    go_enter Try.func11, Try.ntmps11
    go_wp2_with fail
    go_ret
    exact ⟨ret1 (vb HF.out.symm), 0, rfl⟩
  obtain ⟨b, off, rfl, hb⟩ := hr.open_ (by omega)
  obtain ⟨A0, c0, hcell0, h0c, h0m, hr0⟩ := hr.row (j := 0) (by omega)
  rw [Nat.add_zero] at hcell0
  have hn : ((n : Int) == 0) = false := by simp; omega
  clear hr0
  by_cases h1 : (g 0).length = 0
  · have HF := Lib.hid (isR_empty (n := n) h1)
    rw [h1] at hcell0
    clear hr h1
    go_enter Try.func11, Try.ntmps11
    go_wp2_with fail
    go_ret
    exact ⟨ret1 (vb HF.out.symm), 0, rfl⟩
  have hl : (((g 0).length : Int) == 0) = false := by simp; exact fun e => h1 (by rw [e]; rfl)
  have h0pos : 0 < n := by omega
  clear h0
  go_enter Try.func11, Try.ntmps11
  go_wp2_with fail
  go_loopw [3] (fun i wr => ∃ k : Nat, k ≤ n ∧ i = .int .i64 k ∧ (∀ j, j < k → (g j).length = (g 0).length) ∧ ∃ m, wr = w.drewN m) (fun i _ => n - (intOf i).toNat)
  case atStart => exact ⟨0, by omega, rfl, fun j hj => by omega, 0, rfl⟩
  case round =>
    obtain ⟨k, hk, rfl, hall, m, rfl⟩ := hrel
    by_cases hlt : k < n
    · obtain ⟨A1, c1, hcell1, h1c, h1m, hr1⟩ := hr.row hlt
      have HA := Lib.hid hall
      clear hall hr1
      by_cases he : (g k).length = (g 0).length
      · rw [he] at hcell1
        have HE := Lib.hid he
        clear he
        go_wp2_with fail
        go_quiet (fail)
        go_wp2_with fail
        go_roundw
        case rel => exact ⟨k + 1, by omega, by go_num, fun j hj => by
          by_cases e : j = k
          · subst e; exact HE.out
          · exact HA.out j (by omega), _, rfl⟩
        case measure => simp [intOf]; omega
      · have HF := Lib.hid (isR_not hlt he)
        have hne : (((g k).length : Int) != ((g 0).length : Int)) = true := bne_iff_ne.2 (fun e => he (Int.ofNat.inj e))
        clear he
        go_wp2_with fail
        go_quiet (fail)
        go_wp2_with fail
        go_ret
        exact ⟨ret1 (vb HF.out.symm), _, by first | rfl | exact drewN_two _ _ _⟩
    · obtain rfl : k = n := by omega
      have HF := Lib.hid (isR_true h0pos (by omega) hall)
      clear hall
      go_wp2_with fail
      go_ret
      exact ⟨ret1 (vb HF.out.symm), _, by first | rfl | exact drewN_two _ _ _⟩
/-- is it a small matrix? -/
def few (n : Nat) (g : Nat → List UInt8) (most : Nat) : Bool := decide (n ≤ most) && isR n g && decide ((g 0).length ≤ most)
set_option maxHeartbeats 1000000 in
set_option maxRecDepth 100000 in
theorem few_any (v : Value) (n : Nat) (g : Nat → List UInt8) (most B : Nat) (w : World) (hr : RdM w B v n g) :
    Calls Try.prog 12 #[v, .int .i64 (most : Int)] w fun e w' => e = .returned (.bool (few n g most)) ∧ ∃ m, w' = w.drewN m := by
  obtain ⟨A, c, rfl, hc, hm⟩ := hr.shape
  unfold maxLen at hm
  by_cases h0 : n ≤ most
  · by_cases hR : isR n g = true
    · obtain ⟨h1, h2, h3⟩ := isR_out hR
      obtain ⟨b, off, rfl, hb⟩ := hr.open_ h1
      obtain ⟨A0, c0, hcell0, h0c, h0m, hr0⟩ := hr.row (j := 0) h1
      rw [Nat.add_zero] at hcell0
      have HF : Hid (few n g most = decide ((g 0).length ≤ most)) := Lib.hid (by unfold few; rw [decide_eq_true h0, hR]; rfl)
      have hp := rright_any _ n g B w hr
      rw [hR] at hp
      have h0' : (n : Int) ≤ (most : Int) := by omega
      have HL : Hid (decide (((g 0).length : Int) ≤ (most : Int)) = decide ((g 0).length ≤ most)) := Lib.hid (decide_eq_decide.2 (by omega))
      clear hR h3 hr hr0
      go_enter Try.func12, Try.ntmps12
      go_wp2_with fail
      refine hp.mono ?_
      rintro e w1 ⟨rfl, m, rfl⟩
      go_wp2_with fail
      go_ret
      exact ⟨ret1 (vb (by rw [HF.out, ← HL.out])), _, rfl⟩
    · have hR' : isR n g = false := by simpa using hR
      have HF : Hid (few n g most = false) := Lib.hid (by unfold few; rw [hR']; simp)
      have hp := rright_any _ n g B w hr
      rw [hR'] at hp
      have h0' : (n : Int) ≤ (most : Int) := by omega
      clear hR hR' hr
      go_enter Try.func12, Try.ntmps12
      go_wp2_with fail
      refine hp.mono ?_
      rintro e w1 ⟨rfl, m, rfl⟩
      go_wp2_with fail
      go_ret
      exact ⟨ret1 (vb HF.out.symm), _, by first | rfl | exact drewN_two _ _ _⟩
  · have HF : Hid (few n g most = false) := Lib.hid (by unfold few; rw [decide_eq_false h0]; simp)
    have h0' : ¬ (n : Int) ≤ (most : Int) := by omega
    clear hr
    go_enter Try.func12, Try.ntmps12
    go_wp2_with fail
    go_ret
    exact ⟨ret1 (vb HF.out.symm), 0, rfl⟩
/-- the same matrices? -/
def sameM (n : Nat) (g : Nat → List UInt8) (n' : Nat) (g' : Nat → List UInt8) : Bool := decide (n = n') && (List.range n).all fun j => decide (g j = g' j)
theorem sameM_true {n : Nat} {g g' : Nat → List UInt8} (h : ∀ j, j < n → g j = g' j) : sameM n g n g' = true := by
  unfold sameM
  rw [decide_eq_true rfl, List.all_eq_true.2 (fun j hj => decide_eq_true (h j (List.mem_range.1 hj)))]
  rfl
theorem sameM_ne {n n' : Nat} {g g' : Nat → List UInt8} (h : n ≠ n') : sameM n g n' g' = false := by
  unfold sameM
  rw [decide_eq_false h]
  rfl
theorem sameM_not {n k : Nat} {g g' : Nat → List UInt8} (hk : k < n) (h : g k ≠ g' k) : sameM n g n g' = false := by
  unfold sameM
  have : ((List.range n).all fun j => decide (g j = g' j)) = false := by
    rw [List.all_eq_false]
    exact ⟨k, List.mem_range.2 hk, by simpa using h⟩
  rw [this, Bool.and_false]
set_option maxHeartbeats 1000000 in
set_option maxRecDepth 100000 in
theorem rsameM_any (x y : Value) (n n' : Nat) (g g' : Nat → List UInt8) (B D : Nat) (w : World) (hx : RdM w B x n g) (hy : RdM w D y n' g') :
    Calls Try.prog 13 #[x, y] w fun e w' => e = .returned (.bool (sameM n g n' g')) ∧ ∃ m, w' = w.drewN m := by
  obtain ⟨A, c, rfl, hc, hm⟩ := hx.shape
  obtain ⟨A', c', rfl, hc', hm'⟩ := hy.shape
  unfold maxLen at hm hm'
  by_cases hn : n = n'
  · subst hn
    go_enter Try.func13, Try.ntmps13
    go_wp2_with fail
    go_loopw [5] (fun i wr => ∃ k : Nat, k ≤ n ∧ i = .int .i64 k ∧ (∀ j, j < k → g j = g' j) ∧ ∃ m, wr = w.drewN m) (fun i _ => n - (intOf i).toNat)
    case atStart => exact ⟨0, by omega, rfl, fun j hj => by omega, 0, rfl⟩
    case round =>
      obtain ⟨k, hk, rfl, hall, m, rfl⟩ := hrel
      have HA := Lib.hid hall
      clear hall
      by_cases hlt : k < n
      · obtain ⟨b, off, rfl, hb⟩ := hx.open_ (by omega)
        obtain ⟨b', off', rfl, hb'⟩ := hy.open_ (by omega)
        obtain ⟨A1, c1, hcell1, h1c, h1m, hr1⟩ := hx.row hlt
        obtain ⟨A2, c2, hcell2, h2c, h2m, hr2⟩ := hy.row hlt
        have s1 := fun q : Nat => run_strS (P := Try.prog) (w := w.drewN q) Try.underlying29 Try.underlying5 Try.underlying9 (hr1.below (bwN' w q)) _ c1 rfl
        have s2 := fun q : Nat => run_strS (P := Try.prog) (w := w.drewN q) Try.underlying29 Try.underlying5 Try.underlying9 (hr2.below (bwN' w q)) _ c2 rfl
        clear hr1 hr2
        by_cases he : g k = g' k
        · have HE := Lib.hid he
          have hs : (g k == g' k) = true := beq_iff_eq.2 he
          clear he
          go_wp2_with fail
          go_quiet (fail)
          go_wp2_with fail
          go_roundw
          case rel => exact ⟨k + 1, by omega, by go_num, fun j hj => by
            by_cases e : j = k
            · subst e; exact HE.out
            · exact HA.out j (by omega), _, rfl⟩
          case measure => simp [intOf]; omega
        · have HF := Lib.hid (sameM_not hlt he)
          have hs : (g k == g' k) = false := beq_eq_false_iff_ne.2 he
          clear he
          go_wp2_with fail
          go_quiet (fail)
          go_wp2_with fail
          go_ret
          exact ⟨ret1 (vb HF.out.symm), _, by first | rfl | exact drewN_two _ _ _⟩
      · obtain rfl : k = n := by omega
        have HF := Lib.hid (sameM_true HA.out)
        go_wp2_with fail
        go_ret
        exact ⟨ret1 (vb HF.out.symm), _, by first | rfl | exact drewN_two _ _ _⟩
  · have HF := Lib.hid (sameM_ne (g := g) (g' := g') hn)
    have hne : ((n : Int) != (n' : Int)) = true := bne_iff_ne.2 (fun e => hn (Int.ofNat.inj e))
    clear hn hx hy
    go_enter Try.func13, Try.ntmps13
    go_wp2_with fail
    go_ret
    exact ⟨ret1 (vb HF.out.symm), 0, rfl⟩
end Go.Proofs.Ytjhnbhgpnmfdgaa
