/- The contracts of the reference's There, Without, Shape, Agrees. -/
import Derived.Test.YtfnenehiapibiaaHand
import Derived.Test.YtfnenehiapibiaaREnc
namespace Go.Proofs.Ytfnenehiapibiaa
open Go.RowKit
open Mx (rw rw_len rw_get rw_congr)

set_option maxHeartbeats 2000000 in
set_option maxRecDepth 100000 in
theorem there_any (v : Value) (n : Nat) (g : Nat → List UInt8) (B : Nat) (w : World) (hr : RdM w B v n g) :
    Calls Try.prog 20 #[v] w fun e w' => e = .returned (.int .i64 ((hand n g).length : Int)) ∧ w' = w := by
  obtain ⟨A, c, rfl, hc, hcm⟩ := hr.shape
  unfold maxLen at hcm
  go_enter Try.func20, Try.ntmps20
  go_wp2_with fail
  go_loopw [3, 4] (fun p i wr => ∃ k q : Nat, k ≤ n ∧ q ≤ k ∧ i = .int .i64 (k : Int) ∧ p = .int .i64 (q : Int) ∧ Hid (q = (hand k g).length) ∧ wr = w) (fun _ i _ => n - (intOf i).toNat)
  case atStart => exact ⟨0, 0, by omega, by omega, rfl, rfl, Lib.hid rfl, rfl⟩
  case round =>
    obtain ⟨k, q, hk, hqk, rfl, rfl, HQ, rfl⟩ := hrel
    by_cases hlt : k < n
    · obtain ⟨b, off, rfl, -⟩ := hr.open_ (by omega)
      obtain ⟨A1, c1, hcell, h1c, h1m, -⟩ := hr.row hlt
      by_cases h0 : 0 < (g k).length
      · have h0' : (0 : Int) < ((g k).length : Int) := by omega
        have HS := Lib.hid (hand_succ_yes h0)
        clear h0
        go_wp2_with fail
        go_roundw
        case rel => exact ⟨k + 1, q + 1, by omega, by omega, by go_num, by go_num, Lib.hid (by rw [HS.out, List.length_append, HQ.out]; rfl), by first | rfl | trivial⟩
        case measure => simp [intOf]; omega
      · have h0' : ¬ (0 : Int) < ((g k).length : Int) := by omega
        have HS := Lib.hid (hand_succ_no h0)
        clear h0
        go_wp2_with fail
        go_roundw
        case rel => exact ⟨k + 1, q, by omega, by omega, by go_num, rfl, Lib.hid (by rw [HS.out, HQ.out]), by first | rfl | trivial⟩
        case measure => simp [intOf]; omega
    · obtain rfl : k = n := by omega
      go_wp2_with fail
      go_ret
      exact ⟨ret1 (vi (by rw [HQ.out])), rfl⟩
/-- '[]byte{}' as the row that is being built -/
theorem OwM.empty {w1 wr : World} {v : Value} {vs : Nat → Value} {n : Nat} {g : Nat → List UInt8} (h : OwM wr w1.heap.size v vs n g) (hb : Below w1.heap.size w1 wr) :
    Bld w1 (wr.alloc (.cells #[] 5)) v vs n g (.slice (some ⟨wr.heap.size, 0, none⟩) 0 0) [] := by
  have hb2 : Below wr.heap.size wr (wr.alloc (.cells #[] 5)) := bwalloc (Below.refl _ _) _
  refine ⟨h.below hb2, Ow.empty wr hb.size _, fun j hj k hk e => ?_, fun k hk e => ?_, bwstep hb hb2⟩
  · have := ((h.row j hj).lt k e).2
    have : wr.heap.size = k := by injection hk
    omega
  · have := (h.out.lt k e).2
    have : wr.heap.size = k := by injection hk
    omega
theorem OwM.fresh {w1 wr : World} {v : Value} {vs : Nat → Value} {n : Nat} {g : Nat → List UInt8} (h : OwM wr w1.heap.size v vs n g) (hb : Below w1.heap.size w1 wr) : Bld w1 wr v vs n g (.slice none 0 0) [] := Bld.fresh h hb
/-- a right shape of two numbers -/
theorem zeroS : (Try.prog.info? 23).map (·.zero) = some (some (.agg #[.int .i64 0, .int .i64 0])) := by kernel_rfl
set_option maxHeartbeats 2000000 in
set_option maxRecDepth 100000 in
theorem shape_any (a b : Nat) (w : World) (ha : a < 256) (hb : b < 256) :
    Calls Try.prog 17 #[.int .u8 (a : Int), .int .u8 (b : Int)] w fun e w' => (∃ k f : Nat, e = .returned (shp k f) ∧ isShN k f) ∧ Below w.heap.size w w' := by
  obtain ⟨f, hf, hf3⟩ : ∃ f : Nat, (b : Int) % 4 = (f : Int) ∧ f ≤ 3 := ⟨b % 4, by omega, by omega⟩
  obtain ⟨k, hk, hk1, hk2⟩ : ∃ k : Nat, (1 : Int) + (a : Int) % (7 - 2 * (f : Int)) = (k : Int) ∧ 1 ≤ k ∧ k + 2 * f ≤ 7 := by
    have h0 : (0 : Int) < 7 - 2 * (f : Int) := by omega
    have h1 := Int.emod_nonneg (a : Int) (show (7 - 2 * (f : Int)) ≠ 0 by omega)
    have h2 := Int.emod_lt_of_pos (a : Int) h0
    exact ⟨(1 + (a : Int) % (7 - 2 * (f : Int))).toNat, by omega, by omega, by omega⟩
  have h0 : ¬ (7 : Int) - 2 * (f : Int) = 0 := by omega
  go_enter Try.func17, Try.ntmps17
  go_wp2_with fail
  refine bodyPost_ret (results_cell_row (p := 4) rfl _ _ w.heap.size 23 #[.int .i64 (k : Int), .int .i64 (f : Int)] (0, 0) _ rfl (heap_alloc_new _ _) Try.underlying23 rfl sizeS) rfl ?_
  exact ⟨⟨k, f, rfl, hk1, hk2⟩, bwalloc (Below.refl _ _) _⟩
theorem and1_u8 : ∀ n : Fin 256, bits .and .u8 (n.val : Int) 1 = ((n.val % 2 : Nat) : Int) := by decide +kernel
theorem bit_test (b k : Nat) (hb : b < 256) : (bits .and .u8 ((b : Int) / 2 ^ min k 8) 1 == 1) = decide (b / 2 ^ k % 2 = 1) := by
  have e1 : (b : Int) / 2 ^ min k 8 = ((b / 2 ^ min k 8 : Nat) : Int) := by push_cast; rfl
  have e2 : b / 2 ^ min k 8 = b / 2 ^ k := by
    by_cases h : k ≤ 8
    · rw [Nat.min_eq_left h]
    · rw [Nat.min_eq_right (by omega), Nat.div_eq_of_lt (by omega), Nat.div_eq_of_lt]
      have : 2 ^ 8 ≤ 2 ^ k := Nat.pow_le_pow_right (by omega) (by omega)
      omega
  have e3 : b / 2 ^ k < 256 := Nat.lt_of_le_of_lt (Nat.div_le_self _ _) hb
  rw [e1, e2, and1_u8 ⟨b / 2 ^ k, e3⟩]
  by_cases h : b / 2 ^ k % 2 = 1
  · simp [h]
  · have : b / 2 ^ k % 2 = 0 := by omega
    simp [this]
set_option maxHeartbeats 4000000 in
set_option maxRecDepth 100000 in
theorem without_any (v : Value) (n bits : Nat) (g : Nat → List UInt8) (w : World) (hr : RdM w w.heap.size v n g) (hb : bits < 256) (hn : n ≤ 1000) (hg : ∀ i, i < n → (g i).length ≤ 1000000) :
    Calls Try.prog 18 #[v, .int .u8 (bits : Int)] w fun e w' => (∃ x vs, e = .returned x ∧ OwM w' w.heap.size x vs n (fun i => if bits / 2 ^ i % 2 = 1 then [] else g i)) ∧ Below w.heap.size w w' := by
  obtain ⟨A, c, rfl, hc, hcm⟩ := hr.shape
  unfold maxLen at hcm
  go_enter Try.func18, Try.ntmps18
  go_wp2_with fail
  go_loopw [5, 6] (fun p i wr => ∃ k : Nat, k ≤ n ∧ i = .int .i64 (k : Int) ∧ (∃ vs, OwM wr w.heap.size p vs k (fun i => if bits / 2 ^ i % 2 = 1 then [] else g i)) ∧ Below w.heap.size w wr) (fun _ i _ => n - (intOf i).toNat)
  case atStart => exact ⟨0, by omega, rfl, ⟨_, OwM.nil _ _ _⟩, Below.refl _ _⟩
  case round =>
    obtain ⟨k, hk, rfl, ⟨vs, ho⟩, hw⟩ := hrel
    by_cases hlt : k < n
    · obtain ⟨b, off, rfl, hbb⟩ := hr.open_ (by omega)
      obtain ⟨A2, c2, hcell2, h2c, h2m, hr2⟩ := (hr.up hw).row hlt
      have hgk := hg k hlt
      have ht := bit_test bits k hb
      by_cases h1 : bits / 2 ^ k % 2 = 1
      · rw [decide_eq_true h1] at ht
        have hB0 := ho.fresh hw
        have hB2 := hB0.up (bwalloc (Below.refl _ _) (.cells #[.slice none 0 0] 39))
        have hone : One [Value.slice none 0 0] := one_one rfl
        have hrd : Rd (wr.alloc (.cells #[.slice none 0 0] 39)) _ (.slice (some ⟨wr.heap.size, 0, none⟩) 1 1) [.slice none 0 0] := Rd.newW wr 39 #[.slice none 0 0] rfl (by simp [maxLen]) rfl
        have hsz := hB2.bel.size
        have hl1 : ((List.range k).map vs).length + [Value.slice none 0 0].length ≤ maxLen := (by simp [maxLen]; omega)
        have hl2 : (((List.range k).map vs).length + [Value.slice none 0 0].length) * 24 ≤ 140737488355328 := (by simp; omega)
        have H1 := Lib.hid h1
        clear ho hB0 h1 hr2
        go_wp2_with (at_builtin; refine wpList_app rowsT rfl rfl (.tmp 19) (.tmp 20) rfl rfl hB2.om.out rfl hrd hone hl1 hl2 hsz ?_; intro v' w' ho hg h3; have HB := Lib.hid (hB2.push ho hg h3); clear ho hg h3 hrd hB2 hone)
        go_roundw
        case rel => exact ⟨k + 1, by omega, by go_num, ⟨_, HB.out.1.congr fun i' _ => by
          by_cases e : i' = k
          · subst e; rw [if_pos rfl, if_pos H1.out]
          · rw [if_neg e]⟩, HB.out.2⟩
        case measure => simp [intOf]; omega
      · rw [decide_eq_false h1] at ht
        have hE := ho.empty hw
        have hrow := hr2.below (bwalloc (Below.refl _ _) (.cells #[] 5))
        have hsz0 := hE.bel.size
        have hcell3 := ((bwalloc (Below.refl _ _) (.cells #[] 5) : Below wr.heap.size wr _).cell (p := ⟨b, off + k, none⟩) (Nat.lt_of_lt_of_le hbb hw.size)).trans hcell2
        have hlen0 : ([] : List UInt8).length + (g k).length ≤ 140737488355328 := by simp; omega
        have H1 := Lib.hid h1
        unfold maxLen at h2m
        clear ho hr2 h1
        go_wp2_with (first
          | (at_builtin; refine wpList_app rowsT rfl rfl (.tmp 22) (.tmp 29) rfl rfl hB2.om.out rfl hrd hone hl1 hl2 hsz ?_; intro v' w' ho hg h3; have HB := Lib.hid (hB2.push ho hg h3); clear ho hg h3 hrd hB2 hone)
          | (at_builtin; refine wpList_appB bytesT rfl (.tmp 23) (.tmp 27) rfl rfl hE.ro rfl hrow hlen0 hsz0 ?_; intro u w2 ho hg h3; have hB1 := hE.app ho hg h3; rw [List.nil_append] at hB1; obtain ⟨Au, cu, rfl, -, -⟩ := hB1.ro.rd.shapeM; have hone : One [Value.slice Au (g k).length cu] := one_one rfl; have hrd : Rd (w2.alloc (.cells #[.slice Au (g k).length cu] 39)) _ (.slice (some ⟨w2.heap.size, 0, none⟩) 1 1) [.slice Au (g k).length cu] := Rd.newW w2 39 #[.slice Au (g k).length cu] rfl (by simp [maxLen]) rfl; have hB2 := hB1.up (bwalloc (Below.refl _ _) (.cells #[.slice Au (g k).length cu] 39)); have hsz := hB2.bel.size; have hl1 : ((List.range k).map vs).length + [Value.slice Au (g k).length cu].length ≤ maxLen := (by simp [maxLen]; omega); have hl2 : (((List.range k).map vs).length + [Value.slice Au (g k).length cu].length) * 24 ≤ 140737488355328 := (by simp; omega); clear ho hg h3 hE hB1 hrow hlen0 hsz0))
        go_roundw
        case rel => exact ⟨k + 1, by omega, by go_num, ⟨_, HB.out.1.congr fun i' _ => by
          by_cases e : i' = k
          · subst e; rw [if_pos rfl, if_neg H1.out]
          · rw [if_neg e]⟩, HB.out.2⟩
        case measure => simp [intOf]; omega
    · obtain rfl : k = n := by omega
      go_wp2_with fail
      go_ret
      exact ⟨⟨_, vs, rfl, ho⟩, hw⟩
end Go.Proofs.Ytfnenehiapibiaa
