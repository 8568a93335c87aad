/- The contracts of package field: twice, tables, New. -/
import Derived.Test.YtjhnbhgpnmfdgaaFldP
import Derived.Test.YtjhnbhgpnmfdgaaArr
import Derived.OpenShut
namespace Go.Proofs.Ytjhnbhgpnmfdgaa
open Go.RowKit

/-- a byte as a cell, by its number -/
def nv (n : Nat) : Value := .int .u8 (n : Int)
theorem xor_i64 (a b : Nat) (ha : a < 9223372036854775808) (hb : b < 9223372036854775808) : bits .xor .i64 (a : Int) (b : Int) = ((a ^^^ b : Nat) : Int) := by
  have hx : a ^^^ b < 2 ^ 63 := Nat.xor_lt_two_pow (by omega) (by omega)
  show IntKind.i64.wrap ((BitVec.ofInt 64 (a : Int) ^^^ BitVec.ofInt 64 (b : Int)).toNat : Int) = _
  rw [BitVec.toNat_xor, ofInt64 a ha, ofInt64 b hb, IntKind.wrap_i64]
  omega
theorem ofInt8 (a : Nat) (ha : a < 256) : (BitVec.ofInt 8 (a : Int)).toNat = a := by
  rw [BitVec.ofInt_natCast, BitVec.toNat_ofNat]
  exact Nat.mod_eq_of_lt (by omega)
theorem xor_n8 (a b : Nat) (ha : a < 256) (hb : b < 256) : bits .xor .u8 (a : Int) (b : Int) = ((a ^^^ b : Nat) : Int) := by
  have hx : a ^^^ b < 256 := Gf.xor_lt ha hb
  show IntKind.u8.wrap ((BitVec.ofInt 8 (a : Int) ^^^ BitVec.ofInt 8 (b : Int)).toNat : Int) = _
  rw [BitVec.toNat_xor, ofInt8 a ha, ofInt8 b hb, IntKind.wrap_u8]
  omega
theorem tw_big (a : Nat) (h : 256 ≤ 2 * a) (ha : a < 256) : bits .xor .i64 ((a : Int) * 2) 285 = (Gf.tw a : Int) := by
  have := xor_i64 (2 * a) 285 (by omega) (by omega)
  have e : ((2 * a : Nat) : Int) = (a : Int) * 2 := by omega
  rw [e] at this
  rw [show (285 : Int) = ((285 : Nat) : Int) from rfl, this]
  unfold Gf.tw
  rw [if_pos h]
theorem tw_small (a : Nat) (h : ¬ 256 ≤ 2 * a) : (a : Int) * 2 = (Gf.tw a : Int) := by
  unfold Gf.tw
  rw [if_neg h]
  omega
set_option maxHeartbeats 400000 in
set_option maxRecDepth 100000 in
theorem twice_any (a : Nat) (w : World) (ha : a < 256) : Calls Try.prog 36 #[.int .u8 (a : Int)] w fun e w' => e = .returned (.int .u8 (Gf.tw a : Int)) ∧ w = w' := by
  by_cases h : 256 ≤ 2 * a
  · have HB := Lib.hid (tw_big a h ha)
    go_enter Try.func36, Try.ntmps36
    go_wp2_with fail
    rw [HB.out]
    go_ret
    have ht := Gf.tw_lt ha
    exact ⟨ret1 (vi (by omega)), rfl⟩
  · have HB := Lib.hid (tw_small a h)
    go_enter Try.func36, Try.ntmps36
    go_wp2_with fail
    go_ret
    have ht := Gf.tw_lt ha
    exact ⟨ret1 (vi (by have := HB.out; omega)), rfl⟩
/-- the table of powers behind k rounds, and that of exponents -/
def pc (k : Nat) : Array Value := ((List.range 255).map fun j => nv (if j < k then Gf.pw j else 0)).toArray
def ec (k : Nat) : Array Value := ((List.range 256).map fun a => nv (Gf.exK k a)).toArray
theorem zero39 : (Try.prog.info? 49).map (·.zero) = some (some (.agg (pc 0))) := by kernel_rfl
theorem zero40 : (Try.prog.info? 50).map (·.zero) = some (some (.agg (ec 0))) := by kernel_rfl
theorem pc_size (k : Nat) : (pc k).size = 255 := by simp [pc]
theorem ec_size (k : Nat) : (ec k).size = 256 := by simp [ec]
theorem pc_get (k j : Nat) (h : j < 255) : (pc k)[j]? = some (nv (if j < k then Gf.pw j else 0)) := by simp [pc, h]
theorem ec_get (k j : Nat) (h : j < 256) : (ec k)[j]? = some (nv (Gf.exK k j)) := by simp [ec, h]
theorem pc_step (k : Nat) (h : k < 255) : (pc k).setIfInBounds k (nv (Gf.pw k)) = pc (k + 1) := by
  apply Array.ext_getElem?
  intro j
  rw [Array.getElem?_setIfInBounds]
  by_cases hj : j < 255
  · rw [pc_get _ _ hj, pc_get _ _ hj, pc_size]
    by_cases e : k = j
    · subst e
      rw [if_pos rfl, if_pos h, if_pos (by omega)]
    · rw [if_neg e]
      by_cases h2 : j < k
      · rw [if_pos h2, if_pos (by omega)]
      · rw [if_neg h2, if_neg (by omega)]
  · rw [if_neg (by omega), Array.getElem?_eq_none (by rw [pc_size]; omega), Array.getElem?_eq_none (by rw [pc_size]; omega)]
theorem ec_step (k : Nat) : (ec k).setIfInBounds (Gf.pw k) (nv k) = ec (k + 1) := by
  have hp := Gf.pw_lt k
  apply Array.ext_getElem?
  intro j
  rw [Array.getElem?_setIfInBounds]
  by_cases hj : j < 256
  · rw [ec_get _ _ hj, ec_get _ _ hj, ec_size, Gf.exK]
    by_cases e : Gf.pw k = j
    · rw [if_pos e, if_pos hp, if_pos e.symm]
    · rw [if_neg e, if_neg (fun h => e h.symm)]
  · rw [if_neg (by omega), Array.getElem?_eq_none (by rw [ec_size]; omega), Array.getElem?_eq_none (by rw [ec_size]; omega)]
theorem size39 : (Try.prog.info? 49).map (·.size) = some (pc 255).size := by rw [pc_size]; kernel_rfl
theorem size40 : (Try.prog.info? 50).map (·.size) = some (ec 255).size := by rw [ec_size]; kernel_rfl
theorem pc_one (k : Nat) : (pc k).all (·.oneCell') = true := by
  rw [Array.all_eq_true_iff_forall_mem]
  intro u hu
  obtain ⟨j, _, rfl⟩ := List.mem_map.1 (List.mem_toArray.1 hu)
  rfl
theorem ec_one (k : Nat) : (ec k).all (·.oneCell') = true := by
  rw [Array.all_eq_true_iff_forall_mem]
  intro u hu
  obtain ⟨j, _, rfl⟩ := List.mem_map.1 (List.mem_toArray.1 hu)
  rfl
/-- the two tables behind k rounds, in blocks B and B + 1 -/
def Tb (w wr : World) (k : Nat) : Prop :=
  wr.heap[w.heap.size]? = some (.cells (pc k) 49 (0, 0)) ∧ wr.heap[w.heap.size + 1]? = some (.cells (ec k) 50 (0, 0)) ∧ Below w.heap.size w wr ∧ wr.heap.size = w.heap.size + 2
theorem Tb.start (w : World) : Tb w ((w.alloc (.cells (pc 0) 49)).alloc (.cells (ec 0) 50)) 0 :=
  ⟨heap_alloc2_old w _ _, heap_alloc2_new w _ _, ((Below.refl _ _).alloc (Nat.le_refl _) _).alloc (by simp) _, by simp⟩
theorem Tb.step {w wr : World} {k : Nat} (h : Tb w wr k) (hk : k < 255) :
    Tb w ((wr.setCell ⟨w.heap.size, k, none⟩ (nv (Gf.pw k))).setCell ⟨w.heap.size + 1, Gf.pw k, none⟩ (nv k)) (k + 1) := by
  obtain ⟨h1, h2, h3, h4⟩ := h
  refine ⟨?_, ?_, (h3.setCell (by simp) _).setCell (by simp) _, by simpa using h4⟩
  · rw [heap_setCell_other _ _ _ _ (by simp), heap_setCell_same _ _ _ _ _ _ h1, pc_step k hk]
  · rw [heap_setCell_same _ _ _ (ec k) 50 _ (by rw [heap_setCell_other _ _ _ _ (by simp)]; exact h2), ec_step k]
theorem Tb.cells {w wr : World} {k : Nat} (h : Tb w wr k) (hk : k < 255) (p : Nat) (hp : p < 256) :
    (∃ u, wr.cell? ⟨w.heap.size, k, none⟩ = some u) ∧ wr.frozen? ⟨w.heap.size, k, none⟩ = false ∧ (∃ u, wr.cell? ⟨w.heap.size + 1, p, none⟩ = some u) ∧ wr.frozen? ⟨w.heap.size + 1, p, none⟩ = false := by
  obtain ⟨h1, h2, h3, h4⟩ := h
  exact ⟨⟨_, (cell_of_row wr _ _ _ _ _ h1).trans (pc_get k k hk)⟩, frozen_of_row wr _ _ _ _ h1, ⟨_, (cell_of_row wr _ _ _ _ _ h2).trans (ec_get k p hp)⟩, frozen_of_row wr _ _ _ _ h2⟩
set_option maxHeartbeats 1000000 in
set_option maxRecDepth 100000 in
theorem tables_any (w : World) : Calls Try.prog 34 #[] w fun e w' => e = .returned (.tuple #[.agg (pc 255), .agg (ec 255)]) ∧ Below w.heap.size w w' := by
  go_enter Try.func34, Try.ntmps34
  go_wp2_with (first | refine wpList_allocRow rfl 49 rfl (pc 0) zero39 ?_ | refine wpList_allocRow rfl 50 rfl (ec 0) zero40 ?_)
  go_loopw [2, 4] (fun e i wr => ∃ k : Nat, k ≤ 255 ∧ i = .int .i64 k ∧ e = .int .u8 (Gf.pw k : Int) ∧ Tb w wr k) (fun _ i _ => 255 - (intOf i).toNat)
  case atStart => exact ⟨0, by omega, rfl, rfl, Tb.start w⟩
  case round =>
    obtain ⟨k, hk, rfl, rfl, ht⟩ := hrel
    have hp := Gf.pw_lt k
    by_cases hlt : k < 255
    · have HS := Lib.hid (Gf.pw_succ k)
      have HT := Lib.hid (ht.step hlt)
      obtain ⟨⟨u, h1⟩, h2, ⟨v, h3⟩, h4⟩ := ht.cells hlt (Gf.pw k) hp
      clear ht
      generalize Gf.pw k = p at *
      go_wp2_with fail
      refine (twice_any _ _ hp).mono ?_
      rintro e w' ⟨rfl, rfl⟩
      go_wp2_with fail
      go_roundw
      case rel => exact ⟨k + 1, by omega, by go_num, vi (by rw [HS.out]), HT.out⟩
      case measure => simp [intOf]; omega
    · obtain rfl : k = 255 := by omega
      go_wp2_with fail
      obtain ⟨h1, h2, h3, h4⟩ := ht
      refine wp_region_any (by kernel_rfl) ?_
      repeat' (first
        | with_reducible exact AllReady.nil
        | with_reducible refine AllReady.cons rfl (fun K hK => step_if (by simp [Region.wanted]) ?_) ?_
        | ((with_reducible refine step_load 49 (.tmp 0) rfl ?_); refine step_loadRow w.heap.size rfl 49 (pc 255) (0, 0) _ h1 Try.underlying49 rfl size39 ?_; refine hK _ _ ?_; clear hK K)
        | ((with_reducible refine step_load 50 (.tmp 1) rfl ?_); refine step_loadRow (w.heap.size + 1) rfl 50 (ec 255) (0, 0) _ h2 Try.underlying50 rfl size40 ?_; refine hK _ _ ?_; clear hK K)
        | ((with_reducible refine step_store 49 (.tmp 0) (.tmp 17) rfl ?_); refine step_storeSame w.heap.size (pc 255) rfl rfl 49 h1 size39 (pc_one 255) ?_; refine hK _ _ ?_; clear hK K)
        | ((with_reducible refine step_store 50 (.tmp 1) (.tmp 18) rfl ?_); refine step_storeSame (w.heap.size + 1) (ec 255) rfl rfl 50 h2 size40 (ec_one 255) ?_; refine hK _ _ ?_; clear hK K)
        | (refine wpAny_ready (rs := [0, 1]) (by decide +kernel) (by simp) ?_)
        | (refine wpAny_ready (rs := [1, 2]) (by decide +kernel) (by simp) ?_)
        | (refine wpAny_ready (rs := [2, 3]) (by decide +kernel) (by simp) ?_)
        | (refine wpAny_ready (rs := [1]) (by decide +kernel) (by simp) ?_)
        | (refine wpAny_ready (rs := [0]) (by decide +kernel) (by simp) ?_)
        | (refine wpAny_ready (rs := [2]) (by decide +kernel) (by simp) ?_)
        | (refine wpAny_ready (rs := [3]) (by decide +kernel) (by simp) ?_)
        | (refine wpAny_done (by decide +kernel) ?_ _)
        )
      all_goals
        go_wp2_with fail
        exact bodyPost_ret (v := .tuple #[.agg (pc 255), .agg (ec 255)]) (results_rows2 Try.results34 rfl rfl h1 h2 Try.underlying49 rfl size39 Try.underlying50 rfl size40) rfl ⟨rfl, h3.drew⟩
end Go.Proofs.Ytjhnbhgpnmfdgaa
