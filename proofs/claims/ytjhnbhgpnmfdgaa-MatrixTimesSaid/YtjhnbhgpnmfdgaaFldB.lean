/- The contracts of package field: New, Mul, Inv, Div, Pow. -/
import Derived.Test.YtjhnbhgpnmfdgaaFld
namespace Go.Proofs.Ytjhnbhgpnmfdgaa
open Go.RowKit

/-- what a field holds -/
def FC : Array Value := pc 255 ++ ec 255
/-- block b is a field -/
def Fd (w : World) (b : Nat) : Prop := w.heap[b]? = some (.cells FC 54 (0, 0))
theorem Fd.lt {w : World} {b : Nat} (h : Fd w b) : b < w.heap.size := (Array.getElem?_eq_some_iff.1 h).1
theorem Fd.below {w w' : World} {b : Nat} (h : Fd w b) (hb : Below w.heap.size w w') : Fd w' b := (hb.block b h.lt).trans h
theorem Fd.pw {w : World} {b : Nat} (h : Fd w b) (k : Nat) (hk : k < 255) : w.cell? ⟨b, k, none⟩ = some (.int .u8 (Gf.pw k : Int)) := by
  rw [cell_of_row w b k _ _ _ h]
  unfold FC
  rw [Array.getElem?_append_left (by rw [pc_size]; exact hk), pc_get _ _ hk, if_pos hk]
  rfl
theorem Fd.ex {w : World} {b : Nat} (h : Fd w b) (k : Nat) (hk : k < 256) : w.cell? ⟨b, 255 + k, none⟩ = some (.int .u8 (Gf.ex k : Int)) := by
  rw [cell_of_row w b _ _ _ _ h]
  unfold FC
  rw [Array.getElem?_append_right (by rw [pc_size]; omega), pc_size, Nat.add_sub_cancel_left, ec_get _ _ hk]
  rfl
theorem built44 : Try.prog.built 54 [(0, .agg (pc 255)), (1, .agg (ec 255))] = some FC := by
  have h : ∀ l, Try.prog.built 54 l = Instr.fill (#[(0, 255), (255, 256)][·]?) (List.replicate 511 (nv 0)).toArray l := fun l => by kernel_rfl
  rw [h]
  exact fill_two _ _ _ _ (by rw [pc_size]; rfl) (by rw [pc_size, ec_size]; rfl) (by rw [pc_size, ec_size, List.size_toArray, List.length_replicate])
/-- the two variables' blocks in New, at their making and behind the stores -/
theorem new_rows (w : World) : ∃ w3, (((w.alloc (.cells (pc 0) 49)).alloc (.cells (ec 0) 50)).setRow w.heap.size (pc 255)).setRow (w.heap.size + 1) (ec 255) = w3 ∧
    w3.heap[w.heap.size]? = some (.cells (pc 255) 49 (0, 0)) ∧ w3.heap[w.heap.size + 1]? = some (.cells (ec 255) 50 (0, 0)) ∧ Below w.heap.size w w3 := by
  refine ⟨_, rfl, ?_, ?_, ?_⟩
  · rw [setRow_other _ _ _ _ (by omega)]
    exact setRow_heap _ _ (pc 0) _ _ _ (heap_alloc2_old w _ _)
  · exact setRow_heap _ _ (ec 0) _ _ _ ((setRow_other _ _ _ _ (by omega)).trans (heap_alloc2_new w _ _))
  · have h : Below w.heap.size w ((w.alloc (.cells (pc 0) 49)).alloc (.cells (ec 0) 50)) := ((Below.refl _ _).alloc (Nat.le_refl _) _).alloc (by simp) _
    exact below_setRow (below_setRow h (Nat.le_refl _) _) (by omega) _
theorem new_row1 (w : World) : ((w.alloc (.cells (pc 0) 49)).alloc (.cells (ec 0) 50)).heap[w.heap.size]? = some (.cells (pc 0) 49 (0, 0)) := heap_alloc2_old w _ _
theorem new_row2 (w : World) : (((w.alloc (.cells (pc 0) 49)).alloc (.cells (ec 0) 50)).setRow w.heap.size (pc 255)).heap[w.heap.size + 1]? = some (.cells (ec 0) 50 (0, 0)) :=
  (setRow_other _ _ _ _ (by omega)).trans (heap_alloc2_new w _ _)
set_option maxHeartbeats 1000000 in
set_option maxRecDepth 100000 in
theorem new_any (w : World) : Calls Try.prog 22 #[] w fun e w' => (∃ b, e = .returned (.pointer (some ⟨b, 0, none⟩)) ∧ w.heap.size ≤ b ∧ Fd w' b) ∧ Below w.heap.size w w' := by
  go_enter Try.func22, Try.ntmps22
  go_wp2_with fail
  refine (tables_any _).mono ?_
  rintro e w1 ⟨rfl, hb⟩
  have tok : True := trivial
  go_wp2_with (first
    | refine wpList_allocRow rfl 49 rfl (pc 0) zero39 ?_
    | refine wpList_allocRow rfl 50 rfl (ec 0) zero40 ?_
    | refine wpList_storeRow rfl 49 (.tmp 1) (.tmp 5) rfl w1.heap.size (pc 255) rfl rfl 49 (pc 0) (new_row1 w1) size39 ((pc_size 0).trans (pc_size 255).symm) (pc_one 255) ?_
    | refine stopStore 50 (.tmp 2) (.tmp 6) rfl ?_)
  constructor
  refine wpList_storeRow rfl 50 (.tmp 2) (.tmp 6) rfl (w1.heap.size + 1) (ec 255) rfl rfl 50 (ec 0) (new_row2 w1) size40 ((ec_size 0).trans (ec_size 255).symm) (ec_one 255) ?_
  obtain ⟨w3, hw3, hA, hB, hb3⟩ := new_rows w1
  rw [hw3]
  clear hw3
  go_wp2_with (first
    | refine wpList_load_row rfl 49 (.tmp 1) rfl w1.heap.size rfl 49 (pc 255) _ _ hA Try.underlying49 rfl size39 ?_
    | refine wpList_load_row rfl 50 (.tmp 2) rfl (w1.heap.size + 1) rfl 50 (ec 255) _ _ hB Try.underlying50 rfl size40 ?_
    | (refine stopBuild 54 #[(0, .tmp 7), (1, .tmp 8)] rfl ?_))
  constructor
  refine wpList_buildRow2 rfl 54 0 1 (.tmp 7) (.tmp 8) rfl (.agg (pc 255)) (.agg (ec 255)) rfl rfl FC built44 ?_
  clear hA hB
  go_wp2_with (refine wpList_boxRow rfl 54 (.tmp 9) rfl FC rfl ?_)
  go_ret
  exact ⟨⟨w3.heap.size, rfl, Nat.le_trans hb.size hb3.size, heap_alloc_new _ _⟩, bwalloc (bwstep hb hb3) _⟩
end Go.Proofs.Ytjhnbhgpnmfdgaa
