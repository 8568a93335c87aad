/- The contracts of Right and N of package code, and of the reference's. -/
import Derived.Test.YtfnenehiapibiaaCodP
import Derived.Test.YtfnenehiapibiaaBase
namespace Go.Proofs.Ytfnenehiapibiaa
open Go.RowKit

/-- a shape -/
abbrev shp (K F : Int) : Value := .agg #[.int .i64 K, .int .i64 F]
def isShp (K F : Int) : Prop := 1 ≤ K ∧ K ≤ 7 ∧ 0 ≤ F ∧ F ≤ 7 ∧ K + 2 * F ≤ 7
instance (K F : Int) : Decidable (isShp K F) := by unfold isShp; infer_instance
/-- its box -/
theorem boxS (w : World) (K F : Int) : (w.alloc (.cells #[.int .i64 K, .int .i64 F] 23)).cell? ⟨w.heap.size, 0, none⟩ = some (.int .i64 K) ∧ (w.alloc (.cells #[.int .i64 K, .int .i64 F] 23)).cell? ⟨w.heap.size, 1, none⟩ = some (.int .i64 F) := by
  have h := heap_alloc_new w (.cells #[.int .i64 K, .int .i64 F] 23)
  exact ⟨cell_of_row _ _ 0 _ _ _ h, cell_of_row _ _ 1 _ _ _ h⟩
section
variable {P : Program} {ops : Array Oper} {rest : List Oper} {o : Oper} {a : Act} {w : World} {Q : Exit → Act → World → Prop}
/-- a shape's box; the walk stands still behind it -/
theorem boxH (hg : o.guard = none) (x : Operand) (K F : Int) (ho : o.op = .box 23 x) (hx : a.eval x = shp K F)
    (h : Held (wpList P ops Q rest (a.put o.dst (.pointer (some ⟨w.heap.size, 0, none⟩))) (w.alloc (.cells #[.int .i64 K, .int .i64 F] 23)))) : wpList P ops Q (o :: rest) a w :=
  wpList_boxRow hg _ x ho _ hx h.out
end
theorem sizeS : (Try.prog.info? 23).map (·.size) = some 2 := by kernel_rfl
set_option maxHeartbeats 1000000 in
set_option maxRecDepth 100000 in
theorem shpR_any (K F : Int) (w : World) :
    Calls Try.prog 11 #[shp K F] w fun e w' => e = .returned (.bool (decide (isShp K F))) ∧ Below w.heap.size w w' := by
  obtain ⟨c0, c1⟩ := boxS w K F
  have hb : Below w.heap.size w (w.alloc (.cells #[.int .i64 K, .int .i64 F] 23)) := bwalloc (Below.refl _ _) _
  have hgs : (w.alloc (.cells #[.int .i64 K, .int .i64 F] 23)).heap.size = w.heap.size + 1 := by simp
  have fin : ∀ (b : Bool), decide (isShp K F) = b → Hid (decide (isShp K F) = b) := fun b h => Lib.hid h
  by_cases h1 : K < 1
  · have HF := fin false (decide_eq_false (fun h => by unfold isShp at h; omega))
    go_enter Try.func11, Try.ntmps11
    go_wp2_with (refine boxH rfl (.tmp 0) K F rfl rfl ?_)
    constructor
    go_wp2_with fail
    go_ret
    exact ⟨ret1 (vb HF.out.symm), hb⟩
  by_cases h2 : 7 < K
  · have HF := fin false (decide_eq_false (fun h => by unfold isShp at h; omega))
    go_enter Try.func11, Try.ntmps11
    go_wp2_with (refine boxH rfl (.tmp 0) K F rfl rfl ?_)
    constructor
    go_wp2_with fail
    go_ret
    exact ⟨ret1 (vb HF.out.symm), hb⟩
  by_cases h3 : F < 0
  · have HF := fin false (decide_eq_false (fun h => by unfold isShp at h; omega))
    go_enter Try.func11, Try.ntmps11
    go_wp2_with (refine boxH rfl (.tmp 0) K F rfl rfl ?_)
    constructor
    go_wp2_with fail
    go_ret
    exact ⟨ret1 (vb HF.out.symm), hb⟩
  by_cases h4 : 7 < F
  · have HF := fin false (decide_eq_false (fun h => by unfold isShp at h; omega))
    go_enter Try.func11, Try.ntmps11
    go_wp2_with (refine boxH rfl (.tmp 0) K F rfl rfl ?_)
    constructor
    go_wp2_with fail
    go_ret
    exact ⟨ret1 (vb HF.out.symm), hb⟩
  · have HF : Hid (decide (isShp K F) = decide (K + 2 * F ≤ 7)) := Lib.hid (decide_eq_decide.2 (by unfold isShp; omega))
    go_enter Try.func11, Try.ntmps11
    go_wp2_with (refine boxH rfl (.tmp 0) K F rfl rfl ?_)
    constructor
    go_wp2_with fail
    go_ret
    exact ⟨ret1 (vb HF.out.symm), hb⟩
set_option maxHeartbeats 1000000 in
set_option maxRecDepth 100000 in
theorem rshpR_a (K F : Int) (w : World) (h1 : ¬ 1 ≤ K) :
    Calls Try.prog 12 #[shp K F] w fun e w' => e = .returned (.bool false) ∧ Below w.heap.size w w' := by
  obtain ⟨c0, c1⟩ := boxS w K F
  have hb : Below w.heap.size w (w.alloc (.cells #[.int .i64 K, .int .i64 F] 23)) := bwalloc (Below.refl _ _) _
  have hgs : (w.alloc (.cells #[.int .i64 K, .int .i64 F] 23)).heap.size = w.heap.size + 1 := by simp
  go_enter Try.func12, Try.ntmps12
  go_wp2_with (refine boxH rfl (.tmp 0) K F rfl rfl ?_)
  constructor
  go_wp2_with fail
  go_ret
  exact ⟨rfl, hb⟩
set_option maxHeartbeats 1000000 in
set_option maxRecDepth 100000 in
theorem rshpR_b (K F : Int) (w : World) (h1 : 1 ≤ K) (h2 : ¬ K ≤ 7) :
    Calls Try.prog 12 #[shp K F] w fun e w' => e = .returned (.bool false) ∧ Below w.heap.size w w' := by
  obtain ⟨c0, c1⟩ := boxS w K F
  have hb : Below w.heap.size w (w.alloc (.cells #[.int .i64 K, .int .i64 F] 23)) := bwalloc (Below.refl _ _) _
  have hgs : (w.alloc (.cells #[.int .i64 K, .int .i64 F] 23)).heap.size = w.heap.size + 1 := by simp
  go_enter Try.func12, Try.ntmps12
  go_wp2_with (refine boxH rfl (.tmp 0) K F rfl rfl ?_)
  constructor
  go_wp2_with fail
  go_ret
  exact ⟨rfl, hb⟩
set_option maxHeartbeats 1000000 in
set_option maxRecDepth 100000 in
theorem rshpR_c (K F : Int) (w : World) (h1 : 1 ≤ K) (h2 : K ≤ 7) (h3 : ¬ 0 ≤ F) :
    Calls Try.prog 12 #[shp K F] w fun e w' => e = .returned (.bool false) ∧ Below w.heap.size w w' := by
  obtain ⟨c0, c1⟩ := boxS w K F
  have hb : Below w.heap.size w (w.alloc (.cells #[.int .i64 K, .int .i64 F] 23)) := bwalloc (Below.refl _ _) _
  have hgs : (w.alloc (.cells #[.int .i64 K, .int .i64 F] 23)).heap.size = w.heap.size + 1 := by simp
  go_enter Try.func12, Try.ntmps12
  go_wp2_with (refine boxH rfl (.tmp 0) K F rfl rfl ?_)
  constructor
  go_wp2_with fail
  go_ret
  exact ⟨rfl, hb⟩
set_option maxHeartbeats 1000000 in
set_option maxRecDepth 100000 in
theorem rshpR_d (K F : Int) (w : World) (h1 : 1 ≤ K) (h2 : K ≤ 7) (h3 : 0 ≤ F) (h4 : ¬ F ≤ 3) :
    Calls Try.prog 12 #[shp K F] w fun e w' => e = .returned (.bool false) ∧ Below w.heap.size w w' := by
  obtain ⟨c0, c1⟩ := boxS w K F
  have hb : Below w.heap.size w (w.alloc (.cells #[.int .i64 K, .int .i64 F] 23)) := bwalloc (Below.refl _ _) _
  have hgs : (w.alloc (.cells #[.int .i64 K, .int .i64 F] 23)).heap.size = w.heap.size + 1 := by simp
  go_enter Try.func12, Try.ntmps12
  go_wp2_with (refine boxH rfl (.tmp 0) K F rfl rfl ?_)
  constructor
  go_wp2_with fail
  go_ret
  exact ⟨rfl, hb⟩
set_option maxHeartbeats 1000000 in
set_option maxRecDepth 100000 in
theorem rshpR_e (K F : Int) (w : World) (h1 : 1 ≤ K) (h2 : K ≤ 7) (h3 : 0 ≤ F) (h4 : F ≤ 3) :
    Calls Try.prog 12 #[shp K F] w fun e w' => e = .returned (.bool (decide (K + F + F ≤ 7))) ∧ Below w.heap.size w w' := by
  obtain ⟨c0, c1⟩ := boxS w K F
  have hb : Below w.heap.size w (w.alloc (.cells #[.int .i64 K, .int .i64 F] 23)) := bwalloc (Below.refl _ _) _
  have hgs : (w.alloc (.cells #[.int .i64 K, .int .i64 F] 23)).heap.size = w.heap.size + 1 := by simp
  go_enter Try.func12, Try.ntmps12
  go_wp2_with (refine boxH rfl (.tmp 0) K F rfl rfl ?_)
  constructor
  go_wp2_with fail
  go_ret
  exact ⟨rfl, hb⟩
theorem rshpR_any (K F : Int) (w : World) :
    Calls Try.prog 12 #[shp K F] w fun e w' => e = .returned (.bool (decide (isShp K F))) ∧ Below w.heap.size w w' := by
  by_cases h1 : 1 ≤ K
  · by_cases h2 : K ≤ 7
    · by_cases h3 : 0 ≤ F
      · by_cases h4 : F ≤ 3
        · rw [show decide (isShp K F) = decide (K + F + F ≤ 7) from decide_eq_decide.2 (by unfold isShp; omega)]
          exact rshpR_e K F w h1 h2 h3 h4
        · rw [decide_eq_false (show ¬ isShp K F from fun h => by unfold isShp at h; omega)]
          exact rshpR_d K F w h1 h2 h3 h4
      · rw [decide_eq_false (show ¬ isShp K F from fun h => by unfold isShp at h; omega)]
        exact rshpR_c K F w h1 h2 h3
    · rw [decide_eq_false (show ¬ isShp K F from fun h => by unfold isShp at h; omega)]
      exact rshpR_b K F w h1 h2
  · rw [decide_eq_false (show ¬ isShp K F from fun h => by unfold isShp at h; omega)]
    exact rshpR_a K F w h1
theorem loadS (w : World) (K F : Int) : (w.alloc (.cells #[.int .i64 K, .int .i64 F] 23)).heap[w.heap.size]? = some (.cells #[.int .i64 K, .int .i64 F] 23 (0, 0)) := heap_alloc_new _ _
set_option maxHeartbeats 1000000 in
set_option maxRecDepth 100000 in
theorem shpN_any (K F : Int) (w : World) :
    Calls Try.prog 13 #[shp K F] w fun e w' => e = .returned (.int .i64 (if isShp K F then K + 2 * F else 0)) ∧ Below w.heap.size w w' := by
  have hb : Below w.heap.size w (w.alloc (.cells #[.int .i64 K, .int .i64 F] 23)) := bwalloc (Below.refl _ _) _
  have hgs : (w.alloc (.cells #[.int .i64 K, .int .i64 F] 23)).heap.size = w.heap.size + 1 := by simp
  obtain ⟨c0, c1⟩ := boxS w K F
  have hl := loadS w K F
  generalize hw0 : w.alloc (.cells #[.int .i64 K, .int .i64 F] 23) = w0 at *
  have HW := Lib.hid hw0
  have hp := shpR_any K F w0
  by_cases h : isShp K F
  · rw [decide_eq_true h] at hp
    rw [if_pos h]
    obtain ⟨h1, h2, h3, h4, h5⟩ := h
    go_enter Try.func13, Try.ntmps13
    go_wp2_with (refine boxH rfl (.tmp 0) K F rfl rfl ?_)
    constructor
    go_wp2_with (refine wpList_load_row rfl 23 (.tmp 1) rfl w.heap.size rfl 23 #[.int .i64 K, .int .i64 F] _ _ hl Try.underlying23 rfl sizeS ?_)
    refine hp.mono ?_
    rintro e w1 ⟨rfl, hb1⟩
    have c0 := (hb1.cell (p := ⟨w.heap.size, 0, none⟩) (by show w.heap.size < _; omega)).trans c0
    have c1 := (hb1.cell (p := ⟨w.heap.size, 1, none⟩) (by show w.heap.size < _; omega)).trans c1
    have hb2 := bwstep hb hb1
    clear hl HW hw0 hb hb1 hp
    go_wp2_with fail
    go_ret
    exact ⟨rfl, hb2⟩
  · rw [decide_eq_false h] at hp
    rw [if_neg h]
    clear h
    go_enter Try.func13, Try.ntmps13
    go_wp2_with (refine boxH rfl (.tmp 0) K F rfl rfl ?_)
    constructor
    go_wp2_with (refine wpList_load_row rfl 23 (.tmp 1) rfl w.heap.size rfl 23 #[.int .i64 K, .int .i64 F] _ _ hl Try.underlying23 rfl sizeS ?_)
    refine hp.mono ?_
    rintro e w1 ⟨rfl, hb1⟩
    have hb2 := bwstep hb hb1
    clear hl HW hw0 hb hb1 hp c0 c1
    go_wp2_with fail
    go_ret
    exact ⟨rfl, hb2⟩
set_option maxHeartbeats 1000000 in
set_option maxRecDepth 100000 in
theorem rshpN_any (K F : Int) (w : World) (h : isShp K F) :
    Calls Try.prog 14 #[shp K F] w fun e w' => e = .returned (.int .i64 (K + 2 * F)) ∧ Below w.heap.size w w' := by
  obtain ⟨c0, c1⟩ := boxS w K F
  have hb : Below w.heap.size w (w.alloc (.cells #[.int .i64 K, .int .i64 F] 23)) := bwalloc (Below.refl _ _) _
  have hgs : (w.alloc (.cells #[.int .i64 K, .int .i64 F] 23)).heap.size = w.heap.size + 1 := by simp
  obtain ⟨h1, h2, h3, h4, h5⟩ := h
  go_enter Try.func14, Try.ntmps14
  go_wp2_with (refine boxH rfl (.tmp 0) K F rfl rfl ?_)
  constructor
  go_wp2_with fail
  go_ret
  exact ⟨ret1 (vi (by omega)), hb⟩
end Go.Proofs.Ytfnenehiapibiaa
