/- The contract of Encode. -/
import Derived.Test.YtfnenehiapibiaaPcs
import Derived.Test.YtfnenehiapibiaaMatRd
import Derived.Test.YtfnenehiapibiaaMatMk
import Derived.Deep.RegionHeld3
namespace Go.Proofs.Ytfnenehiapibiaa
open Go.RowKit
open Mx (rw rw_len rw_get rw_congr dl cod mm fm sm)

/-- a shape of numbers -/
def isShN (k f : Nat) : Prop := 1 ≤ k ∧ k + 2 * f ≤ 7
theorem isShN.int {k f : Nat} (h : isShN k f) : isShp (k : Int) (f : Int) := by unfold isShN at h; unfold isShp; omega
theorem shpN_ok (k f n : Nat) (w : World) (h : isShN k f) (hn : k + 2 * f = n) :
    Calls Try.prog 13 #[shp k f] w fun e w' => e = .returned (.int .i64 (n : Int)) ∧ Below w.heap.size w w' := by
  refine (shpN_any k f w).mono ?_
  rintro e w' ⟨rfl, hb⟩
  rw [if_pos h.int]
  exact ⟨ret1 (vi (by omega)), hb⟩
/-- what holds of a shape's box on the way -/
def InBox (g : Nat) (K F : Int) (w : World) : Prop := w.heap[g]? = some (.cells #[.int .i64 K, .int .i64 F] 23 (0, 0))
theorem InBox.c0 {g : Nat} {K F : Int} {w : World} (h : InBox g K F w) : w.cell? ⟨g, 0, none⟩ = some (.int .i64 K) := cell_of_row _ _ 0 _ _ _ h
theorem InBox.c1 {g : Nat} {K F : Int} {w : World} (h : InBox g K F w) : w.cell? ⟨g, 1, none⟩ = some (.int .i64 F) := cell_of_row _ _ 1 _ _ _ h
theorem InBox.lt {g : Nat} {K F : Int} {w : World} (h : InBox g K F w) : g < w.heap.size := (Array.getElem?_eq_some_iff.1 h).1
theorem InBox.below {g : Nat} {K F : Int} {w w' : World} (h : InBox g K F w) (hb : Below w.heap.size w w') : InBox g K F w' := (hb.block g h.lt).trans h
theorem InBox.new (w : World) (K F : Int) : InBox w.heap.size K F (w.alloc (.cells #[.int .i64 K, .int .i64 F] 23)) := heap_alloc_new _ _
section
variable {ops : Array Oper} {rest : List Oper} {o : Oper} {a : Act} {w : World} {K0 : Act → World → Prop} {Q : Exit → Act → World → Prop}
/-- the whole shape is loaded -/
theorem wpList_loadS {g : Nat} {K F : Int} (hg : o.guard = none) (x : Operand) (ho : o.op = .load 23 x) (hx : a.eval x = .pointer (some ⟨g, 0, none⟩)) (h : InBox g K F w)
    (hk : wpList Try.prog ops Q rest (a.put o.dst (shp K F)) w) : wpList Try.prog ops Q (o :: rest) a w :=
  wpList_load_row hg 23 x ho g hx 23 #[.int .i64 K, .int .i64 F] _ _ h Try.underlying23 rfl sizeS hk
theorem wp_loadS {g : Nat} {K F : Int} (x : Operand) (ho : o.op = .load 23 x) (hx : a.eval x = .pointer (some ⟨g, 0, none⟩)) (h : InBox g K F w)
    (hk : K0 (a.put o.dst (shp K F)) w) : o.wp Try.prog a w K0 Q :=
  wp_load_row 23 x ho g hx 23 #[.int .i64 K, .int .i64 F] _ _ h Try.underlying23 rfl sizeS hk
end
set_option maxHeartbeats 1000000 in
set_option maxRecDepth 100000 in
theorem encode_arg (K F : Int) (s : ByteArray) (w : World) (h : ¬ isShp K F) :
    Calls Try.prog 10 #[shp K F, .string s] w fun e w' => e = .returned (.tuple #[.slice none 0 0, .int .i64 1]) ∧ Below w.heap.size w w' := by
  have hp := fun w => shpR_any K F w
  rw [decide_eq_false h] at hp
  have hI := InBox.new w K F
  have hb : Below w.heap.size w (w.alloc (.cells #[.int .i64 K, .int .i64 F] 23)) := bwalloc (Below.refl _ _) _
  generalize hw0 : w.alloc (.cells #[.int .i64 K, .int .i64 F] 23) = w0 at *
  clear h
  go_enter Try.func10, Try.ntmps10
  go_wp2_with (refine boxH rfl (.tmp 0) K F rfl rfl ?_)
  constructor
  go_wp2_with (refine wpList_loadS rfl (.tmp 2) rfl rfl hI ?_)
  refine (hp _).mono ?_
  rintro e w1 ⟨rfl, hb1⟩
  clear hp hw0 hI
  go_wp2_with fail
  go_ret2
  exact ⟨rfl, bwstep hb hb1⟩
set_option maxHeartbeats 1000000 in
set_option maxRecDepth 100000 in
theorem encode_big (k f : Nat) (s : ByteArray) (w : World) (h : isShN k f) (hs : 512 < s.size) :
    Calls Try.prog 10 #[shp k f, .string s] w fun e w' => e = .returned (.tuple #[.slice none 0 0, .int .i64 7]) ∧ Below w.heap.size w w' := by
  have hp := fun w => shpR_any k f w
  rw [decide_eq_true h.int] at hp
  have hI := InBox.new w k f
  have hb : Below w.heap.size w (w.alloc (.cells #[.int .i64 k, .int .i64 f] 23)) := bwalloc (Below.refl _ _) _
  generalize hw0 : w.alloc (.cells #[.int .i64 k, .int .i64 f] 23) = w0 at *
  clear h
  have hs' : (512 : Int) < (s.size : Int) := by omega
  go_enter Try.func10, Try.ntmps10
  go_wp2_with (refine boxH rfl (.tmp 0) k f rfl rfl ?_)
  constructor
  go_wp2_with (refine wpList_loadS rfl (.tmp 2) rfl rfl hI ?_)
  refine (hp _).mono ?_
  rintro e w1 ⟨rfl, hb1⟩
  clear hp hw0 hI
  go_wp2_with fail
  go_ret2
  exact ⟨rfl, bwstep hb hb1⟩
set_option maxHeartbeats 4000000 in
set_option maxRecDepth 100000 in
theorem encode_ok (k f n : Nat) (s : ByteArray) (w : World) (h : isShN k f) (hn : k + 2 * f = n) (hs : s.size ≤ 512) :
    Calls Try.prog 10 #[shp k f, .string s] w fun e w' => (∃ x vs, e = .returned (.tuple #[x, .int .i64 0]) ∧ OwM w' w.heap.size x vs n (fun i => rw (mlen k s) (shM k s i))) ∧ Below w.heap.size w w' := by
  have hp := fun w => shpR_any k f w
  rw [decide_eq_true h.int] at hp
  have h1 := h.1
  have h2 := h.2
  have hI := InBox.new w k f
  have hb : Below w.heap.size w (w.alloc (.cells #[.int .i64 k, .int .i64 f] 23)) := bwalloc (Below.refl _ _) _
  generalize hw0 : w.alloc (.cells #[.int .i64 k, .int .i64 f] 23) = w0 at *
  go_enter Try.func10, Try.ntmps10
  go_wp2_with (refine boxH rfl (.tmp 0) k f rfl rfl ?_)
  constructor
  go_wp2_with (refine wpList_loadS rfl (.tmp 2) rfl rfl hI ?_)
  refine (hp _).mono ?_
  rintro e w1 ⟨rfl, hb1⟩
  have hI := hI.below hb1
  have hbb := bwstep hb hb1
  clear hb hb1 hp hw0
  have hms := mlen_small h1 s (by omega)
  have hmp := mlen_pos h1 s
  have S0 : InBox w.heap.size k f w1.drew ∧ w1.drew.cell? ⟨w.heap.size, 0, none⟩ = some (.int .i64 (k : Int)) ∧ w1.drew.cell? ⟨w.heap.size, 1, none⟩ = some (.int .i64 (f : Int)) ∧ Below w1.heap.size w1 w1.drew := ⟨hI, hI.c0, hI.c1, (Below.refl _ _).drew⟩
  have HU : Hid (∀ a b : World, (InBox w.heap.size k f a ∧ a.cell? ⟨w.heap.size, 0, none⟩ = some (.int .i64 (k : Int)) ∧ a.cell? ⟨w.heap.size, 1, none⟩ = some (.int .i64 (f : Int)) ∧ Below w1.heap.size w1 a) → Below a.heap.size a b → (InBox w.heap.size k f b ∧ b.cell? ⟨w.heap.size, 0, none⟩ = some (.int .i64 (k : Int)) ∧ b.cell? ⟨w.heap.size, 1, none⟩ = some (.int .i64 (f : Int)) ∧ Below w1.heap.size w1 b)) :=
    Lib.hid fun a b hS hb => ⟨hS.1.below hb, (hS.1.below hb).c0, (hS.1.below hb).c1, bwstep hS.2.2.2 hb⟩
  have HT := Lib.hid S0
  clear S0
  go_wp2_with fail
  go_region_held3 (fun w' => InBox w.heap.size k f w' ∧ w'.cell? ⟨w.heap.size, 0, none⟩ = some (.int .i64 (k : Int)) ∧ w'.cell? ⟨w.heap.size, 1, none⟩ = some (.int .i64 (f : Int)) ∧ Below w1.heap.size w1 w') (first | exact HT.out | assumption | exact HU.out _ _ (by assumption) (by assumption))
    (first
      | (refine wp_loadS (.tmp 2) rfl rfl (And.left (by assumption)) ?_)
      | (go_at_call 13; refine (shpN_ok k f n _ h hn).mono ?_; rintro e wn ⟨rfl, hbn⟩)
      | (go_at_call 25; refine (coding_any k n _ h1 (by omega) (by omega)).mono ?_; rintro e wx ⟨⟨x, vx, rfl, hx⟩, hbx⟩)
      | (go_at_call 26; refine (pieces_any k s _ h1 (by omega) (by omega)).mono ?_; rintro e wy ⟨⟨y, rfl, hy⟩, hby⟩)
      | (go_at_call 24; refine (mmul_any _ _ n k (mlen k s) (cod k) (pcM k s) _ (by first | exact hx.rd | exact hx.rd.up hby) (by first | exact hy | exact hy.up hbx | exact (hy.up hbn).up hbx) (by omega) (by omega) hmp (by omega) (by omega)).mono ?_; rintro e wz ⟨⟨z, vz, rfl, hz⟩, hbz⟩))
  have hb9 : Below w1.heap.size w1 _ := And.right (And.right (And.right (by assumption)))
  have hsz : w.heap.size ≤ wy.heap.size := by
    have e1 := hbb.size
    have e2 : w1.heap.size ≤ wn.heap.size := hbn.size
    have e3 := hbx.size
    have e4 := hby.size
    omega
  go_wp2_with fail
  go_ret2
  exact ⟨⟨_, _, rfl, hz.mono hsz⟩, bwstep hbb hb9⟩
end Go.Proofs.Ytfnenehiapibiaa
