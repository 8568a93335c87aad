/- The contracts of package wire, going on: cutting. -/
import Derived.Test.YtlglokjehgejoaaWireB
namespace Go.Proofs.Ytlglokjehgejoaa
open Go.RowKit

/-- the number at the beginning -/
def numOf (l : List UInt8) : Nat := 16777216 * (l.getD 0 0).toNat + 65536 * (l.getD 1 0).toNat + 256 * (l.getD 2 0).toNat + (l.getD 3 0).toNat

set_option maxHeartbeats 400000 in
theorem splitNum_no (x : Value) (l : List UInt8) (B : Nat) (w : World) (hr : Rd w B x (l.map bv)) (h : l.length < 4) :
    Calls Try.prog 25 #[x] w fun e w' => e = .returned (.tuple #[.int .i64 0, .slice none 0 0, .bool false]) ∧ w = w' := by
  obtain ⟨A, c, rfl, hc, hm⟩ := hr.shapeM
  go_enter Try.func25, Try.ntmps25
  go_wp2
  go_ret3
  exact ⟨rfl, rfl⟩

theorem numOf4 (l : List UInt8) (h : 4 ≤ l.length) : numOf l = 16777216 * l[0].toNat + 65536 * l[1].toNat + 256 * l[2].toNat + l[3].toNat := by
  unfold numOf
  simp [List.getD, List.getElem?_eq_getElem (show 0 < l.length by omega), List.getElem?_eq_getElem (show 1 < l.length by omega), List.getElem?_eq_getElem (show 2 < l.length by omega), List.getElem?_eq_getElem (show 3 < l.length by omega)]

set_option maxHeartbeats 1000000 in
theorem splitNum_ok (x : Value) (l : List UInt8) (B : Nat) (w : World) (hr : Rd w B x (l.map bv)) (h : 4 ≤ l.length) :
    Calls Try.prog 25 #[x] w fun e w' => ∃ r, e = .returned (.tuple #[.int .i64 (numOf l), r, .bool true]) ∧ Rd w' B r ((l.drop 4).map bv) ∧ Below w.heap.size w w' := by
  obtain ⟨A, c, rfl, hc, hm⟩ := hr.shapeM
  obtain ⟨b, off, rfl, hb, hcell⟩ := hr.cellM (by omega)
  have c0 := hcell 0 (by omega)
  have c1 := hcell 1 (by omega)
  have c2 := hcell 2 (by omega)
  have c3 := hcell 3 (by omega)
  simp only [bv, Nat.add_zero] at c0 c1 c2 c3
  have d0 := UInt8.toNat_lt l[0]
  have d1 := UInt8.toNat_lt l[1]
  have d2 := UInt8.toNat_lt l[2]
  have d3 := UInt8.toNat_lt l[3]
  clear hcell
  have hcut := hr.cutFrom (lo := 4) (by omega)
  rw [← List.map_drop] at hcut
  have HC := Lib.hid hcut
  clear hcut hr
  have hm' : c ≤ 9223372036854775807 := hm
  by_cases hc4 : c = 4
  all_goals
    go_enter Try.func25, Try.ntmps25
    go_wp2
    go_quiet (fail)
    go_wp2
    go_quiet (fail)
    go_wp2
    go_ret3
    refine ⟨_, ret3 (vi ?_) rfl rfl, ?_, below_drewN (bwN _) _⟩
    · rw [numOf4 l h]; exact or4 _ _ _ _ d0 d1 d2 d3
    · have h2 := HC.out
      simp only [hc4, if_true, if_false] at h2
      exact h2.below (below_drewN (below_drewN (Below.refl _ _) _) _)

/-- is a text whole at the beginning? -/
def textOk (l : List UInt8) : Prop := 4 ≤ l.length ∧ numOf l ≤ l.length - 4
instance (l : List UInt8) : Decidable (textOk l) := by unfold textOk; infer_instance
def textOf (l : List UInt8) : List UInt8 := (l.drop 4).take (numOf l)
def textRest (l : List UInt8) : List UInt8 := (l.drop 4).drop (numOf l)
theorem numOf_lt (l : List UInt8) : numOf l < 4294967296 := by
  unfold numOf
  have d0 := UInt8.toNat_lt (l.getD 0 0)
  have d1 := UInt8.toNat_lt (l.getD 1 0)
  have d2 := UInt8.toNat_lt (l.getD 2 0)
  have d3 := UInt8.toNat_lt (l.getD 3 0)
  omega

set_option maxHeartbeats 400000 in
theorem splitText_no (x : Value) (l : List UInt8) (B : Nat) (w : World) (hr : Rd w B x (l.map bv)) (h : ¬ textOk l) :
    Calls Try.prog 27 #[x] w fun e w' => e = .returned (.tuple #[.string ⟨#[]⟩, .slice none 0 0, .bool false]) ∧ Below w.heap.size w w' := by
  by_cases h4 : 4 ≤ l.length
  · have hn : l.length - 4 < numOf l := by
      unfold textOk at h; omega
    have hlt := numOf_lt l
    go_enter Try.func27, Try.ntmps27
    go_wp2_with fail
    refine (splitNum_ok _ _ B _ hr h4).mono ?_
    rintro e w1 ⟨r, rfl, hr1, hb⟩
    obtain ⟨A, c, rfl, hc, hm⟩ := hr1.shapeM
    go_wp2_with fail
    go_ret3
    exact ⟨rfl, hb⟩
  · go_enter Try.func27, Try.ntmps27
    go_wp2_with fail
    refine (splitNum_no _ _ B _ hr (by omega)).mono ?_
    rintro e w1 ⟨rfl, rfl⟩
    go_wp2_with fail
    go_ret3
    exact ⟨rfl, Below.refl _ _⟩

set_option maxHeartbeats 1000000 in
theorem splitText_ok (x : Value) (l : List UInt8) (B : Nat) (w : World) (hr : Rd w B x (l.map bv)) (h : textOk l) :
    Calls Try.prog 27 #[x] w fun e w' => ∃ r, e = .returned (.tuple #[.string ⟨(textOf l).toArray⟩, r, .bool true]) ∧ Rd w' B r ((textRest l).map bv) ∧ Below w.heap.size w w' := by
  obtain ⟨h4, hn⟩ := h
  go_enter Try.func27, Try.ntmps27
  go_wp2_with fail
  refine (splitNum_ok _ _ B _ hr h4).mono ?_
  rintro e w1 ⟨r, rfl, hr1, hb⟩
  obtain ⟨A, c, rfl, hc, hm⟩ := hr1.shapeM
  have hm' : c ≤ 9223372036854775807 := hm
  rw [List.length_drop] at hr1 hc ⊢
  have hlt := numOf_lt l
  have hcl : numOf l ≤ c := by omega
  have H1 := hr1.cutTo (hi := numOf l) hn
  have HR := Lib.hid hr1
  rw [← List.map_take] at H1
  clear hr1
  have hcv := fun k => run_str (P := Try.prog) (w := w1.drewN k) Try.underlying26 Try.underlying5 Try.underlying9 (l := textOf l) (D := B) (H1.below (below_drewN (Below.refl _ _) k))
  clear H1
  by_cases hcc : c = numOf l
  · subst hcc
    go_wp2
    go_quiet (fail)
    go_wp2
    go_ret3
    exact ⟨_, rfl, by unfold textRest; rw [List.map_drop]; exact (HR.out.fromEnd hn).below (bwN' _ _), below_drewN hb _⟩
  · go_wp2
    go_quiet (fail)
    go_wp2
    go_ret3
    exact ⟨_, rfl, by unfold textRest; rw [List.map_drop]; exact (HR.out.from_ hn hcc).below (bwN' _ _), below_drewN hb _⟩

/-! own: the rest, copied -/
set_option maxHeartbeats 400000 in
theorem own_int (n : Int) (ok : Bool) (x : Value) (l : List UInt8) (B : Nat) (w : World) (hr : Rd w B x (l.map bv)) (hl : l.length ≤ 1000000000000) :
    Calls Try.prog 24 #[.int .i64 n, x, .bool ok] w fun e w' => ∃ r, e = .returned (.tuple #[.int .i64 n, r, .bool ok]) ∧ Ow w' w.heap.size 5 r (l.map bv) ∧ Below w.heap.size w w' := by
  go_enter Try.func24, Try.ntmps24
  go_wp2_with (at_builtin; refine wpList_appB bytesT rfl _ _ rfl rfl (Ow.nilB w w.heap.size 5) rfl hr (by simp; omega) (Nat.le_refl _) ?_; intro v' w' hown' hg _)
  go_ret3
  exact ⟨v', rfl, hown', (Below.refl _ _).grown hg (Nat.le_refl _) (fun k hk => by cases hk)⟩
set_option maxHeartbeats 400000 in
theorem own_str (s : ByteArray) (ok : Bool) (x : Value) (l : List UInt8) (B : Nat) (w : World) (hr : Rd w B x (l.map bv)) (hl : l.length ≤ 1000000000000) :
    Calls Try.prog 26 #[.string s, x, .bool ok] w fun e w' => ∃ r, e = .returned (.tuple #[.string s, r, .bool ok]) ∧ Ow w' w.heap.size 5 r (l.map bv) ∧ Below w.heap.size w w' := by
  go_enter Try.func26, Try.ntmps26
  go_wp2_with (at_builtin; refine wpList_appB bytesT rfl _ _ rfl rfl (Ow.nilB w w.heap.size 5) rfl hr (by simp; omega) (Nat.le_refl _) ?_; intro v' w' hown' hg _)
  go_ret3
  exact ⟨v', rfl, hown', (Below.refl _ _).grown hg (Nat.le_refl _) (fun k hk => by cases hk)⟩
set_option maxHeartbeats 400000 in
theorem own_strs (A : Option Addr) (n c : Nat) (ok : Bool) (x : Value) (l : List UInt8) (B : Nat) (w : World) (hr : Rd w B x (l.map bv)) (hl : l.length ≤ 1000000000000) :
    Calls Try.prog 28 #[.slice A n c, x, .bool ok] w fun e w' => ∃ r, e = .returned (.tuple #[.slice A n c, r, .bool ok]) ∧ Ow w' w.heap.size 5 r (l.map bv) ∧ Below w.heap.size w w' := by
  go_enter Try.func28, Try.ntmps28
  go_wp2_with (at_builtin; refine wpList_appB bytesT rfl _ _ rfl rfl (Ow.nilB w w.heap.size 5) rfl hr (by simp; omega) (Nat.le_refl _) ?_; intro v' w' hown' hg _)
  go_ret3
  exact ⟨v', rfl, hown', (Below.refl _ _).grown hg (Nat.le_refl _) (fun k hk => by cases hk)⟩
end Go.Proofs.Ytlglokjehgejoaa
