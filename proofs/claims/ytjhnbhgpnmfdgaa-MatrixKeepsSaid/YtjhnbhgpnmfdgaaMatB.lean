/- The contracts of turn, and of bytes.Clone. -/
import Derived.Test.YtjhnbhgpnmfdgaaMatA
namespace Go.Proofs.Ytjhnbhgpnmfdgaa
open Go.RowKit
open Mx (rw rw_len rw_get rw_congr)

theorem xor_b8 (a b : UInt8) : Value.int .u8 (bits .xor .u8 (a.toNat : Int) (b.toNat : Int)) = bv (a ^^^ b) := by
  rw [xor_n8 _ _ a.toNat_lt b.toNat_lt]
  unfold bv
  rw [UInt8.toNat_xor]
/-- a row turned by another behind k rounds -/
def trow (f f2 : Nat → UInt8) (k j : Nat) : UInt8 := if j < k then f j ^^^ f2 j else f j
theorem trow_zero (f f2 : Nat → UInt8) : trow f f2 0 = f := by funext j; unfold trow; rw [if_neg (by omega)]
theorem trow_at (f f2 : Nat → UInt8) (k : Nat) : trow f f2 k k = f k := by unfold trow; rw [if_neg (by omega)]
theorem trow_step (f f2 : Nat → UInt8) (k : Nat) : (fun j => if j = k then f k ^^^ f2 k else trow f f2 k j) = trow f f2 (k + 1) := by
  funext j
  unfold trow
  by_cases e : j = k
  · rw [if_pos e, if_pos (by omega), e]
  · rw [if_neg e]
    by_cases h : j < k
    · rw [if_pos h, if_pos (by omega)]
    · rw [if_neg h, if_neg (by omega)]
theorem Ow.atR {w : World} {B e k wd : Nat} {A : Option Addr} {m c : Nat} {f : Nat → UInt8} (h : Ow w B e (.slice A m c) ((rw wd f).map bv)) (hk : k < wd) :
    ∃ g, A = some ⟨g, 0, none⟩ ∧ B ≤ g ∧ g < w.heap.size ∧ w.cell? ⟨g, k, none⟩ = some (.int .u8 ((f k).toNat : Int)) ∧ w.frozen? ⟨g, k, none⟩ = false ∧
      ∀ u : UInt8, Ow (w.setCell ⟨g, k, none⟩ (bv u)) B e (.slice A m c) ((rw wd fun j => if j = k then u else f j).map bv) := by
  obtain ⟨g, hA, hgb, hgs, hgc, hgf, hset⟩ := h.at_ (k := k) (by rw [List.length_map, rw_len]; exact hk)
  refine ⟨g, hA, hgb, hgs, ?_, hgf, fun u => ?_⟩
  · rw [hgc]
    have := rw_get (f := f) hk
    rw [List.getElem?_eq_getElem (by rw [rw_len]; exact hk)] at this
    rw [List.getElem_map, Option.some.inj this]
    rfl
  · have := hset (bv u)
    rw [← List.map_set, Mx.rw_set] at this
    exact this
theorem turn_step {w wr : World} {B D e e' wd k : Nat} {A : Option Addr} {m c : Nat} {x : Value} {f f2 : Nat → UInt8} (ho : Ow wr B e (.slice A m c) ((rw wd (trow f f2 k)).map bv)) (hk : k < wd)
    (hg : w.grownBy wr (Value.slice A m c).ownBlock) (hx : Ow w D e' x ((rw wd f2).map bv)) (hap : Apart x (.slice A m c)) :
    ∃ g b off m' c', A = some ⟨g, 0, none⟩ ∧ x = .slice (some ⟨b, off, none⟩) m' c' ∧ wr.cell? ⟨b, off + k, none⟩ = some (.int .u8 ((f2 k).toNat : Int)) ∧ wr.cell? ⟨g, k, none⟩ = some (.int .u8 ((f k).toNat : Int)) ∧ wr.frozen? ⟨g, k, none⟩ = false ∧
      Hid (Ow (wr.setCell ⟨g, k, none⟩ (.int .u8 (bits .xor .u8 ((f k).toNat : Int) ((f2 k).toNat : Int)))) B e (.slice A m c) ((rw wd (trow f f2 (k + 1))).map bv) ∧
        w.grownBy (wr.setCell ⟨g, k, none⟩ (.int .u8 (bits .xor .u8 ((f k).toNat : Int) ((f2 k).toNat : Int)))) (Value.slice A m c).ownBlock) := by
  obtain ⟨g, hA, hgb, hgs, hgc, hgf, hset⟩ := ho.atR hk
  have hxr := (hx.kept hg hap).rd
  obtain ⟨A', c', hxe, _, _⟩ := hxr.shapeR
  subst hxe
  obtain ⟨b, off, hA', _, hc'⟩ := hxr.cellR (by omega)
  subst hA
  subst hA'
  refine ⟨g, b, off, wd, c', rfl, rfl, hc' k hk, ?_, hgf, ?_, ?_⟩
  · rw [hgc, trow_at]
  · rw [xor_b8, ← trow_step]
    exact hset _
  · exact hg.trans (grownBy_setCell wr g k _)
set_option maxHeartbeats 1000000 in
set_option maxRecDepth 100000 in
theorem turn_any (v x : Value) (B D e wd : Nat) (f f2 : Nat → UInt8) (w : World) (ho : Ow w B e v ((rw wd f).map bv)) (hx : Ow w D 5 x ((rw wd f2).map bv)) (hap : Apart x v) :
    Calls Try.prog 24 #[v, x] w fun r w' => r = .returned (.tuple #[]) ∧ Ow w' B e v ((rw wd fun j => f j ^^^ f2 j).map bv) ∧ w.grownBy w' v.ownBlock := by
  obtain ⟨A, c, rfl, hc, hm⟩ := ho.rd.shapeR
  obtain ⟨A', c', hxe, hc', hm'⟩ := hx.rd.shapeR
  unfold maxLen at hm hm'
  go_enter Try.func24, Try.ntmps24
  rw [hxe]
  go_wp2_with fail
  go_loopw [4, 5, 8] (fun _ _ i wr => ∃ k : Nat, k ≤ wd ∧ i = .int .i64 k ∧ Ow wr B e (.slice A wd c) ((rw wd (trow f f2 k)).map bv) ∧ w.grownBy wr (Value.slice A wd c).ownBlock) (fun _ _ i _ => wd - (intOf i).toNat)
  case atStart => exact ⟨0, by omega, rfl, by rw [trow_zero]; exact ho, World.grownBy.refl _ _⟩
  case round =>
    obtain ⟨k, hk, rfl, hor, hg⟩ := hrel
    by_cases hlt : k < wd
    · obtain ⟨g, b, off, m2, c2, rfl, hxe2, hcx, hcv, hfz, HS⟩ := turn_step hor hlt hg hx hap
      rw [hxe] at hxe2
      injection hxe2 with h1 h2 h3
      subst h1
      clear hor hg ho hx h2 h3
      go_wp2_with fail
      go_roundw
      case rel => exact ⟨k + 1, by omega, by go_num, HS.out.1, HS.out.2⟩
      case measure => simp [intOf]; omega
    · obtain rfl : k = wd := by omega
      have ho2 : Ow wr B e (.slice A k c) ((rw k fun j => f j ^^^ f2 j).map bv) := by
        rw [← rw_congr (f := trow f f2 k) (fun j hj => by unfold trow; rw [if_pos hj])]
        exact hor
      clear hor ho hx
      go_wp2_with fail
      go_end0
      exact ⟨rfl, ho2, hg⟩
set_option maxHeartbeats 1000000 in
set_option maxRecDepth 100000 in
/-- bytes.Clone -/
theorem clone_any (v : Value) (l : List UInt8) (w : World) (hr : Rd w w.heap.size v (l.map bv)) (hl : l.length ≤ 140737488355328) :
    Calls Try.prog 33 #[v] w fun e w' => (∃ x, e = .returned x ∧ Ow w' w.heap.size 5 x (l.map bv)) ∧ Below w.heap.size w w' := by
  have q := fun (w : World) (a : Option Addr) (n c n' c' : Nat) => Lib.run_eql_slice_nil (P := Try.prog) w 29 5 a n c n' c' Try.underlying29
  obtain ⟨A, c, rfl, hc, hm⟩ := hr.shapeM
  cases A with
  | none =>
    have h0 : l = [] := by
      cases l with
      | nil => rfl
      | cons x l =>
        obtain ⟨b, off, hA, _⟩ := hr.cellM (by simp)
        cases hA
    subst h0
    clear hr
    go_enter Try.func33, Try.ntmps33
    go_wp2_with fail
    go_ret
    exact ⟨⟨_, rfl, Ow.nilB _ _ _⟩, Below.refl _ _⟩
  | some a =>
    go_enter Try.func33, Try.ntmps33
    go_wp2_with (at_builtin; refine wpList_appB bytesT rfl (.tmp 5) (.tmp 6) rfl rfl (Ow.empty w (Nat.le_refl _) 5) rfl (hr.below (bwalloc (Below.refl _ _) _)) (by simpa using hl) (by simp) ?_; intro v' w' ho hg _)
    go_ret
    exact ⟨⟨_, rfl, by simpa using ho⟩, Ow.emptyG hg⟩
end Go.Proofs.Ytjhnbhgpnmfdgaa
