/- The contract of the reference's Same of layer 8, at two slices of the same cells. -/
import Derived.Test.YtgcbmdolbmmljaaGreatCsA
import Derived.Test.YtgcbmdolbmmljaaGreatClA
import Derived.IntWalk
namespace Go.Proofs.YtgcbmdolbmmljaaGreat.Ce
open Go.RowKit

/-- a cell at two places -/
def TwoS (b o b' o' : Nat) (f : Cl) (w0 w' : World) : Prop :=
  w'.cell? ⟨b, o, none⟩ = some (.string f.row) ∧ w'.cell? ⟨b, o + 1, none⟩ = some (.string f.col) ∧ w'.cell? ⟨b, o + 2, none⟩ = some (.int .i64 f.at_) ∧ w'.cell? ⟨b, o + 3, none⟩ = some (.string f.val) ∧ w'.cell? ⟨b, o + 4, none⟩ = some (.bool f.gone) ∧
  w'.cell? ⟨b', o', none⟩ = some (.string f.row) ∧ w'.cell? ⟨b', o' + 1, none⟩ = some (.string f.col) ∧ w'.cell? ⟨b', o' + 2, none⟩ = some (.int .i64 f.at_) ∧ w'.cell? ⟨b', o' + 3, none⟩ = some (.string f.val) ∧ w'.cell? ⟨b', o' + 4, none⟩ = some (.bool f.gone) ∧ Below w0.heap.size w0 w'
theorem TwoS.of {b o b' o' : Nat} {f : Cl} {w0 w' : World} (h : FiveAt b o f w0) (hb : b < w0.heap.size) (hi : FiveAt b' o' f w0) (hb' : b' < w0.heap.size) (hw : Below w0.heap.size w0 w') : TwoS b o b' o' f w0 w' := by
  obtain ⟨a0, a1, a2, a3, a4⟩ := h.up hb hw
  obtain ⟨c0, c1, c2, c3, c4⟩ := hi.up hb' hw
  exact ⟨a0, a1, a2, a3, a4, c0, c1, c2, c3, c4, hw⟩
theorem TwoS.bel {b o b' o' : Nat} {f : Cl} {w0 w' : World} (h : TwoS b o b' o' f w0 w') : Below w0.heap.size w0 w' := h.2.2.2.2.2.2.2.2.2.2
set_option maxHeartbeats 4000000 in
set_option maxRecDepth 100000 in
theorem rsameL_self (v u : Value) (L : List Cl) (w : World) (hv : RdL w [] v L) (hu : RdL w [] u L) (hl : L.length ≤ 1000000000) :
    Calls Tryz.prog 18 #[v, u] w fun e w' => e = .returned (.bool true) ∧ Below w.heap.size w w' := by
  obtain ⟨A, cp, rfl, hc, hm⟩ := hv.shape
  obtain ⟨A', cp', rfl, hc', hm'⟩ := hu.shape
  unfold maxLen at hm hm'
  have HV := Lib.hid hv
  have HV' := Lib.hid hu
  clear hv hu
  go_enter Tryz.func18, Tryz.ntmps18
  go_wp2_with fail
  go_loopw [5] (fun i wr => ∃ k : Nat, k ≤ L.length ∧ i = .int .i64 (k : Int) ∧ Below w.heap.size w wr) (fun i _ => L.length - (intOf i).toNat)
  case atStart => exact ⟨0, by omega, rfl, Below.refl _ _⟩
  case round =>
    obtain ⟨k, hk, rfl, hbw⟩ := hrel
    have HBW := Lib.hid hbw
    by_cases hlt : k < L.length
    · obtain ⟨b, off, rfl, -, -⟩ := HV.out.open_ (by omega)
      obtain ⟨b', off', rfl, -, -⟩ := HV'.out.open_ (by omega)
      have hh3 : (0 : Int) ≤ (k : Int) := by omega
      have hh4 : (k : Int) < (L.length : Int) := by omega
      have hfk : L[k]? = some (L[k]'hlt) := List.getElem?_eq_getElem _
      generalize L[k]'hlt = f at hfk
      obtain ⟨h5, hbl⟩ := (HV.out.bel hbw).at_ hfk
      obtain ⟨h5', hbl'⟩ := (HV'.out.bel hbw).at_ hfk
      have HT : Hid (TwoS b (off + k * 5) b' (off' + k * 5) f wr wr.drew) := Lib.hid (TwoS.of h5 hbl h5' hbl' (Below.refl _ _).drew)
      have HU : Hid (∀ x y : World, TwoS b (off + k * 5) b' (off' + k * 5) f wr x → Below x.heap.size x y → TwoS b (off + k * 5) b' (off' + k * 5) f wr y) := Lib.hid fun x y hS hb => TwoS.of h5 hbl h5' hbl' (bwstep hS.bel hb)
      clear hfk h5 hbl h5' hbl' hbw
      go_wp2_with fail
      go_region_held3 (fun w' => w'.cell? ⟨b, off + k * 5, none⟩ = some (.string f.row) ∧ w'.cell? ⟨b, off + k * 5 + 1, none⟩ = some (.string f.col) ∧ w'.cell? ⟨b, off + k * 5 + 2, none⟩ = some (.int .i64 f.at_) ∧ w'.cell? ⟨b, off + k * 5 + 3, none⟩ = some (.string f.val) ∧ w'.cell? ⟨b, off + k * 5 + 4, none⟩ = some (.bool f.gone) ∧
        w'.cell? ⟨b', off' + k * 5, none⟩ = some (.string f.row) ∧ w'.cell? ⟨b', off' + k * 5 + 1, none⟩ = some (.string f.col) ∧ w'.cell? ⟨b', off' + k * 5 + 2, none⟩ = some (.int .i64 f.at_) ∧ w'.cell? ⟨b', off' + k * 5 + 3, none⟩ = some (.string f.val) ∧ w'.cell? ⟨b', off' + k * 5 + 4, none⟩ = some (.bool f.gone) ∧ Below wr.heap.size wr w') (first | exact HT.out | assumption | exact HU.out _ _ (by assumption) (by assumption))
        (first | (refine wp_neC (.tmp 20) (.tmp 24) _ rfl f f rfl rfl (b := false) (by simp) ?_))
      go_wp2_with fail
      go_roundw
      case rel => exact ⟨k + 1, by omega, by go_num, bwstep HBW.out (Below.refl _ _).drew⟩
      case measure => simp [intOf]; omega
    · obtain rfl : k = L.length := by omega
      go_wp2_with fail
      go_ret
      exact ⟨rfl, hbw⟩
end Go.Proofs.YtgcbmdolbmmljaaGreat.Ce
