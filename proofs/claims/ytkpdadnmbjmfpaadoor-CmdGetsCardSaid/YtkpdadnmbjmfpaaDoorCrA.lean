/- The contract of the reference's Put of layer 8. The contract of the reference's Cut of layer 8. -/
import Derived.Test.YtkpdadnmbjmfpaaDoorCpA
import Derived.Test.YtkpdadnmbjmfpaaDoorRef1
namespace Go.Proofs.YtkpdadnmbjmfpaaDoor.Ce
open Go.RowKit

theorem rnum_int (n : Int) (w : World) (h0 : 0 ≤ n) (h1 : n ≤ 4294967295) : Calls Tryd.prog 22 #[.int .i64 n] w fun e w' => ∃ v, e = .returned v ∧ Ow w' w.heap.size 5 v ((numB n.toNat).map bv) ∧ Below w.heap.size w w' := by
  have := rnum_ok n.toNat w (by omega)
  rw [Int.toNat_of_nonneg h0] at this
  exact this
theorem flag_rd0 (w : World) {g : Bool} (h : g = false) : Rd (w.alloc (.cells #[.int .u8 0] 5)) (w.alloc (.cells #[.int .u8 0] 5)).heap.size (.slice (some ⟨w.heap.size, 0, none⟩) 1 1) ((flagB g).map bv) := by
  subst h
  exact Rd.newW w _ #[.int .u8 0] rfl (by simp [maxLen]) rfl
theorem flag_rd1 (w : World) {g : Bool} (h : g = true) : Rd (w.alloc (.cells #[.int .u8 1] 5)) (w.alloc (.cells #[.int .u8 1] 5)).heap.size (.slice (some ⟨w.heap.size, 0, none⟩) 1 1) ((flagB g).map bv) := by
  subst h
  exact Rd.newW w _ #[.int .u8 1] rfl (by simp [maxLen]) rfl
end Go.Proofs.YtkpdadnmbjmfpaaDoor.Ce

namespace Go.Proofs.YtkpdadnmbjmfpaaDoor.Ce
open Go.RowKit

def Good (D : List UInt8) : Prop := spOk D = true ∧ (spC D).ok
noncomputable def rcC (D : List UInt8) : Cl := @ite _ (Good D) (Classical.propDecidable _) (spC D) Cl.zero
noncomputable def rcN (D : List UInt8) : Nat := @ite _ (Good D) (Classical.propDecidable _) (cellB (spC D)).length 0
theorem rc_no {D : List UInt8} (h : ¬ Good D) : rcC D = Cl.zero ∧ rcN D = 0 := by unfold rcC rcN; rw [if_neg h, if_neg h]; exact ⟨rfl, rfl⟩
theorem rc_yes {D : List UInt8} (h : Good D) : rcC D = spC D ∧ rcN D = (cellB (spC D)).length := by unfold rcC rcN; rw [if_pos h, if_pos h]; exact ⟨rfl, rfl⟩
theorem good_iff {D : List UInt8} : Good D ↔ ∃ c m, Stands D c m := stands_iff.symm
theorem rc_stands {D m : List UInt8} {c : Cl} (h : Stands D c m) : rcC D = c ∧ rcN D = (cellB c).length := by
  have hg := good_iff.2 ⟨c, m, h⟩
  obtain ⟨h1, h2⟩ := rc_yes hg
  obtain ⟨-, h3, -⟩ := split_of h.1 m
  rw [← h.2] at h3
  rw [h3] at h1 h2
  exact ⟨h1, h2⟩
/-! the parts of what stands at a place -/
theorem ok_size {D : List UInt8} (h : textOk D) : textSize D = 4 + numOf D ∧ textThere D = ⟨(textOf D).toArray⟩ ∧ D.drop (textSize D) = textRest D ∧ 4 ≤ textSize D ∧ textSize D ≤ D.length ∧ ctOk D = true ∧ ctS D = textThere D ∧ ctR D = textRest D ∧ (textThere D).size + 4 = textSize D := by
  have h1 := ctOk_iff.2 h
  have hlen : (textOf D).length = numOf D := by unfold textOf; have := h.2; simp; omega
  have hsz : (⟨(textOf D).toArray⟩ : ByteArray).size = numOf D := by rw [← hlen]; rfl
  unfold textSize textThere ctS ctR
  rw [if_pos h, if_pos h, if_pos h1, if_pos h1]
  have h4 := h.1
  have h5 := h.2
  refine ⟨rfl, rfl, ?_, by omega, by omega, h1, rfl, rfl, by omega⟩
  unfold textRest
  rw [List.drop_drop]
theorem no_size {D : List UInt8} (h : ¬ textOk D) : textSize D = 0 ∧ ctOk D = false := by
  refine ⟨by unfold textSize; rw [if_neg h], ?_⟩
  cases hq : ctOk D with
  | true => exact absurd (ctOk_iff.1 hq) h
  | false => rfl
theorem ctR_no {D : List UInt8} (h : ctOk D = false) : ctR D = [] := by unfold ctR; rw [h]; simp
theorem not_good {D : List UInt8} (h : sp4 D = []) : ¬ Good D := fun hg => by
  have h1 : ctOk (sp4 D) = true := hg.1
  rw [h, ctOk_nil] at h1
  cases h1
end Go.Proofs.YtkpdadnmbjmfpaaDoor.Ce
