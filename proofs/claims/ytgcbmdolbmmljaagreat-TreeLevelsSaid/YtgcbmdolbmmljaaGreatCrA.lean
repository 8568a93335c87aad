/- The contract of the reference's Put of layer 8. The contract of the reference's Cut of layer 8. -/
import Derived.Test.YtgcbmdolbmmljaaGreatCpA
import Derived.Test.YtgcbmdolbmmljaaGreatRef1
namespace Go.Proofs.YtgcbmdolbmmljaaGreat.Ce
open Go.RowKit

theorem rnum_int (n : Int) (w : World) (h0 : 0 ≤ n) (h1 : n ≤ 4294967295) : Calls Tryz.prog 47 #[.int .i64 n] w fun e w' => ∃ v, e = .returned v ∧ Ow w' w.heap.size 5 v ((numB n.toNat).map bv) ∧ Below w.heap.size w w' := by
  have := rnum_ok n.toNat w (by omega)
  rw [Int.toNat_of_nonneg h0] at this
  exact this
theorem flag_rd0 (w : World) {g : Bool} (h : g = false) : Rd (w.alloc (.cells #[.int .u8 0] 5)) (w.alloc (.cells #[.int .u8 0] 5)).heap.size (.slice (some ⟨w.heap.size, 0, none⟩) 1 1) ((flagB g).map bv) := by
  subst h
  exact Rd.newW w _ #[.int .u8 0] rfl (by simp [maxLen]) rfl
theorem flag_rd1 (w : World) {g : Bool} (h : g = true) : Rd (w.alloc (.cells #[.int .u8 1] 5)) (w.alloc (.cells #[.int .u8 1] 5)).heap.size (.slice (some ⟨w.heap.size, 0, none⟩) 1 1) ((flagB g).map bv) := by
  subst h
  exact Rd.newW w _ #[.int .u8 1] rfl (by simp [maxLen]) rfl
set_option maxHeartbeats 4000000 in
set_option maxRecDepth 100000 in
theorem rput_ok (c : Cl) (w : World) (h : c.ok) : Calls Tryz.prog 23 #[c.v] w fun e w' => (∃ x, e = .returned x ∧ Ow w' w.heap.size 5 x ((cellB c).map bv)) ∧ Below w.heap.size w w' := by
  have l1 : c.row.size ≤ 4294967295 := by have := h.r2; omega
  have l2 : c.col.size ≤ 4294967295 := by have := h.c2; omega
  have l3 : c.val.size ≤ 4294967295 := by have := h.v; omega
  have z1 : (textB c.row).length + (textB c.col).length ≤ 140737488355328 := by rw [textB_len, textB_len]; omega
  have z2 : (textB c.row ++ textB c.col).length + (numB c.at_.toNat).length ≤ 140737488355328 := by rw [List.length_append, textB_len, textB_len, numB_len]; omega
  have z3 : ((textB c.row ++ textB c.col) ++ numB c.at_.toNat).length + (flagB c.gone).length ≤ 140737488355328 := by simp only [List.length_append, textB_len, numB_len, flagB, List.length_singleton]; omega
  have z4 : (((textB c.row ++ textB c.col) ++ numB c.at_.toNat) ++ flagB c.gone).length + (textB c.val).length ≤ 140737488355328 := by simp only [List.length_append, textB_len, numB_len, flagB, List.length_singleton]; omega
  have HE : Hid ((((textB c.row ++ textB c.col) ++ numB c.at_.toNat) ++ flagB c.gone) ++ textB c.val = cellB c) := Lib.hid (by unfold cellB; simp)
  go_enter Tryz.func23, Tryz.ntmps23
  go_wp2_with (refine boxC rfl (.tmp 0) c rfl rfl ?_)
  constructor
  intro w2 hI1 hb1 hz1
  have HB := Lib.hid hb1
  have HI := Lib.hid hI1
  clear hI1 hb1 hz1
  go_wp2_with fail
  have HT := Lib.hid (AllC.of HI.out ((Below.refl w2.heap.size w2).drew))
  have HU : Hid (∀ a b : World, AllC w.heap.size c w2 a → Below a.heap.size a b → AllC w.heap.size c w2 b) := Lib.hid fun a b hS hb => AllC.of HI.out (bwstep hS.2.2.2.2.2 hb)
  have HU2 : Hid (∀ a b : World, AllC w.heap.size c w2 a → Below w2.heap.size a b → AllC w.heap.size c w2 b) := Lib.hid fun a b hS hb => AllC.of HI.out (hS.2.2.2.2.2.trans hb)
  go_region_held3 (fun w' => w'.cell? ⟨w.heap.size, 0, none⟩ = some (.string c.row) ∧ w'.cell? ⟨w.heap.size, 1, none⟩ = some (.string c.col) ∧ w'.cell? ⟨w.heap.size, 2, none⟩ = some (.int .i64 c.at_) ∧ w'.cell? ⟨w.heap.size, 3, none⟩ = some (.string c.val) ∧ w'.cell? ⟨w.heap.size, 4, none⟩ = some (.bool c.gone) ∧ Below w2.heap.size w2 w') (first | exact HT.out | assumption | exact HU.out _ _ (by assumption) (by assumption) | exact HU2.out _ _ (by assumption) (by assumption))
    (first
      | (go_at_call 46; (with_reducible refine (rtext_ok c.row _ l1).mono ?_); rintro e wa ⟨va, rfl, oa, ba⟩)
      | (go_at_call 46; (with_reducible refine (rtext_ok c.col _ l2).mono ?_); rintro e wb ⟨vb, rfl, ob, bb⟩; have oa := oa.below bb; have rb := ob.rd; have sb : w2.heap.size ≤ wb.heap.size := Nat.le_trans ba.size bb.size)
      | (refine step_appB bytesT rfl (.tmp 6) (.tmp 9) rfl (by simp [Act.eval]) oa (by simp [Act.eval]) rb z1 sb ?_; intro v3 w3 o3 g3 h3; have hg3 : Below w2.heap.size wb w3 := bwgrown g3 oa.ge sb; have O3 : Hid (Ow w3 w2.heap.size 5 v3 ((textB c.row ++ textB c.col).map bv)) := Lib.hid o3; clear o3 h3))
  have HC3 : Hid (AllC w.heap.size c w2 w3) := Lib.hid (by assumption)
  clear HT HU HU2
  cases hg : c.gone
  · obtain ⟨p0, p1, p2, p3, p4, -⟩ := HC3.out
    have HG := Lib.hid hg
    clear hg
    go_wp2_with fail
    refine (rnum_int _ _ h.a1 h.a2).mono ?_
    rintro e w4 ⟨v4, rfl, o4, b4⟩
    have O4 := O3.out.below b4
    have b24 := bwstep HC3.out.2.2.2.2.2 b4
    have s4 := b24.size
    have r4 := o4.rd
    clear p0 p1 p2 p3 p4 o4 b4 O3
    go_wp2_with (first
      | (at_builtin; refine wpList_appB bytesT rfl (.tmp 11) (.tmp 14) rfl rfl O4 rfl r4 z2 s4 ?_; intro v5 w5 o5 g5 h5; have b25 := b24.grown g5 s4 O4.ge; have O5 := o5.below (bwalloc (bwrefl w5) (.cells #[.int .u8 0] 5)); have b25 := bwalloc b25 (.cells #[.int .u8 0] 5); have r5 := flag_rd0 w5 HG.out; have s5 := b25.size; have HC5 := Lib.hid (AllC.of HI.out (b24.grown g5 s4 O4.ge)); obtain ⟨p0, p1, p2, p3, p4, -⟩ := HC5.out; rw [HG.out] at p4; clear o5 h5 g5)
      | (at_builtin; refine wpList_appB bytesT rfl (.tmp 21) (.tmp 22) rfl rfl O5 rfl r5 z3 s5 ?_; intro v6 w6 o6 g6 h6; have b26 := Lib.hid (b25.grown g6 s5 O5.ge); have O6 := Lib.hid o6; have HC6 := Lib.hid (AllC.of HI.out b26.out); obtain ⟨p0, p1, p2, p3, p4, -⟩ := HC6.out; clear o6 h6 g6 b25 r5 s5 O5))
    refine (rtext_ok _ _ l3).mono ?_
    rintro e w7 ⟨v7, rfl, o7, b7⟩
    have O7 := O6.out.below b7
    have b27 := bwstep b26.out b7
    have s7 := b27.size
    have r7 := o7.rd
    clear p0 p1 p2 p3 p4 o7 b7 O6
    go_wp2_with (at_builtin; refine wpList_appB bytesT rfl (.tmp 24) (.tmp 27) rfl rfl O7 rfl r7 z4 s7 ?_; intro v8 w8 o8 g8 h8; have HB8 := Lib.hid (b27.grown g8 s7 O7.ge); have O8 := Lib.hid o8; clear o8 h8 g8)
    go_ret
    exact ⟨⟨_, rfl, by rw [HE.out] at O8; exact O8.out.mono HB.out.size⟩, HB.out.trans (HB8.out.mono HB.out.size)⟩
  · obtain ⟨p0, p1, p2, p3, p4, -⟩ := HC3.out
    have HG := Lib.hid hg
    clear hg
    go_wp2_with fail
    refine (rnum_int _ _ h.a1 h.a2).mono ?_
    rintro e w4 ⟨v4, rfl, o4, b4⟩
    have O4 := O3.out.below b4
    have b24 := bwstep HC3.out.2.2.2.2.2 b4
    have s4 := b24.size
    have r4 := o4.rd
    clear p0 p1 p2 p3 p4 o4 b4 O3
    go_wp2_with (first
      | (at_builtin; refine wpList_appB bytesT rfl (.tmp 11) (.tmp 14) rfl rfl O4 rfl r4 z2 s4 ?_; intro v5 w5 o5 g5 h5; have b25 := b24.grown g5 s4 O4.ge; have O5 := o5.below (bwalloc (bwrefl w5) (.cells #[.int .u8 1] 5)); have b25 := bwalloc b25 (.cells #[.int .u8 1] 5); have r5 := flag_rd1 w5 HG.out; have s5 := b25.size; have HC5 := Lib.hid (AllC.of HI.out (b24.grown g5 s4 O4.ge)); obtain ⟨p0, p1, p2, p3, p4, -⟩ := HC5.out; rw [HG.out] at p4; clear o5 h5 g5)
      | (at_builtin; refine wpList_appB bytesT rfl (.tmp 18) (.tmp 19) rfl rfl O5 rfl r5 z3 s5 ?_; intro v6 w6 o6 g6 h6; have b26 := Lib.hid (b25.grown g6 s5 O5.ge); have O6 := Lib.hid o6; have HC6 := Lib.hid (AllC.of HI.out b26.out); obtain ⟨p0, p1, p2, p3, p4, -⟩ := HC6.out; clear o6 h6 g6 b25 r5 s5 O5))
    refine (rtext_ok _ _ l3).mono ?_
    rintro e w7 ⟨v7, rfl, o7, b7⟩
    have O7 := O6.out.below b7
    have b27 := bwstep b26.out b7
    have s7 := b27.size
    have r7 := o7.rd
    clear p0 p1 p2 p3 p4 o7 b7 O6
    go_wp2_with (at_builtin; refine wpList_appB bytesT rfl (.tmp 24) (.tmp 27) rfl rfl O7 rfl r7 z4 s7 ?_; intro v8 w8 o8 g8 h8; have HB8 := Lib.hid (b27.grown g8 s7 O7.ge); have O8 := Lib.hid o8; clear o8 h8 g8)
    go_ret
    exact ⟨⟨_, rfl, by rw [HE.out] at O8; exact O8.out.mono HB.out.size⟩, HB.out.trans (HB8.out.mono HB.out.size)⟩
end Go.Proofs.YtgcbmdolbmmljaaGreat.Ce

namespace Go.Proofs.YtgcbmdolbmmljaaGreat.Ce
open Go.RowKit

def Good (D : List UInt8) : Prop := spOk D = true ∧ (spC D).ok
noncomputable def rcC (D : List UInt8) : Cl := @ite _ (Good D) (Classical.propDecidable _) (spC D) Cl.zero
noncomputable def rcN (D : List UInt8) : Nat := @ite _ (Good D) (Classical.propDecidable _) (cellB (spC D)).length 0
theorem rc_no {D : List UInt8} (h : ¬ Good D) : rcC D = Cl.zero ∧ rcN D = 0 := by unfold rcC rcN; rw [if_neg h, if_neg h]; exact ⟨rfl, rfl⟩
theorem rc_yes {D : List UInt8} (h : Good D) : rcC D = spC D ∧ rcN D = (cellB (spC D)).length := by unfold rcC rcN; rw [if_pos h, if_pos h]; exact ⟨rfl, rfl⟩
theorem good_iff {D : List UInt8} : Good D ↔ ∃ c m, Stands D c m := stands_iff.symm
theorem rc_stands {D m : List UInt8} {c : Cl} (h : Stands D c m) : rcC D = c ∧ rcN D = (cellB c).length := by
  have hg := good_iff.2 ⟨c, m, h⟩
  obtain ⟨h1, h2⟩ := rc_yes hg
  obtain ⟨-, h3, -⟩ := split_of h.1 m
  rw [← h.2] at h3
  rw [h3] at h1 h2
  exact ⟨h1, h2⟩
/-! the parts of what stands at a place -/
theorem ok_size {D : List UInt8} (h : textOk D) : textSize D = 4 + numOf D ∧ textThere D = ⟨(textOf D).toArray⟩ ∧ D.drop (textSize D) = textRest D ∧ 4 ≤ textSize D ∧ textSize D ≤ D.length ∧ ctOk D = true ∧ ctS D = textThere D ∧ ctR D = textRest D ∧ (textThere D).size + 4 = textSize D := by
  have h1 := ctOk_iff.2 h
  have hlen : (textOf D).length = numOf D := by unfold textOf; have := h.2; simp; omega
  have hsz : (⟨(textOf D).toArray⟩ : ByteArray).size = numOf D := by rw [← hlen]; rfl
  unfold textSize textThere ctS ctR
  rw [if_pos h, if_pos h, if_pos h1, if_pos h1]
  have h4 := h.1
  have h5 := h.2
  refine ⟨rfl, rfl, ?_, by omega, by omega, h1, rfl, rfl, by omega⟩
  unfold textRest
  rw [List.drop_drop]
theorem no_size {D : List UInt8} (h : ¬ textOk D) : textSize D = 0 ∧ ctOk D = false := by
  refine ⟨by unfold textSize; rw [if_neg h], ?_⟩
  cases hq : ctOk D with
  | true => exact absurd (ctOk_iff.1 hq) h
  | false => rfl
theorem ctR_no {D : List UInt8} (h : ctOk D = false) : ctR D = [] := by unfold ctR; rw [h]; simp
theorem not_good {D : List UInt8} (h : sp4 D = []) : ¬ Good D := fun hg => by
  have h1 : ctOk (sp4 D) = true := hg.1
  rw [h, ctOk_nil] at h1
  cases h1
end Go.Proofs.YtgcbmdolbmmljaaGreat.Ce
