/- The contract of the reference's Key of layer 12. -/
import Derived.Test.YtdemdmingelamaaTabP
import Derived.Test.YtdemdmingelamaaRef1
import Derived.Deep.RegionHeld3
namespace Go.Proofs.Ytdemdmingelamaa.Ce
open Go.RowKit

theorem ba_app (l m : List UInt8) : (⟨l.toArray⟩ : ByteArray) ++ (⟨m.toArray⟩ : ByteArray) = ⟨(l ++ m).toArray⟩ := by
  apply ByteArray.ext
  simp
def keyS (row col : ByteArray) : ByteArray := ⟨(keyT row col).toArray⟩
theorem ba_size (l : List UInt8) : (⟨l.toArray⟩ : ByteArray).size = l.length := by simp [ByteArray.size]
set_option maxHeartbeats 1000000 in
set_option maxRecDepth 100000 in
theorem tkey_any (row col : ByteArray) (w : World) (hr : row.size ≤ 4294967295) (hc : col.size ≤ 4294967295) :
    Calls Try.prog 24 #[.string row, .string col] w fun e w' => e = .returned (.string (keyS row col)) ∧ Below w.heap.size w w' := by
  obtain ⟨sr, hsr⟩ : ∃ s : ByteArray, s = ⟨(textB row).toArray⟩ := ⟨_, rfl⟩
  obtain ⟨sc, hsc⟩ : ∃ s : ByteArray, s = ⟨(textB col).toArray⟩ := ⟨_, rfl⟩
  have hsum : ¬ (sr.size + sc.size > 9223372036854775807) := by rw [hsr, hsc, ba_size, ba_size, textB_len, textB_len]; omega
  have hsum2 : sr.size + sc.size ≤ 9223372036854775807 := by omega
  have HK : Hid (sr ++ sc = keyS row col) := Lib.hid (by rw [hsr, hsc, ba_app]; rfl)
  have US : Hid (∀ (w : World) (D : Nat) (v : Value), Rd w D v ((textB row).map bv) → (convert 26 9 v).run Try.prog w = .ok (.string sr) w) := Lib.hid fun w D v h => by rw [hsr]; exact run_str Try.underlying26 Try.underlying5 Try.underlying9 h
  have UC : Hid (∀ (w : World) (D : Nat) (v : Value), Rd w D v ((textB col).map bv) → (convert 26 9 v).run Try.prog w = .ok (.string sc) w) := Lib.hid fun w D v h => by rw [hsc]; exact run_str Try.underlying26 Try.underlying5 Try.underlying9 h
  clear hsr hsc
  have HT : Hid (Below w.heap.size w w.drew) := Lib.hid (Below.refl _ _).drew
  have HU : Hid (∀ x y : World, Below w.heap.size w x → Below x.heap.size x y → Below w.heap.size w y) := Lib.hid fun x y h k => bwstep h k
  go_enter Try.func24, Try.ntmps24
  go_wp2_with fail
  go_region_law
    (first
      | (go_simp; go_at_call 42; with_reducible refine (rtext_ok row _ hr).mono ?_; rintro e w1 ⟨v1, rfl, ho1, hb1⟩; have c1 := US.out _ _ _ ho1.rd)
      | (go_simp; go_at_call 42; with_reducible refine (rtext_ok col _ hc).mono ?_; rintro e w2 ⟨v2, rfl, ho2, hb2⟩; have c2 := UC.out _ _ _ ho2.rd; have c1' := US.out _ _ _ (ho1.below hb2).rd))
  all_goals
    go_wp2_with fail
    go_ret
    exact ⟨ret1 (congrArg Value.string HK.out), HU.out _ _ (HU.out _ _ HT.out hb1) hb2⟩
end Go.Proofs.Ytdemdmingelamaa.Ce
