/- The contracts of package wire, going on: lists of texts. -/
import Derived.Test.YtlglokjehgejoaaWire
namespace Go.Proofs.Ytlglokjehgejoaa
open Go.RowKit

def allB (l : List ByteArray) : List UInt8 := l.flatMap textB
def textsB (l : List ByteArray) : List UInt8 := numB l.length ++ allB l
theorem allB_snoc (l : List ByteArray) (k : Nat) (h : k < l.length) : allB (l.take (k + 1)) = allB (l.take k) ++ textB l[k] := by
  unfold allB
  rw [List.take_succ_eq_append_getElem h, List.flatMap_append]
  simp
theorem allB_take_le (l : List ByteArray) (k : Nat) : (allB (l.take k)).length ≤ (allB l).length := by
  have : allB l = allB (l.take k) ++ allB (l.drop k) := by
    unfold allB
    rw [← List.flatMap_append, List.take_append_drop]
  rw [this]; simp

set_option maxHeartbeats 1000000 in
theorem texts_ok (x : Value) (l : List ByteArray) (w : World) (hr : Rd w w.heap.size x (l.map sv)) (h1 : l.length ≤ 4294967295) (h2 : ∀ s ∈ l, s.size ≤ 4294967295) (h3 : (allB l).length ≤ 1000000000000) :
    Calls Try.prog 16 #[x] w fun e w' => ∃ v, e = .returned v ∧ Ow w' w.heap.size 5 v ((textsB l).map bv) ∧ Below w.heap.size w w' := by
  obtain ⟨A, c, rfl, hc, hm⟩ := hr.shapeM
  have hlm : l.length ≤ 9223372036854775807 := by omega
  go_enter Try.func16, Try.ntmps16
  go_wp2_with fail
  refine (num_ok _ _ h1).mono ?_
  rintro e w1 ⟨v, rfl, ho, hb⟩
  go_wp2_with fail
  go_loopw [3, 11] (fun b i wr => ∃ k : Nat, k ≤ l.length ∧ i = .int .i64 k ∧ Ow wr w.heap.size 5 b ((numB l.length ++ allB (l.take k)).map bv) ∧ Below w.heap.size w wr) (fun _ i _ => l.length - (intOf i).toNat)
  case atStart => exact ⟨0, Nat.zero_le _, rfl, by simpa [allB] using ho, hb⟩
  case round =>
    obtain ⟨k, hk, rfl, hok, hbk⟩ := hrel
    by_cases hlt : k < l.length
    · obtain ⟨b, off, rfl, hbb, hcell⟩ := (hr.below hbk).cellM (by omega)
      have hck := hcell k hlt
      simp only [sv] at hck
      clear hcell
      go_wp2_with fail
      refine (text_ok _ _ (h2 _ (List.getElem_mem hlt))).mono ?_
      rintro e w2 ⟨u, rfl, hu, hb2⟩
      have hsn := Lib.hid (allB_snoc l k hlt)
      have hle := allB_take_le l (k + 1)
      have hsz : (numB l.length ++ allB (l.take k)).length + (textB l[k]).length ≤ 140737488355328 := by
        rw [hsn.out] at hle; simp [numB_len] at hle ⊢; omega
      clear hle
      go_wp2_with (at_builtin; refine wpList_appB bytesT rfl _ _ rfl rfl (hok.below hb2) rfl hu.rd hsz (Nat.le_trans hbk.size hb2.size) ?_; intro v' w' hown' hg _)
      go_roundw
      case rel => 
        refine ⟨k + 1, by omega, by go_num, ?_, ?_⟩
        · rw [hsn.out, ← List.append_assoc]; exact hown'
        · exact (hbk.trans (hb2.mono hbk.size)).grown hg (Nat.le_trans hbk.size hb2.size) hok.ge
      case measure => simp [intOf]; omega
    · go_wp2_with fail
      go_ret
      have : k = l.length := by omega
      subst this
      exact ⟨_, rfl, by simpa [textsB] using hok, hbk⟩
end Go.Proofs.Ytlglokjehgejoaa
