/- The contracts of the reference functions of layer 1, going on. -/
import Derived.Test.YtglagpaamoigmaaRefA
namespace Go.Proofs.Ytglagpaamoigmaa
open Go.RowKit

def sumS (l : List ByteArray) : Nat := (l.map ByteArray.size).sum
theorem sumS_snoc (l : List ByteArray) (k : Nat) (h : k < l.length) : sumS (l.take (k + 1)) = sumS (l.take k) + l[k].size := by
  unfold sumS
  rw [List.take_succ_eq_append_getElem h, List.map_append, List.sum_append]
  simp
/-- few texts, and short -/
def FewSaid (w : World) (l : List ByteArray) (e : Ending) (w' : World) : Prop :=
  ∃ q : Bool, e = .returned (.bool q) ∧ (q = true → l.length ≤ 100 ∧ sumS l ≤ 5000) ∧ Below w.heap.size w w'

set_option maxRecDepth 100000 in
set_option maxHeartbeats 1000000 in
theorem rfew_any (x : Value) (l : List ByteArray) (B : Nat) (w : World) (hB : B ≤ w.heap.size) (hx : Rd w B x (l.map sv)) (hs : ∀ s ∈ l, s.size ≤ 140737488355328) :
    Calls Try.prog 8 #[x] w (FewSaid w l) := by
  obtain ⟨A, c, rfl, hc, hm⟩ := hx.shapeM
  have hm' : c ≤ 9223372036854775807 := hm
  have HS := Lib.hid hs
  clear hs
  go_enter Try.func8, Try.ntmps8
  go_wp2_with fail
  go_loopw [3, 4] (fun n i wr => ∃ k : Nat, k ≤ l.length ∧ k ≤ 200 ∧ i = .int .i64 k ∧ n = .int .i64 (sumS (l.take k)) ∧ sumS (l.take k) ≤ 5000 ∧ Below w.heap.size w wr) (fun _ i _ => l.length - (intOf i).toNat)
  case atStart => exact ⟨0, Nat.zero_le _, by omega, rfl, by simp [sumS], by simp [sumS], Below.refl _ _⟩
  case round =>
    obtain ⟨k, hk, hk2, rfl, rfl, hsum, hbk⟩ := hrel
    by_cases hlt : k < l.length ∧ k < 200
    · obtain ⟨hlt, hlt2⟩ := hlt
      obtain ⟨b, off, rfl, -, hcell⟩ := (hx.below (hbk.mono hB)).cellM (by omega)
      have hck := hcell k hlt
      simp only [sv] at hck
      have hsk := HS.out _ (List.getElem_mem hlt)
      have HN := Lib.hid (sumS_snoc l k hlt)
      clear hcell
      by_cases hbig : sumS (l.take k) + l[k].size ≤ 5000
      · go_wp2_with fail
        go_roundw
        case rel => exact ⟨k + 1, by omega, by omega, by go_num, by rw [HN.out]; go_num, by rw [HN.out]; exact hbig, hbk⟩
        case measure => simp [intOf]; omega
      · go_wp2_with fail
        go_ret
        exact ⟨false, rfl, (fun h => absurd h (by simp)), hbk⟩
    · go_wp2_with fail
      all_goals
        go_ret
        refine ⟨_, rfl, fun h => ?_, hbk⟩
        have h100 : l.length ≤ 100 := by
          have := of_decide_eq_true h
          omega
        have : k = l.length := by omega
        subst this
        rw [List.take_length] at hsum
        exact ⟨h100, hsum⟩
end Go.Proofs.Ytglagpaamoigmaa
