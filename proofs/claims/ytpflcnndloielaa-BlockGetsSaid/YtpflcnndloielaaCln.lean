/- The contract of bytes.Clone. -/
import Derived.Test.YtpflcnndloielaaBase
import Derived.Lib.SliceRun
namespace Go.Proofs.Ytpflcnndloielaa
open Go.RowKit

set_option maxHeartbeats 400000 in
theorem bclone_any (v : Value) (l : List UInt8) (w : World) (B : Nat) (hr : Rd w B v (l.map bv)) (hB : B ≤ w.heap.size) (hl : l.length ≤ 1000000000000) :
    Calls Try.prog 46 #[v] w fun e w' => ∃ x, e = .returned x ∧ Ow w' w.heap.size 5 x (l.map bv) ∧ Below w.heap.size w w' := by
  obtain ⟨A, c, rfl, hc, hm⟩ := hr.shapeM
  have qT : ∀ (w : World) (a : Option Addr) (n c n' c' : Nat), (binOp .eql 33 (.slice a n c) (.slice none n' c')).run Try.prog w = .ok (.bool a.isNone) w := fun w a n c n' c' => Lib.run_eql_slice_nil w _ _ a n c n' c' Try.underlying33
  cases A with
  | none =>
    have h0 : l = [] := by
      rcases Nat.eq_zero_or_pos l.length with h | h
      · exact List.eq_nil_of_length_eq_zero h
      · obtain ⟨b, off, e, -⟩ := hr.cellM h
        cases e
    subst h0
    go_enter Try.func46, Try.ntmps46
    go_wp2_with fail
    go_ret
    exact ⟨_, rfl, Ow.nilB _ _ _, bwrefl _⟩
  | some a =>
    have hr1 := (hr.mono hB).up (bwalloc (bwrefl w) (.cells #[] 5))
    have hl1 : ([] : List UInt8).length + l.length ≤ 140737488355328 := by simp; omega
    go_enter Try.func46, Try.ntmps46
    go_wp2_with (at_builtin; refine wpList_appB bytesT rfl (.tmp 5) (.tmp 6) rfl rfl (Ow.empty _ (Nat.le_refl _) _) rfl hr1 hl1 (by simp) ?_; intro v2 w2 ho2 hg2 _; have hB2 := Ow.emptyG hg2)
    go_ret
    exact ⟨_, rfl, ho2, hB2⟩
end Go.Proofs.Ytpflcnndloielaa
