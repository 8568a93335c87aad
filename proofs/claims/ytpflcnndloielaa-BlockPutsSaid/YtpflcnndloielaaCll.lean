/- The contract of slices.Clone of cells. -/
import Derived.Test.YtpflcnndloielaaIns
namespace Go.Proofs.Ytpflcnndloielaa.Ce
open Go.RowKit

set_option maxHeartbeats 400000 in
theorem cloneL_any (v : Value) (L : List Cl) (w : World) (S : List Nat) (hr : RdL w S v L) (hl : L.length ≤ 1000000) :
    Calls Try.prog 25 #[v] w fun e w' => (∃ x, e = .returned x ∧ OwL w' w.heap.size x L) ∧ Below w.heap.size w w' := by
  obtain ⟨A, c, rfl, hc, hm⟩ := hr.shape
  have qT : ∀ (w : World) (a : Option Addr) (n c n' c' : Nat), (binOp .eql 22 (.slice a n c) (.slice none n' c')).run Try.prog w = .ok (.bool a.isNone) w := fun w a n c n' c' => Lib.run_eql_slice_nil w _ _ a n c n' c' Try.underlying22
  cases A with
  | none =>
    have h0 : L = [] := by
      rcases Nat.eq_zero_or_pos L.length with h | h
      · exact List.eq_nil_of_length_eq_zero h
      · obtain ⟨b, off, e, -⟩ := hr.open_ h
        cases e
    subst h0
    go_enter Try.func25, Try.ntmps25
    go_wp2_with fail
    go_ret
    exact ⟨⟨_, rfl, OwL.nil _ _⟩, Below.refl _ _⟩
  | some a =>
    have hr1 := hr.bel (bwalloc (bwrefl w) (.cells #[] 46))
    have hl1 : ([] : List Cl).length + L.length ≤ 2199023255552 := by simp; omega
    go_enter Try.func25, Try.ntmps25
    go_wp2_with (at_builtin; refine wpList_appL rfl (.tmp 5) (.tmp 6) rfl rfl (OwL.empty w (Nat.le_refl _) _ rfl) rfl hr1 hl1 (by simp) ?_; intro v2 w2 ho2 hg2 _; have hB2 : Below w.heap.size w w2 := (bwalloc (Below.refl _ _) _).grown hg2 (by simp) (fun k hk => ((OwL.empty w (Nat.le_refl _) _ rfl).lt k hk).1))
    go_ret
    exact ⟨⟨_, rfl, ho2⟩, hB2⟩
end Go.Proofs.Ytpflcnndloielaa.Ce
