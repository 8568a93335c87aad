/- Cells that are put in order are sorted. Plain. -/
import Derived.Test.YtdemdmingelamaaTaw
import Derived.Test.YtdemdmingelamaaCbA
import Derived.Test.YtdemdmingelamaaCpo
import Derived.Test.YtdemdmingelamaaCso
import Derived.Test.YtdemdmingelamaaTbb
namespace Go.Proofs.Ytdemdmingelamaa
open Go.RowKit Ce Frm

theorem Ce.sorted_sortC {L : List Cl} (h : ∀ c ∈ L, c.ok) : Sorted (sortC L) ∧ (sortC L).length ≤ L.length := by
  obtain ⟨h1, h2, h3⟩ := sortC_ok h
  exact ⟨sorted_iff.2 ⟨h2, h1⟩, h3⟩
theorem Ce.filt_mk (S : List Cl) : Blm.mkB (List.map Ce.keyOf S) = Ce.filt S := by unfold Ce.filt; rfl
theorem Ce.has_may (S : List Cl) (row col : ByteArray) : Blm.hasB (Ce.filt S) (Ce.keyS row col).data.toList = Ce.mayB S row col := by unfold Ce.mayB Ce.keyS; rfl
end Go.Proofs.Ytdemdmingelamaa
