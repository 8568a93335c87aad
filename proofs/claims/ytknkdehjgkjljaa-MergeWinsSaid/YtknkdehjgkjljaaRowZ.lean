/- How an argument is opened that is a slice of cells, with how many there are at most. -/
import Derived.Test.YtknkdehjgkjljaaRowC
namespace Go.Proofs.Ytknkdehjgkjljaa.Ce
open Go.ChangeShapes Go.WideShapes Go.ChangeAt Go.RowKit Go.Deep

section
variable {H : Type} {enc : TypeId × Value → H} {w : World}
theorem bytesC : Try.prog.bytesOf 35 = 64 := by kernel_rfl
set_option maxRecDepth 100000 in
theorem openLz {ts : List TypeId} {ds : List (DataW H)} {j : Nat} {a : Option Addr} {len cap fuel : Nat} {d : DataW H} {p : List MemPlace}
    (hsz : (DataW.weightsEach Try.prog ts ds).all (· ≤ reachBytes) = true) (hj : ts[j]? = some 27) (hd : ds[j]? = some d)
    (hf : DataW.trod enc Try.prog w 0 (fun _ => true) true fuel 27 (Value.slice a len cap).cells.toList = some (d, p)) : ∃ L : List Cl, RdL w [] (.slice a len cap) L ∧ L.length < 2199023255552 := by
  obtain ⟨L, hL⟩ := openL hf
  refine ⟨L, hL, ?_⟩
  obtain ⟨A', c', e, -, -⟩ := hL.shape
  injection e with _ e _
  rcases open_slice Try.underlying27 hf with ⟨hcs, _⟩ | ⟨x, n, c, m, fu, D, Pl, hcs, _, hl, hm, hmm, hx, hall⟩
  · simp [Value.cells] at hcs
    omega
  · simp [Value.cells] at hcs
    obtain ⟨rfl, rfl, rfl⟩ := hcs
    simp only [if_true] at hmm
    subst hmm
    injection hx with hx _
    subst hx
    have hs := sized_slice hsz hj hd Try.underlying27
    rw [bytesC] at hs
    simp only [List.length_map, List.length_range, reachBytes] at hs
    omega
end
end Go.Proofs.Ytknkdehjgkjljaa.Ce
