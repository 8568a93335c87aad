/- Layer 18's law LogActs, over package log's contracts. -/
import Derived.Test.YtaddbhdkgneiaaaLgG
import Derived.Deep.CutRange
namespace Go.Proofs.Ytaddbhdkgneiaaa
open Go.RowKit
theorem RdS.bel {w w' : World} {S : List Nat} {x : Value} {l : List UInt8} (h : RdS w S x l) (hb : Below w.heap.size w w') : RdS w' S x l := RdS.up h (Kp.of_below hb _) fun _ hk => .inl hk
end Go.Proofs.Ytaddbhdkgneiaaa
namespace Go.Proofs.Ytaddbhdkgneiaaa.Ce
open Go.RowKit Dk
section
variable {Own : World → Value → Nat → Lg → List Nat → Prop} {w w' : World} {B : Nat} {d : Value} {cap db mb : Nat} {o o' : Option (List UInt8)} {lb : Nat} {g g' : Lg} {S S' : List Nat} {L : List Fr}
theorem LogAt.read (h : LogAt Own w B d cap o lb g S) : Calls Try.prog 29 #[d, .string logNm] w fun e w' => (∃ v E, e = .returned (.tuple #[v, .int .i64 E]) ∧ Ow w' w.heap.size 5 v ((byt o).map bv)) ∧ Below w.heap.size w w' := by
 obtain ⟨db, mb, L, T, h1, -⟩ := h
 exact h1.read_any
end
theorem VoteEnd.no {cap : Nat} {o o' : Option (List UInt8)} {g g' : Lg} {c : Vt} {E : Int} (h : VoteEnd cap o g c E o' g') (h1 : ¬ (c.Right ∧ g.most ≤ c.ballot)) : E = 1 ∧ o' = o ∧ g' = g := by
 cases h with
 | arg h => exact ⟨rfl, rfl, rfl⟩
 | full h hf => exact absurd h h1
 | ok h hf => exact absurd h h1
end Go.Proofs.Ytaddbhdkgneiaaa.Ce
