/- How an argument is opened that is a slice of acts. -/
import Derived.Test.YtaddbhdkgneiaaaGreatRowX
import Derived.Test.YtaddbhdkgneiaaaGreatLow
import Derived.Deep.Slices
import Derived.Test.YtaddbhdkgneiaaaGreatAct
namespace Go.Proofs.YtaddbhdkgneiaaaGreat
open Go.ChangeShapes Go.WideShapes Go.ChangeAt Go.RowKit Go.Deep
section
variable {H : Type} {enc : TypeId × Value → H} {P : Program} {w : World}
theorem rdI_of {t e fuel : Nat} {c0 : Value} {y : DataW H × List MemPlace} (ht : P.underlying t = some (.slice e)) (he : P.underlying e = some (.int .i64)) (hc : P.cellsOf e = 1) (hby : P.bytesOf e = 8)
  (hf : DataW.trod enc P w 0 (fun _ => true) true fuel t [c0] = some y) : ∃ l : List Int, Rd w w.heap.size c0 (l.map iv) ∧ (∀ q ∈ l, inR64 q) ∧ (l.length = 0 ∨ ∃ n ∈ y.1.weights P t, l.length ≤ n) := by
 rcases open_ints ht he hc hf with ⟨hcs, _⟩ | ⟨x, l, c, zs, hcs, _, hl, hm, hz, hx, hcell, hwz⟩
 ·injection hcs with hcs _
  subst hcs
  exact ⟨[], Rd.nil _ _, by simp, .inl rfl⟩
 ·injection hcs with hcs _
  subst hcs
  have hzl : zs.length = c := by simpa using hz
  have hll : (zs.take l).length = l := by simp; omega
  refine ⟨zs.take l, ⟨some x, c, by rw [List.length_map, hll], by rw [List.length_map, hll]; exact hl, hm, fun hp => ?_⟩, fun q hq => ?_, .inr ⟨((zs.take l).length + (zs.drop l).length) * P.bytesOf e, ?_, ?_⟩⟩
  ·rw [List.length_map, hll] at hp
   have h0 := hcell 0 (by omega)
   have hx := spot_none h0
   refine ⟨x.block, x.off, by rw [← hx], ?_, fun j u hu => ?_⟩
   ·have := World.block_lt_of_cell? w _ h0
    rw [hx, Addr.add_lit] at this
    exact this
   ·have hjl : j < l := by
     have := (List.getElem?_eq_some_iff.1 hu).1
     rw [List.length_map, hll] at this
     exact this
    have hcj := hcell j (by omega)
    rw [hx, Addr.add_lit] at hcj
    rw [hcj]
    have hjz : j < zs.length := by omega
    rw [← hu]
    simp [List.getElem?_map, hjl, List.getElem?_eq_getElem hjz, iv]
  ·exact bounds_i64 (hwz q (List.mem_of_mem_take hq))
  ·rw [hx]
   simp [DataW.weights, ht, lits]
  ·rw [hby, hll]
   have := List.length_drop (i := l) (l := zs)
   omega
end
end Go.Proofs.YtaddbhdkgneiaaaGreat
