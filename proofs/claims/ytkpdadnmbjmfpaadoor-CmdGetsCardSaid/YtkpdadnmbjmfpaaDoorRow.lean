/- How arguments that came in are opened: a slice of bytes, a slice of texts, a text. -/
import Derived.Test.YtkpdadnmbjmfpaaDoorBase
import Derived.ProofKit
import Derived.OpenShut
import Derived.ShutString
import Derived.ChangeOld
import Derived.Below
import Derived.SizedLaws
namespace Go.Proofs.YtkpdadnmbjmfpaaDoor
open Go.ChangeShapes Go.WideShapes Go.ChangeAt Go.RowKit
open Go.ChangeMaps (open_string shut_string)

theorem own : ownKnob Tryd.prog.godebug = none := by kernel_rfl
theorem laidOut : laidOutB Tryd.prog = true := by kernel_rfl

section
variable {H : Type} {enc : TypeId × Value → H} {P : Program} {w : World}

theorem spot_none {x : Addr} {u : Value} (h : w.cell? (x.add 0) = some u) : x = ⟨x.block, x.off, none⟩ := by
  obtain ⟨b, off, spot⟩ := x
  have : spot = none := by simpa [Addr.add] using World.cell?_spot h
  subst this
  rfl

theorem weightsAll_mem {e : TypeId} {d : DataW H} {ds : List (DataW H)} (hd : d ∈ ds) {n : Nat} (hn : n ∈ d.weights P e) : n ∈ DataW.weightsAll P e ds := by
  induction ds with
  | nil => cases hd
  | cons x r ih =>
    simp only [DataW.weightsAll, List.mem_append]
    rcases List.mem_cons.1 hd with rfl | h
    · exact .inl hn
    · exact .inr (ih h)

/-- a slice of bytes -/
theorem openB {ts : List TypeId} {ds : List (DataW H)} {j t e : Nat} {a : Option Addr} {len cap fuel : Nat} {d : DataW H} {p : List MemPlace}
    (hsz : (DataW.weightsEach P ts ds).all (· ≤ reachBytes) = true) (hj : ts[j]? = some t) (hd : ds[j]? = some d)
    (ht : P.underlying t = some (.slice e)) (he : P.underlying e = some (.int .u8)) (hc : P.cellsOf e = 1) (hby : P.bytesOf e = 1)
    (hf : DataW.trod enc P w 0 (fun _ => true) true fuel t (Value.slice a len cap).cells.toList = some (d, p)) :
    ∃ l : List UInt8, Rd w w.heap.size (.slice a len cap) (l.map bv) ∧ l.length ≤ 140737488351232 := by
  rcases open_ints ht he hc hf with ⟨hcs, _⟩ | ⟨x, l, c, zs, hcs, _, hl, hm, hz, hx, hcell, hwz⟩
  · simp [Value.cells] at hcs
    obtain ⟨rfl, rfl, rfl⟩ := hcs
    exact ⟨[], Rd.nil _ _, by simp⟩
  · simp [Value.cells] at hcs
    obtain ⟨rfl, rfl, rfl⟩ := hcs
    have hzl : zs.length = cap := by simpa using hz
    injection hx with hx _
    subst hx
    have hs := sized_slice hsz hj hd ht
    rw [hby, Nat.mul_one] at hs
    simp only [lits, List.length_map, List.length_take, List.length_drop, reachBytes] at hs
    have hll : ((zs.take len).map fun z => UInt8.ofNat z.toNat).length = len := by simp; omega
    refine ⟨(zs.take len).map fun z => UInt8.ofNat z.toNat, ⟨some x, cap, by rw [List.length_map, hll], by rw [List.length_map, hll]; exact hl, hm, fun hp => ?_⟩, by rw [hll]; omega⟩
    rw [List.length_map, hll] at hp
    have h0 := hcell 0 (by omega)
    have hx := spot_none h0
    refine ⟨x.block, x.off, by rw [← hx], ?_, fun j u hu => ?_⟩
    · have := World.block_lt_of_cell? w _ h0
      rw [hx, Addr.add_lit] at this
      exact this
    · have hjl : j < len := by
        have := (List.getElem?_eq_some_iff.1 hu).1
        rw [List.length_map, hll] at this
        exact this
      have hcj := hcell j (by omega)
      rw [hx, Addr.add_lit] at hcj
      rw [hcj]
      have hjz : j < zs.length := by omega
      rw [← hu]
      have hw := hwz _ (List.getElem_mem hjz)
      have hb8 := bounds_u8 hw
      simp [List.getElem?_map, hjl, List.getElem?_eq_getElem hjz, bv]
      omega

/-- a slice of texts -/
theorem openS {ts : List TypeId} {ds : List (DataW H)} {j t e : Nat} {a : Option Addr} {len cap fuel : Nat} {d : DataW H} {p : List MemPlace}
    (hsz : (DataW.weightsEach P ts ds).all (· ≤ reachBytes) = true) (hj : ts[j]? = some t) (hd : ds[j]? = some d)
    (ht : P.underlying t = some (.slice e)) (he : P.underlying e = some .string) (hc : P.cellsOf e = 1) (hby : P.bytesOf e = 16)
    (hf : DataW.trod enc P w 0 (fun _ => true) true fuel t (Value.slice a len cap).cells.toList = some (d, p)) :
    ∃ l : List ByteArray, Rd w w.heap.size (.slice a len cap) (l.map sv) ∧ l.length ≤ 140737488351232 ∧ ∀ s ∈ l, s.size ≤ 140737488351232 := by
  rcases open_strings ht he hc hf with ⟨hcs, _⟩ | ⟨x, l, c, ss, hcs, _, hl, hm, hz, hx, hcell, hws⟩
  · simp [Value.cells] at hcs
    obtain ⟨rfl, rfl, rfl⟩ := hcs
    exact ⟨[], Rd.nil _ _, by simp, by simp⟩
  · simp [Value.cells] at hcs
    obtain ⟨rfl, rfl, rfl⟩ := hcs
    have hzl : ss.length = cap := by simpa using hz
    injection hx with hx _
    subst hx
    have hs := sized_slice hsz hj hd ht
    rw [hby] at hs
    simp only [strs, List.length_map, List.length_take, List.length_drop, reachBytes] at hs
    have hll : (ss.take len).length = len := by simp; omega
    refine ⟨ss.take len, ⟨some x, cap, by rw [List.length_map, hll], by rw [List.length_map, hll]; exact hl, hm, fun hp => ?_⟩, by rw [hll]; omega, fun s hs => ?_⟩
    · rw [List.length_map, hll] at hp
      have h0 := hcell 0 (by omega)
      have hx := spot_none h0
      refine ⟨x.block, x.off, by rw [← hx], ?_, fun j u hu => ?_⟩
      · have := World.block_lt_of_cell? w _ h0
        rw [hx, Addr.add_lit] at this
        exact this
      · have hjl : j < len := by
          have := (List.getElem?_eq_some_iff.1 hu).1
          rw [List.length_map, hll] at this
          exact this
        have hcj := hcell j (by omega)
        rw [hx, Addr.add_lit] at hcj
        rw [hcj]
        have hjz : j < ss.length := by omega
        rw [← hu]
        simp [List.getElem?_map, hjl, List.getElem?_eq_getElem hjz, sv]
    · have hm1 : (.lit (.string s.data.toList) : DataW H) ∈ strs (ss.take len) := List.mem_map.2 ⟨s, hs, rfl⟩
      have hm2 : s.data.toList.length ∈ DataW.weightsAll P e (strs (H := H) (ss.take len)) := weightsAll_mem hm1 (by simp [DataW.weights])
      have := List.all_eq_true.1 hsz _ (DataW.weights_mem_each hj hd s.data.toList.length (by simp only [DataW.weights, ht]; exact List.mem_cons_of_mem _ (List.mem_append_left _ hm2)))
      simp only [reachBytes] at this
      exact of_decide_eq_true this
end
end Go.Proofs.YtkpdadnmbjmfpaaDoor
