/- How arguments are opened that are a slice of slices of bytes, or a slice of ints. -/
import Derived.Test.YtblejjjifokmgaaRow
import Derived.Test.YtblejjjifokmgaaSls
import Derived.Deep.Slices
namespace Go.Proofs.Ytblejjjifokmgaa
open Go.ChangeShapes Go.WideShapes Go.ChangeAt Go.RowKit Go.Deep

section
variable {H : Type} {enc : TypeId × Value → H} {P : Program} {w : World}

theorem rdB_of {t e fuel : Nat} {c0 : Value} {y : DataW H × List MemPlace} (ht : P.underlying t = some (.slice e)) (he : P.underlying e = some (.int .u8)) (hc : P.cellsOf e = 1)
    (hf : DataW.trod enc P w 0 (fun _ => true) true fuel t [c0] = some y) : ∃ l : List UInt8, Rd w w.heap.size c0 (l.map bv) := by
  rcases open_ints ht he hc hf with ⟨hcs, _⟩ | ⟨x, l, c, zs, hcs, _, hl, hm, hz, hx, hcell, hwz⟩
  · injection hcs with hcs _
    subst hcs
    exact ⟨[], Rd.nil _ _⟩
  · injection hcs with hcs _
    subst hcs
    have hzl : zs.length = c := by simpa using hz
    have hll : ((zs.take l).map fun z => UInt8.ofNat z.toNat).length = l := by simp; omega
    refine ⟨(zs.take l).map fun z => UInt8.ofNat z.toNat, ⟨some x, c, by rw [List.length_map, hll], by rw [List.length_map, hll]; exact hl, hm, fun hp => ?_⟩⟩
    rw [List.length_map, hll] at hp
    have h0 := hcell 0 (by omega)
    have hx := spot_none h0
    refine ⟨x.block, x.off, by rw [← hx], ?_, fun j u hu => ?_⟩
    · have := World.block_lt_of_cell? w _ h0
      rw [hx, Addr.add_lit] at this
      exact this
    · have hjl : j < l := by
        have := (List.getElem?_eq_some_iff.1 hu).1
        rw [List.length_map, hll] at this
        exact this
      have hcj := hcell j (by omega)
      rw [hx, Addr.add_lit] at hcj
      rw [hcj]
      have hjz : j < zs.length := by omega
      rw [← hu]
      have hw := hwz _ (List.getElem_mem hjz)
      have hb8 := bounds_u8 hw
      simp [List.getElem?_map, hjl, List.getElem?_eq_getElem hjz, bv]
      omega
/-- a slice of ints -/
theorem openI {t e : Nat} {a : Option Addr} {len cap fuel : Nat} {d : DataW H} {p : List MemPlace} (ht : P.underlying t = some (.slice e)) (he : P.underlying e = some (.int .i64)) (hc : P.cellsOf e = 1)
    (hf : DataW.trod enc P w 0 (fun _ => true) true fuel t (Value.slice a len cap).cells.toList = some (d, p)) : ∃ l : List Int, Rd w w.heap.size (.slice a len cap) (l.map iv) := by
  rcases open_ints ht he hc hf with ⟨hcs, _⟩ | ⟨x, l, c, zs, hcs, _, hl, hm, hz, hx, hcell, hwz⟩
  · simp [Value.cells] at hcs
    obtain ⟨rfl, rfl, rfl⟩ := hcs
    exact ⟨[], Rd.nil _ _⟩
  · simp [Value.cells] at hcs
    obtain ⟨rfl, rfl, rfl⟩ := hcs
    have hzl : zs.length = cap := by simpa using hz
    have hll : (zs.take len).length = len := by simp; omega
    refine ⟨zs.take len, ⟨some x, cap, by rw [List.length_map, hll], by rw [List.length_map, hll]; exact hl, hm, fun hp => ?_⟩⟩
    rw [List.length_map, hll] at hp
    have h0 := hcell 0 (by omega)
    have hx := spot_none h0
    refine ⟨x.block, x.off, by rw [← hx], ?_, fun j u hu => ?_⟩
    · have := World.block_lt_of_cell? w _ h0
      rw [hx, Addr.add_lit] at this
      exact this
    · have hjl : j < len := by
        have := (List.getElem?_eq_some_iff.1 hu).1
        rw [List.length_map, hll] at this
        exact this
      have hcj := hcell j (by omega)
      rw [hx, Addr.add_lit] at hcj
      rw [hcj]
      have hjz : j < zs.length := by omega
      rw [← hu]
      simp [List.getElem?_map, hjl, List.getElem?_eq_getElem hjz, iv]
/-- a slice of slices of bytes -/
theorem openBB {t r e : Nat} {a : Option Addr} {len cap fuel : Nat} {d : DataW H} {p : List MemPlace}
    (ht : P.underlying t = some (.slice r)) (hr : P.underlying r = some (.slice e)) (he : P.underlying e = some (.int .u8)) (cr : P.cellsOf r = 1) (ce : P.cellsOf e = 1)
    (hf : DataW.trod enc P w 0 (fun _ => true) true fuel t (Value.slice a len cap).cells.toList = some (d, p)) :
    ∃ (n : Nat) (g : Nat → List UInt8), RdM w w.heap.size (.slice a len cap) n g := by
  rcases open_slice ht hf with ⟨hcs, _⟩ | ⟨x, n, c, m, f, D, Pl, hcs, _, hl, hm, hmm, _, hall⟩
  · simp [Value.cells] at hcs
    obtain ⟨rfl, rfl, rfl⟩ := hcs
    exact ⟨0, fun _ => [], RdM.nil _ _ _⟩
  · simp [Value.cells] at hcs
    obtain ⟨rfl, rfl, rfl⟩ := hcs
    simp only [if_true] at hmm
    subst hmm
    have hone : ∀ i, i < len → ∃ y : Value × List UInt8, w.cell? (x.add i) = some y.1 ∧ Rd w w.heap.size y.1 (y.2.map bv) := by
      intro i hi
      obtain ⟨cs', hcc, htr⟩ := hall i (by omega)
      rw [cr] at hcc
      obtain ⟨_, hcl, hat⟩ := World.cells?_some hcc
      match cs', hcl with
      | [c0], _ =>
        obtain ⟨l, hrd⟩ := rdB_of hr he ce htr
        have k0 := hat 0 (by omega)
        rw [Go.Deep.add_add, Nat.mul_one, Nat.add_zero] at k0
        exact ⟨(c0, l), k0, hrd⟩
    have hex : ∃ F : Nat → Value × List UInt8, ∀ i, i < len → w.cell? (x.add i) = some (F i).1 ∧ Rd w w.heap.size (F i).1 ((F i).2.map bv) :=
      ⟨fun i => if h : i < len then Classical.choose (hone i h) else (undef, []), fun i hi => by
        simp only [dif_pos hi]
        exact Classical.choose_spec (hone i hi)⟩
    obtain ⟨F, hF⟩ := hex
    refine ⟨len, fun i => (F i).2, fun i => (F i).1, ⟨some x, _, by simp, by simpa using hl, hm, fun hp => ?_⟩, fun j hj => (hF j hj).2⟩
    have hp' : 0 < len := by simpa using hp
    have h0 := (hF 0 hp').1
    have hx := spot_none h0
    refine ⟨x.block, x.off, by rw [← hx], ?_, fun j u hu => ?_⟩
    · have := World.block_lt_of_cell? w _ h0
      rw [hx, Addr.add_lit] at this
      exact this
    · have hj : j < len := by
        have := (List.getElem?_eq_some_iff.1 hu).1
        simpa using this
      have := (hF j hj).1
      rw [hx, Addr.add_lit] at this
      rw [this, ← hu]
      simp [hj]
/-- the same with each row's length -/
theorem rdBz_of {t e fuel : Nat} {c0 : Value} {y : DataW H × List MemPlace} (ht : P.underlying t = some (.slice e)) (he : P.underlying e = some (.int .u8)) (hc : P.cellsOf e = 1) (hby : P.bytesOf e = 1)
    (hf : DataW.trod enc P w 0 (fun _ => true) true fuel t [c0] = some y) : ∃ l : List UInt8, Rd w w.heap.size c0 (l.map bv) ∧ (l.length = 0 ∨ ∃ n ∈ y.1.weights P t, l.length ≤ n) := by
  obtain ⟨l, hl⟩ := rdB_of ht he hc hf
  refine ⟨l, hl, ?_⟩
  rcases open_ints ht he hc hf with ⟨hcs, _⟩ | ⟨x, len, c, zs, hcs, _, hlc, _, hz, hx, _⟩
  · injection hcs with hcs _
    subst hcs
    left
    obtain ⟨A, c, e1, -⟩ := hl.shapeM
    injection e1 with _ e2 _
    omega
  · injection hcs with hcs _
    subst hcs
    right
    obtain ⟨A, c', e1, -⟩ := hl.shapeM
    injection e1 with _ e2 _
    refine ⟨((zs.take len).length + (zs.drop len).length) * P.bytesOf e, ?_, ?_⟩
    · rw [hx]
      simp [DataW.weights, ht, lits]
    · rw [hby, Nat.mul_one, List.length_take, List.length_drop, ← e2]
      have : zs.length = c := by simpa using hz
      omega
theorem openBBz {ts : List TypeId} {ds : List (DataW H)} {j t r e : Nat} {a : Option Addr} {len cap fuel : Nat} {d : DataW H} {p : List MemPlace}
    (hsz : (DataW.weightsEach P ts ds).all (· ≤ reachBytes) = true) (hj : ts[j]? = some t) (hd : ds[j]? = some d)
    (ht : P.underlying t = some (.slice r)) (hr : P.underlying r = some (.slice e)) (he : P.underlying e = some (.int .u8)) (cr : P.cellsOf r = 1) (ce : P.cellsOf e = 1) (hby : P.bytesOf e = 1)
    (hf : DataW.trod enc P w 0 (fun _ => true) true fuel t (Value.slice a len cap).cells.toList = some (d, p)) :
    ∃ (n : Nat) (g : Nat → List UInt8), RdM w w.heap.size (.slice a len cap) n g ∧ ∀ i, i < n → (g i).length ≤ 140737488351232 := by
  obtain ⟨n, g, hrd⟩ := openBB ht hr he cr ce hf
  obtain ⟨A, c, e1, -⟩ := hrd.shape
  injection e1 with e1 e2 e3
  subst e1 e2 e3
  rcases open_slice ht hf with ⟨hcs, _⟩ | ⟨x, n', c', m, f, D, Pl, hcs, _, hl, hm, hmm, hx, hall⟩
  · simp [Value.cells] at hcs
    obtain ⟨rfl, rfl, rfl⟩ := hcs
    exact ⟨0, g, hrd, fun i hi => by omega⟩
  · simp [Value.cells] at hcs
    obtain ⟨rfl, rfl, rfl⟩ := hcs
    simp only [if_true] at hmm
    subst hmm
    have hdx : d = .slice ((List.range len).map D) ((List.range (m - len)).map fun j => D (len + j)) := congrArg Prod.fst hx
    refine ⟨len, g, hrd, fun i hi => ?_⟩
    obtain ⟨cs', hcc, htr⟩ := hall i (by omega)
    rw [cr] at hcc
    obtain ⟨_, hcl, hat⟩ := World.cells?_some hcc
    match cs', hcl with
    | [c0], _ =>
      have k0 := hat 0 (by omega)
      rw [Go.Deep.add_add, Nat.mul_one, Nat.add_zero] at k0
      obtain ⟨b, off, ea, -⟩ := hrd.open_ (by omega)
      injection ea with ea
      subst ea
      obtain ⟨A2, c2, hrow, -, -, -⟩ := hrd.row hi
      rw [Addr.add_lit] at k0
      have hc0 : c0 = .slice A2 (g i).length c2 := by
        have := k0.symm.trans hrow
        simpa using this
      subst hc0
      obtain ⟨l, hrl, hw⟩ := rdBz_of hr he ce hby htr
      obtain ⟨A3, c3, e3, -⟩ := hrl.shapeM
      injection e3 with _ e3 _
      rcases hw with hw | ⟨q, hq, hlq⟩
      · omega
      · have hm1 : D i ∈ (List.range len).map D := List.mem_map.2 ⟨i, List.mem_range.2 hi, rfl⟩
        have hm2 := weightsAll_mem (P := P) (e := r) hm1 hq
        have := List.all_eq_true.1 hsz _ (DataW.weights_mem_each hj hd q (by rw [hdx]; simp only [DataW.weights, ht]; exact List.mem_cons_of_mem _ (List.mem_append_left _ hm2)))
        have h2 : q ≤ 140737488351232 := of_decide_eq_true this
        omega
end
end Go.Proofs.Ytblejjjifokmgaa
