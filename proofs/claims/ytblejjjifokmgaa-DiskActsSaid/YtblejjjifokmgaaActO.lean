/- How an argument is opened that is a slice of acts. -/
import Derived.Test.YtblejjjifokmgaaRowM
import Derived.Test.YtblejjjifokmgaaAct
namespace Go.Proofs.Ytblejjjifokmgaa
open Go.ChangeShapes Go.WideShapes Go.ChangeAt Go.RowKit Go.Deep

section
variable {H : Type} {enc : TypeId × Value → H} {P : Program} {w : World}
theorem rdI_of {t e fuel : Nat} {c0 : Value} {y : DataW H × List MemPlace} (ht : P.underlying t = some (.slice e)) (he : P.underlying e = some (.int .i64)) (hc : P.cellsOf e = 1) (hby : P.bytesOf e = 8)
    (hf : DataW.trod enc P w 0 (fun _ => true) true fuel t [c0] = some y) : ∃ l : List Int, Rd w w.heap.size c0 (l.map iv) ∧ (∀ q ∈ l, inR64 q) ∧ (l.length = 0 ∨ ∃ n ∈ y.1.weights P t, l.length ≤ n) := by
  rcases open_ints ht he hc hf with ⟨hcs, _⟩ | ⟨x, l, c, zs, hcs, _, hl, hm, hz, hx, hcell, hwz⟩
  · injection hcs with hcs _
    subst hcs
    exact ⟨[], Rd.nil _ _, by simp, .inl rfl⟩
  · injection hcs with hcs _
    subst hcs
    have hzl : zs.length = c := by simpa using hz
    have hll : (zs.take l).length = l := by simp; omega
    refine ⟨zs.take l, ⟨some x, c, by rw [List.length_map, hll], by rw [List.length_map, hll]; exact hl, hm, fun hp => ?_⟩, fun q hq => ?_, .inr ⟨((zs.take l).length + (zs.drop l).length) * P.bytesOf e, ?_, ?_⟩⟩
    · rw [List.length_map, hll] at hp
      have h0 := hcell 0 (by omega)
      have hx := spot_none h0
      refine ⟨x.block, x.off, by rw [← hx], ?_, fun j u hu => ?_⟩
      · have := World.block_lt_of_cell? w _ h0
        rw [hx, Addr.add_lit] at this
        exact this
      · have hjl : j < l := by
          have := (List.getElem?_eq_some_iff.1 hu).1
          rw [List.length_map, hll] at this
          exact this
        have hcj := hcell j (by omega)
        rw [hx, Addr.add_lit] at hcj
        rw [hcj]
        have hjz : j < zs.length := by omega
        rw [← hu]
        simp [List.getElem?_map, hjl, List.getElem?_eq_getElem hjz, iv]
    · exact bounds_i64 (hwz q (List.mem_of_mem_take hq))
    · rw [hx]
      simp [DataW.weights, ht, lits]
    · rw [hby, hll]
      have := List.length_drop (i := l) (l := zs)
      omega
/-- one act -/
theorem openAct {fuel : Nat} {cs : List Value} {y : DataW H × List MemPlace} (hcells : ∀ t ∈ [3, 9, 28, 29], Try.prog.cellsOf t = 1) (hce : Try.prog.cellsOf 31 = 6) (hb1 : Try.prog.bytesOf 5 = 1) (hb8 : Try.prog.bytesOf 3 = 8) (hcu : Try.prog.cellsOf 5 = 1)
    (hf : DataW.trod enc Try.prog w 0 (fun _ => true) true fuel 31 cs = some y) (hreach : ∀ q ∈ y.1.weights Try.prog 31, q ≤ 140737488351232) :
    ∃ x : AcV, cs = cells6 x ∧ AcOk x.a ∧ Rd w w.heap.size x.bx (x.a.b.map bv) ∧ Rd w w.heap.size x.kx (x.a.ks.map iv) := by
  obtain ⟨xs, n, _, rfl, hl, hxl, hfs⟩ := DataW.trod_struct Try.underlying31 hf
  rw [hce] at hl
  have hxl : xs.length = 6 := hxl
  have ci := hcells 3 (by simp)
  have cst := hcells 9 (by simp)
  have cb := hcells 28 (by simp)
  have ck := hcells 29 (by simp)
  match cs, hl with
  | [c0, c1, c2, c3, c4, c5], _ =>
    match xs, hxl with
    | [y0, y1, y2, y3, y4, y5], _ =>
      have f0 : DataW.trod enc Try.prog w 0 (fun _ => true) true n 3 (([c0, c1, c2, c3, c4, c5].drop 0).take (Try.prog.cellsOf 3)) = some y0 := hfs 0 _ rfl
      rw [ci] at f0
      have f1 : DataW.trod enc Try.prog w 0 (fun _ => true) true n 9 (([c0, c1, c2, c3, c4, c5].drop 1).take (Try.prog.cellsOf 9)) = some y1 := hfs 1 _ rfl
      rw [cst] at f1
      have f2 : DataW.trod enc Try.prog w 0 (fun _ => true) true n 9 (([c0, c1, c2, c3, c4, c5].drop 2).take (Try.prog.cellsOf 9)) = some y2 := hfs 2 _ rfl
      rw [cst] at f2
      have f3 : DataW.trod enc Try.prog w 0 (fun _ => true) true n 28 (([c0, c1, c2, c3, c4, c5].drop 3).take (Try.prog.cellsOf 28)) = some y3 := hfs 3 _ rfl
      rw [cb] at f3
      have f4 : DataW.trod enc Try.prog w 0 (fun _ => true) true n 3 (([c0, c1, c2, c3, c4, c5].drop 4).take (Try.prog.cellsOf 3)) = some y4 := hfs 4 _ rfl
      rw [ci] at f4
      have f5 : DataW.trod enc Try.prog w 0 (fun _ => true) true n 29 (([c0, c1, c2, c3, c4, c5].drop 5).take (Try.prog.cellsOf 29)) = some y5 := hfs 5 _ rfl
      rw [ck] at f5
      obtain ⟨a0, e0, -, w0⟩ := DataW.trod_int Try.underlying3 (show DataW.trod enc Try.prog w 0 (fun _ => true) true n 3 [c0] = some y0 from f0)
      obtain ⟨a1, e1, -, w1⟩ := DataW.trod_string Try.underlying9 (show DataW.trod enc Try.prog w 0 (fun _ => true) true n 9 [c1] = some y1 from f1)
      obtain ⟨a2, e2, -, w2⟩ := DataW.trod_string Try.underlying9 (show DataW.trod enc Try.prog w 0 (fun _ => true) true n 9 [c2] = some y2 from f2)
      obtain ⟨l3, r3, z3⟩ := rdBz_of Try.underlying28 Try.underlying5 hcu hb1 (show DataW.trod enc Try.prog w 0 (fun _ => true) true n 28 [c3] = some y3 from f3)
      obtain ⟨a4, e4, -, w4⟩ := DataW.trod_int Try.underlying3 (show DataW.trod enc Try.prog w 0 (fun _ => true) true n 3 [c4] = some y4 from f4)
      obtain ⟨l5, r5, i5, z5⟩ := rdI_of Try.underlying29 Try.underlying3 ci hb8 (show DataW.trod enc Try.prog w 0 (fun _ => true) true n 29 [c5] = some y5 from f5)
      simp only [List.cons.injEq, and_true] at e0 e1 e2 e4
      subst e0 e1 e2 e4
      have hw : ∀ j t q, [3, 9, 9, 28, 3, 29][j]? = some t → ∀ d : DataW H, [y0.1, y1.1, y2.1, y3.1, y4.1, y5.1][j]? = some d → q ∈ d.weights Try.prog t → q ≤ 140737488351232 := fun j t q ht d hd hq => by
        refine hreach q ?_
        simp only [DataW.weights, Try.underlying31]
        exact DataW.weights_mem_each (ts := [3, 9, 9, 28, 3, 29]) (ds := [y0.1, y1.1, y2.1, y3.1, y4.1, y5.1]) ht hd q hq
      refine ⟨⟨⟨a0, a1, a2, l3, a4, l5⟩, c3, c5⟩, rfl, ⟨?_, ?_, bounds_i64 w0, bounds_i64 w4, i5, w1, w2⟩, r3, r5⟩
      · rcases z3 with z | ⟨q, hq, hl⟩
        · show l3.length ≤ _; omega
        · exact Nat.le_trans hl (hw 3 _ q rfl _ rfl hq)
      · rcases z5 with z | ⟨q, hq, hl⟩
        · show l5.length ≤ _; omega
        · exact Nat.le_trans hl (hw 5 _ q rfl _ rfl hq)
theorem openA {ts : List TypeId} {ds : List (DataW H)} {j fuel : Nat} {a : Option Addr} {len cap : Nat} {d : DataW H} {p : List MemPlace}
    (hcells : ∀ t ∈ [3, 9, 28, 29], Try.prog.cellsOf t = 1) (hce : Try.prog.cellsOf 31 = 6) (hb1 : Try.prog.bytesOf 5 = 1) (hb8 : Try.prog.bytesOf 3 = 8) (hcu : Try.prog.cellsOf 5 = 1)
    (hsz : (DataW.weightsEach Try.prog ts ds).all (· ≤ reachBytes) = true) (hj : ts[j]? = some 22) (hd : ds[j]? = some d)
    (hf : DataW.trod enc Try.prog w 0 (fun _ => true) true fuel 22 (Value.slice a len cap).cells.toList = some (d, p)) :
    ∃ (n : Nat) (f : Nat → AcV), RdA w w.heap.size (.slice a len cap) n f ∧ ∀ i, i < n → AcOk (f i).a := by
  rcases open_slice Try.underlying22 hf with ⟨hcs, _⟩ | ⟨x, n, c, m, fu, D, Pl, hcs, _, hl, hm, hmm, hx, hall⟩
  · simp [Value.cells] at hcs
    obtain ⟨rfl, rfl, rfl⟩ := hcs
    exact ⟨0, fun _ => ⟨⟨0, ⟨#[]⟩, ⟨#[]⟩, [], 0, []⟩, undef, undef⟩, ⟨none, 0, rfl, Nat.le_refl _, by simp [maxLen], fun h => absurd h (by simp), fun j hj => by omega⟩, fun i hi => by omega⟩
  · simp [Value.cells] at hcs
    obtain ⟨rfl, rfl, rfl⟩ := hcs
    simp only [if_true] at hmm
    subst hmm
    have hdx : d = .slice ((List.range len).map D) ((List.range (m - len)).map fun j => D (len + j)) := congrArg Prod.fst hx
    have hone : ∀ i, i < len → ∃ y : AcV, (∀ k u, (cells6 y)[k]? = some u → w.cell? (x.add (i * 6 + k)) = some u) ∧ AcOk y.a ∧ Rd w w.heap.size y.bx (y.a.b.map bv) ∧ Rd w w.heap.size y.kx (y.a.ks.map iv) := by
      intro i hi
      obtain ⟨cs', hcc, htr⟩ := hall i (by omega)
      rw [hce] at hcc
      obtain ⟨_, hcl, hat⟩ := World.cells?_some hcc
      obtain ⟨y, rfl, h1, h2, h3⟩ := openAct hcells hce hb1 hb8 hcu htr (fun q hq => by
        have hm1 : D i ∈ (List.range len).map D := List.mem_map.2 ⟨i, List.mem_range.2 hi, rfl⟩
        have hm2 := weightsAll_mem (P := Try.prog) (e := 31) hm1 hq
        have := List.all_eq_true.1 hsz _ (DataW.weights_mem_each hj hd q (by rw [hdx]; simp only [DataW.weights, Try.underlying22]; exact List.mem_cons_of_mem _ (List.mem_append_left _ hm2)))
        exact of_decide_eq_true this)
      refine ⟨y, fun k u hu => ?_, h1, h2, h3⟩
      have hk : k < 6 := (List.getElem?_eq_some_iff.1 hu).1
      have := hat k hk
      rw [Go.Deep.add_add] at this
      rw [this]
      exact hu
    have hex : ∃ F : Nat → AcV, ∀ i, i < len → (∀ k u, (cells6 (F i))[k]? = some u → w.cell? (x.add (i * 6 + k)) = some u) ∧ AcOk (F i).a ∧ Rd w w.heap.size (F i).bx ((F i).a.b.map bv) ∧ Rd w w.heap.size (F i).kx ((F i).a.ks.map iv) :=
      ⟨fun i => if h : i < len then Classical.choose (hone i h) else ⟨⟨0, ⟨#[]⟩, ⟨#[]⟩, [], 0, []⟩, undef, undef⟩, fun i hi => by
        simp only [dif_pos hi]
        exact Classical.choose_spec (hone i hi)⟩
    obtain ⟨F, hF⟩ := hex
    refine ⟨len, F, ⟨some x, _, rfl, hl, hm, fun hp => ?_, fun j hj => (hF j hj).2.2⟩, fun i hi => (hF i hi).2.1⟩
    have h0 := (hF 0 hp).1 0 _ rfl
    have hxn := spot_none h0
    refine ⟨x.block, x.off, by rw [← hxn], ?_, fun j hj i u hu => ?_⟩
    · have := World.block_lt_of_cell? w _ h0
      rw [hxn, Addr.add_lit] at this
      exact this
    · have := (hF j hj).1 i u hu
      rw [hxn, Addr.add_lit] at this
      rw [Nat.add_assoc]
      exact this
end
theorem actC : ∀ t ∈ [3, 9, 28, 29], Try.prog.cellsOf t = 1 := by
  intro t ht
  simp only [List.mem_cons, List.not_mem_nil, or_false] at ht
  rcases ht with rfl | rfl | rfl | rfl <;> kernel_rfl
end Go.Proofs.Ytblejjjifokmgaa
