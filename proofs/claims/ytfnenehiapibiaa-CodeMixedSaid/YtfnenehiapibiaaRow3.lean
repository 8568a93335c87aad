/- How an argument is opened that is a slice of arrays of three bytes. -/
import Derived.Test.YtfnenehiapibiaaRow
import Derived.Test.YtfnenehiapibiaaBase
import Derived.Deep.Slices
import Derived.Laws.IdiomArrays
namespace Go.Proofs.Ytfnenehiapibiaa
open Go.ChangeShapes Go.WideShapes Go.ChangeAt Go.RowKit Go.Deep

section
variable {H : Type} {enc : TypeId × Value → H} {P : Program} {w : World}

theorem trod_u8 {e fuel : Nat} {c : Value} {y : DataW H × List MemPlace} (he : P.underlying e = some (.int .u8)) (h : DataW.trod enc P w 0 (fun _ => true) true fuel e [c] = some y) : ∃ b : UInt8, c = bv b := by
  obtain ⟨n, hc, _, hw⟩ := DataW.trod_int he h
  injection hc with hc _
  have := bounds_u8 hw
  refine ⟨UInt8.ofNat n.toNat, ?_⟩
  rw [hc]
  unfold bv
  congr 1
  simp
  omega

theorem openB3 {t r e : Nat} {a : Option Addr} {len cap fuel : Nat} {d : DataW H} {p : List MemPlace}
    (ht : P.underlying t = some (.slice r)) (hr : P.underlying r = some (.array 3 e)) (he : P.underlying e = some (.int .u8)) (cr : P.cellsOf r = 3) (ce : P.cellsOf e = 1)
    (hf : DataW.trod enc P w 0 (fun _ => true) true fuel t (Value.slice a len cap).cells.toList = some (d, p)) :
    ∃ l : List (UInt8 × UInt8 × UInt8), Rd3 w w.heap.size (.slice a len cap) l := by
  rcases open_slice ht hf with ⟨hcs, _⟩ | ⟨x, n, c, m, f, D, Pl, hcs, _, hl, hm, hmm, _, hall⟩
  · simp [Value.cells] at hcs
    obtain ⟨rfl, rfl, rfl⟩ := hcs
    exact ⟨[], none, 0, rfl, Nat.le_refl _, by simp [maxLen], fun h => absurd h (by simp)⟩
  · simp [Value.cells] at hcs
    obtain ⟨rfl, rfl, rfl⟩ := hcs
    simp only [if_true] at hmm
    subst hmm
    have hone : ∀ i, i < len → ∃ y : UInt8 × UInt8 × UInt8, w.cell? (x.add (i * 3)) = some (bv y.1) ∧ w.cell? (x.add (i * 3 + 1)) = some (bv y.2.1) ∧ w.cell? (x.add (i * 3 + 2)) = some (bv y.2.2) := by
      intro i hi
      obtain ⟨cs', hcc, htr⟩ := hall i (by omega)
      rw [cr] at hcc
      obtain ⟨_, hcl, hat⟩ := World.cells?_some hcc
      match cs', hcl with
      | [c0, c1, c2], _ =>
        obtain ⟨y0, y1, y2, f', _, t0, t1, t2⟩ := trod_array3 hr ce htr
        obtain ⟨b0, rfl⟩ := trod_u8 he t0
        obtain ⟨b1, rfl⟩ := trod_u8 he t1
        obtain ⟨b2, rfl⟩ := trod_u8 he t2
        have k0 := hat 0 (by omega)
        have k1 := hat 1 (by omega)
        have k2 := hat 2 (by omega)
        rw [Go.Deep.add_add] at k0 k1 k2
        exact ⟨(b0, b1, b2), k0, k1, k2⟩
    have hex : ∃ F : Nat → UInt8 × UInt8 × UInt8, ∀ i, i < len → w.cell? (x.add (i * 3)) = some (bv (F i).1) ∧ w.cell? (x.add (i * 3 + 1)) = some (bv (F i).2.1) ∧ w.cell? (x.add (i * 3 + 2)) = some (bv (F i).2.2) :=
      ⟨fun i => if h : i < len then Classical.choose (hone i h) else (0, 0, 0), fun i hi => by
        simp only [dif_pos hi]
        exact Classical.choose_spec (hone i hi)⟩
    obtain ⟨F, hF⟩ := hex
    refine ⟨(List.range len).map F, some x, _, by simp, by simpa using hl, hm, fun hp => ?_⟩
    have hp' : 0 < len := by simpa using hp
    have h0 := (hF 0 hp').1
    rw [Nat.zero_mul] at h0
    have hx := spot_none h0
    refine ⟨x.block, x.off, by rw [← hx], ?_, fun j hj => ?_⟩
    · have := World.block_lt_of_cell? w _ h0
      rw [hx, Addr.add_lit] at this
      exact this
    · have hj' : j < len := by simpa using hj
      have := hF j hj'
      rw [hx, Addr.add_lit, Addr.add_lit, Addr.add_lit, ← Nat.add_assoc, ← Nat.add_assoc] at this
      simpa using this
end
end Go.Proofs.Ytfnenehiapibiaa
