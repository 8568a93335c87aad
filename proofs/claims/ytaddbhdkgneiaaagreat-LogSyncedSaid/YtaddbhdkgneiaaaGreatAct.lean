/- Slices of acts: how they read, how one is loaded. -/
import Derived.Test.YtaddbhdkgneiaaaGreatLow
namespace Go.Proofs.YtaddbhdkgneiaaaGreat
open Go.RowKit
structure Ac where
 op : Int
 nm : ByteArray
 ot : ByteArray
 b : List UInt8
 at_ : Int
 ks : List Int
structure AcV where
 a : Ac
 bx : Value
 kx : Value
def cells6 (x : AcV) : List Value := [.int .i64 x.a.op, .string x.a.nm, .string x.a.ot, x.bx, .int .i64 x.a.at_, x.kx]
def inR64 (q : Int) : Prop := -9223372036854775808 ≤ q ∧ q ≤ 9223372036854775807
def RdA (w : World) (B : Nat) (v : Value) (n : Nat) (f : Nat → AcV) : Prop :=
 ∃ A c, v = .slice A n c ∧ n ≤ c ∧ c ≤ maxLen ∧ (0 < n → ∃ b off, A = some ⟨b, off, none⟩ ∧ b < B ∧ ∀ j, j < n → ∀ i u, (cells6 (f j))[i]? = some u → w.cell? ⟨b, off + j * 6 + i, none⟩ = some u) ∧
  ∀ j, j < n → Rd w B (f j).bx ((f j).a.b.map bv) ∧ Rd w B (f j).kx ((f j).a.ks.map iv)
section
variable {w w' : World} {B B' n : Nat} {v : Value} {f : Nat → AcV}
theorem RdA.below (h : RdA w B v n f) (hb : Below B w w') : RdA w' B v n f := by
 obtain ⟨A, c, e, h1, h2, h3, h4⟩ := h
 refine ⟨A, c, e, h1, h2, fun hp => ?_, fun j hj => ⟨(h4 j hj).1.below hb, (h4 j hj).2.below hb⟩⟩
 obtain ⟨b, off, ea, hlt, hc⟩ := h3 hp
 exact ⟨b, off, ea, hlt, fun j hj i u hu => (hb.cell (p := ⟨b, off + j * 6 + i, none⟩) hlt).trans (hc j hj i u hu)⟩
theorem RdA.mono (h : RdA w B v n f) (hB : B ≤ B') : RdA w B' v n f := by
 obtain ⟨A, c, e, h1, h2, h3, h4⟩ := h
 refine ⟨A, c, e, h1, h2, fun hp => ?_, fun j hj => ⟨(h4 j hj).1.mono hB, (h4 j hj).2.mono hB⟩⟩
 obtain ⟨b, off, ea, hlt, hc⟩ := h3 hp
 exact ⟨b, off, ea, by omega, hc⟩
theorem RdA.up (h : RdA w w.heap.size v n f) (hb : Below w.heap.size w w') : RdA w' w'.heap.size v n f := (h.below hb).mono hb.size
theorem RdA.shape (h : RdA w B v n f) : ∃ A c, v = .slice A n c ∧ n ≤ c ∧ c ≤ maxLen := by
 obtain ⟨A, c, e, h1, h2, _⟩ := h
 exact ⟨A, c, e, h1, h2⟩
theorem RdA.open_ {A : Option Addr} {m c : Nat} (h : RdA w B (.slice A m c) n f) (hp : 0 < n) : ∃ b off, A = some ⟨b, off, none⟩ ∧ b < B ∧ ∀ j, j < n → ∀ i u, (cells6 (f j))[i]? = some u → w.cell? ⟨b, off + j * 6 + i, none⟩ = some u := by
 obtain ⟨A', c', e, h1, h2, h3, h4⟩ := h
 injection e with e1 e2 e3
 subst e1
 exact h3 hp
theorem RdA.row {j : Nat} (h : RdA w B v n f) (hj : j < n) : Rd w B (f j).bx ((f j).a.b.map bv) ∧ Rd w B (f j).kx ((f j).a.ks.map iv) := by
 obtain ⟨A', c', e, h1, h2, h3, h4⟩ := h
 exact h4 j hj
end
end Go.Proofs.YtaddbhdkgneiaaaGreat
