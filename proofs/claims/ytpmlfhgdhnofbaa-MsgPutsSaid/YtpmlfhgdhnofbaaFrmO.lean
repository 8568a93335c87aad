/- The statement FrameTurned: its walk, to the end. -/
import Derived.Test.YtpmlfhgdhnofbaaFrmN
namespace Go.Proofs.Ytpmlfhgdhnofbaa
open Go.RowKit Crc Frm
theorem byteOf {z : Int} (h : (Lit.int .u8 z).wf = true) : ∃ t : UInt8, z = (t.toNat : Int) := by
 have hb := bounds_u8 h
 refine ⟨UInt8.ofNat z.toNat, ?_⟩
 rw [UInt8.toNat_ofNat']
 omega
theorem ow_turn {w : World} {B e : Nat} {A : Option Addr} {n c k : Nat} {b : List UInt8} (t : UInt8) (h : Ow w B e (.slice A n c) (b.map bv)) (hk : k < b.length) :
  ∃ (g : Nat) (u : UInt8), A = some ⟨g, 0, none⟩ ∧ B ≤ g ∧ g < w.heap.size ∧ w.cell? ⟨g, k, none⟩ = some (bv u) ∧ w.frozen? ⟨g, k, none⟩ = false ∧ Ow (w.setCell ⟨g, k, none⟩ (bv (u ^^^ t))) B e (.slice A n c) ((b.set k (b.getD k 0 ^^^ t)).map bv) := by
 obtain ⟨g, hA, hgb, hgs, hgc, hgf, hset⟩ := h.at_ (k := k) (by rw [List.length_map]; exact hk)
 have hs := hset (bv (b[k] ^^^ t))
 rw [← List.map_set] at hs
 have e1 : b.getD k 0 = b[k] := by simp [List.getD, hk]
 exact ⟨g, b[k], hA, hgb, hgs, by rw [hgc, List.getElem_map], hgf, by rw [e1]; exact hs⟩
end Go.Proofs.Ytpmlfhgdhnofbaa
