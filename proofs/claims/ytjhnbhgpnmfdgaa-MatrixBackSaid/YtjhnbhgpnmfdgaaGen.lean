/- More general words for walks: worlds behind one another, new blocks with a mark, slices of bytes. Of no function in particular. -/
import Derived.Test.YtjhnbhgpnmfdgaaLib
import Derived.OpenShut
namespace Go.Proofs.Ytjhnbhgpnmfdgaa
open Go.RowKit

theorem bytesT : ET Try.prog 29 5 (.int .u8 0) 1 := ⟨Try.underlying29, by kernel_rfl⟩
/-- a callee's world behind another's -/
theorem bwstep {w a b : World} (h : Below w.heap.size w a) (k : Below a.heap.size a b) : Below w.heap.size w b := h.trans (k.mono h.size)
theorem bwalloc {w a : World} (h : Below w.heap.size w a) (o : Obj) : Below w.heap.size w (a.alloc o) := h.alloc h.size o
theorem Rd.up {w w' : World} {v : Value} {xs : List Value} (h : Rd w w.heap.size v xs) (hb : Below w.heap.size w w') : Rd w' w'.heap.size v xs := (h.below hb).mono hb.size
/-- a new block, whole, with whatever mark -/
theorem Rd.newF {n : Nat} {xs : List Value} (w : World) (e : Nat) (cs : Array Value) (fz : Nat × Nat) (hn : cs.size = n) (hm : n ≤ maxLen) (hxs : cs.toList = xs) :
    Rd (w.alloc (.cells cs e fz)) (w.alloc (.cells cs e fz)).heap.size (.slice (some ⟨w.heap.size, 0, none⟩) n n) xs := by
  subst hxs
  have hl : cs.toList.length = n := by simpa using hn
  have := Rd.row (xs := cs.toList) (n := n) (heap_alloc_new w (.cells cs e fz)) (fun j u hu => by simpa using hu) (by omega) hm
  rw [hl] at this
  exact this
/-- '[]byte{}' -/
theorem Ow.empty (w : World) {B : Nat} (hB : B ≤ w.heap.size) (e : Nat) : Ow (w.alloc (.cells #[] e)) B e (.slice (some ⟨w.heap.size, 0, none⟩) 0 0) (([] : List UInt8).map bv) :=
  Ow.new w #[] rfl (by simp [maxLen]) rfl hB
theorem Ow.emptyG {w w2 : World} {e : Nat} (hg : (w.alloc (.cells #[] e)).grownBy w2 (Value.slice (some ⟨w.heap.size, 0, none⟩) 0 0).ownBlock) : Below w.heap.size w w2 :=
  (bwalloc (Below.refl _ _) _).grown hg (by simp) (Ow.empty w (Nat.le_refl _) e).ge
/-- a byte of a slice that the call owns: read, and turned by f -/
theorem Ow.put_ {w : World} {B e : Nat} {A : Option Addr} {n c k : Nat} {cs : List UInt8} {f : UInt8 → UInt8} (h : Ow w B e (.slice A n c) (cs.map bv)) (hk : k < cs.length) :
    ∃ (g : Nat) (u : UInt8) (cs' : List UInt8), A = some ⟨g, 0, none⟩ ∧ B ≤ g ∧ g < w.heap.size ∧ w.cell? ⟨g, k, none⟩ = some (bv u) ∧ w.frozen? ⟨g, k, none⟩ = false ∧ cs'.length = cs.length ∧ Ow (w.setCell ⟨g, k, none⟩ (bv (f u))) B e (.slice A n c) (cs'.map bv) := by
  obtain ⟨g, hA, hgb, hgs, hgc, hgf, hset⟩ := h.at_ (k := k) (by rw [List.length_map]; exact hk)
  have hs := hset (bv (f cs[k]))
  rw [← List.map_set] at hs
  exact ⟨g, cs[k], cs.set k (f cs[k]), hA, hgb, hgs, by rw [hgc, List.getElem_map], hgf, by simp, hs⟩
/-- a slice of threes of bytes -/
def Rd3 (w : World) (B : Nat) (v : Value) (l : List (UInt8 × UInt8 × UInt8)) : Prop :=
  ∃ A c, v = .slice A l.length c ∧ l.length ≤ c ∧ c ≤ maxLen ∧
    (0 < l.length → ∃ b off, A = some ⟨b, off, none⟩ ∧ b < B ∧ ∀ j (hj : j < l.length), w.cell? ⟨b, off + j * 3, none⟩ = some (bv l[j].1) ∧ w.cell? ⟨b, off + j * 3 + 1, none⟩ = some (bv l[j].2.1) ∧ w.cell? ⟨b, off + j * 3 + 2, none⟩ = some (bv l[j].2.2))
theorem drewN_two (w : World) (m n : Nat) : (w.drewN m).drewN n = w.drewN (m + n) := by
  unfold World.drewN
  simp [Nat.add_assoc]
end Go.Proofs.Ytjhnbhgpnmfdgaa
