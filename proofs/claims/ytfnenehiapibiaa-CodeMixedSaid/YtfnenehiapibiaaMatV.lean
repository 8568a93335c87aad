/- awake of layer 4. -/
import Derived.Test.YtfnenehiapibiaaMatIv
import Derived.Test.YtfnenehiapibiaaMatMk
import Derived.Test.YtfnenehiapibiaaMatRf
namespace Go.Proofs.Ytfnenehiapibiaa
open Go.RowKit
open Mx (rw rw_len rw_get rw_congr dl cod mm dt rws)

/-- a matrix of two rows that is written out -/
theorem RdM.two {w : World} {B : Nat} {v0 v1 : Value} {l0 l1 : List UInt8} {f : Mx.M} {A : Option Addr} {c : Nat} (h : Rd w B (.slice A 2 c) [v0, v1]) (h0 : Rd w B v0 (l0.map bv)) (h1 : Rd w B v1 (l1.map bv)) (e0 : l0 = rw 2 (f 0)) (e1 : l1 = rw 2 (f 1)) :
    RdM w B (.slice A 2 c) 2 (fun i => rw 2 (f i)) := by
  refine ⟨fun i => if i = 0 then v0 else v1, h, fun j hj => ?_⟩
  by_cases e : j = 0
  · subst e
    show Rd w B v0 ((rw 2 (f 0)).map bv)
    rw [← e0]; exact h0
  · obtain rfl : j = 1 := by omega
    show Rd w B v1 ((rw 2 (f 1)).map bv)
    rw [← e1]; exact h1
theorem RdM.lit2 (w : World) {x0 x1 x2 x3 : Int} {a b c d : UInt8} {f : Mx.M} (h0 : Value.int .u8 x0 = bv a) (h1 : Value.int .u8 x1 = bv b) (h2 : Value.int .u8 x2 = bv c) (h3 : Value.int .u8 x3 = bv d) (e0 : [a, b] = rw 2 (f 0)) (e1 : [c, d] = rw 2 (f 1)) :
    ∃ w3, ((w.alloc (.cells #[.int .u8 x0, .int .u8 x1] 5)).alloc (.cells #[.int .u8 x2, .int .u8 x3] 5)).alloc (.cells #[.slice (some ⟨w.heap.size, 0, none⟩) 2 2, .slice (some ⟨w.heap.size + 1, 0, none⟩) 2 2] 39) = w3 ∧
      RdM w3 w3.heap.size (.slice (some ⟨w.heap.size + 1 + 1, 0, none⟩) 2 2) 2 (fun i => rw 2 (f i)) ∧ Below w.heap.size w w3 := by
  have r0 : Rd (w.alloc (.cells #[.int .u8 x0, .int .u8 x1] 5)) _ (.slice (some ⟨w.heap.size, 0, none⟩) 2 2) ([a, b].map bv) := Rd.newW w 5 #[.int .u8 x0, .int .u8 x1] rfl (by simp [maxLen]) (by rw [h0, h1]; rfl)
  have r1 : ∀ (w' : World) g, g = w'.heap.size → Rd (w'.alloc (.cells #[.int .u8 x2, .int .u8 x3] 5)) (w'.alloc (.cells #[.int .u8 x2, .int .u8 x3] 5)).heap.size (.slice (some ⟨g, 0, none⟩) 2 2) ([c, d].map bv) := fun w' g hg => by
    subst hg; exact Rd.newW w' 5 #[.int .u8 x2, .int .u8 x3] rfl (by simp [maxLen]) (by rw [h2, h3]; rfl)
  have r2 : ∀ (w' : World) (u v : Value) g, g = w'.heap.size → Rd (w'.alloc (.cells #[u, v] 39)) (w'.alloc (.cells #[u, v] 39)).heap.size (.slice (some ⟨g, 0, none⟩) 2 2) [u, v] := fun w' u v g hg => by
    subst hg; exact Rd.newW w' 39 #[u, v] rfl (by simp [maxLen]) rfl
  refine ⟨_, rfl, RdM.two (r2 _ _ _ _ (by simp)) ?_ ?_ e0 e1, bwalloc (bwalloc (bwalloc (Below.refl _ _) _) _) _⟩
  · exact (r0.up (bwalloc (Below.refl _ _) _)).up (bwalloc (Below.refl _ _) _)
  · exact (r1 _ _ (by simp)).up (bwalloc (Below.refl _ _) _)
/-- rows change places -/
def flip2 : Mx.M := fun i j => if i + j = 1 then 1 else 0
def ones2 : Mx.M := fun _ _ => 1
theorem dt_flip : dt 2 (rws 2 flip2) = 1 := by decide +kernel
theorem dt_ones : dt 2 (rws 2 ones2) = 0 := by decide +kernel
theorem flip_flip : ∀ i, i < 2 → ∀ j, j < 2 → mm 2 flip2 flip2 i j = dl i j := by
  have : ∀ i j : Fin 2, mm 2 flip2 flip2 i.val j.val = dl i.val j.val := by decide +kernel
  exact fun i hi j hj => this ⟨i, hi⟩ ⟨j, hj⟩
/-- there is but one contrary -/
theorem only_inv {n : Nat} {a x y : Mx.M} (hx : ∀ i, i < n → ∀ j, j < n → mm n x a i j = dl i j) (hy : ∀ i, i < n → ∀ j, j < n → mm n a y i j = dl i j) (i : Nat) (hi : i < n) (j : Nat) (hj : j < n) : x i j = y i j := by
  rw [← Mx.mm_one x i hj, ← Mx.one_mm y j hi]
  rw [Mx.mm_congr (a' := x) (b' := mm n a y) (fun _ _ => rfl) (fun k hk => (hy k hk j hj).symm), ← Mx.mm_assoc]
  exact Mx.mm_congr (fun k hk => hx i hi k hk) (fun _ _ => rfl)
theorem sameM_rw {n wd : Nat} {f g : Mx.M} (h : ∀ i, i < n → ∀ j, j < wd → f i j = g i j) : sameM n (fun i => rw wd (f i)) n (fun i => rw wd (g i)) = true := sameM_true fun i hi => rw_congr fun j hj => h i hi j hj
theorem one_lt : ∀ k (h : k < [1].length), [1][k] < 2 := by
  intro k h
  have hk : k = 0 := by simpa using h
  subst hk
  exact Nat.lt_succ_self 1
end Go.Proofs.Ytfnenehiapibiaa
