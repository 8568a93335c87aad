/- awake of layer 4. -/
import Derived.Test.YtjhnbhgpnmfdgaaMatN
import Derived.Test.YtjhnbhgpnmfdgaaMatF
import Derived.Test.YtjhnbhgpnmfdgaaMatS
import Derived.Test.YtjhnbhgpnmfdgaaMatU
namespace Go.Proofs.Ytjhnbhgpnmfdgaa
open Go.RowKit
open Mx (rw rw_len rw_get rw_congr dl cod mm dt rws)

/-- a matrix of two rows that is written out -/
theorem RdM.two {w : World} {B : Nat} {v0 v1 : Value} {l0 l1 : List UInt8} {f : Mx.M} {A : Option Addr} {c : Nat} (h : Rd w B (.slice A 2 c) [v0, v1]) (h0 : Rd w B v0 (l0.map bv)) (h1 : Rd w B v1 (l1.map bv)) (e0 : l0 = rw 2 (f 0)) (e1 : l1 = rw 2 (f 1)) :
    RdM w B (.slice A 2 c) 2 (fun i => rw 2 (f i)) := by
  refine ⟨fun i => if i = 0 then v0 else v1, h, fun j hj => ?_⟩
  by_cases e : j = 0
  · subst e
    show Rd w B v0 ((rw 2 (f 0)).map bv)
    rw [← e0]; exact h0
  · obtain rfl : j = 1 := by omega
    show Rd w B v1 ((rw 2 (f 1)).map bv)
    rw [← e1]; exact h1
theorem RdM.lit2 (w : World) {x0 x1 x2 x3 : Int} {a b c d : UInt8} {f : Mx.M} (h0 : Value.int .u8 x0 = bv a) (h1 : Value.int .u8 x1 = bv b) (h2 : Value.int .u8 x2 = bv c) (h3 : Value.int .u8 x3 = bv d) (e0 : [a, b] = rw 2 (f 0)) (e1 : [c, d] = rw 2 (f 1)) :
    ∃ w3, ((w.alloc (.cells #[.int .u8 x0, .int .u8 x1] 5)).alloc (.cells #[.int .u8 x2, .int .u8 x3] 5)).alloc (.cells #[.slice (some ⟨w.heap.size, 0, none⟩) 2 2, .slice (some ⟨w.heap.size + 1, 0, none⟩) 2 2] 29) = w3 ∧
      RdM w3 w3.heap.size (.slice (some ⟨w.heap.size + 1 + 1, 0, none⟩) 2 2) 2 (fun i => rw 2 (f i)) ∧ Below w.heap.size w w3 := by
  have r0 : Rd (w.alloc (.cells #[.int .u8 x0, .int .u8 x1] 5)) _ (.slice (some ⟨w.heap.size, 0, none⟩) 2 2) ([a, b].map bv) := Rd.newW w 5 #[.int .u8 x0, .int .u8 x1] rfl (by simp [maxLen]) (by rw [h0, h1]; rfl)
  have r1 : ∀ (w' : World) g, g = w'.heap.size → Rd (w'.alloc (.cells #[.int .u8 x2, .int .u8 x3] 5)) (w'.alloc (.cells #[.int .u8 x2, .int .u8 x3] 5)).heap.size (.slice (some ⟨g, 0, none⟩) 2 2) ([c, d].map bv) := fun w' g hg => by
    subst hg; exact Rd.newW w' 5 #[.int .u8 x2, .int .u8 x3] rfl (by simp [maxLen]) (by rw [h2, h3]; rfl)
  have r2 : ∀ (w' : World) (u v : Value) g, g = w'.heap.size → Rd (w'.alloc (.cells #[u, v] 29)) (w'.alloc (.cells #[u, v] 29)).heap.size (.slice (some ⟨g, 0, none⟩) 2 2) [u, v] := fun w' u v g hg => by
    subst hg; exact Rd.newW w' 29 #[u, v] rfl (by simp [maxLen]) rfl
  refine ⟨_, rfl, RdM.two (r2 _ _ _ _ (by simp)) ?_ ?_ e0 e1, bwalloc (bwalloc (bwalloc (Below.refl _ _) _) _) _⟩
  · exact (r0.up (bwalloc (Below.refl _ _) _)).up (bwalloc (Below.refl _ _) _)
  · exact (r1 _ _ (by simp)).up (bwalloc (Below.refl _ _) _)
/-- rows change places -/
def flip2 : Mx.M := fun i j => if i + j = 1 then 1 else 0
def ones2 : Mx.M := fun _ _ => 1
theorem dt_flip : dt 2 (rws 2 flip2) = 1 := by decide +kernel
theorem dt_ones : dt 2 (rws 2 ones2) = 0 := by decide +kernel
theorem flip_flip : ∀ i, i < 2 → ∀ j, j < 2 → mm 2 flip2 flip2 i j = dl i j := by
  have : ∀ i j : Fin 2, mm 2 flip2 flip2 i.val j.val = dl i.val j.val := by decide +kernel
  exact fun i hi j hj => this ⟨i, hi⟩ ⟨j, hj⟩
/-- there is but one contrary -/
theorem only_inv {n : Nat} {a x y : Mx.M} (hx : ∀ i, i < n → ∀ j, j < n → mm n x a i j = dl i j) (hy : ∀ i, i < n → ∀ j, j < n → mm n a y i j = dl i j) (i : Nat) (hi : i < n) (j : Nat) (hj : j < n) : x i j = y i j := by
  rw [← Mx.mm_one x i hj, ← Mx.one_mm y j hi]
  rw [Mx.mm_congr (a' := x) (b' := mm n a y) (fun _ _ => rfl) (fun k hk => (hy k hk j hj).symm), ← Mx.mm_assoc]
  exact Mx.mm_congr (fun k hk => hx i hi k hk) (fun _ _ => rfl)
theorem sameM_rw {n wd : Nat} {f g : Mx.M} (h : ∀ i, i < n → ∀ j, j < wd → f i j = g i j) : sameM n (fun i => rw wd (f i)) n (fun i => rw wd (g i)) = true := sameM_true fun i hi => rw_congr fun j hj => h i hi j hj
theorem one_lt : ∀ k (h : k < [1].length), [1][k] < 2 := by
  intro k h
  have hk : k = 0 := by simpa using h
  subst hk
  exact Nat.lt_succ_self 1
set_option maxHeartbeats 4000000 in
set_option maxRecDepth 100000 in
theorem awake_ok (w : World) : Calls Try.prog 9 #[] w fun e w' => e = .returned (.bool true) ∧ Below w.heap.size w w' := by
  go_enter Try.func9, Try.ntmps9
  go_wp2_with fail
  obtain ⟨w1, hw1, hm, hb1⟩ := RdM.lit2 w (x0 := 0) (x1 := 1) (x2 := 1) (x3 := 0) (a := 0) (b := 1) (c := 1) (d := 0) (f := flip2) rfl rfl rfl rfl (by decide) (by decide)
  rw [hw1]
  clear hw1
  refine (invert_any _ 2 flip2 _ hm (by omega) (by omega)).mono ?_
  rintro e w2 ⟨⟨x, vs, X, rfl, hx, hX1, hX2, -⟩ | ⟨-, hd, -⟩, hb2⟩
  · have hm2 := hm.up hb2
    have hb12 := bwstep hb1 hb2
    have hxr := hx.rd
    have HX := Lib.hid (only_inv hX1 flip_flip)
    clear hm hb1 hb2 hx hX1 hX2
    go_wp2_with fail
    obtain ⟨w3, hw3, ho3, hb3⟩ := RdM.lit2 w2 (x0 := 1) (x1 := 1) (x2 := 1) (x3 := 1) (a := 1) (b := 1) (c := 1) (d := 1) (f := ones2) rfl rfl rfl rfl (by decide) (by decide)
    rw [hw3]
    clear hw3
    refine (invert_any _ 2 ones2 _ ho3 (by omega) (by omega)).mono ?_
    rintro e w4 ⟨⟨x', vs', X', rfl, hx', -, -, hd⟩ | ⟨rfl, -, -⟩, hb4⟩
    · exact absurd dt_ones hd
    · have hm4 := (hm2.up hb3).up hb4
      have hx4 := (hxr.up hb3).up hb4
      have hb14 := bwstep (bwstep hb12 hb3) hb4
      clear hm2 hxr hb12 ho3 hb3 hb4
      go_wp2_with fail
      refine (rsameM_any _ _ 2 2 _ _ _ _ _ hx4 hm4).mono ?_
      rintro e w5 ⟨rfl, q, rfl⟩
      rw [sameM_rw HX.out]
      have hm5 := hm4.up (bwN (w := w4) q)
      have hb15 := bwstep hb14 (bwN (w := w4) q)
      clear hm4 hx4 hb14
      go_wp2_with fail
      refine (mmul_any _ _ 2 2 2 flip2 flip2 _ hm5 hm5 (by omega) (by omega) (by omega) (by omega) (by omega)).mono ?_
      rintro e w6 ⟨⟨y, vy, rfl, hy⟩, hb6⟩
      have hy6 := hy.rd
      have hm6 := hm5.up hb6
      have hb16 := bwstep hb15 hb6
      clear hy hm5 hb15 hb6
      go_wp2_with fail
      refine (one_any 2 _ (by omega) (by omega)).mono ?_
      rintro e w7 ⟨⟨z, vz, rfl, hz⟩, hb7⟩
      have hz7 := hz.rd
      have hy7 := hy6.up hb7
      have hm7 := hm6.up hb7
      have hb17 := bwstep hb16 hb7
      clear hz hy6 hm6 hb16 hb7
      go_wp2_with fail
      refine (rsameM_any _ _ 2 2 _ _ _ _ _ hy7 hz7).mono ?_
      rintro e w8 ⟨rfl, q2, rfl⟩
      rw [sameM_rw flip_flip]
      have hm8 := hm7.up (bwN (w := w7) q2)
      have hb18 := bwstep hb17 (bwN (w := w7) q2)
      clear hm7 hy7 hz7 hb17
      go_wp2_with fail
      refine (coding_any 2 3 _ (by omega) (by omega) (by omega)).mono ?_
      rintro e w9 ⟨⟨u, vu, rfl, hu⟩, hb9⟩
      obtain ⟨Au, cu, rfl, -, -⟩ := hu.rd.shape
      have hm9 := hm8.up hb9
      have hb19 := bwstep hb18 hb9
      clear hu hm8 hb18 hb9
      go_wp2_with fail
      refine (right_any _ 2 _ _ _ hm9).mono ?_
      rintro e w10 ⟨rfl, rfl⟩
      rw [isR_rw flip2 (by omega) (by omega)]
      go_wp2_with fail
      refine (right_any _ 0 _ 0 _ (RdM.nil _ _ (fun _ => []))).mono ?_
      rintro e w10 ⟨rfl, rfl⟩
      rw [isR_none rfl]
      go_wp2_with fail
      have hn1 : Rd (w9.alloc (.cells #[.int .i64 1] 3)) _ (.slice (some ⟨w9.heap.size, 0, none⟩) 1 1) ([1].map nvI) := Rd.newW w9 3 #[.int .i64 1] rfl (by simp [maxLen]) rfl
      have hba := bwalloc (bwrefl w9) (.cells #[.int .i64 1] 3)
      refine (rows_ok _ _ 2 _ [1] _ (hm9.up hba) hn1 one_lt (by simp) (fun i _ => by rw [rw_len]; omega)).mono ?_
      rintro e w11 ⟨⟨r, vr, rfl, hr⟩, hb11⟩
      obtain ⟨Ar, cr, rfl, -, -⟩ := hr.rd.shape
      have hb111 := bwstep (bwstep hb19 hba) hb11
      clear hr hn1 hm9 hb19 hba hb11
      go_wp2_with fail
      go_ret
      exact ⟨rfl, hb111⟩
  · rw [dt_flip] at hd
    exact absurd hd (by decide)
end Go.Proofs.Ytjhnbhgpnmfdgaa
