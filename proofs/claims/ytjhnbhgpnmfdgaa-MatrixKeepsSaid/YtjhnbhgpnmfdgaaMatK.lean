/- The contract of settle: a column is turned to that of One. -/
import Derived.Test.YtjhnbhgpnmfdgaaMatM
namespace Go.Proofs.Ytjhnbhgpnmfdgaa
open Go.RowKit
open Mx (rw rw_len rw_get rw_congr fm fi scl stk)

theorem Fd.kept {w w' : World} {p B : Nat} (h : Fd w p) (hp : p < B) (hb : Below B w w') : Fd w' p := (hb.block p hp).trans h
/-- row c, scaled and copied -/
theorem settle_first {w w2 : World} {B m cap n wd c : Nat} {A : Option Addr} {vs : Nat → Value} {W : Mx.M} (h : OwM w B (.slice A m cap) vs n (fun i => rw wd (W i))) (hc : c < n) (hg : w.grownBy w2 (vs c).ownBlock)
    (ho : Ow w2 B 5 (vs c) ((rw wd (fun j => fm (fi (W c c)) (W c j)) ++ (rw wd (W c)).drop (rw wd fun j => fm (fi (W c c)) (W c j)).length).map bv)) :
    OwM w2 B (.slice A m cap) vs n (fun i => rw wd (stk W c 0 i)) := by
  rw [rw_len, List.drop_eq_nil_of_le (by rw [rw_len]; exact Nat.le_refl _), List.append_nil] at ho
  refine (h.setRow hc hg ho).congr fun i _ => ?_
  by_cases e : i = c
  · subst e; simp only [if_true]; rw [Mx.stk_c]; rfl
  · simp only [if_neg e]; rw [Mx.stk_old e (Nat.zero_le _)]
/-- row k, turned -/
theorem settle_step {w' : World} {B m cap n wd c k : Nat} {A : Option Addr} {vs : Nat → Value} {W : Mx.M} (hkc : k ≠ c)
    (h : OwM w' B (.slice A m cap) vs n (fun i => if i = k then rw wd (fun j => stk W c k k j ^^^ fm (W k c) (scl W c j)) else rw wd (stk W c k i))) :
    OwM w' B (.slice A m cap) vs n (fun i => rw wd (stk W c (k + 1) i)) :=
  h.congr fun i _ => by
    by_cases e : i = k
    · subst e; simp only [if_true]; rw [Mx.stk_old hkc (Nat.le_refl _), Mx.stk_new hkc (Nat.lt_succ_self _)]
    · simp only [if_neg e]; rw [Mx.stk_succ e]
set_option maxHeartbeats 4000000 in
set_option maxRecDepth 100000 in
theorem settle_any (p : Nat) (v : Value) (vs : Nat → Value) (B n wd c : Nat) (W : Mx.M) (w : World) (hf : Fd w p) (hp : p < B) (hB : B ≤ w.heap.size) (ho : OwM w B v vs n (fun i => rw wd (W i))) (hc : c < n) (hw : c < wd) (hn : n ≤ 1000000000) (hwd : wd ≤ 140737488355328) :
    Calls Try.prog 29 #[.pointer (some ⟨p, 0, none⟩), v, .int .i64 (c : Int)] w fun e w' => e = .returned (.tuple #[]) ∧ OwM w' B v vs n (fun i => rw wd (stk W c n i)) ∧ Below B w w' := by
  obtain ⟨A, cap, rfl, hcap, hm⟩ := ho.rd.shape
  unfold maxLen at hm
  obtain ⟨gb, g, c2, rfl, hv, hcell, h2c, h2m, hBg, hgs, hcv, hfz, -⟩ := ho.at_ hc hw
  unfold maxLen at h2m
  have HI := Lib.hid (Mx.fi_nat (W c c))
  go_enter Try.func29, Try.ntmps29
  go_wp2_with fail
  refine (inv_any p (W c c).toNat _ hf (W c c).toNat_lt).mono ?_
  rintro e w1 ⟨rfl, q, rfl⟩
  rw [← HI.out]
  have hf1 : Fd (w.drewN q) p := hf.drewN q
  have ho1 := ho.below (bwN (w := w) q)
  have hrow := ho1.row c hc
  rw [hv] at hrow
  go_wp2_with fail
  refine (row_any p (fi (W c c)).toNat _ (rw wd (W c)) _ hf1 (fi (W c c)).toNat_lt hrow.rd (by rw [rw_len]; exact hwd)).mono ?_
  rintro e w2 ⟨⟨x, rfl, hox⟩, hb2⟩
  rw [rowL_rw] at hox
  have ho2 := ho1.below hb2
  have hrow2 := ho2.row c hc
  rw [hv] at hrow2
  obtain ⟨Ax, cx, rfl, -, -⟩ := hox.rd.shapeR
  have HL : (rw wd fun j => fm (fi (W c c)) (W c j)).length ≤ (rw wd (W c)).length := by rw [rw_len, rw_len]; omega
  have HS := fun (w3 : World) hg3 ho3 => settle_first (w2 := w3) ho2 hc hg3 ho3
  have HG := fun (w3 : World) hg3 => ho2.grown (w' := w3) hc hg3 ((bwN' (B := B) w q).trans (hb2.mono hB)) (Nat.le_refl _) (Nat.le_trans hB hb2.size)
  rw [hv] at HS HG
  clear ho ho1 hrow hcell hcv hfz
  go_wp2_with (refine wpList_copyB bytesT rfl (.tmp 13) (.tmp 22) rfl rfl hrow2 rfl hox.rd HL ?_; intro w3 ho3 hg3 hs3; have HO := Lib.hid (HS w3 hg3 ho3); have hbw := HG w3 hg3; clear ho3 hg3 HS HG hs3 hox hrow2 ho2 hb2)
  go_loopw [7, 8, 26] (fun _ _ i wr => ∃ k : Nat, k ≤ n ∧ i = .int .i64 k ∧ OwM wr B (.slice (some ⟨gb, 0, none⟩) n cap) vs n (fun i => rw wd (stk W c k i)) ∧ Below B w wr) (fun _ _ i _ => n - (intOf i).toNat)
  case atStart => exact ⟨0, by omega, rfl, HO.out, hbw⟩
  case round =>
    clear HO hbw
    obtain ⟨k, hk, rfl, ho, hb⟩ := hrel
    by_cases hlt : k < n
    · by_cases hkc : k = c
      · subst hkc
        obtain ⟨gb', g', c4, hA, hv', hcell, h4c, h4m, hBg', hgs', hcv, hfz, -⟩ := ho.at_ hlt hw
        obtain ⟨rfl⟩ : gb = gb' := by injection hA with q; injection q
        have HO : Hid (OwM wr B (.slice (some ⟨gb, 0, none⟩) n cap) vs n (fun i => rw wd (stk W k (k + 1) i))) := Lib.hid (by rw [Mx.stk_succ_c]; exact ho)
        clear ho hcv hfz hA hv'
        go_wp2_with fail
        go_roundw
        case rel => exact ⟨k + 1, by omega, by go_num, HO.out, hb⟩
        case measure => simp [intOf]; omega
      · obtain ⟨gb', g', c4, hA, hv', hcell, h4c, h4m, hBg', hgs', hcv, hfz, -⟩ := ho.at_ hlt hw
        obtain ⟨rfl⟩ : gb = gb' := by injection hA with q; injection q
        have hrowc := ho.row c hc
        rw [hv] at hrowc
        simp only [Mx.stk_c] at hrowc
        rw [Mx.stk_old hkc (Nat.le_refl _)] at hcv
        have hfw := hf.kept hp hb
        unfold maxLen at h4m
        have hkc1 : ((k : Int) != (c : Int)) = true := bne_iff_ne.2 (fun e => hkc (Int.ofNat.inj e))
        have HK := Lib.hid hkc
        clear hA hfz hkc
        go_wp2_with fail
        refine (row_any p (W k c).toNat _ (rw wd (scl W c)) _ hfw (W k c).toNat_lt hrowc.rd (by rw [rw_len]; exact hwd)).mono ?_
        rintro e w4 ⟨⟨x, rfl, hox⟩, hb4⟩
        rw [rowL_rw] at hox
        have ho4 := ho.below hb4
        have hrow := ho4.row k hlt
        have hap := Apart.fresh (ho.row k hlt) hox (Nat.le_refl _)
        rw [hv'] at hrow hap
        have hbw4 := hb.trans (hb4.mono (Nat.le_trans hB hb.size))
        clear hrowc hcell hcv
        go_wp2_with fail
        refine (turn_any _ x _ _ _ wd _ _ _ hrow hox hap).mono ?_
        rintro e w5 ⟨rfl, ho5, hg5⟩
        have HO := Lib.hid (settle_step HK.out (ho4.setRow hlt (by rw [hv']; exact hg5) (by rw [hv']; exact ho5)))
        have hb5 := ho4.grown (w' := w5) hlt (by rw [hv']; exact hg5) hbw4 (Nat.le_refl _) (Nat.le_trans hB hbw4.size)
        clear ho ho4 hrow hap hox ho5 hg5 hb4 hbw4 hb hfw
        go_wp2_with fail
        go_roundw
        case rel => exact ⟨k + 1, by omega, by go_num, HO.out, hb5⟩
        case measure => simp [intOf]; omega
    · obtain rfl : k = n := by omega
      go_wp2_with fail
      go_end0
      exact ⟨rfl, ho, hb⟩
end Go.Proofs.Ytjhnbhgpnmfdgaa
