/- The contract of the reference's determinant. -/
import Derived.Test.YtjhnbhgpnmfdgaaMatS
import Derived.Test.YtjhnbhgpnmfdgaaMatD
import Derived.Deep.RegionHeld3
namespace Go.Proofs.Ytjhnbhgpnmfdgaa
open Go.RowKit
open Mx (rw rw_len rw_get rw_congr fm sm dt rws)

/-- the row numbers without i -/
def skip (i x : Nat) : Nat := if x < i then x else x + 1
/-- the matrix without row i and column 0 -/
def mnr (W : Mx.M) (i : Nat) : Mx.M := fun x j => W (skip i x) (j + 1)
theorem sm_front (n : Nat) (f : Nat → UInt8) : sm (n + 1) f = f 0 ^^^ sm n (fun k => f (k + 1)) := by
  induction n with
  | zero => show sm 0 f ^^^ f 0 = f 0 ^^^ sm 0 _; rw [show sm 0 f = 0 from rfl, show sm 0 (fun k => f (k + 1)) = 0 from rfl, Mx.zx, Mx.x0]
  | succ n ih => rw [sm, ih, sm, UInt8.xor_assoc]
theorem range_map_succ (n : Nat) (W : Nat → Mx.V) : (List.range (n + 1)).map W = W 0 :: (List.range n).map fun x => W (x + 1) := by
  rw [List.range_succ_eq_map, List.map_cons, List.map_map]; rfl
theorem ps_range (m : Nat) : ∀ (W : Nat → Mx.V) (F : Mx.V → List Mx.V → UInt8), Mx.ps F ((List.range m).map W) = sm m fun i => F (W i) ((List.range (m - 1)).map fun x => W (skip i x)) := by
  induction m with
  | zero => intro W F; rfl
  | succ m ih =>
    intro W F
    rw [range_map_succ, Mx.ps, ih, sm_front]
    congr 1
    refine Mx.sm_congr fun k hk => ?_
    obtain ⟨p, rfl⟩ : ∃ p, m = p + 1 := ⟨m - 1, by omega⟩
    show F (W (k + 1)) (W 0 :: (List.range p).map fun x => W (skip k x + 1)) = F (W (k + 1)) ((List.range (p + 1)).map fun x => W (skip (k + 1) x))
    rw [range_map_succ]
    congr 2
    refine List.map_congr_left fun x _ => ?_
    unfold skip
    by_cases h : x < k
    · rw [if_pos h, if_pos (by omega)]
    · rw [if_neg h, if_neg (by omega)]
theorem dt_range (n : Nat) (W : Mx.M) : dt (n + 1) (rws (n + 1) W) = sm (n + 1) fun i => fm (W i 0) (dt n (rws n (mnr W i))) := by
  show Mx.ps (fun y r => fm (y 0) (dt n (r.map Mx.tl))) ((List.range (n + 1)).map W) = _
  rw [ps_range]
  refine Mx.sm_congr fun i _ => ?_
  show fm (W i 0) (dt n ((List.map (fun x => W (skip i x)) (List.range n)).map Mx.tl)) = _
  rw [List.map_map]
  rfl
theorem dt_1 (W : Mx.M) : dt 1 (rws 1 W) = W 0 0 := by
  rw [dt_range]
  show sm 0 _ ^^^ fm (W 0 0) (dt 0 (rws 0 (mnr W 0))) = _
  rw [show dt 0 (rws 0 (mnr W 0)) = 1 from rfl, Mx.fm_one]
  exact Mx.zx _
/-- how many rows stand in the smaller matrix behind k rounds -/
def cnt (i k : Nat) : Nat := if k ≤ i then k else k - 1
/-- rows of old memory, in a slice of the call's own -/
def Less (w wr : World) (v : Value) (c wd : Nat) (f : Mx.M) : Prop := ∃ vs, Ow wr w.heap.size 29 v ((List.range c).map vs) ∧ ∀ x, x < c → Rd w w.heap.size (vs x) ((rw wd (f x)).map bv)
theorem Less.rd {w wr : World} {v : Value} {c wd : Nat} {f : Mx.M} (h : Less w wr v c wd f) (hb : Below w.heap.size w wr) : RdM wr wr.heap.size v c (fun x => rw wd (f x)) := by
  obtain ⟨vs, h1, h2⟩ := h
  exact ⟨vs, h1.rd, fun x hx => ((h2 x hx).below hb).mono hb.size⟩
theorem Less.push {w w' : World} {v' u : Value} {c wd : Nat} {f : Mx.M} {vs : Nat → Value} (h : Ow w' w.heap.size 29 v' ((List.range c).map vs ++ [u])) (h2 : ∀ x, x < c → Rd w w.heap.size (vs x) ((rw wd (f x)).map bv)) (hu : Rd w w.heap.size u ((rw wd (f c)).map bv)) : Less w w' v' (c + 1) wd f := by
  rw [map_push] at h
  refine ⟨_, h, fun x hx => ?_⟩
  by_cases e : x = c
  · subst e; rw [if_pos rfl]; exact hu
  · rw [if_neg e]; exact h2 x (by omega)
theorem less_cut (n N k i : Nat) (W : Mx.M) (hN : N = n + 1 + 1) (hki : k ≠ i) : ((rw N (W k)).map bv).drop 1 = (rw (n + 1) (mnr W i (cnt i k))).map bv := by
  rw [← List.map_drop, hN, show n + 1 + 1 = 1 + (n + 1) by omega, Mx.rw_drop]
  congr 1
  refine rw_congr fun j _ => ?_
  unfold mnr skip cnt
  by_cases h : k ≤ i
  · rw [if_pos h, if_pos (by omega), Nat.add_comm]
  · rw [if_neg h, if_neg (by omega), Nat.add_comm 1 j, show k - 1 + 1 = k by omega]
set_option maxHeartbeats 4000000 in
set_option maxRecDepth 100000 in
theorem det_any (n : Nat) (hn : n ≤ 1000000) : ∀ (v : Value) (W : Mx.M) (w : World), RdM w w.heap.size v (n + 1) (fun i => rw (n + 1) (W i)) →
    Calls Try.prog 18 #[v] w fun e w' => e = .returned (.int .u8 ((dt (n + 1) (rws (n + 1) W)).toNat : Int)) ∧ Below w.heap.size w w' := by
  induction n with
  | zero =>
    intro v W w hr
    obtain ⟨A, c, rfl, hc, hm⟩ := hr.shape
    obtain ⟨b, off, rfl, hb⟩ := hr.open_ (by omega)
    obtain ⟨A0, c0, hcell0, h0c, h0m, hr0⟩ := hr.rowT (j := 0) (by omega)
    obtain ⟨b1, off1, rfl, hb1, hc1⟩ := hr0.cellR (by omega)
    have hc10 := hc1 0 (by omega)
    rw [Nat.add_zero] at hcell0 hc10
    have HD := Lib.hid (dt_1 W)
    clear hr hr0 hc1
    go_enter Try.func18, Try.ntmps18
    go_wp2_with fail
    go_ret
    exact ⟨ret1 (vi (by rw [HD.out])), Below.refl _ _⟩
  | succ n ih =>
    intro v W w hr
    have ih := ih (by omega)
    obtain ⟨A, c, rfl, hc, hm⟩ := hr.shape
    obtain ⟨b, off, rfl, hb⟩ := hr.open_ (by omega)
    unfold maxLen at hm
    have hN : (((n + 1 + 1 : Nat) : Int) == 1) = false := by simp; omega
    obtain ⟨N, hNe⟩ : ∃ N, N = n + 1 + 1 := ⟨_, rfl⟩
    rw [← hNe] at hr hc hN ⊢
    have HN := Lib.hid hNe
    have hN2 : 2 ≤ N := by omega
    have hN3 : N ≤ 1000001 := by omega
    clear hNe hn
    go_enter Try.func18, Try.ntmps18
    go_wp2_with fail
    go_loopw [3, 4, 5, 6] (fun x i _ _ wr => ∃ i' : Nat, i' ≤ N ∧ i = .int .i64 i' ∧ x = .int .u8 ((sm i' fun i => fm (W i 0) (dt (n + 1) (rws (n + 1) (mnr W i)))).toNat : Int) ∧ Below w.heap.size w wr) (fun _ i _ _ _ => N - (intOf i).toNat)
    case atStart => exact ⟨0, by omega, rfl, rfl, Below.refl _ _⟩
    case round =>
      obtain ⟨i, hi, rfl, rfl, hbw⟩ := hrel
      by_cases hlt : i < N
      · have HM : Hid ((sm (i + 1) fun i => fm (W i 0) (dt (n + 1) (rws (n + 1) (mnr W i)))) = (sm i fun i => fm (W i 0) (dt (n + 1) (rws (n + 1) (mnr W i)))) ^^^ fm (W i 0) (dt (n + 1) (rws (n + 1) (mnr W i)))) := Lib.hid rfl
        generalize (sm i fun i => fm (W i 0) (dt (n + 1) (rws (n + 1) (mnr W i)))) = s at *
        go_wp2_with fail
        go_loopw [5, 6] (fun o k wr => ∃ k' : Nat, k' ≤ N ∧ k = .int .i64 k' ∧ Less w wr o (cnt i k') (n + 1) (mnr W i) ∧ Below w.heap.size w wr) (fun _ k _ => N - (intOf k).toNat)
        case atStart => exact ⟨0, by omega, rfl, ⟨fun _ => .slice none 0 0, by unfold cnt; rw [if_pos (by omega)]; exact Ow.nil _ _ _, fun x hx => by unfold cnt at hx; rw [if_pos (by omega)] at hx; omega⟩, hbw⟩
        case round =>
          clear hbw
          obtain ⟨k, hk, rfl, hL, hbw⟩ := hrel
          by_cases hkl : k < N
          · by_cases hki : k = i
            · subst hki
              have HL : Hid (Less w wr u5 (cnt k (k + 1)) (n + 1) (mnr W k)) := Lib.hid (by
                have e : cnt k (k + 1) = cnt k k := by unfold cnt; rw [if_neg (by omega), if_pos (by omega)]; omega
                rw [e]; exact hL)
              clear hL
              go_wp2_with fail
              go_roundw
              case rel => exact ⟨k + 1, by omega, by go_num, HL.out, hbw⟩
              case measure => simp [intOf]; omega
            · obtain ⟨vs, ho, hv⟩ := hL
              obtain ⟨A4, c4, hcell4, h4c, h4m, hr4⟩ := hr.rowT hkl
              obtain ⟨b4, off4, rfl, hb4, -⟩ := hr4.cellR (by omega)
              have hk4 := (hbw.cell (p := ⟨b, off + k, none⟩) hb).trans hcell4
              have hcut := hr4.fromC (lo := 1) (by omega) (by omega)
              rw [less_cut n N k i W HN.out hki] at hcut
              have hone : One [Value.slice (some ⟨b4, off4 + 1, none⟩) (N - 1) (c4 - 1)] := one_one rfl
              have hrd : Rd (wr.alloc (.cells #[.slice (some ⟨b4, off4 + 1, none⟩) (N - 1) (c4 - 1)] 29)) _ (.slice (some ⟨wr.heap.size, 0, none⟩) 1 1) [.slice (some ⟨b4, off4 + 1, none⟩) (N - 1) (c4 - 1)] := Rd.newW wr 29 #[.slice (some ⟨b4, off4 + 1, none⟩) (N - 1) (c4 - 1)] rfl (by simp [maxLen]) rfl
              have hb2 : Below wr.heap.size wr (wr.alloc (.cells #[.slice (some ⟨b4, off4 + 1, none⟩) (N - 1) (c4 - 1)] 29)) := bwalloc (Below.refl _ _) _
              have ho2 := ho.below hb2
              have hbw2 := bwstep hbw hb2
              have hsz := hbw2.size
              have hcn : cnt i k ≤ N := by unfold cnt; split <;> omega
              have hl1 : ((List.range (cnt i k)).map vs).length + [Value.slice (some ⟨b4, off4 + 1, none⟩) (N - 1) (c4 - 1)].length ≤ maxLen := by simp [maxLen]; omega
              have hl2 : (((List.range (cnt i k)).map vs).length + [Value.slice (some ⟨b4, off4 + 1, none⟩) (N - 1) (c4 - 1)].length) * 24 ≤ 140737488355328 := by simp; omega
              have hkn : ((k : Int) != (i : Int)) = true := bne_iff_ne.2 (fun e => hki (Int.ofNat.inj e))
              have HC : Hid (cnt i (k + 1) = cnt i k + 1) := Lib.hid (by
                unfold cnt
                by_cases h : k ≤ i
                · rw [if_pos h, if_pos (by omega)]
                · rw [if_neg h, if_neg (by omega)]; omega)
              have hc4 : ¬ c4 = 1 := by omega
              unfold maxLen at h4m
              clear hr4 hcell4 hb2 ho hki hcn
              go_wp2_with (at_builtin; refine wpList_app rowsT rfl rfl (.tmp 30) (.tmp 36) rfl rfl ho2 rfl hrd hone hl1 hl2 hsz ?_; intro v' w' ho3 hg h3; have HB := Lib.hid (And.intro (Less.push ho3 hv hcut) (hbw2.grown hg hsz ho2.ge)); clear ho3 hg h3 hrd ho2 hone hbw2)
              go_roundw
              case rel => exact ⟨k + 1, by omega, by go_num, by rw [HC.out]; exact HB.out.1, HB.out.2⟩
              case measure => simp [intOf]; omega
          · obtain rfl : k = N := by omega
            have hc : cnt i k = n + 1 := by unfold cnt; rw [if_neg (by omega), HN.out]; rfl
            rw [hc] at hL
            clear hc
            have hR := hL.rd hbw
            obtain ⟨A4, c4, hcell4, h4c, h4m, hr4⟩ := hr.rowT hlt
            obtain ⟨b4, off4, rfl, hb4, hc4⟩ := hr4.cellR (by omega)
            have hc40 := hc4 0 (by omega)
            rw [Nat.add_zero] at hc40
            have k4 := (hbw.cell (p := ⟨b, off + i, none⟩) hb).trans hcell4
            have k5 := (hbw.cell (p := ⟨b4, off4, none⟩) hb4).trans hc40
            have l4 : b < wr.heap.size := Nat.lt_of_lt_of_le hb hbw.size
            have l5 : b4 < wr.heap.size := Nat.lt_of_lt_of_le hb4 hbw.size
            clear hL hcell4 hc4 hc40 hr4
            by_cases hz : W i 0 = 0
            · have HS : Hid (s ^^^ fm (W i 0) (dt (n + 1) (rws (n + 1) (mnr W i))) = s) := Lib.hid (by rw [hz, Mx.zero_fm, Mx.x0])
              rw [hz] at k5
              have k5' : wr.cell? ⟨b4, off4, none⟩ = some (.int .u8 0) := k5
              clear k5 hz hR
              go_wp2_with fail
              go_roundw
              case rel => exact ⟨i + 1, by omega, by go_num, by rw [HM.out, HS.out], hbw⟩
              case measure => simp [intOf]; omega
            · have hne : (((W i 0).toNat : Int) != 0) = true := bne_iff_ne.2 (fun e => hz (Mx.nat_zero.1 (by omega)))
              have HX := Lib.hid (sum_step (W i 0) (dt (n + 1) (rws (n + 1) (mnr W i))) s)
              have S0 : wr.drew.cell? ⟨b, off + i, none⟩ = some (.slice (some ⟨b4, off4, none⟩) k c4) ∧ wr.drew.cell? ⟨b4, off4, none⟩ = some (.int .u8 ((W i 0).toNat : Int)) ∧ Below wr.heap.size wr wr.drew := ⟨k4, k5, (Below.refl _ _).drew⟩
              have hup : ∀ w1 w2 : World, (w1.cell? ⟨b, off + i, none⟩ = some (.slice (some ⟨b4, off4, none⟩) k c4) ∧ w1.cell? ⟨b4, off4, none⟩ = some (.int .u8 ((W i 0).toNat : Int)) ∧ Below wr.heap.size wr w1) → Below w1.heap.size w1 w2 →
                  (w2.cell? ⟨b, off + i, none⟩ = some (.slice (some ⟨b4, off4, none⟩) k c4) ∧ w2.cell? ⟨b4, off4, none⟩ = some (.int .u8 ((W i 0).toNat : Int)) ∧ Below wr.heap.size wr w2) := fun w1 w2 hS h =>
                ⟨(h.cell (Nat.lt_of_lt_of_le l4 hS.2.2.size)).trans hS.1, (h.cell (Nat.lt_of_lt_of_le l5 hS.2.2.size)).trans hS.2.1, bwstep hS.2.2 h⟩
              have HU := Lib.hid hup
              have HT := Lib.hid S0
              have x1 := (W i 0).toNat_lt
              have x2 := (dt (n + 1) (rws (n + 1) (mnr W i))).toNat_lt
              have hk0 : 0 < k := by omega
              clear hup S0 hz
              go_wp2_with fail
              go_region_held3 (fun w' => w'.cell? ⟨b, off + i, none⟩ = some (.slice (some ⟨b4, off4, none⟩) k c4) ∧ w'.cell? ⟨b4, off4, none⟩ = some (.int .u8 ((W i 0).toNat : Int)) ∧ Below wr.heap.size wr w') (first | exact HT.out | assumption | exact HU.out _ _ (by assumption) (by assumption))
                (first
                  | (go_at_call 18; refine (ih _ (mnr W i) _ (hR.up (And.right (And.right (by assumption))))).mono ?_; rintro e w2 ⟨rfl, hb2⟩)
                  | (go_at_call 26; refine (rmul_any (W i 0).toNat (dt (n + 1) (rws (n + 1) (mnr W i))).toNat _ x1 x2).mono ?_; rintro e w2 ⟨rfl, rfl⟩))
              all_goals
                have hb9 : Below wr.heap.size wr _ := And.right (And.right (by assumption))
                go_wp2_with fail
                go_roundw
                case rel => exact ⟨i + 1, by omega, by go_num, by rw [HM.out]; exact HX.out, bwstep hbw hb9⟩
                case measure => simp [intOf]; omega
      · obtain rfl : i = N := by omega
        have HD := Lib.hid (dt_range (n + 1) W)
        rw [← HN.out] at HD
        rw [← HD.out]
        go_wp2_with fail
        go_ret
        exact ⟨rfl, hbw⟩
end Go.Proofs.Ytjhnbhgpnmfdgaa
