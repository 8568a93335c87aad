/- The contracts of the reference functions of layer 6: Put, Same, Few. The contract of the reference's Scan of layer 6. -/
import Derived.Test.YtaddbhdkgneiaaaFrmA
import Derived.Test.YtaddbhdkgneiaaaLow
import Derived.Deep.QuietTactic
import Derived.BigQuiet
import Derived.IntWalk
set_option maxHeartbeats 8000000
set_option maxRecDepth 100000
namespace Go.Proofs.Ytaddbhdkgneiaaa
open Go.RowKit Crc Frm
end Go.Proofs.Ytaddbhdkgneiaaa
namespace Go.Proofs.Ytaddbhdkgneiaaa
open Go.RowKit Crc Frm
theorem numOf_sumB (l : List UInt8) : numOf (sumB l) = vw (sum l) := by
 have := numOf_numB (vw (sum l)) (vw_le _) []
 rwa [List.append_nil] at this
theorem rscan_any (v : Value) (b m : List UInt8) (R : List (List UInt8)) (w : World) (hr : Rd w w.heap.size v (b.map bv)) (hs : Scanned b R m) (hl : b.length ≤ 1000000000000) :
  Calls Try.prog 23 #[v] w fun e w' => (∃ x vs, e = .returned (.tuple #[x, .int .i64 ((flat R).length : Int)]) ∧ OwM w' w.heap.size x vs R.length (gl R)) ∧ Below w.heap.size w w' := by
 obtain ⟨A, c, rfl, hc, hcm⟩ := hr.shapeM
 obtain ⟨hbR, hR, hno⟩ := hs
 have HBR := Lib.hid hbR
 have HBL := Lib.hid (show b.length = (flat R).length + m.length by rw [hbR, List.length_append])
 have hRl : R.length ≤ 1000000000000 := by have := flat_len R; have := HBL.out; omega
 clear hbR
 unfold maxLen at hcm
 go_enter Try.func23, Try.ntmps23
 go_wp2_with fail
 go_loopw [4, 5, 6, 7] (fun p q _ _ wr => ∃ k s : Nat, k ≤ R.length ∧ (∃ vs, OwM wr w.heap.size p vs k (gl R)) ∧ q = .int .i64 (s : Int) ∧ Hid (s = (flat (R.take k)).length) ∧ Below w.heap.size w wr) (fun _ q _ _ _ => b.length + 1 - (intOf q).toNat)
 case atStart => exact ⟨0, 0, by omega, ⟨_, OwM.nil _ _ _⟩, rfl, Lib.hid rfl, Below.refl _ _⟩
 case round =>
  obtain ⟨k, s, hk, ⟨vs, ho⟩, rfl, HS, hbw⟩ := hrel
  have hrw := hr.up hbw
  have hsb : s ≤ b.length := by
   have h1 := HBL.out
   have h2 := flat_take_le R k
   rw [HS.out]
   omega
  obtain ⟨t, ht⟩ : ∃ t, t = b.drop s := ⟨_, rfl⟩
  have htm : t = flat (R.drop k) ++ m := by
   rw [ht, HS.out, HBR.out, flat_split R k, List.append_assoc, List.drop_left]
  have htl : t.length + s = b.length := by rw [ht, List.length_drop]; omega
  by_cases hlt : k < R.length
  ·obtain ⟨r, hrk⟩ : ∃ r, r = R[k] := ⟨_, rfl⟩
   have hr5 : r.length ≤ 65535 := by rw [hrk]; exact hR _ (List.getElem_mem hlt)
   have e1 : t = frm r ++ (flat (R.drop (k + 1)) ++ m) := by rw [htm, flat_drop R k hlt, List.append_assoc, hrk]
   obtain ⟨⟨g1, g2, g3, g4, g5⟩, hn, h4, h12⟩ := whole_frm r (flat (R.drop (k + 1)) ++ m) hr5
   rw [← e1] at g1 g2 g3 g4 g5 hn h4 h12
   rw [h12, hn, List.take_left] at g5
   have HE := Lib.hid (show r = gl R k by rw [hrk, gl_at R hlt])
   have HS2 := Lib.hid (show s + 12 + r.length = (flat (R.take (k + 1))).length by rw [flat_snoc R k hlt, List.length_append, frm_len, ← hrk, ← HS.out]; omega)
   obtain ⟨b0, off, rfl, hb0, -⟩ := hr.cellM (by omega)
   have hnn : numOf (b.drop s) = r.length := by rw [← ht, hn]
   have hn4 : numOf (b.drop (s + 4)) = vw (sum (t.take 4)) := by
    rw [← List.drop_drop, ← ht, ← numOf_take4 _ (by rw [List.length_drop]; omega), show (t.drop 4).take 4 = (t.take 8).drop 4 by rw [List.drop_take], g4]
    exact numOf_sumB _
   have hn8 : numOf (b.drop (s + 8)) = vw (sum r) := by
    rw [← List.drop_drop, ← ht, ← numOf_take4 _ (by rw [List.length_drop]; omega), show (t.drop 8).take 4 = (t.take 12).drop 8 by rw [List.drop_take], g5]
    exact numOf_sumB _
   have v4 := vw_le (sum (t.take 4))
   have v8 := vw_le (sum r)
   have s4 : Rd w w.heap.size (.slice (some ⟨b0, off + s, none⟩) 4 (c - s)) ((t.take 4).map bv) := by
    have := hr.midC (lo := s) (hi := s + 4) (by omega) (by omega) (by omega)
    rw [← List.map_take, ← List.map_drop, List.drop_take, ← ht] at this
    simpa using this
   clear htm e1 g4 g5 h4 hrk g2
   by_cases hcc : c = s + 12
   ·obtain rfl : r = [] := List.eq_nil_of_length_eq_zero (by omega)
    have hct := eq_true hcc
    have k1 : (0 : Int) ≤ (s : Int) + 4 ∧ (s : Int) + 4 ≤ (c : Int) := by omega
    have k2 : ((s : Int) + 4).toNat = s + 4 := by omega
    have k3 : ¬ c = s := by omega
    have hcl : c ≤ s + 12 := by omega
    have srec : Rd w w.heap.size (.slice (some ⟨b0, off, none⟩) 0 (c - (s + 12))) (([] : List UInt8).map bv) := ⟨_, c - (s + 12), rfl, Nat.zero_le _, by unfold maxLen; omega, fun h => absurd h (by simp)⟩
    clear hcc
    rw [List.length_nil] at hnn
    rw [List.length_nil, Nat.add_zero] at HS2
    have a0 := rat_ok _ b s _ _ hrw (by omega) hl
    rw [hnn] at a0
    have HT := Lib.hid (And.intro ht h12)
    clear ht h12 hnn hr
    go_wp2_with fail
    refine a0.mono ?_
    rintro e w1 ⟨rfl, hb1⟩
    have hrw1 := hrw.up hb1
    have hbw1 := bwstep hbw hb1
    have a4 := fun z : Nat => rat_okN _ b (s + 4) _ (w1.drewN z) (hrw1.below (bwN' w1 z)) (by omega) hl
    have a8 := fun z : Nat => rat_okN _ b (s + 8) _ (w1.drewN z) (hrw1.below (bwN' w1 z)) (by omega) hl
    rw [hn4, show ((s + 4 : Nat) : Int) = (s : Int) + 4 by omega] at a4
    rw [hn8, show ((s + 8 : Nat) : Int) = (s : Int) + 8 by omega] at a8
    have t4 := fun z : Nat => rsum_any _ (t.take 4) (w1.drewN z) _ ((s4.up hbw1).below (bwN' w1 z)) (by rw [List.length_take]; omega)
    have t8 := fun z : Nat => rsum_any (.slice (some ⟨b0, off, none⟩) 0 0) [] (w1.drewN z) w1.heap.size ⟨_, 0, rfl, Nat.zero_le _, by simp [maxLen], fun h => absurd h (by simp)⟩ (by simp)
    clear hn4 hn8
    have hw4 := IntWalk.i64_in ((s : Int) + 4) (by omega)
    have hw8 := IntWalk.i64_in ((s : Int) + 8) (by omega)
    generalize vw (sum (t.take 4)) = y4 at *
    generalize vw (sum []) = y8 at *
    have hy4 := IntWalk.i64_in (y4 : Int) (by omega)
    have hy8 := IntWalk.i64_in (y8 : Int) (by omega)
    have hx4 : ((y4 : Int) != (y4 : Int)) = false := by simp
    have hx8 : ((y8 : Int) != (y8 : Int)) = false := by simp
    go_wp2_with fail
    go_quiet (first
     | (go_at_call 45; with_reducible exact Calls.quiet_of (a4 _))
     | (go_at_call 45; with_reducible exact Calls.quiet_of (a8 _))
     | (go_at_call 46; with_reducible exact (t4 _).mono fun _ _ ⟨h1, h2⟩ => ⟨h1, _, h2.symm⟩)
     | (go_at_call 46; with_reducible exact (t8 _).mono fun _ _ ⟨h1, h2⟩ => ⟨h1, _, h2.symm⟩))
    have hbq := bwstep hb1 (bwN nq)
    have hbw2 := bwstep hbw hbq
    have ho := ho.below hbq
    generalize hw2 : w1.drewN nq = w2 at *
    clear hw2 hb1 hbq a4 a8 t4 t8 s4 hrw hrw1 hbw1 a0
    have hsz0 := hbw2.size
    have hrow : Rd (w2.alloc (.cells #[] 5)) (w2.alloc (.cells #[] 5)).heap.size (.slice (some ⟨b0, off, none⟩) 0 (c - (s + 12))) (([] : List UInt8).map bv) :=
      (srec.up hbw2).up (bwalloc (bwrefl w2) (.cells #[] 5))
    clear srec
    have hlen0 : ([] : List UInt8).length + ([] : List UInt8).length ≤ 140737488355328 := by simp
    go_wp2_with (first
     | (at_builtin; refine wpList_app rowsT rfl rfl (.tmp 60) (.tmp 64) rfl rfl hB2.om.out rfl hrd hone hl1 hl2 hsz ?_; intro v' w' ho hg h3; have HB := Lib.hid (hB2.push ho hg h3); clear ho hg h3 hrd hB2 hone)
     | (at_builtin; refine wpList_appB bytesT rfl (.tmp 61) (.tmp 62) rfl rfl (Ow.empty w2 (Nat.le_refl _) _) rfl hrow hlen0 (by simp) ?_; intro u w3 hu hg h3; have hbu := Ow.emptyG hg; rw [List.nil_append] at hu; have hB1 := Bld.of ho hbw2 hu hbu; obtain ⟨Au, cu, rfl, -, -⟩ := hB1.ro.rd.shapeM; have hone : One [Value.slice Au 0 cu] := one_one rfl; have hrd : Rd (w3.alloc (.cells #[.slice Au 0 cu] 22)) _ (.slice (some ⟨w3.heap.size, 0, none⟩) 1 1) [.slice Au 0 cu] := Rd.newW w3 22 #[.slice Au 0 cu] rfl (by simp [maxLen]) rfl; have hB2 := hB1.up (bwalloc (Below.refl _ _) (.cells #[.slice Au 0 cu] 22)); have hsz := hB2.bel.size; have hl1 : ((List.range k).map vs).length + [Value.slice Au 0 cu].length ≤ maxLen := (by simp [maxLen]; omega); have hl2 : (((List.range k).map vs).length + [Value.slice Au 0 cu].length) * 24 ≤ 140737488355328 := (by simp; omega); clear ho hg h3 hu hB1 hrow hlen0 hbu))
    go_roundw
    case rel => exact ⟨k + 1, s + 12, by omega, ⟨_, HB.out.1.congr fun i hi => by
     by_cases e : i = k
     ·subst e; rw [if_pos rfl, HE.out]
     ·rw [if_neg e]⟩, by go_num, HS2, HB.out.2⟩
    case measure => simp [intOf]; omega
   ·have srec : Rd w w.heap.size (.slice (some ⟨b0, off + (s + 12), none⟩) r.length (c - (s + 12))) (r.map bv) := by
     have := hr.midC (lo := s + 12) (hi := s + 12 + r.length) (by omega) (by omega) hcc
     rw [← List.map_take, ← List.map_drop, List.drop_take, ← List.drop_drop, ← ht, h12, Nat.add_sub_cancel_left, List.take_left] at this
     simpa using this
    have a0 := rat_ok _ b s _ _ hrw (by omega) hl
    rw [hnn] at a0
    have HT := Lib.hid (And.intro ht h12)
    clear ht h12 hnn hr
    go_wp2_with fail
    refine a0.mono ?_
    rintro e w1 ⟨rfl, hb1⟩
    have hrw1 := hrw.up hb1
    have hbw1 := bwstep hbw hb1
    have a4 := fun z : Nat => rat_okN _ b (s + 4) _ (w1.drewN z) (hrw1.below (bwN' w1 z)) (by omega) hl
    have a8 := fun z : Nat => rat_okN _ b (s + 8) _ (w1.drewN z) (hrw1.below (bwN' w1 z)) (by omega) hl
    rw [hn4, show ((s + 4 : Nat) : Int) = (s : Int) + 4 by omega] at a4
    rw [hn8, show ((s + 8 : Nat) : Int) = (s : Int) + 8 by omega] at a8
    have t4 := fun z : Nat => rsum_any _ (t.take 4) (w1.drewN z) _ ((s4.up hbw1).below (bwN' w1 z)) (by rw [List.length_take]; omega)
    have t8 := fun z : Nat => rsum_any _ r (w1.drewN z) _ ((srec.up hbw1).below (bwN' w1 z)) (by omega)
    clear hn4 hn8
    have hw4 := IntWalk.i64_in ((s : Int) + 4) (by omega)
    have hw8 := IntWalk.i64_in ((s : Int) + 8) (by omega)
    generalize vw (sum (t.take 4)) = y4 at *
    generalize vw (sum r) = y8 at *
    have hy4 := IntWalk.i64_in (y4 : Int) (by omega)
    have hy8 := IntWalk.i64_in (y8 : Int) (by omega)
    have hx4 : ((y4 : Int) != (y4 : Int)) = false := by simp
    have hx8 : ((y8 : Int) != (y8 : Int)) = false := by simp
    go_wp2_with fail
    go_quiet (first
     | (go_at_call 45; with_reducible exact Calls.quiet_of (a4 _))
     | (go_at_call 45; with_reducible exact Calls.quiet_of (a8 _))
     | (go_at_call 46; with_reducible exact (t4 _).mono fun _ _ ⟨h1, h2⟩ => ⟨h1, _, h2.symm⟩)
     | (go_at_call 46; with_reducible exact (t8 _).mono fun _ _ ⟨h1, h2⟩ => ⟨h1, _, h2.symm⟩))
    have hbq := bwstep hb1 (bwN nq)
    have hbw2 := bwstep hbw hbq
    have ho := ho.below hbq
    generalize hw2 : w1.drewN nq = w2 at *
    clear hw2 hb1 hbq a4 a8 t4 t8 s4 hrw hrw1 hbw1 a0
    have hsz0 := hbw2.size
    have hrow : Rd (w2.alloc (.cells #[] 5)) (w2.alloc (.cells #[] 5)).heap.size (.slice (some ⟨b0, off + (s + 12), none⟩) (s + 12 + r.length - (s + 12)) (c - (s + 12))) (r.map bv) := by
     rw [Nat.add_sub_cancel_left]
     exact (srec.up hbw2).up (bwalloc (bwrefl w2) (.cells #[] 5))
    clear srec
    have hlen0 : ([] : List UInt8).length + r.length ≤ 140737488355328 := by simp; omega
    go_wp2_with (first
     | (at_builtin; refine wpList_app rowsT rfl rfl (.tmp 60) (.tmp 64) rfl rfl hB2.om.out rfl hrd hone hl1 hl2 hsz ?_; intro v' w' ho hg h3; have HB := Lib.hid (hB2.push ho hg h3); clear ho hg h3 hrd hB2 hone)
     | (at_builtin; refine wpList_appB bytesT rfl (.tmp 61) (.tmp 62) rfl rfl (Ow.empty w2 (Nat.le_refl _) _) rfl hrow hlen0 (by simp) ?_; intro u w3 hu hg h3; have hbu := Ow.emptyG hg; rw [List.nil_append] at hu; have hB1 := Bld.of ho hbw2 hu hbu; obtain ⟨Au, cu, rfl, -, -⟩ := hB1.ro.rd.shapeM; have hone : One [Value.slice Au r.length cu] := one_one rfl; have hrd : Rd (w3.alloc (.cells #[.slice Au r.length cu] 22)) _ (.slice (some ⟨w3.heap.size, 0, none⟩) 1 1) [.slice Au r.length cu] := Rd.newW w3 22 #[.slice Au r.length cu] rfl (by simp [maxLen]) rfl; have hB2 := hB1.up (bwalloc (Below.refl _ _) (.cells #[.slice Au r.length cu] 22)); have hsz := hB2.bel.size; have hl1 : ((List.range k).map vs).length + [Value.slice Au r.length cu].length ≤ maxLen := (by simp [maxLen]; omega); have hl2 : (((List.range k).map vs).length + [Value.slice Au r.length cu].length) * 24 ≤ 140737488355328 := (by simp; omega); clear ho hg h3 hu hB1 hrow hlen0 hbu))
    go_roundw
    case rel => exact ⟨k + 1, s + 12 + r.length, by omega, ⟨_, HB.out.1.congr fun i hi => by
     by_cases e : i = k
     ·subst e; rw [if_pos rfl, HE.out]
     ·rw [if_neg e]⟩, by go_num, HS2, HB.out.2⟩
    case measure => simp [intOf]; omega
  ·obtain rfl : k = R.length := by omega
   have HF := Lib.hid (show s = (flat R).length by rw [HS.out, List.take_length])
   obtain rfl : t = m := by rw [htm, List.drop_length, flat_nil, List.nil_append]
   clear htm HS
   by_cases g4 : 4 ≤ t.length
   ·obtain ⟨b0, off, rfl, hb0, -⟩ := hr.cellM (by omega)
    obtain ⟨n, hn⟩ : ∃ n, n = numOf t := ⟨_, rfl⟩
    have hnn : numOf (b.drop s) = n := by rw [← ht, hn]
    unfold Whole at hno
    rw [← hn] at hno
    clear hn
    by_cases g2 : n ≤ 65535 ∧ s + 12 + n ≤ b.length
    ·obtain ⟨g2, g3⟩ := g2
     have s4 : Rd w w.heap.size (.slice (some ⟨b0, off + s, none⟩) 4 (c - s)) ((t.take 4).map bv) := by
      have := hr.midC (lo := s) (hi := s + 4) (by omega) (by omega) (by omega)
      rw [← List.map_take, ← List.map_drop, List.drop_take, ← ht] at this
      simpa using this
     obtain ⟨y4, hy4'⟩ : ∃ y, vw (sum (t.take 4)) = y := ⟨_, rfl⟩
     have hy4 : y4 ≤ 4294967295 := by rw [← hy4']; exact vw_le _
     obtain ⟨n4, hn4⟩ : ∃ y, numOf (b.drop (s + 4)) = y := ⟨_, rfl⟩
     have q4 : (b.drop (s + 4)).take 4 = (t.take 8).drop 4 := by rw [ht, ← List.drop_drop, List.drop_take]
     have l4 : ((t.take 8).drop 4).length = 4 := by rw [List.length_drop, List.length_take]; omega
     have m4 : numOf ((t.take 8).drop 4) = n4 := by rw [← q4, numOf_take4 _ (by rw [List.length_drop]; omega), hn4]
     by_cases e4 : n4 = y4
     ·have g5 : (t.take 8).drop 4 = sumB (t.take 4) := by
       rw [← numB_numOf _ l4, m4, e4, ← hy4']
       rfl
      obtain ⟨y8, hy8'⟩ : ∃ y, vw (sum ((t.drop 12).take n)) = y := ⟨_, rfl⟩
      have hy8 : y8 ≤ 4294967295 := by rw [← hy8']; exact vw_le _
      obtain ⟨n8, hn8⟩ : ∃ y, numOf (b.drop (s + 8)) = y := ⟨_, rfl⟩
      have q8 : (b.drop (s + 8)).take 4 = (t.take 12).drop 8 := by rw [ht, ← List.drop_drop, List.drop_take]
      have l8 : ((t.take 12).drop 8).length = 4 := by rw [List.length_drop, List.length_take]; omega
      have m8 : numOf ((t.take 12).drop 8) = n8 := by rw [← q8, numOf_take4 _ (by rw [List.length_drop]; omega), hn8]
      have e8 : n8 ≠ y8 := fun e8 => hno ⟨by omega, g2, by omega, g5, by
       rw [← numB_numOf _ l8, m8, e8, ← hy8']
       rfl⟩
      have x4 : ((n4 : Int) != (y4 : Int)) = false := by rw [e4]; simp
      have x8 : ((n8 : Int) != (y8 : Int)) = true := bne_iff_ne.2 (fun e => e8 (Int.ofNat.inj e))
      clear hno q4 l4 m4 q8 l8 m8 g5 e8 e4
      by_cases hcc : c = s + 12
      ·obtain rfl : n = 0 := by omega
       have hct := eq_true hcc
       have k1 : (0 : Int) ≤ (s : Int) + 4 ∧ (s : Int) + 4 ≤ (c : Int) := by omega
       have k2 : ((s : Int) + 4).toNat = s + 4 := by omega
       have k3 : ¬ c = s := by omega
       have hcl : c ≤ s + 12 := by omega
       clear hcc
       rw [List.take_zero] at hy8'
       have a0 := rat_ok _ b s _ _ hrw (by omega) hl
       rw [hnn] at a0
       go_wp2_with fail
       refine a0.mono ?_
       rintro e w1 ⟨rfl, hb1⟩
       have hrw1 := hrw.up hb1
       have hbw1 := bwstep hbw hb1
       have a4 := fun z : Nat => rat_okN _ b (s + 4) _ (w1.drewN z) (hrw1.below (bwN' w1 z)) (by omega) hl
       rw [hn4, show ((s + 4 : Nat) : Int) = (s : Int) + 4 by omega] at a4
       have t4 := fun z : Nat => rsum_any _ (t.take 4) (w1.drewN z) _ ((s4.up hbw1).below (bwN' w1 z)) (by rw [List.length_take]; omega)
       have a8 := fun z : Nat => rat_okN _ b (s + 8) _ (w1.drewN z) (hrw1.below (bwN' w1 z)) (by omega) hl
       rw [hn8, show ((s + 8 : Nat) : Int) = (s : Int) + 8 by omega] at a8
       have t8 := fun z : Nat => rsum_any (.slice (some ⟨b0, off, none⟩) 0 0) [] (w1.drewN z) w1.heap.size ⟨_, 0, rfl, Nat.zero_le _, by simp [maxLen], fun h => absurd h (by simp)⟩ (by simp)
       rw [hy4'] at t4
       rw [hy8'] at t8
       have hw4 := IntWalk.i64_in ((s : Int) + 4) (by omega)
       have hw8 := IntWalk.i64_in ((s : Int) + 8) (by omega)
       have hv4 := IntWalk.i64_in (y4 : Int) (by omega)
       have hv8 := IntWalk.i64_in (y8 : Int) (by omega)
       go_wp2_with fail
       go_quiet (first
        | (go_at_call 45; with_reducible exact Calls.quiet_of (a4 _))
        | (go_at_call 45; with_reducible exact Calls.quiet_of (a8 _))
        | (go_at_call 46; with_reducible exact (t4 _).mono fun _ _ ⟨h1, h2⟩ => ⟨h1, _, h2.symm⟩)
        | (go_at_call 46; with_reducible exact (t8 _).mono fun _ _ ⟨h1, h2⟩ => ⟨h1, _, h2.symm⟩))
       go_wp2_with fail
       go_ret2
       exact ⟨⟨_, vs, ret2 rfl (vi (by rw [HF.out])), ho.below (bwstep hb1 (bwN nq))⟩, bwstep hbw (bwstep hb1 (bwN nq))⟩
      ·have srec : Rd w w.heap.size (.slice (some ⟨b0, off + (s + 12), none⟩) n (c - (s + 12))) (((t.drop 12).take n).map bv) := by
        have := hr.midC (lo := s + 12) (hi := s + 12 + n) (by omega) (by omega) hcc
        rw [← List.map_take, ← List.map_drop, List.drop_take, ← List.drop_drop, ← ht, Nat.add_sub_cancel_left] at this
        simpa using this
       have a0 := rat_ok _ b s _ _ hrw (by omega) hl
       rw [hnn] at a0
       go_wp2_with fail
       refine a0.mono ?_
       rintro e w1 ⟨rfl, hb1⟩
       have hrw1 := hrw.up hb1
       have hbw1 := bwstep hbw hb1
       have a4 := fun z : Nat => rat_okN _ b (s + 4) _ (w1.drewN z) (hrw1.below (bwN' w1 z)) (by omega) hl
       rw [hn4, show ((s + 4 : Nat) : Int) = (s : Int) + 4 by omega] at a4
       have t4 := fun z : Nat => rsum_any _ (t.take 4) (w1.drewN z) _ ((s4.up hbw1).below (bwN' w1 z)) (by rw [List.length_take]; omega)
       have a8 := fun z : Nat => rat_okN _ b (s + 8) _ (w1.drewN z) (hrw1.below (bwN' w1 z)) (by omega) hl
       rw [hn8, show ((s + 8 : Nat) : Int) = (s : Int) + 8 by omega] at a8
       have t8 := fun z : Nat => rsum_any _ ((t.drop 12).take n) (w1.drewN z) _ ((srec.up hbw1).below (bwN' w1 z)) (by rw [List.length_take]; omega)
       rw [hy4'] at t4
       rw [hy8'] at t8
       have hw4 := IntWalk.i64_in ((s : Int) + 4) (by omega)
       have hw8 := IntWalk.i64_in ((s : Int) + 8) (by omega)
       have hv4 := IntWalk.i64_in (y4 : Int) (by omega)
       have hv8 := IntWalk.i64_in (y8 : Int) (by omega)
       go_wp2_with fail
       go_quiet (first
        | (go_at_call 45; with_reducible exact Calls.quiet_of (a4 _))
        | (go_at_call 45; with_reducible exact Calls.quiet_of (a8 _))
        | (go_at_call 46; with_reducible exact (t4 _).mono fun _ _ ⟨h1, h2⟩ => ⟨h1, _, h2.symm⟩)
        | (go_at_call 46; with_reducible exact (t8 _).mono fun _ _ ⟨h1, h2⟩ => ⟨h1, _, h2.symm⟩))
       go_wp2_with fail
       go_ret2
       exact ⟨⟨_, vs, ret2 rfl (vi (by rw [HF.out])), ho.below (bwstep hb1 (bwN nq))⟩, bwstep hbw (bwstep hb1 (bwN nq))⟩
     ·have x4 : ((n4 : Int) != (y4 : Int)) = true := bne_iff_ne.2 (fun e => e4 (Int.ofNat.inj e))
      clear hno q4 l4 m4 e4
      by_cases hcc : c = s + 12
      ·obtain rfl : n = 0 := by omega
       have hct := eq_true hcc
       have k1 : (0 : Int) ≤ (s : Int) + 4 ∧ (s : Int) + 4 ≤ (c : Int) := by omega
       have k2 : ((s : Int) + 4).toNat = s + 4 := by omega
       have k3 : ¬ c = s := by omega
       have hcl : c ≤ s + 12 := by omega
       clear hcc
       have a0 := rat_ok _ b s _ _ hrw (by omega) hl
       rw [hnn] at a0
       go_wp2_with fail
       refine a0.mono ?_
       rintro e w1 ⟨rfl, hb1⟩
       have hrw1 := hrw.up hb1
       have hbw1 := bwstep hbw hb1
       have a4 := fun z : Nat => rat_okN _ b (s + 4) _ (w1.drewN z) (hrw1.below (bwN' w1 z)) (by omega) hl
       rw [hn4, show ((s + 4 : Nat) : Int) = (s : Int) + 4 by omega] at a4
       have t4 := fun z : Nat => rsum_any _ (t.take 4) (w1.drewN z) _ ((s4.up hbw1).below (bwN' w1 z)) (by rw [List.length_take]; omega)
       rw [hy4'] at t4
       have hw4 := IntWalk.i64_in ((s : Int) + 4) (by omega)
       have hw8 := IntWalk.i64_in ((s : Int) + 8) (by omega)
       have hv4 := IntWalk.i64_in (y4 : Int) (by omega)
       go_wp2_with fail
       go_quiet (first
        | (go_at_call 45; with_reducible exact Calls.quiet_of (a4 _))
        | (go_at_call 46; with_reducible exact (t4 _).mono fun _ _ ⟨h1, h2⟩ => ⟨h1, _, h2.symm⟩))
       go_wp2_with fail
       go_ret2
       exact ⟨⟨_, vs, ret2 rfl (vi (by rw [HF.out])), ho.below (bwstep hb1 (bwN nq))⟩, bwstep hbw (bwstep hb1 (bwN nq))⟩
      ·have a0 := rat_ok _ b s _ _ hrw (by omega) hl
       rw [hnn] at a0
       go_wp2_with fail
       refine a0.mono ?_
       rintro e w1 ⟨rfl, hb1⟩
       have hrw1 := hrw.up hb1
       have hbw1 := bwstep hbw hb1
       have a4 := fun z : Nat => rat_okN _ b (s + 4) _ (w1.drewN z) (hrw1.below (bwN' w1 z)) (by omega) hl
       rw [hn4, show ((s + 4 : Nat) : Int) = (s : Int) + 4 by omega] at a4
       have t4 := fun z : Nat => rsum_any _ (t.take 4) (w1.drewN z) _ ((s4.up hbw1).below (bwN' w1 z)) (by rw [List.length_take]; omega)
       rw [hy4'] at t4
       have hw4 := IntWalk.i64_in ((s : Int) + 4) (by omega)
       have hw8 := IntWalk.i64_in ((s : Int) + 8) (by omega)
       have hv4 := IntWalk.i64_in (y4 : Int) (by omega)
       go_wp2_with fail
       go_quiet (first
        | (go_at_call 45; with_reducible exact Calls.quiet_of (a4 _))
        | (go_at_call 46; with_reducible exact (t4 _).mono fun _ _ ⟨h1, h2⟩ => ⟨h1, _, h2.symm⟩))
       go_wp2_with fail
       go_ret2
       exact ⟨⟨_, vs, ret2 rfl (vi (by rw [HF.out])), ho.below (bwstep hb1 (bwN nq))⟩, bwstep hbw (bwstep hb1 (bwN nq))⟩
    ·clear hno
     have a0 := rat_ok _ b s _ _ hrw (by omega) hl
     rw [hnn] at a0
     clear ht hnn
     by_cases g3 : n ≤ 65535
     ·have g2 : ¬ s + 12 + n ≤ b.length := fun h => g2 ⟨g3, h⟩
      go_wp2_with fail
      refine a0.mono ?_
      rintro e w1 ⟨rfl, hb1⟩
      go_wp2_with fail
      go_ret2
      exact ⟨⟨_, vs, ret2 rfl (vi (by rw [HF.out])), ho.below hb1⟩, bwstep hbw hb1⟩
     ·clear g2
      go_wp2_with fail
      refine a0.mono ?_
      rintro e w1 ⟨rfl, hb1⟩
      go_wp2_with fail
      go_ret2
      first
       | exact ⟨⟨_, vs, ret2 rfl (vi (by rw [HF.out])), ho.below hb1⟩, bwstep hbw hb1⟩
       | exact ⟨⟨_, ret2 rfl (vi (by rw [HF.out])), vs, ho.below hb1⟩, bwstep hbw hb1⟩
   ·have a0 := rat_no _ b s _ _ hrw (by omega) (by omega)
    clear ht
    go_wp2_with fail
    refine a0.mono ?_
    rintro e w1 ⟨rfl, rfl⟩
    go_wp2_with fail
    go_ret2
    exact ⟨⟨_, vs, ret2 rfl (vi (by rw [HF.out])), ho.below (bwrefl _)⟩, bwstep hbw (bwrefl _)⟩
end Go.Proofs.Ytaddbhdkgneiaaa
