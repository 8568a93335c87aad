/- A tree's level, made of cells; what Levels answers. A tree's level is merged into the next one: sink. A tree is flushed. -/
import Derived.Test.YtcpkhhbbjimdaaaGreatDoorTreA
import Derived.Test.YtcpkhhbbjimdaaaGreatDoorTabE
import Derived.Test.YtcpkhhbbjimdaaaGreatDoorTreB
import Derived.Test.YtcpkhhbbjimdaaaGreatDoorMgC
set_option maxHeartbeats 8000000
set_option maxRecDepth 100000
namespace Go.Proofs.YtcpkhhbbjimdaaaGreatDoor.Ce
open Go.RowKit
variable {H : Hos}
theorem tab_small {S : List Cl} {size : Int} (hs : Sorted S) (hf : FitsK S) (h1 : 1 ≤ size) : (flatC S).length ≤ 50000 ∧ (tabB S (cutB size S)).length ≤ 60000 := by
 rcases hf.o with h | h
 ·exact tab_few3 hs h h1
 ·have e := szs_flatC S
  have hl : (flatC S).length ≤ 10000 := by omega
  have hrow : ∀ M ∈ cutB size S, Sorted M ∧ M ≠ [] := fun M hM => by
   obtain ⟨j, hj⟩ := List.getElem?_of_mem hM
   exact ⟨cutB_sorted hs hj, (cutB_ok h1 hj).ne⟩
  have hb := blocks_le fun M hM => (hrow M hM).2
  have he := entries_flat (cutB size S) 0 fun M hM => (hrow M hM).2
  have hfl := flatB_len (cutB size S)
  rw [cutB_flat] at hb he hfl
  have hg := flatC_ge hs.ok
  have hft := filt_len S
  have hfo := foot_len S (cutB size S)
  refine ⟨by omega, ?_⟩
  unfold tabB
  rw [List.length_append, List.length_append, Frm.frm_len, numB_len]
  omega
theorem TblV.less {w : World} {n0 n1 b n : Nat} {S : List Cl} (h : TblV w n0 b S n) (hn : n1 ≤ n0) : TblV w n1 b S n := by
 obtain ⟨⟨vc, fb, fn, fc, h1, h2, h3, h4, h5⟩, hg⟩ := h
 exact ⟨⟨vc, fb, fn, fc, h1, h2.mono hn, Nat.le_trans hn h3, h4, h5⟩, Nat.le_trans hn hg⟩
def lvl (C : List Cl) : List (List Cl) := if C = [] then [] else [C]
def LvN (w w' : World) (y : Value) (ps : List Nat) (T : List (List Cl)) : Prop := ps.length = T.length ∧ ∃ wm : World, w.heap.size ≤ wm.heap.size ∧ Below wm.heap.size wm w' ∧ (∀ k, y.ownBlock = some k → wm.heap.size ≤ k) ∧ ∀ (j p : Nat) (C : List Cl), ps[j]? = some p → T[j]? = some C → ∃ n, TblV wm w.heap.size p C n
theorem tlevel_any (b : Nat) (s : Sf) (x : Value) (C : List Cl) (w : World) (hx : RdL w [] x C) (hS : Srt C) (hok : ∀ c ∈ C, c.ok) (hf : FitsK C) (hs : s.right) (hc : w.cell? ⟨b, 1, none⟩ = some (.int .i64 s.block)) :
  Calls Tryz.prog 88 #[.pointer (some ⟨b, 0, none⟩), x] w fun e w' => (∃ y ps, e = .returned y ∧ Ow w' w.heap.size 111 y (ps.map tpv) ∧ LvN w w' y ps (lvl C)) ∧ Below w.heap.size w w' := by
 obtain ⟨A, c, rfl, hcl, hcm⟩ := hx.shape
 by_cases hC : C = []
 ·subst hC
  go_enter Tryz.func88, Tryz.ntmps88
  go_wp2_with fail
  go_ret
  exact ⟨⟨_, [], rfl, Ow.nil _ _ _, by simp [lvl], w, Nat.le_refl _, Below.refl _ _, fun k hk => (by cases hk), fun j p C h => by simp at h⟩, Below.refl _ _⟩
 ·have hso : Sorted C := sorted_iff.2 ⟨hok, hS⟩
  obtain ⟨hf1, hf2⟩ := tab_small hso hf hs.b1
  obtain ⟨htab, -, -⟩ := tab_fit hso hf1 hs.b1
  have hbu := tb_ok (.slice A C.length c) C s.block w hx hso hs.b1 hf1
  have HLV : Hid (lvl C = [C]) := Lib.hid (by unfold lvl; rw [if_neg hC])
  have hcp : ¬ (C.length : Int) = 0 := by
   have := List.length_pos_iff.2 hC
   omega
  have HTAB := Lib.hid htab
  generalize tabB C (cutB s.block C) = TT at *
  generalize cutB s.block C = LL at *
  have HBU := Lib.hid hbu
  have HF2 := Lib.hid hf2
  have HF1 := Lib.hid hf1
  clear htab hf1 hso hS hok hf hC hbu hx hcl hf2
  go_enter Tryz.func88, Tryz.ntmps88
  go_wp2_with fail
  refine HBU.out.mono ?_
  rintro e w1 ⟨⟨v1, rfl, hv1⟩, hb1⟩
  have HV1 := Lib.hid hv1
  have HB1 := Lib.hid hb1
  clear hv1 hb1 HBU hc
  go_wp2_with fail
  refine (open_fit v1 TT _ _ HV1.out.rd (Nat.le_refl _) HF2.out (.inr ⟨_, _, HTAB.out, HF1.out⟩)).mono ?_
  rintro e w2 ⟨(⟨S', LL', b0, hTA, rfl, htb⟩ | ⟨hno, rfl⟩), hb2⟩
  ·obtain ⟨rfl, rfl⟩ := hTA.one HTAB.out
   have HTB := Lib.hid htb
   have HB2 := Lib.hid (bwstep HB1.out hb2)
   have HS1 := Lib.hid HB1.out.size
   clear hTA htb hb2 HTAB HB1 HV1
   go_wp2_with fail
   go_ret
   refine ⟨⟨_, [b0], rfl, Ow.new w2 #[.pointer (some ⟨b0, 0, none⟩)] rfl (by simp [maxLen]) rfl HB2.out.size, by rw [HLV.out]; rfl, w2, HB2.out.size, bwalloc (bwrefl w2) _, fun k hk => ?_, fun j p C' hp hC' => ?_⟩, bwalloc HB2.out _⟩
   ·have hk : w2.heap.size = k := by simpa [Value.ownBlock] using hk
    omega
   rw [HLV.out] at hC'
   match j, hp, hC' with
   | 0, hp, hC' =>
    injection hp with hp
    injection hC' with hC'
    subst hp hC'
    exact ⟨_, HTB.out.less HS1.out⟩
   | j + 1, hp, _ => simp at hp
  ·exact absurd ⟨_, _, HTAB.out⟩ hno
end Go.Proofs.YtcpkhhbbjimdaaaGreatDoor.Ce
namespace Go.Proofs.YtcpkhhbbjimdaaaGreatDoor.Ce
open Go.RowKit
variable {H : Hos}
theorem LvN.lev {w w' : World} {S : List Nat} {y : Value} {ps : List Nat} {T : List (List Cl)} (h : LvN w w' y ps T) (ho : Ow w' w.heap.size 111 y (ps.map tpv)) (hS : ∀ k ∈ S, k < w.heap.size) : Lev w' S y T :=
 ⟨ps, RdS.of_own ho hS, h.1, fun j p C hp hC => by obtain ⟨wm, -, hb, -, hm⟩ := h.2; obtain ⟨n, hn⟩ := hm j p C hp hC; exact Tb.of (hn.up hb) hS⟩
theorem RdV.none {w : World} {S : List Nat} {v : Value} {X : List (List (List Cl))} (h : RdV w S v X) : RdV w [] v X := by
 obtain ⟨us, h1, h2⟩ := h
 exact ⟨us, h1, h2.keep (Kp.refl [] w) (by simp) (by simp)⟩
theorem tsink_any {w : World} {S : List Nat} {b : Nat} {s : Sf} {L : List Cl} {X : List (List (List Cl))} {n : Int} {v lv : Value} {T U : List (List Cl)} (h : TrS H w S b s L X n v lv) (hX : X.length ≤ 2) (hX1 : X ++ List.replicate (2 - X.length) [] = [T, U]) (hs : s.right) (hTU : (T ++ U).length ≤ 1000000)
  (hsx : ∀ C ∈ T ++ U, Srt C) (hlx : ∀ C ∈ T ++ U, C.length ≤ 1000000) (hfl : (T ++ U).flatten.length ≤ 1000000) (hok : ∀ c ∈ allP (T ++ U), c.ok) (hf : FitsK (allP (T ++ U))) (hne : allP (T ++ U) ≠ []) :
  Calls Tryz.prog 89 #[.pointer (some ⟨b, 0, none⟩), .int .i64 0] w fun e w' => (∃ u, e = .returned u) ∧ Mut H w S (ownT b v lv) b s L [[], [allP (T ++ U)]] n w' := by
 have hgr := tgrow_any h 2 (by omega) (by omega)
 rw [hX1] at hgr
 have HGR := Lib.hid hgr
 have HSA := Lib.hid (srt_all (T ++ U))
 have HLV : Hid (lvl (allP (T ++ U)) = [allP (T ++ U)]) := Lib.hid (by unfold lvl; rw [if_neg hne])
 have hflat : [T, U].flatten = T ++ U := by simp
 have hT1 : T.length ≤ 1000000 ∧ U.length ≤ 1000000 := by rw [List.length_append] at hTU; omega
 have HLS : Hid (∀ (W : World) (x : Value), RdV W [] x [T, U] → Calls Tryz.prog 46 #[x] W fun e w' => (∃ x vs, e = .returned x ∧ OwB w' W.heap.size x vs (T ++ U)) ∧ Below W.heap.size W w') := Lib.hid fun W x hx => by
  have := lists_any x [T, U] W hx (by simp) (fun A hA => by
   simp only [List.mem_cons, List.not_mem_nil, or_false] at hA
   rcases hA with rfl | rfl
   ·exact hT1.1
   ·exact hT1.2) (by rw [hflat]; exact hTU) (by rw [hflat]; exact hlx)
  rwa [hflat] at this
 have HAL : Hid (∀ (W : World) (x : Value), RdB W x (T ++ U) → Calls Tryz.prog 44 #[x] W fun e w' => (∃ x, e = .returned x ∧ OwL w' W.heap.size x (allP (T ++ U))) ∧ Below W.heap.size W w') := Lib.hid fun W x hx => all_any x (T ++ U) W hx hsx hfl hTU
 have HLE : Hid (∀ (W : World) (x : Value), RdL W [] x (allP (T ++ U)) → W.cell? ⟨b, 1, none⟩ = some (.int .i64 s.block) → Calls Tryz.prog 88 #[.pointer (some ⟨b, 0, none⟩), x] W fun e w' => (∃ y ps, e = .returned y ∧ Ow w' W.heap.size 111 y (ps.map tpv) ∧ LvN W w' y ps [allP (T ++ U)]) ∧ Below W.heap.size W w') := Lib.hid fun W x hx hc => by
  have := tlevel_any b s x (allP (T ++ U)) W hx HSA.out hok hf hs hc
  rwa [HLV.out] at this
 clear hgr h hX hX1 hs hTU hsx hlx hfl hok hf hne hT1 hflat
 generalize allP (T ++ U) = C at *
 generalize T ++ U = TU at HLS HAL
 obtain ⟨M, hM⟩ : ∃ M, M = ownT b v lv := ⟨_, rfl⟩
 rw [← hM] at HGR ⊢
 clear hM
 go_enter Tryz.func89, Tryz.ntmps89
 go_wp2_with fail
 refine HGR.out.mono ?_
 rintro e w1 ⟨⟨u, rfl⟩, hM1⟩
 obtain ⟨v1, lv1, h1, k1, o1⟩ := hM1
 have HT1 := Lib.hid h1
 have HK1 := Lib.hid k1
 have HO1 := Lib.hid o1
 obtain ⟨A, c, rfl, hc, hcm⟩ := h1.rdv.shape
 have h2l : ([T, U] : List (List (List Cl))).length = 2 := rfl
 have HRW := Lib.hid (h1.rdv)
 rw [h2l] at hc HRW
 have hi0 : 2 ≤ c := hc
 obtain ⟨g, off, rfl, hgb, -⟩ := h1.rdv.at_ (by simp)
 rw [h2l] at h1 HT1 HO1
 obtain rfl : off = 0 := by
  obtain ⟨us, ho, -⟩ := h1.o
  rcases ho.2 with ⟨q, -⟩ | ⟨g', cap, cur, q, -⟩
  ·cases q
  ·injection q with q _ _
   injection q with q
   injection q
 have HGB : Hid (g ≠ b) := Lib.hid fun e => HT1.out.nb (by rw [e]; rfl)
 have HC : Hid (∀ z, Below w1.heap.size w1 z → z.cell? ⟨b, 5, none⟩ = some (.slice (some ⟨g, 0, none⟩) 2 c) ∧ Below w1.heap.size w1 z) := Lib.hid fun z hz => ⟨(HT1.out.up hz).c5, hz⟩
 have hd := (Below.refl w1.heap.size w1).drew
 have HT := Lib.hid (HC.out _ hd)
 have hi1 : (2 : Int) ≤ (c : Int) := by omega
 have hi2 : (0 : Int) ≤ (c : Int) := by omega
 have hi3 : ¬ c = 0 := by omega
 have hw1 : IntKind.i64.wrap 1 = 1 := by decide
 have hw2 : IntKind.i64.wrap 2 = 2 := by decide
 have hrv := (h1.rdv.none.up hd)
 unfold maxLen at hcm
 have HRV := Lib.hid hrv
 clear h1 k1 o1 HGR hrv
 go_wp2_with fail
 go_region_held3 (fun z => z.cell? ⟨b, 5, none⟩ = some (.slice (some ⟨g, 0, none⟩) 2 c)) (first | with_reducible exact HT.out.1 | with_reducible exact hE5 | with_reducible exact (HC.out _ hB2).1 | with_reducible exact (HC.out _ hB3).1 | with_reducible exact (HC.out _ hB4).1)
  (first
   | (go_at_call 46; (with_reducible refine (HLS.out _ _ HRV.out).mono ?_); rintro e w2 ⟨⟨x2, vs2, rfl, hx2⟩, hb2⟩; have hB2 := bwstep hd hb2; have HX2 := Lib.hid hx2.rd; clear hx2 hb2)
   | (go_at_call 44; (with_reducible refine (HAL.out _ _ HX2.out).mono ?_); rintro e w3 ⟨⟨x3, rfl, hx3⟩, hb3⟩; have hB3 := bwstep hB2 hb3; have HX3 := Lib.hid (hx3.rd (S := []) (fun _ h => by cases h)); clear hx3 hb3)
   | (go_at_call 88; (with_reducible refine (HLE.out _ _ HX3.out (HT1.out.up hB3).c1).mono ?_); rintro e w4 ⟨⟨y, ps, rfl, ho4, hn4⟩, hb4⟩; have hB4 := bwstep hB3 hb4; obtain ⟨g4, x4, hg4, c4, f4, hM4⟩ := HT1.out.setAt (j := 1) hB4 (by simp) (hn4.lev ho4 fun k hk => Nat.lt_of_lt_of_le (HT1.out.slt k hk) hB3.size); (obtain rfl : g = g4 := by simpa using hg4); have HM4 := Lib.hid hM4; obtain ⟨Ay, cy, rfl, -, -⟩ := ho4.rd.shapeM; have hE5 := (World.cell?_setCell_far w4 ⟨g, 1, none⟩ ⟨b, 5, none⟩ (.slice Ay ps.length cy) HGB.out).trans (HC.out _ hB4).1; clear ho4 hn4 hb4 hM4 hg4))
 all_goals
  have HM5 := Lib.hid (Mut.then HK1.out HO1.out HM4.out)
  generalize w4.setCell ⟨g, 1, none⟩ (.slice Ay ps.length cy) = w5 at *
  obtain ⟨v5, lv5, h5, k5, o5⟩ := HM5.out
  obtain rfl : lv5 = .slice (some ⟨g, 0, none⟩) 2 c := Option.some.inj (h5.c5.symm.trans hE5)
  obtain ⟨g5, x5, hg5, q5, f5, hM6⟩ := h5.setAt (j := 0) (bwrefl w5) (by simp) (Lev.nil w5 _)
  obtain rfl : g = g5 := by simpa using hg5
  have HM6 := Lib.hid (Mut.then k5 o5 hM6)
  have c5 := hE5
  clear h5 k5 o5 hM6 hE5 hg5 HM5 HM4 HX2 HX3 hB2 hB3 hB4 c4 f4
  go_wp2_with fail
  go_end0
  exact ⟨⟨_, rfl⟩, HM6.out⟩
end Go.Proofs.YtcpkhhbbjimdaaaGreatDoor.Ce
namespace Go.Proofs.YtcpkhhbbjimdaaaGreatDoor.Ce
open Go.RowKit
variable {H : Hos}
theorem LvN.app {w w2 w3 w4 : World} {S : List Nat} {y y2 : Value} {ps : List Nat} {C : List Cl} {T : List (List Cl)} (hS : ∀ k ∈ S, k < w.heap.size) (hb : Below w.heap.size w w2) (hn : LvN w2 w3 y ps [C]) (hb3 : Below w2.heap.size w2 w3) (ho : Ow w3 w2.heap.size 111 y (ps.map tpv)) (hg : w3.grownBy w4 y.ownBlock)
  (qs : List Nat) (hql : qs.length = T.length) (hqt : ∀ (j p : Nat) (C : List Cl), qs[j]? = some p → T[j]? = some C → Tb w S p C) (ho4 : Ow w4 w2.heap.size 111 y2 (ps.map tpv ++ qs.map tpv)) :
  Lev w4 S y2 (C :: T) := by
 obtain ⟨hl, wm, hm1, hm2, hm3, hm4⟩ := hn
 have hsz := hb.size
 have hsz3 := hb3.size
 have hown : ∀ k, y.ownBlock = some k → w2.heap.size ≤ k := fun k hk => (ho.lt k hk).1
 have hb4 : Below w.heap.size w w4 := (bwstep hb hb3).grown hg (by omega) fun k hk => Nat.le_trans hsz (hown k hk)
 have hm5 : Below wm.heap.size wm w4 := hm2.grown hg hm2.size hm3
 refine ⟨ps ++ qs, ?_, by rw [List.length_append, hl, hql]; simp; omega, fun j p A hp hA => ?_⟩
 ·rw [List.map_append]
  exact RdS.of_own ho4 fun k hk => by have := hS k hk; omega
 ·have hl1 : ps.length = 1 := hl
  by_cases hj : j < ps.length
  ·rw [List.getElem?_append_left hj] at hp
   obtain rfl : j = 0 := by omega
   obtain rfl : C = A := by simpa using hA
   obtain ⟨n, hn⟩ := hm4 0 p C hp rfl
   exact Tb.of (hn.up hm5) fun k hk => by have := hS k hk; omega
  ·rw [List.getElem?_append_right (by omega)] at hp
   obtain ⟨i, rfl⟩ : ∃ i, j = i + 1 := ⟨j - 1, by omega⟩
   rw [show i + 1 - ps.length = i by omega] at hp
   exact (hqt i p A hp (by simpa using hA)).keep (Kp.of_below hb4 []) (by simp) fun _ h => .inl h
theorem flush_over {s : Sf} {L K : List Cl} {X Y Z : List (List (List Cl))} {k : Nat} {T : List (List Cl)} (h : FL s L X K) (hZ : Z = casc s.fan.toNat (first0 L X).length (first0 L X)) (hY : (k = 0 ∧ Y = first0 L X) ∨ (1 ≤ k ∧ Y = Z)) (hT : Y[k]? = some T) (hm : T ∈ Y) (ho : s.fan < (T.length : Int)) :
  k = 0 ∧ ∃ R, Y = T :: R ∧ Over s T R ∧ Z = [[], [allP (T ++ R.flatten)]] := by
 obtain ⟨f1, f2, f3⟩ := h.fan
 rcases hY with ⟨rfl, hY⟩ | ⟨-, hY⟩
 ·refine ⟨rfl, ?_⟩
  cases Y with
  | nil => cases hm
  | cons A R =>
   obtain rfl : A = T := by simpa using hT
   have hlt : s.fan.toNat < A.length := by omega
   refine ⟨R, rfl, h.over hY.symm hlt, ?_⟩
   rw [hZ, h.casced hY.symm, if_pos hlt]
 ·have := (h.rest).1 T (by rw [← hZ, ← hY]; exact hm)
  omega
theorem flush_under {s : Sf} {L K : List Cl} {X Y Z : List (List (List Cl))} {k : Nat} {T : List (List Cl)} (h : FL s L X K) (hZ : Z = casc s.fan.toNat (first0 L X).length (first0 L X)) (hY : (k = 0 ∧ Y = first0 L X) ∨ (1 ≤ k ∧ Y = Z)) (hT : Y[k]? = some T) (ho : ¬ s.fan < (T.length : Int)) : Y = Z ∧ k < 2 := by
 obtain ⟨f1, f2, f3⟩ := h.fan
 have hkl := (List.getElem?_eq_some_iff.1 hT).1
 rcases hY with ⟨rfl, hY⟩ | ⟨-, hY⟩
 ·refine ⟨?_, by omega⟩
  cases Y with
  | nil => cases hT
  | cons A R =>
   obtain rfl : A = T := by simpa using hT
   rw [hZ, h.casced hY.symm, if_neg (by omega)]
 ·have := (h.rest).2
  rw [← hZ, ← hY] at this
  exact ⟨hY, by omega⟩
theorem flush_end {s : Sf} {L : List Cl} {X Y Z : List (List (List Cl))} {k : Nat} (hZ : Z = casc s.fan.toNat (first0 L X).length (first0 L X)) (hY : (k = 0 ∧ Y = first0 L X) ∨ (1 ≤ k ∧ Y = Z)) (hk : Y.length ≤ k) : Y = Z := by
 rcases hY with ⟨rfl, hY⟩ | ⟨-, hY⟩
 ·have : Y = [] := List.eq_nil_of_length_eq_zero (by omega)
  subst this
  rw [hZ, ← hY]
  rfl
 ·exact hY
theorem first0_grown {L : List Cl} (hL : L ≠ []) (X : List (List (List Cl))) : ∃ T R, X ++ List.replicate (1 - X.length) [] = T :: R ∧ first0 L X = (L :: T) :: R := by
 unfold first0
 rw [if_neg hL]
 cases X with
 | nil => exact ⟨[], [], rfl, rfl⟩
 | cons T R => exact ⟨T, R, by simp, rfl⟩
theorem tflush_any {w : World} {S : List Nat} {b : Nat} {s : Sf} {L K : List Cl} {X : List (List (List Cl))} {n : Int} {v lv : Value} (h : TrS H w S b s L X n v lv) (hF : FL s L X K) :
  Calls Tryz.prog 72 #[.pointer (some ⟨b, 0, none⟩)] w fun e w' => (∃ u, e = .returned u) ∧ Mut H w S (ownT b v lv) b s [] (casc s.fan.toNat (first0 L X).length (first0 L X)) n w' := by
 obtain ⟨Z, hZ⟩ : ∃ Z, Z = casc s.fan.toNat (first0 L X).length (first0 L X) := ⟨_, rfl⟩
 rw [← hZ]
 have HZZ := Lib.hid hZ
 have HFL := Lib.hid hF
 have HRS := Lib.hid hF.r
 have HW := Lib.hid h
 have H0 := Lib.hid (h.mut (Below.refl _ _))
 obtain ⟨M, hM⟩ : ∃ M, M = ownT b v lv := ⟨_, rfl⟩
 rw [← hM] at H0 ⊢
 have HMM := Lib.hid hM
 have hlen := mlenT_any b v L w h.m
 clear hZ hF hM h
 by_cases hL : L = []
 ·have HMX : Hid (Mut H w S M b s [] (first0 L X) n w) := Lib.hid (by have h1 := H0.out; rw [hL] at h1; rw [hL]; exact h1)
  have h0 : (L.length : Int) = 0 := by rw [hL]; rfl
  rw [h0] at hlen
  clear hL h0
  go_enter Tryz.func72, Tryz.ntmps72
  go_wp2_with fail
  refine hlen.mono ?_
  rintro e w1 ⟨rfl, rfl⟩
  clear hlen
  go_wp2_with fail
  go_loopw [2] (fun i wr => ∃ (k : Nat) (Y : List (List (List Cl))), k ≤ 2 ∧ i = .int .i64 (k : Int) ∧ Hid (Mut H w S M b s [] Y n wr) ∧ Hid ((k = 0 ∧ Y = first0 L X) ∨ (1 ≤ k ∧ Y = Z))) (fun i _ => 3 - (intOf i).toNat)
  case atStart => exact ⟨0, first0 L X, by omega, rfl, HMX, Lib.hid (.inl ⟨rfl, rfl⟩)⟩
  case round =>
   obtain ⟨k, Y, hk, rfl, HM, HY⟩ := hrel
   obtain ⟨wo, hwo⟩ : ∃ wo, wo = wr := ⟨_, rfl⟩
   subst hwo
   obtain ⟨v1, lv1, h1, k1, o1⟩ := HM.out
   have HT1 := Lib.hid h1
   have HK1 := Lib.hid k1
   have HO1 := Lib.hid o1
   have HSK : Hid (∀ T R (z : World), Y = T :: R → Over s T R → Below wo.heap.size wo z → Calls Tryz.prog 89 #[.pointer (some ⟨b, 0, none⟩), .int .i64 0] z fun e w' => (∃ u, e = .returned u) ∧ Mut H z (ownT b v1 lv1 ++ S) (ownT b v1 lv1) b s [] [[], [allP (T ++ R.flatten)]] n w') := Lib.hid fun T R z hYR hO hz => by
    subst hYR
    exact tsink_any (h1.up hz) hO.r1 hO.rx HRS.out hO.n hO.sx hO.lx hO.fl hO.ok hO.f hO.ne
   obtain ⟨A, c, rfl, hc, hcm⟩ := h1.rdv.shape
   unfold maxLen at hcm
   have c5 := h1.c5
   have c2 := h1.c2
   have hh3 : (0 : Int) ≤ (k : Int) := by omega
   by_cases hlt : k < Y.length
   ·obtain ⟨g, off, rfl, hgb, hat⟩ := h1.rdv.at_ (by omega)
    have hfk : Y[k]? = some (Y[k]'hlt) := List.getElem?_eq_getElem _
    have HMEM := Lib.hid (List.mem_of_getElem? hfk)
    obtain ⟨u, hu, hL⟩ := hat k _ hfk
    obtain ⟨Au, cu, rfl, hcu, hmu⟩ := hL.shape
    unfold maxLen at hmu
    have HFK := Lib.hid hfk
    generalize Y[k]'hlt = T at *
    have hh4 : (k : Int) < (Y.length : Int) := by omega
    clear h1 k1 o1 hat hL hfk hlt
    by_cases hov : s.fan < (T.length : Int)
    ·have HZ : Hid (k = 0 ∧ ∃ R, Y = T :: R ∧ Over s T R ∧ Z = [[], [allP (T ++ R.flatten)]]) := Lib.hid (flush_over HFL.out HZZ.out HY.out HFK.out HMEM.out hov)
     obtain ⟨hk0, R, hYR, hO, hZ⟩ := HZ.out
     have HSK := Lib.hid (fun z => HSK.out T R z hYR hO)
     have HZE := Lib.hid hZ
     subst hk0
     rw [Nat.add_zero] at hu
     clear hO hZ HZ hYR
     go_wp2_with fail
     go_quiet (fail)
     go_wp2_with fail
     have hbn := bwN (w := wo) nq
     refine (HSK.out _ hbn).mono ?_
     rintro e w2 ⟨⟨u, rfl⟩, hM2⟩
     have HM2 := Lib.hid (Mut.then (HK1.out.bel hbn) HO1.out hM2)
     rw [← HZE.out] at HM2
     clear hM2 c5 c2 hu HSK hbn
     go_wp2_with fail
     go_roundw
     case rel => exact ⟨1, Z, by omega, by go_num, HM2, Lib.hid (.inr ⟨by omega, rfl⟩)⟩
     case measure => simp [intOf]
    ·have HZ : Hid (Y = Z ∧ k < 2) := Lib.hid (flush_under HFL.out HZZ.out HY.out HFK.out hov)
     go_wp2_with fail
     go_quiet (fail)
     go_wp2_with fail
     go_roundw
     case rel => exact ⟨k + 1, Y, by have := HZ.out.2; omega, by go_num, Lib.hid (Mut.up HM.out (by exact bwN _)), Lib.hid (.inr ⟨by omega, HZ.out.1⟩)⟩
     case measure => simp [intOf]; omega
   ·have HZ : Hid (Y = Z) := Lib.hid (flush_end HZZ.out HY.out (by omega))
    go_wp2_with fail
    go_end0
    rw [← HZ.out]
    exact ⟨⟨_, rfl⟩, HM.out⟩
 ·obtain ⟨T, R, hX1, hX0⟩ := first0_grown hL X
  have HX0 := Lib.hid hX0
  have h0 : (0 : Int) < (L.length : Int) := by have := List.length_pos_iff.2 hL; omega
  have HL1 : Hid (lvl L = [L]) := Lib.hid (by unfold lvl; rw [if_neg hL])
  have hgr := tgrow_any HW.out 1 (by omega) (by have := HFL.out.w.n; omega)
  rw [hX1, ← HMM.out] at hgr
  have HGR := Lib.hid hgr
  have hLf := HFL.out.f.sub HFL.out.ok.mem HFL.out.i.m
  have HCE : Hid (∀ (W : World) (v1 lv1 : Value) (S1 : List Nat) (Y : List (List (List Cl))), TrS H W S1 b s L Y n v1 lv1 → Calls Tryz.prog 45 #[.pointer (some ⟨b, 3, none⟩)] W fun e w' => (∃ x, e = .returned x ∧ OwL w' W.heap.size x L) ∧ Below W.heap.size W w') := Lib.hid fun W v1 lv1 S1 Y hW => mcellsT_any b v1 L W hW.m (Nat.le_trans hLf.n (by omega))
  have HLE : Hid (∀ (W : World) (x : Value), RdL W [] x L → W.cell? ⟨b, 1, none⟩ = some (.int .i64 s.block) → Calls Tryz.prog 88 #[.pointer (some ⟨b, 0, none⟩), x] W fun e w' => (∃ y ps, e = .returned y ∧ Ow w' W.heap.size 111 y (ps.map tpv) ∧ LvN W w' y ps [L]) ∧ Below W.heap.size W w') := Lib.hid fun W x hx hc => by
   have := tlevel_any b s x L W hx HFL.out.ok.mem HFL.out.ok.okm hLf HRS.out hc
   rwa [HL1.out] at this
  have hTl : T.length ≤ 1000 := by
   have h1 := (first0_few (M := L) HFL.out.w).2.1 (L :: T) R hX0
   have h2 := HFL.out.fan.2.1
   rw [List.length_cons] at h1
   omega
  clear hgr hLf hX1 hX0 hL H0
  go_enter Tryz.func72, Tryz.ntmps72
  go_wp2_with fail
  refine hlen.mono ?_
  rintro e w0 ⟨rfl, rfl⟩
  clear hlen
  go_wp2_with fail
  refine HGR.out.mono ?_
  rintro e w1 ⟨⟨u, rfl⟩, hM1⟩
  obtain ⟨v1, lv1, h1, k1, o1⟩ := hM1
  have HT1 := Lib.hid h1
  have HK1 := Lib.hid k1
  have HO1 := Lib.hid o1
  obtain ⟨A, c, rfl, hc, hcm⟩ := h1.rdv.shape
  unfold maxLen at hcm
  rw [List.length_cons] at hc h1 HT1 HO1
  obtain ⟨g, off, rfl, hgb, hat⟩ := h1.rdv.at_ (by simp)
  obtain rfl : off = 0 := by
   obtain ⟨us, ho, -⟩ := h1.o
   rcases ho.2 with ⟨q, -⟩ | ⟨g', cap, cur, q, -⟩
   ·cases q
   ·injection q with q _ _
    injection q with q
    injection q
  obtain ⟨u0, hu0, hL0⟩ := hat 0 T rfl
  obtain ⟨A0, c0, rfl, hc0, hm0⟩ := hL0.shape
  unfold maxLen at hm0
  have HL0 := Lib.hid hL0
  obtain ⟨qs, hq1, hq2, hq3⟩ := hL0
  have HQ1 := Lib.hid hq1
  have HQ2 := Lib.hid hq2
  have HQ3 := Lib.hid hq3
  have HGB : Hid (g ≠ b) := Lib.hid fun e => HT1.out.nb (by rw [e]; rfl)
  have HC : Hid (∀ z, Below w1.heap.size w1 z → z.cell? ⟨b, 5, none⟩ = some (.slice (some ⟨g, 0, none⟩) (R.length + 1) c)) := Lib.hid fun z hz => (HT1.out.up hz).c5
  have HG0 : Hid (∀ z, Below w1.heap.size w1 z → z.cell? ⟨g, 0, none⟩ = some (.slice A0 T.length c0)) := Lib.hid fun z hz => (hz.cell (p := ⟨g, 0, none⟩) hgb).trans hu0
  have hd := (Below.refl w1.heap.size w1).drew
  have e0 := HG0.out _ (Below.refl _ _)
  have HT := Lib.hid (HC.out _ hd)
  have hi1 : (0 : Int) < (R.length : Int) + 1 := by omega
  have HTL := Lib.hid hTl
  clear h1 k1 o1 HGR hu0 hat hq1 hq2 hq3 hTl
  have d5 : w1.cell? ⟨b, 5, none⟩ = some (.slice (some ⟨g, 0, none⟩) (R.length + 1) c) := HC.out _ (Below.refl _ _)
  have d5' : w1.drew.cell? ⟨b, 5, none⟩ = some (.slice (some ⟨g, 0, none⟩) (R.length + 1) c) := HC.out _ hd
  have e0' := HG0.out _ hd
  go_upto_region 2 with fail
  go_cut [] from 10 to 27 (fun wx => Hid (Mut H w S M b s L (first0 L X) n wx))
  case first =>
   refine wp_region_held_drew (S := fun z => z.cell? ⟨b, 5, none⟩ = some (.slice (some ⟨g, 0, none⟩) (R.length + 1) c)) (by kernel_rfl) (HC.out _ hd) (fun hHeld => ?_)
   refine takeH 0 (h := ?_)
   refine takeH 1 (h := ?_)
   refine takeH 2 (h := ?_)
   refine takeH 3 (h := ?_)
   refine takeH 4 (h := ?_)
   refine takeH 5 (h := ?_)
   refine takeH 6 (h := ?_)
   refine takeH 7 (h := ?_)
   refine takeH 10 (h := ?_)
   refine takeH 11 (h := ?_)
   refine takeH 12 (h := ?_)
   refine takeH 13 (h := ?_)
   refine takeH 14 (h := ?_)
   refine wpAnyH_ready (rs := [8, 15]) (by kernel_rfl) (by simp) ?_
   refine AllReadyH.cons (o := _) rfl (fun K hK => ?_) ?_
   ·go_simp
    (go_at_call 45; (with_reducible refine (HCE.out _ _ _ _ _ (HT1.out.up hd)).mono ?_); rintro e w2 ⟨⟨x2, rfl, hx2⟩, hb2⟩; have hB2 := bwstep hd hb2; have HX2 := Lib.hid (hx2.rd (S := []) (fun _ h => by cases h)); have e2 := HG0.out _ hB2; clear hx2 hb2)
    refine hK.out _ _ (HC.out _ hB2) (fun hHeld => ?_)
    clear hK K
    ((try simp only [Act.put]); (try simp only [List.setIfInBounds_toArray]); (try simp only [List.set_cons_succ]); (try simp only [List.set_cons_zero]))
    refine wpAnyH_ready (rs := [9, 15]) (by kernel_rfl) (by simp) ?_
    refine AllReadyH.cons (o := _) rfl (fun K hK => ?_) ?_
    ·go_simp
     (go_at_call 88; (with_reducible refine (HLE.out _ _ HX2.out (HT1.out.up hB2).c1).mono ?_); rintro e w3 ⟨⟨y, ps, rfl, ho3, hn3⟩, hb3⟩; have hB3 := bwstep hB2 hb3; have e3 := HG0.out _ hB3; have HO3 := Lib.hid ho3; have HN3 := Lib.hid hn3; have HB23 := Lib.hid hb3; obtain ⟨Ay, cy, rfl, -, -⟩ := ho3.rd.shapeM; have hr3 := (HQ1.out.rd.up hB3); have hsz3 := hb3.size; have hl1 : (ps.map tpv).length + (qs.map tpv).length ≤ maxLen := (by have := HQ2.out; have := HTL.out; have := HN3.out.1; simp [maxLen] at *; omega); have hl2 : ((ps.map tpv).length + (qs.map tpv).length) * 8 ≤ 140737488355328 := (by have := HQ2.out; have := HTL.out; have := HN3.out.1; simp at *; omega); clear hn3 hb3)
     refine hK.out _ _ (HC.out _ hB3) (fun hHeld => ?_)
     clear hK K
     ((try simp only [Act.put]); (try simp only [List.setIfInBounds_toArray]); (try simp only [List.set_cons_succ]); (try simp only [List.set_cons_zero]))
     refine wpAnyH_ready (rs := [15]) (by kernel_rfl) (by simp) ?_
     refine AllReadyH.cons (o := _) rfl (fun K hK => ?_) ?_
     ·go_simp
      refine hK.out _ _ (HC.out _ hB3) (fun hHeld => ?_)
      clear hK K
      ((try simp only [Act.put]); (try simp only [List.setIfInBounds_toArray]); (try simp only [List.set_cons_succ]); (try simp only [List.set_cons_zero]))
      refine wpAnyH_ready (rs := [16]) (by kernel_rfl) (by simp) ?_
      refine AllReadyH.cons (o := _) rfl (fun K hK => ?_) ?_
      ·(refine step_appV levT rfl rfl (.tmp 19) (.tmp 25) rfl (by simp [Act.eval]) ho3 (by simp [Act.eval]) hr3 (one_tpv qs) hl1 hl2 hsz3 ?_; intro y2 w4 ho4 hg4 _; have hB4 := hB3.grown hg4 hB3.size (fun k hk => Nat.le_trans hB2.size (HO3.out.lt k hk).1); obtain ⟨g4, x4, hg44, c4, f4, hM4⟩ := HT1.out.setAt (j := 0) hB4 (by simp) (HN3.out.app HT1.out.slt hB2 HB23.out HO3.out hg4 qs HQ2.out HQ3.out ho4); (obtain rfl : g = g4 := by simpa using hg44); have HM4 := Lib.hid hM4; obtain ⟨A4, c4n, hy2, -, -⟩ := ho4.rd.shape; (have hln : (ps.map tpv ++ qs.map tpv).length = ps.length + qs.length := (by simp)); rw [hln] at hy2; subst hy2; have hE5 := (World.cell?_setCell_far w4 ⟨g, 0, none⟩ ⟨b, 5, none⟩ (.slice A4 (ps.length + qs.length) c4n) HGB.out).trans (HC.out _ hB4); clear ho4 hg4 hM4 hg44)
       refine hK.out _ _ (HC.out _ hB4) (fun hHeld => ?_)
       clear hK K
       ((try simp only [Act.put]); (try simp only [List.setIfInBounds_toArray]); (try simp only [List.set_cons_succ]); (try simp only [List.set_cons_zero]))
       refine takeH 17 (h := ?_)
       refine wpAnyH_ready (rs := [18]) (by kernel_rfl) (by simp) ?_
       refine AllReadyH.cons (o := _) rfl (fun K hK => ?_) ?_
       ·go_simp
        refine hK.out _ _ (hE5) (fun hHeld => ?_)
        clear hK K
        ((try simp only [Act.put]); (try simp only [List.setIfInBounds_toArray]); (try simp only [List.set_cons_succ]); (try simp only [List.set_cons_zero]))
        refine wpAnyH_done (by kernel_rfl) ?_ _
        have HM5 := Lib.hid (Mut.then HK1.out HO1.out HM4.out)
        go_wp2_with fail
        go_meet
        case rel => exact Lib.hid (by rw [HX0.out]; exact HM5.out)
       exact AllReadyH.nil
      exact AllReadyH.nil
     exact AllReadyH.nil
    refine AllReadyH.cons (o := _) rfl (fun K hK => ?_) ?_
    ·go_simp
     refine hK.out _ _ (HC.out _ hB2) (fun hHeld => ?_)
     clear hK K
     ((try simp only [Act.put]); (try simp only [List.setIfInBounds_toArray]); (try simp only [List.set_cons_succ]); (try simp only [List.set_cons_zero]))
     refine wpAnyH_ready (rs := [9]) (by kernel_rfl) (by simp) ?_
     refine AllReadyH.cons (o := _) rfl (fun K hK => ?_) ?_
     ·go_simp
      (go_at_call 88; (with_reducible refine (HLE.out _ _ HX2.out (HT1.out.up hB2).c1).mono ?_); rintro e w3 ⟨⟨y, ps, rfl, ho3, hn3⟩, hb3⟩; have hB3 := bwstep hB2 hb3; have e3 := HG0.out _ hB3; have HO3 := Lib.hid ho3; have HN3 := Lib.hid hn3; have HB23 := Lib.hid hb3; obtain ⟨Ay, cy, rfl, -, -⟩ := ho3.rd.shapeM; have hr3 := (HQ1.out.rd.up hB3); have hsz3 := hb3.size; have hl1 : (ps.map tpv).length + (qs.map tpv).length ≤ maxLen := (by have := HQ2.out; have := HTL.out; have := HN3.out.1; simp [maxLen] at *; omega); have hl2 : ((ps.map tpv).length + (qs.map tpv).length) * 8 ≤ 140737488355328 := (by have := HQ2.out; have := HTL.out; have := HN3.out.1; simp at *; omega); clear hn3 hb3)
      refine hK.out _ _ (HC.out _ hB3) (fun hHeld => ?_)
      clear hK K
      ((try simp only [Act.put]); (try simp only [List.setIfInBounds_toArray]); (try simp only [List.set_cons_succ]); (try simp only [List.set_cons_zero]))
      refine wpAnyH_ready (rs := [16]) (by kernel_rfl) (by simp) ?_
      refine AllReadyH.cons (o := _) rfl (fun K hK => ?_) ?_
      ·(refine step_appV levT rfl rfl (.tmp 19) (.tmp 25) rfl (by simp [Act.eval]) ho3 (by simp [Act.eval]) hr3 (one_tpv qs) hl1 hl2 hsz3 ?_; intro y2 w4 ho4 hg4 _; have hB4 := hB3.grown hg4 hB3.size (fun k hk => Nat.le_trans hB2.size (HO3.out.lt k hk).1); obtain ⟨g4, x4, hg44, c4, f4, hM4⟩ := HT1.out.setAt (j := 0) hB4 (by simp) (HN3.out.app HT1.out.slt hB2 HB23.out HO3.out hg4 qs HQ2.out HQ3.out ho4); (obtain rfl : g = g4 := by simpa using hg44); have HM4 := Lib.hid hM4; obtain ⟨A4, c4n, hy2, -, -⟩ := ho4.rd.shape; (have hln : (ps.map tpv ++ qs.map tpv).length = ps.length + qs.length := (by simp)); rw [hln] at hy2; subst hy2; have hE5 := (World.cell?_setCell_far w4 ⟨g, 0, none⟩ ⟨b, 5, none⟩ (.slice A4 (ps.length + qs.length) c4n) HGB.out).trans (HC.out _ hB4); clear ho4 hg4 hM4 hg44)
       refine hK.out _ _ (HC.out _ hB4) (fun hHeld => ?_)
       clear hK K
       ((try simp only [Act.put]); (try simp only [List.setIfInBounds_toArray]); (try simp only [List.set_cons_succ]); (try simp only [List.set_cons_zero]))
       refine takeH 17 (h := ?_)
       refine wpAnyH_ready (rs := [18]) (by kernel_rfl) (by simp) ?_
       refine AllReadyH.cons (o := _) rfl (fun K hK => ?_) ?_
       ·go_simp
        refine hK.out _ _ (hE5) (fun hHeld => ?_)
        clear hK K
        ((try simp only [Act.put]); (try simp only [List.setIfInBounds_toArray]); (try simp only [List.set_cons_succ]); (try simp only [List.set_cons_zero]))
        refine wpAnyH_done (by kernel_rfl) ?_ _
        have HM5 := Lib.hid (Mut.then HK1.out HO1.out HM4.out)
        go_wp2_with fail
        go_meet
        case rel => exact Lib.hid (by rw [HX0.out]; exact HM5.out)
       exact AllReadyH.nil
      exact AllReadyH.nil
     exact AllReadyH.nil
    exact AllReadyH.nil
   refine AllReadyH.cons (o := _) rfl (fun K hK => ?_) ?_
   ·go_simp
    refine hK.out _ _ (HC.out _ hd) (fun hHeld => ?_)
    clear hK K
    ((try simp only [Act.put]); (try simp only [List.setIfInBounds_toArray]); (try simp only [List.set_cons_succ]); (try simp only [List.set_cons_zero]))
    refine wpAnyH_ready (rs := [8]) (by kernel_rfl) (by simp) ?_
    refine AllReadyH.cons (o := _) rfl (fun K hK => ?_) ?_
    ·go_simp
     (go_at_call 45; (with_reducible refine (HCE.out _ _ _ _ _ (HT1.out.up hd)).mono ?_); rintro e w2 ⟨⟨x2, rfl, hx2⟩, hb2⟩; have hB2 := bwstep hd hb2; have HX2 := Lib.hid (hx2.rd (S := []) (fun _ h => by cases h)); have e2 := HG0.out _ hB2; clear hx2 hb2)
     refine hK.out _ _ (HC.out _ hB2) (fun hHeld => ?_)
     clear hK K
     ((try simp only [Act.put]); (try simp only [List.setIfInBounds_toArray]); (try simp only [List.set_cons_succ]); (try simp only [List.set_cons_zero]))
     refine wpAnyH_ready (rs := [9]) (by kernel_rfl) (by simp) ?_
     refine AllReadyH.cons (o := _) rfl (fun K hK => ?_) ?_
     ·go_simp
      (go_at_call 88; (with_reducible refine (HLE.out _ _ HX2.out (HT1.out.up hB2).c1).mono ?_); rintro e w3 ⟨⟨y, ps, rfl, ho3, hn3⟩, hb3⟩; have hB3 := bwstep hB2 hb3; have e3 := HG0.out _ hB3; have HO3 := Lib.hid ho3; have HN3 := Lib.hid hn3; have HB23 := Lib.hid hb3; obtain ⟨Ay, cy, rfl, -, -⟩ := ho3.rd.shapeM; have hr3 := (HQ1.out.rd.up hB3); have hsz3 := hb3.size; have hl1 : (ps.map tpv).length + (qs.map tpv).length ≤ maxLen := (by have := HQ2.out; have := HTL.out; have := HN3.out.1; simp [maxLen] at *; omega); have hl2 : ((ps.map tpv).length + (qs.map tpv).length) * 8 ≤ 140737488355328 := (by have := HQ2.out; have := HTL.out; have := HN3.out.1; simp at *; omega); clear hn3 hb3)
      refine hK.out _ _ (HC.out _ hB3) (fun hHeld => ?_)
      clear hK K
      ((try simp only [Act.put]); (try simp only [List.setIfInBounds_toArray]); (try simp only [List.set_cons_succ]); (try simp only [List.set_cons_zero]))
      refine wpAnyH_ready (rs := [16]) (by kernel_rfl) (by simp) ?_
      refine AllReadyH.cons (o := _) rfl (fun K hK => ?_) ?_
      ·(refine step_appV levT rfl rfl (.tmp 19) (.tmp 25) rfl (by simp [Act.eval]) ho3 (by simp [Act.eval]) hr3 (one_tpv qs) hl1 hl2 hsz3 ?_; intro y2 w4 ho4 hg4 _; have hB4 := hB3.grown hg4 hB3.size (fun k hk => Nat.le_trans hB2.size (HO3.out.lt k hk).1); obtain ⟨g4, x4, hg44, c4, f4, hM4⟩ := HT1.out.setAt (j := 0) hB4 (by simp) (HN3.out.app HT1.out.slt hB2 HB23.out HO3.out hg4 qs HQ2.out HQ3.out ho4); (obtain rfl : g = g4 := by simpa using hg44); have HM4 := Lib.hid hM4; obtain ⟨A4, c4n, hy2, -, -⟩ := ho4.rd.shape; (have hln : (ps.map tpv ++ qs.map tpv).length = ps.length + qs.length := (by simp)); rw [hln] at hy2; subst hy2; have hE5 := (World.cell?_setCell_far w4 ⟨g, 0, none⟩ ⟨b, 5, none⟩ (.slice A4 (ps.length + qs.length) c4n) HGB.out).trans (HC.out _ hB4); clear ho4 hg4 hM4 hg44)
       refine hK.out _ _ (HC.out _ hB4) (fun hHeld => ?_)
       clear hK K
       ((try simp only [Act.put]); (try simp only [List.setIfInBounds_toArray]); (try simp only [List.set_cons_succ]); (try simp only [List.set_cons_zero]))
       refine takeH 17 (h := ?_)
       refine wpAnyH_ready (rs := [18]) (by kernel_rfl) (by simp) ?_
       refine AllReadyH.cons (o := _) rfl (fun K hK => ?_) ?_
       ·go_simp
        refine hK.out _ _ (hE5) (fun hHeld => ?_)
        clear hK K
        ((try simp only [Act.put]); (try simp only [List.setIfInBounds_toArray]); (try simp only [List.set_cons_succ]); (try simp only [List.set_cons_zero]))
        refine wpAnyH_done (by kernel_rfl) ?_ _
        have HM5 := Lib.hid (Mut.then HK1.out HO1.out HM4.out)
        go_wp2_with fail
        go_meet
        case rel => exact Lib.hid (by rw [HX0.out]; exact HM5.out)
       exact AllReadyH.nil
      exact AllReadyH.nil
     exact AllReadyH.nil
    exact AllReadyH.nil
   exact AllReadyH.nil
  case rest =>
   obtain ⟨v5, lv5, h5, k5, o5⟩ := hcut.out
   have HT5 := Lib.hid h5
   have HK5 := Lib.hid k5
   have HO5 := Lib.hid o5
   clear h5 k5 o5 e0 e0' d5 d5' HL0 HQ1 HQ2 HQ3 HT1 HK1 HO1 HC HG0 HT
   go_wp2_with fail
   refine (mnew_any _).mono ?_
   rintro e w6 ⟨⟨bm, rfl, hbm, hm⟩, hb6⟩
   have m0 := hm.c0
   have m1 : w6.cell? ⟨bm, 1, none⟩ = some (.int .i64 0) := hm.c1
   have HT6 := Lib.hid (HT5.out.up hb6)
   have q3 := HT6.out.m.c0
   have q4 := HT6.out.m.c1
   have f3 := HT6.out.fz 3
   have f4 := HT6.out.fz 4
   have HMX : Hid (Mut H w S M b s [] (first0 L X) n ((w6.setCell ⟨b, 3, none⟩ (.slice none 0 0)).setCell ⟨b, 4, none⟩ (.int .i64 0))) := Lib.hid (Mut.then (HK5.out.bel hb6) HO5.out HT6.out.mem0)
   clear hm hb6
   go_wp2_with fail
   go_loopw [2] (fun i wr => ∃ (k : Nat) (Y : List (List (List Cl))), k ≤ 2 ∧ i = .int .i64 (k : Int) ∧ Hid (Mut H w S M b s [] Y n wr) ∧ Hid ((k = 0 ∧ Y = first0 L X) ∨ (1 ≤ k ∧ Y = Z))) (fun i _ => 3 - (intOf i).toNat)
   case atStart => exact ⟨0, first0 L X, by omega, rfl, HMX, Lib.hid (.inl ⟨rfl, rfl⟩)⟩
   case round =>
    obtain ⟨k, Y, hk, rfl, HM, HY⟩ := hrel
    obtain ⟨wo, hwo⟩ : ∃ wo, wo = wr := ⟨_, rfl⟩
    subst hwo
    obtain ⟨v1, lv1, h1, k1, o1⟩ := HM.out
    have HT1 := Lib.hid h1
    have HK1 := Lib.hid k1
    have HO1 := Lib.hid o1
    have HSK : Hid (∀ T R (z : World), Y = T :: R → Over s T R → Below wo.heap.size wo z → Calls Tryz.prog 89 #[.pointer (some ⟨b, 0, none⟩), .int .i64 0] z fun e w' => (∃ u, e = .returned u) ∧ Mut H z (ownT b v1 lv1 ++ S) (ownT b v1 lv1) b s [] [[], [allP (T ++ R.flatten)]] n w') := Lib.hid fun T R z hYR hO hz => by
     subst hYR
     exact tsink_any (h1.up hz) hO.r1 hO.rx HRS.out hO.n hO.sx hO.lx hO.fl hO.ok hO.f hO.ne
    obtain ⟨A, c, rfl, hc, hcm⟩ := h1.rdv.shape
    unfold maxLen at hcm
    have c5 := h1.c5
    have c2 := h1.c2
    have hh3 : (0 : Int) ≤ (k : Int) := by omega
    by_cases hlt : k < Y.length
    ·obtain ⟨g, off, rfl, hgb, hat⟩ := h1.rdv.at_ (by omega)
     have hfk : Y[k]? = some (Y[k]'hlt) := List.getElem?_eq_getElem _
     have HMEM := Lib.hid (List.mem_of_getElem? hfk)
     obtain ⟨u, hu, hL⟩ := hat k _ hfk
     obtain ⟨Au, cu, rfl, hcu, hmu⟩ := hL.shape
     unfold maxLen at hmu
     have HFK := Lib.hid hfk
     generalize Y[k]'hlt = T at *
     have hh4 : (k : Int) < (Y.length : Int) := by omega
     clear h1 k1 o1 hat hL hfk hlt
     by_cases hov : s.fan < (T.length : Int)
     ·have HZ : Hid (k = 0 ∧ ∃ R, Y = T :: R ∧ Over s T R ∧ Z = [[], [allP (T ++ R.flatten)]]) := Lib.hid (flush_over HFL.out HZZ.out HY.out HFK.out HMEM.out hov)
      obtain ⟨hk0, R, hYR, hO, hZ⟩ := HZ.out
      have HSK := Lib.hid (fun z => HSK.out T R z hYR hO)
      have HZE := Lib.hid hZ
      subst hk0
      rw [Nat.add_zero] at hu
      clear hO hZ HZ hYR
      go_wp2_with fail
      go_quiet (fail)
      go_wp2_with fail
      have hbn := bwN (w := wo) nq
      refine (HSK.out _ hbn).mono ?_
      rintro e w2 ⟨⟨u, rfl⟩, hM2⟩
      have HM2 := Lib.hid (Mut.then (HK1.out.bel hbn) HO1.out hM2)
      rw [← HZE.out] at HM2
      clear hM2 c5 c2 hu HSK hbn
      go_wp2_with fail
      go_roundw
      case rel => exact ⟨1, Z, by omega, by go_num, HM2, Lib.hid (.inr ⟨by omega, rfl⟩)⟩
      case measure => simp [intOf]
     ·have HZ : Hid (Y = Z ∧ k < 2) := Lib.hid (flush_under HFL.out HZZ.out HY.out HFK.out hov)
      go_wp2_with fail
      go_quiet (fail)
      go_wp2_with fail
      go_roundw
      case rel => exact ⟨k + 1, Y, by have := HZ.out.2; omega, by go_num, Lib.hid (Mut.up HM.out (by exact bwN _)), Lib.hid (.inr ⟨by omega, HZ.out.1⟩)⟩
      case measure => simp [intOf]; omega
    ·have HZ : Hid (Y = Z) := Lib.hid (flush_end HZZ.out HY.out (by omega))
     go_wp2_with fail
     go_end0
     rw [← HZ.out]
     exact ⟨⟨_, rfl⟩, HM.out⟩
end Go.Proofs.YtcpkhhbbjimdaaaGreatDoor.Ce
