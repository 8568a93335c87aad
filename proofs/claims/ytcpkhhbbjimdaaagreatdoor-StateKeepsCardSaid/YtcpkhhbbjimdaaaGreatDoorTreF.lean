/- A tree takes a cell: Put. What package tree promises: the contracts of its methods, wherever a tree lies. What package tree promises: the contracts of its methods, as one structure. -/
import Derived.Test.YtcpkhhbbjimdaaaGreatDoorTreC
import Derived.Test.YtcpkhhbbjimdaaaGreatDoorTreD
import Derived.Test.YtcpkhhbbjimdaaaGreatDoorTreB
import Derived.Test.YtcpkhhbbjimdaaaGreatDoorTmC
import Derived.Test.YtcpkhhbbjimdaaaGreatDoorTreE
set_option maxHeartbeats 8000000
set_option maxRecDepth 100000
namespace Go.Proofs.YtcpkhhbbjimdaaaGreatDoor.Ce
open Go.RowKit
variable {H : Hos}
theorem TrS.memPut {w w' : World} {S : List Nat} {b : Nat} {s : Sf} {L L' : List Cl} {X : List (List (List Cl))} {n : Int} {v v' lv : Value} (h : TrS H w S b s L X n v lv) (hm : MmT ⟨s.mem, s.block, s.fan, lv, n, H⟩ w' b v' L') (hk : Kp (blks b v) w w') (hb : ∀ k ∈ blks b v', k ∈ blks b v ∨ w.heap.size ≤ k) : Mut H w S (ownT b v lv) b s L' X n w' := by
 obtain ⟨us, ho, hl⟩ := h.o
 have hsz := hk.size
 have hlo : ∀ k, lv.ownBlock = some k → k ∉ blks b v := fun k hv hm => by
  rcases mem_blks.1 hm with rfl | e
  ·exact h.nb hv
  ·exact h.ap k e hv
 have hbS : ∀ k ∈ blks b v, k ∈ S := fun k hm => h.sub k (by simp only [ownT, List.mem_append]; exact .inl hm)
 have hS2 : ∀ k ∈ ownT b v' lv, k ∈ ownT b v lv ∨ w.heap.size ≤ k := fun k hk => by
  simp only [ownT, List.mem_append] at hk ⊢
  rcases hk with q | q
  ·exact (hb k q).imp .inl id
  ·exact .inl (.inr q)
 refine ⟨v', lv, ⟨hm, ⟨us, ow_keepN ho hk hlo, hl.keep hk (fun k hm => .inl (hbS k hm)) fun k hm => ?_⟩, h.nb, fun k hv e => ?_, fun k hk => by simp [hk], fun k hm => ?_⟩, ⟨hk.os, hk.tape, hk.output, hk.size, fun x hx hn => hk.block x hx fun hm => hn (by simp only [ownT, List.mem_append]; exact .inl hm)⟩, hS2⟩
 ·rcases List.mem_append.1 hm with q | q
  ·exact (hS2 k q).imp (h.sub k) id
  ·exact .inl q
 ·rcases hb k (mem_blks.2 (.inr hv)) with q | q
  ·rcases mem_blks.1 q with rfl | q
   ·exact hm.ne hv
   ·exact h.ap k q e
  ·have := (ho.lt k e).2
   omega
 ·rcases List.mem_append.1 hm with q | q
  ·rcases mem_ownT.1 q with rfl | e | e
   ·exact Nat.lt_of_lt_of_le h.m.lt hsz
   ·exact (MmT.blk_lt (by assumption)) k (mem_blks.2 (.inr e))
   ·exact Nat.lt_of_lt_of_le (ho.lt k e).2 hsz
  ·exact Nat.lt_of_lt_of_le (h.slt k q) hsz
theorem Mut.base {w w1 w2 : World} {S M : List Nat} {b : Nat} {s : Sf} {L : List Cl} {X : List (List (List Cl))} {n : Int} (hb : Below w.heap.size w w1) (h : Mut H w1 S M b s L X n w2) : Mut H w S M b s L X n w2 := by
 obtain ⟨v, lv, h1, h2, h3⟩ := h
 have hsz := hb.size
 exact ⟨v, lv, h1, (Kp.of_below hb M).trans h2 fun _ h => .inl h, fun k hk => (h3 k hk).imp id fun q => by omega⟩
theorem Mut.count {w w1 : World} {S M : List Nat} {b : Nat} {s : Sf} {L : List Cl} {X : List (List (List Cl))} {n m : Int} {v lv : Value} (h : TrS H w1 (ownT b v lv ++ S) b s L X n v lv) (h2 : Kp M w w1) (h3 : ∀ k ∈ ownT b v lv, k ∈ M ∨ w.heap.size ≤ k) : TrS H (w1.setCell ⟨b, 6, none⟩ (.int .i64 m)) (ownT b v lv ++ S) b s L X m v lv ∧ Kp M w (w1.setCell ⟨b, 6, none⟩ (.int .i64 m)) := by
 obtain ⟨k1, k2⟩ := h.setN m
 exact ⟨k1, h2.trans k2 h3⟩
theorem FL.put {s : Sf} {L K : List Cl} {X : List (List (List Cl))} {c : Cl} (h : FL s L X K) (hc : c.ok) (hK : FitsK (c :: K)) : FL s (put1 c L) X (c :: K) := ⟨tput_ok h.ok hc, inK_put h.i c, hK, h.r, h.w⟩
theorem ttput_no {w : World} {S : List Nat} {b : Nat} {s : Sf} {L : List Cl} {X : List (List (List Cl))} {n : Int} {v lv : Value} (c : Cl) (h : TrS H w S b s L X n v lv) (hs : s.right) (hc : ¬ c.ok) :
  Calls Tryz.prog 53 #[.pointer (some ⟨b, 0, none⟩), c.v] w fun e w' => e = .returned (.int .i64 1) ∧ Below w.heap.size w w' := by
 have HR := Lib.hid (fun w => tright_any s w)
 have HC := Lib.hid (fun w => right_any c w)
 rw [decide_eq_true hs] at HR
 rw [decide_eq_false hc] at HC
 have HW := Lib.hid h
 clear h hs hc
 go_enter Tryz.func53, Tryz.ntmps53
 go_wp2_with (refine boxC rfl (.tmp 1) c rfl rfl ?_)
 constructor
 intro w1 hI1 hb1 _
 go_wp2_with (refine St.loadAt sfOk rfl (.tmp 8) rfl ⟨b, 0, none⟩ rfl (HW.out.up hb1).sf ?_)
 refine (HR.out _).mono ?_
 rintro e w2 ⟨rfl, hb2⟩
 have hI2 := hI1.up hb2
 go_wp2_with (refine loadC rfl (.tmp 3) rfl rfl hI2 ?_)
 refine (HC.out _).mono ?_
 rintro e w3 ⟨rfl, hb3⟩
 have HB3 := Lib.hid (bwstep (bwstep hb1 hb2) hb3)
 clear hI1 hI2 hb1 hb2 hb3
 go_wp2_with fail
 go_ret
 exact ⟨rfl, HB3.out⟩
theorem ttput_ok {w : World} {S : List Nat} {b : Nat} {s : Sf} {L K : List Cl} {X : List (List (List Cl))} {n : Int} {v lv : Value} (c : Cl) (h : TrS H w S b s L X n v lv) (hF : FL s L X K) (hn : n = ((allP (L :: X.flatten)).length : Int)) (hn4 : n ≤ 1000) (hc : c.ok) (hK : FitsK (c :: K)) :
  Calls Tryz.prog 53 #[.pointer (some ⟨b, 0, none⟩), c.v] w fun e w' =>
   (((put1 c (allP (L :: X.flatten))).length ≤ 400 ∧ e = .returned (.int .i64 0) ∧ Mut H w S (ownT b v lv) b s (Tr.step s ⟨L, X⟩ c).mem (Tr.step s ⟨L, X⟩ c).lv ((put1 c (allP (L :: X.flatten))).length : Int) w') ∨ (¬ (put1 c (allP (L :: X.flatten))).length ≤ 400 ∧ e = .returned (.int .i64 4) ∧ Below w.heap.size w w')) := by
 have hpl := put1_len (srt_all (L :: X.flatten)) c
 obtain ⟨m, hm⟩ : ∃ m : Nat, m = (put1 c (allP (L :: X.flatten))).length := ⟨_, rfl⟩
 rw [← hm] at hpl ⊢
 have HST : Hid (((s.mem ≤ szs (put1 c L)) → (Tr.step s ⟨L, X⟩ c) = ⟨[], casc s.fan.toNat (first0 (put1 c L) X).length (first0 (put1 c L) X)⟩) ∧ (¬ s.mem ≤ szs (put1 c L) → (Tr.step s ⟨L, X⟩ c) = ⟨put1 c L, X⟩)) := Lib.hid ⟨fun q => by unfold Tr.step; exact if_pos q, fun q => by unfold Tr.step; exact if_neg q⟩
 generalize Tr.step s ⟨L, X⟩ c = t2 at *
 have HR := Lib.hid (fun w => tright_any s w)
 have HC := Lib.hid (fun w => right_any c w)
 rw [decide_eq_true hF.r] at HR
 rw [decide_eq_true hc] at HC
 have HHAS := Lib.hid (fun W (hW : TrS H W S b s L X n v lv) => thas_any c hW hF.lim (by have := hc.r2; omega) (by have := hc.c2; omega))
 have HPUT : Hid (∀ W, TrS H W S b s L X n v lv → Calls Tryz.prog 70 #[.pointer (some ⟨b, 3, none⟩), c.v] W fun e w' => e = .returned (.bool true) ∧ Mut H W S (ownT b v lv) b s (put1 c L) X n w') := Lib.hid fun W hW => by
  refine (mputT_any b v L c W hW.m hF.ok.mem hF.ok.okm (by have := hF.lim.ll; omega)).mono ?_
  rintro e w' ⟨he, v', m1, k1, b1⟩
  rw [decide_eq_true hc] at he
  rw [if_pos hc] at m1
  exact ⟨he, hW.memPut m1 k1 b1⟩
 have HFP := Lib.hid (hF.put hc hK)
 have hrow : (allP (L :: X.flatten)).length ≤ 1000 := by omega
 have HW := Lib.hid h
 have HHB : Hid ((hasB c (allP (L :: X.flatten)) = true → n = (m : Int)) ∧ (hasB c (allP (L :: X.flatten)) = false → n + 1 = (m : Int))) := Lib.hid ⟨fun q => by rw [q, if_pos rfl] at hpl; omega, fun q => by rw [q] at hpl; simp at hpl; omega⟩
 have hm4 : m ≤ 1001 := by
  split at hpl <;> omega
 generalize hasB c (allP (L :: X.flatten)) = q at *
 clear h hF hn hc hK hpl hm hrow
 go_enter Tryz.func53, Tryz.ntmps53
 go_wp2_with (refine boxC rfl (.tmp 1) c rfl rfl ?_)
 constructor
 intro w1 hI1 hb1 _
 go_wp2_with (refine St.loadAt sfOk rfl (.tmp 8) rfl ⟨b, 0, none⟩ rfl (HW.out.up hb1).sf ?_)
 refine (HR.out _).mono ?_
 rintro e w2 ⟨rfl, hb2⟩
 have hI2 := hI1.up hb2
 go_wp2_with (refine loadC rfl (.tmp 3) rfl rfl hI2 ?_)
 refine (HC.out _).mono ?_
 rintro e w3 ⟨rfl, hb3⟩
 have hI3 := hI2.up hb3
 have hb3 := bwstep (bwstep hb1 hb2) hb3
 have c6 := (HW.out.up hb3).c6
 clear hI1 hI2 hb1 hb2
 go_wp2_with (refine loadC rfl (.tmp 3) rfl rfl hI3 ?_)
 refine (HHAS.out _ (HW.out.up hb3)).mono ?_
 rintro e w4 ⟨rfl, hb4⟩
 have HI4 := Lib.hid (hI3.up hb4)
 have HB4 := Lib.hid (bwstep hb3 hb4)
 clear hI3 hb3 hb4 c6 HR HC HHAS
 obtain ⟨q0, q1, q2, q3, q4⟩ := (HI4.out.up (Below.refl _ _).drew).five
 obtain ⟨p0, p1, p2, p3, p4⟩ := HI4.out.five
 have hd := (Below.refl w4.heap.size w4).drew
 have hm0 : (m : Int) ≤ 1001 := by omega
 cases q
 ·have hw := HHB.out.2 rfl
  have hw1 : IntKind.i64.wrap (n + 1) = (m : Int) := by rw [IntWalk.i64_in _ (by omega)]; exact hw
  clear HHB hw
  by_cases hful : (400 : Int) < (m : Int)
  ·go_wp2_with fail
   go_ret
   exact .inr ⟨by omega, rfl, HB4.out⟩
  ·go_wp2_with fail
   go_region_law (go_simp; go_at_call 70; refine (HPUT.out _ ((HW.out.up HB4.out).up hd)).mono ?_; rintro e w5 ⟨rfl, hM5⟩)
   obtain ⟨v5, lv5, h5, k5, o5⟩ := Mut.base HB4.out (Mut.base hd hM5)
   have c6 := h5.c6
   have f6 := h5.fz 6
   obtain ⟨h6, k6⟩ := Mut.count (m := (m : Int)) h5 k5 o5
   have HT6 := Lib.hid h6
   have HK6 := Lib.hid k6
   have HO6 := Lib.hid o5
   clear h5 k5 o5 h6 k6 hM5 hd q0 q1 q2 q3 q4 p0 p1 p2 p3 p4 HI4
   have e0 := HT6.out.c0
   have HSZ : Hid (∀ z, Below (w5.setCell ⟨b, 6, none⟩ (.int .i64 (m : Int))).heap.size (w5.setCell ⟨b, 6, none⟩ (.int .i64 (m : Int))) z → Calls Tryz.prog 71 #[.pointer (some ⟨b, 3, none⟩)] z fun e w' => e = .returned (.int .i64 (szs (put1 c L))) ∧ z = w') := Lib.hid fun z hz => msizeT_any b v5 (put1 c L) z (HT6.out.up hz).m
   go_wp2_with fail
   generalize w5.setCell ⟨b, 6, none⟩ (.int .i64 (m : Int)) = w6 at *
   clear c6 f6
   have hsz := fun q : Nat => HSZ.out (w6.drewN q) (bwN q)
   by_cases hge : s.mem ≤ szs (put1 c L)
   ·go_quiet (first | (go_at_call 71; exact (hsz _).mono fun _ _ ⟨h1, h2⟩ => ⟨h1, _, h2.symm⟩))
    go_wp2_with fail
    have hbn := bwN (w := w6) nq
    refine (tflush_any (HT6.out.up hbn) HFP.out).mono ?_
    rintro e w7 ⟨⟨u, rfl⟩, hM7⟩
    have HM7 := Lib.hid (Mut.then (HK6.out.bel hbn) HO6.out hM7)
    clear hM7 hbn e0
    go_wp2_with fail
    go_ret
    exact .inl ⟨by omega, rfl, by rw [HST.out.1 hge]; exact HM7.out⟩
   ·go_quiet (first | (go_at_call 71; exact (hsz _).mono fun _ _ ⟨h1, h2⟩ => ⟨h1, _, h2.symm⟩))
    have hbn := bwN (w := w6) nq
    have HM7 := Lib.hid (Mut.then (S := S) (HK6.out.bel hbn) HO6.out ((HT6.out.up hbn).mut (Below.refl _ _)))
    clear hbn e0
    go_wp2_with fail
    go_ret
    exact .inl ⟨by omega, rfl, by rw [HST.out.2 hge]; exact HM7.out⟩
 ·obtain rfl := HHB.out.1 rfl
  clear HHB
  by_cases hful : (400 : Int) < (m : Int)
  ·go_wp2_with fail
   go_ret
   exact .inr ⟨by omega, rfl, HB4.out⟩
  ·go_wp2_with fail
   go_region_law (go_simp; go_at_call 70; refine (HPUT.out _ ((HW.out.up HB4.out).up hd)).mono ?_; rintro e w5 ⟨rfl, hM5⟩)
   obtain ⟨v5, lv5, h5, k5, o5⟩ := Mut.base HB4.out (Mut.base hd hM5)
   have c6 := h5.c6
   have f6 := h5.fz 6
   obtain ⟨h6, k6⟩ := Mut.count (m := (m : Int)) h5 k5 o5
   have HT6 := Lib.hid h6
   have HK6 := Lib.hid k6
   have HO6 := Lib.hid o5
   clear h5 k5 o5 h6 k6 hM5 hd q0 q1 q2 q3 q4 p0 p1 p2 p3 p4 HI4
   have e0 := HT6.out.c0
   have HSZ : Hid (∀ z, Below (w5.setCell ⟨b, 6, none⟩ (.int .i64 (m : Int))).heap.size (w5.setCell ⟨b, 6, none⟩ (.int .i64 (m : Int))) z → Calls Tryz.prog 71 #[.pointer (some ⟨b, 3, none⟩)] z fun e w' => e = .returned (.int .i64 (szs (put1 c L))) ∧ z = w') := Lib.hid fun z hz => msizeT_any b v5 (put1 c L) z (HT6.out.up hz).m
   go_wp2_with fail
   generalize w5.setCell ⟨b, 6, none⟩ (.int .i64 (m : Int)) = w6 at *
   clear c6 f6
   have hsz := fun q : Nat => HSZ.out (w6.drewN q) (bwN q)
   by_cases hge : s.mem ≤ szs (put1 c L)
   ·go_quiet (first | (go_at_call 71; exact (hsz _).mono fun _ _ ⟨h1, h2⟩ => ⟨h1, _, h2.symm⟩))
    go_wp2_with fail
    have hbn := bwN (w := w6) nq
    refine (tflush_any (HT6.out.up hbn) HFP.out).mono ?_
    rintro e w7 ⟨⟨u, rfl⟩, hM7⟩
    have HM7 := Lib.hid (Mut.then (HK6.out.bel hbn) HO6.out hM7)
    clear hM7 hbn e0
    go_wp2_with fail
    go_ret
    exact .inl ⟨by omega, rfl, by rw [HST.out.1 hge]; exact HM7.out⟩
   ·go_quiet (first | (go_at_call 71; exact (hsz _).mono fun _ _ ⟨h1, h2⟩ => ⟨h1, _, h2.symm⟩))
    have hbn := bwN (w := w6) nq
    have HM7 := Lib.hid (Mut.then (S := S) (HK6.out.bel hbn) HO6.out ((HT6.out.up hbn).mut (Below.refl _ _)))
    clear hbn e0
    go_wp2_with fail
    go_ret
    exact .inl ⟨by omega, rfl, by rw [HST.out.2 hge]; exact HM7.out⟩
end Go.Proofs.YtcpkhhbbjimdaaaGreatDoor.Ce
namespace Go.Proofs.YtcpkhhbbjimdaaaGreatDoor.Ce
open Go.RowKit
variable {H : Hos}
theorem GoodT.fl {w : World} {S M : List Nat} {b : Nat} {s : Sf} {t : Tr} {K : List Cl} (h : TreeAt H w S M b s t) (hg : GoodT s t K) : FL s t.mem t.lv K := ⟨hg.ok, hg.i, hg.f, hg.r, h.few⟩
theorem GoodT.len {s : Sf} {t : Tr} {K : List Cl} (hg : GoodT s t K) : t.cells.length ≤ 1000 := by
 have h1 := srt_all (t.mem :: t.lv.flatten)
 refine (hg.f.sub h1 (P_all (P := fun c => c ∈ K) fun M hM => ?_)).n
 rcases List.mem_cons.1 hM with rfl | hM
 ·exact hg.i.m
 ·obtain ⟨T, hT, hM⟩ := List.mem_flatten.1 hM
  exact hg.i.l T hT M hM
theorem tree_keep {w w' : World} {S S' M N : List Nat} {b : Nat} {s : Sf} {t : Tr} (h : TreeAt H w S M b s t) (hk : Kp N w w') (hN : ∀ k ∈ N, (k ∈ S ∧ k ∉ M) ∨ w.heap.size ≤ k) (hS : ∀ k ∈ S', k ∈ S ∨ w.heap.size ≤ k) (hM : ∀ k ∈ M, k ∈ S') (hz : ∀ k ∈ S', k < w'.heap.size) : TreeAt H w' S' M b s t := by
 obtain ⟨⟨v, lv, h1, rfl⟩, hf⟩ := h
 refine ⟨⟨v, lv, h1.keep hk (fun k hk' => (hN k hk').imp And.left id) (fun k hk' hm => ?_) hS hM hz, rfl⟩, hf⟩
 rcases hN k hm with q | q
 ·exact q.2 hk'
 ·have := h1.lt k hk'
  omega
theorem TreeAt.same {w w' : World} {S M : List Nat} {b : Nat} {s : Sf} {t : Tr} (h : TreeAt H w S M b s t) (hb : Below w.heap.size w w') : ∃ M', TreeAt H w' (M' ++ S) M' b s t ∧ Kp M w w' ∧ ∀ k ∈ M', k ∈ M ∨ w.heap.size ≤ k := by
 obtain ⟨⟨v, lv, h1, rfl⟩, hf⟩ := h
 exact (h1.mut hb).tree hf
theorem step_few {s : Sf} {t : Tr} {c : Cl} (h : FewT s.fan.toNat t.lv) (hs : s.right) : FewT s.fan.toNat (t.step s c).lv := by
 have h1 := hs.f1
 unfold Tr.step
 split
 ·exact casc_few (by omega) h
 ·exact h
theorem tree_sub : ∀ {w : World} {S M : List Nat} {b : Nat} {s : Sf} {t : Tr}, TreeAt H w S M b s t → ∀ k ∈ M, k ∈ S ∧ k < w.heap.size := fun {w S M b s t} h k hk => by
 obtain ⟨⟨v, lv, h1, rfl⟩, -⟩ := h
 exact ⟨h1.sub k hk, h1.lt k hk⟩
theorem tree_slt : ∀ {w : World} {S M : List Nat} {b : Nat} {s : Sf} {t : Tr}, TreeAt H w S M b s t → ∀ k ∈ S, k < w.heap.size := fun {w S M b s t} h k hk => by
 obtain ⟨⟨v, lv, h1, rfl⟩, -⟩ := h
 exact h1.slt k hk
theorem tree_put : ∀ {w : World} {S M : List Nat} {b : Nat} {s : Sf} {t : Tr} {K : List Cl} (c : Cl), TreeAt H w S M b s t → GoodT s t K → (c.ok → FitsK (c :: K)) → Calls Tryz.prog 53 #[.pointer (some ⟨b, 0, none⟩), c.v] w fun e w' => ∃ M', e = .returned (.int .i64 (t.code c)) ∧ TreeAt H w' (M' ++ S) M' b s (t.after s c) ∧ Kp M w w' ∧ ∀ k ∈ M', k ∈ M ∨ w.heap.size ≤ k := fun {w S M b s t K} c h hg hK => by
 have hF := GoodT.fl h hg
 have hlen := GoodT.len hg
 by_cases hc : c.ok
 ·obtain ⟨⟨v, lv, h1, rfl⟩, hf⟩ := h
  refine (ttput_ok c h1 hF rfl (by have e : t.cells = allP (t.mem :: t.lv.flatten) := rfl; omega) hc (hK hc)).mono ?_
  rintro e w' (⟨hl, rfl, hM⟩ | ⟨hl, rfl, hb⟩)
  ·have hl' : (put1 c t.cells).length ≤ 400 := hl
   obtain ⟨hcd, -⟩ : t.code c = 0 ∧ True := ⟨(after_put hg.ok hc hl' s).2, trivial⟩
   have ha : t.after s c = t.step s c := by unfold Tr.after; rw [if_pos hc, if_pos hl']
   have hcl := step_cells hg.ok hc s
   have hM' : Mut H w S (ownT b v lv) b s (t.step s c).mem (t.step s c).lv ((t.step s c).cells.length : Int) w' := by rw [hcl]; exact hM
   obtain ⟨M', k1, k2, k3⟩ := hM'.tree (step_few hf hg.r)
   exact ⟨M', by rw [hcd], by rw [ha]; exact k1, k2, k3⟩
  ·obtain ⟨e1, e2⟩ := after_full (t := t) hc hl s
   obtain ⟨M', k1, k2, k3⟩ := TreeAt.same ⟨⟨v, lv, h1, rfl⟩, hf⟩ hb
   exact ⟨M', by rw [e2], by rw [e1]; exact k1, k2, k3⟩
 ·obtain ⟨⟨v, lv, h1, rfl⟩, hf⟩ := h
  refine (ttput_no c h1 hg.r hc).mono ?_
  rintro e w' ⟨rfl, hb⟩
  obtain ⟨e1, e2⟩ := after_no (t := t) hc s
  obtain ⟨M', k1, k2, k3⟩ := TreeAt.same ⟨⟨v, lv, h1, rfl⟩, hf⟩ hb
  exact ⟨M', by rw [e2], by rw [e1]; exact k1, k2, k3⟩
theorem tree_get : ∀ {w : World} {S M : List Nat} {b : Nat} {s : Sf} {t : Tr} {K : List Cl} (row col : ByteArray) (at_ : Int), TreeAt H w S M b s t → GoodT s t K → row.size ≤ 1000000 → col.size ≤ 1000000 → Calls Tryz.prog 54 #[.pointer (some ⟨b, 0, none⟩), .string row, .string col, .int .i64 at_] w fun e w' => e = .returned (.tuple #[.string (getV t row col at_), .bool (getB t row col at_)]) ∧ Below w.heap.size w w' := fun {w S M b s t K} row col at_ h hg hr hc => by
 have hF := GoodT.fl h hg
 obtain ⟨⟨v, lv, h1, rfl⟩, hf⟩ := h
 exact ttget_any row col at_ h1 hF.lim hr hc
theorem tree_scan : ∀ {w : World} {S M : List Nat} {b : Nat} {s : Sf} {t : Tr} {K : List Cl} (fr hi : ByteArray) (at_ : Int), TreeAt H w S M b s t → GoodT s t K → fr.size ≤ 1000000 → hi.size ≤ 1000000 → Calls Tryz.prog 55 #[.pointer (some ⟨b, 0, none⟩), .string fr, .string hi, .int .i64 at_] w fun e w' => (∃ x, e = .returned x ∧ OwL w' w.heap.size x (someP fr hi at_ t.cells)) ∧ Below w.heap.size w w' := fun {w S M b s t K} fr hi at_ h hg _ _ => by
 have hF := GoodT.fl h hg
 have hlen := GoodT.len hg
 obtain ⟨⟨v, lv, h1, rfl⟩, hf⟩ := h
 exact tscan_any fr hi at_ h1 hF.lim (Nat.le_trans hlen (by omega))
theorem tree_cells : ∀ {w : World} {S M : List Nat} {b : Nat} {s : Sf} {t : Tr} {K : List Cl}, TreeAt H w S M b s t → GoodT s t K → Calls Tryz.prog 29 #[.pointer (some ⟨b, 0, none⟩)] w fun e w' => (∃ x, e = .returned x ∧ OwL w' w.heap.size x t.cells) ∧ Below w.heap.size w w' := fun {w S M b s t K} h hg => by
 have hF := GoodT.fl h hg
 obtain ⟨⟨v, lv, h1, rfl⟩, hf⟩ := h
 exact tcellsT_any h1 hF.lim
end Go.Proofs.YtcpkhhbbjimdaaaGreatDoor.Ce
namespace Go.Proofs.YtcpkhhbbjimdaaaGreatDoor.Ce
open Go.RowKit
end Go.Proofs.YtcpkhhbbjimdaaaGreatDoor.Ce
