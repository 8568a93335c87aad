/- What a check does. What is done for a command of each kind, as the document says it; New, Last, Cells. A state, as it stands; Apply of a command that is not right, or not new. -/
import Derived.Test.YtcpkhhbbjimdaaaGreatDoorSaX
import Derived.Test.YtcpkhhbbjimdaaaGreatDoorApY
import Derived.BigQuiet
set_option maxHeartbeats 8000000
set_option maxRecDepth 100000
namespace Go.Proofs.YtcpkhhbbjimdaaaGreatDoor.Ce
open Go.RowKit
variable {H : Hos}
theorem chk_set {g : Nat} {n : Int} {q : Bool} {w : World} (h : rpD.In g ⟨n, false, ⟨#[]⟩, none, 0, 0⟩ w) : rpD.Set g ⟨n, q, ⟨#[]⟩, none, 0, 0⟩ w (w.setCell ⟨g, 1, none⟩ (.bool q)) :=
 St.Sp.Set.part (D := rpD) (y := (⟨n, q, ⟨#[]⟩, none, 0, 0⟩ : Rv)) (i := 1) h (by simp [Rv.cs])
theorem scheck_no {w : World} {S M : List Nat} {b : Nat} {t : Tr} {K : List Cl} (c : Cm) (h : TreeAt H w S M b shf t) (hg : GoodT shf t K) (hr : c.row.size ≤ 1000000) (hc : c.col.size ≤ 1000000) (hn : ¬ (getB t c.row c.col c.at_ = c.has ∧ getV t c.row c.col c.at_ = c.expect)) :
  Calls Tryz.prog 41 #[.pointer (some ⟨b, 0, none⟩), c.v] w fun e w' => e = .returned (Rv.v rpD.z) ∧ Below w.heap.size w w' := by
 have HLT : Hid (∀ k ∈ M, k < w.heap.size) := Lib.hid fun k hk => (tree_sub h k hk).2
 have HT := Lib.hid h
 have HG : Hid (∀ W S0, TreeAt H W (S0) M b shf t → Calls Tryz.prog 54 #[.pointer (some ⟨b, 0, none⟩), .string c.row, .string c.col, .int .i64 c.at_] W fun e w' => e = .returned (.tuple #[.string (getV t c.row c.col c.at_), .bool (getB t c.row c.col c.at_)]) ∧ Below W.heap.size W w') := Lib.hid fun W S0 hW => tree_get _ _ _ hW hg hr hc
 generalize getV t c.row c.col c.at_ = v at *
 generalize getB t c.row c.col c.at_ = q at *
 have HNO := Lib.hid hn
 clear h hg hr hc hn
 go_enter Tryz.func41, Tryz.ntmps41
 go_wp2_with (refine St.box cmD rfl (.tmp 1) c rfl rfl ?_)
 constructor
 intro w1 hI1 hb1 hz1
 clear hz1
 go_wp2_with (refine St.alloc rpOk rfl rfl ?_)
 constructor
 intro w2 hJ2 hb2 hz2
 clear hz2
 have hd : Below w2.heap.size w2 w2.drew := (Below.refl _ _).drew
 have HL1 := Lib.hid hI1.lt
 have HL2 := Lib.hid hJ2.lt
 have HB := Lib.hid (bwstep (bwstep hb1 hb2) hd)
 have HN : Hid (∀ k ∈ [w.heap.size, w1.heap.size], w.heap.size ≤ k ∧ k < w2.drew.heap.size) := Lib.hid fun k hk => by
  have h1 := HL1.out
  have h2 := HL2.out
  have h3 := hd.size
  simp only [List.mem_cons, List.not_mem_nil, or_false] at hk
  rcases hk with rfl | rfl
  ·exact ⟨Nat.le_refl _, by omega⟩
  ·exact ⟨by omega, by omega⟩
 have HT2 := Lib.hid (HT.out.more HB.out _ HN.out)
 have HIJ := Lib.hid (sget_of ((hI1.up hb2).up hd) ⟨_, hJ2.up hd⟩)
 clear hI1 hJ2 hb1 hb2
 go_wp2_with fail
 refine wp_region_held_drew (S := fun z => cmD.In w.heap.size c z ∧ z.cell? ⟨w.heap.size, 3, none⟩ = some (.string c.row) ∧ z.cell? ⟨w.heap.size, 4, none⟩ = some (.string c.col) ∧ z.cell? ⟨w.heap.size, 6, none⟩ = some (.int .i64 c.at_) ∧ (∃ r0, rpD.In w1.heap.size r0 z)) (by kernel_rfl) HIJ.out (fun hHeld => ?_)
 refine takeL 0 (h := ?_)
 refine takeL 1 (h := ?_)
 refine takeL 2 (h := ?_)
 refine takeL 3 (h := ?_)
 refine takeL 4 (h := ?_)
 refine takeL 5 (h := ?_)
 refine takeL 6 (h := ?_)
 refine takeL 7 (h := ?_)
 refine takeL 8 (h := ?_)
 refine wpAnyH_ready (rs := [9]) (by kernel_rfl) (by simp) ?_
 refine AllReadyH.cons (o := _) (by simp only [List.getElem?_toArray, List.getElem?_cons_succ, List.getElem?_cons_zero]; rfl) (fun K hK => ?_) AllReadyH.nil
 go_simp
 go_at_call 54
 refine (HG.out _ _ HT2.out).mono ?_
 rintro e w3 ⟨rfl, hb3⟩
 have HB3 := Lib.hid (bwstep HB.out hb3)
 refine hK.out _ _ (sget_of (hHeld.1.up hb3) (hHeld.2.2.2.2.elim fun r0 q => ⟨r0, q.up hb3⟩)) (fun hHeld => ?_)
 have HI3 := Lib.hid hHeld.1
 have HJ3 := Lib.hid hHeld.2.2.2.2
 have HT3 := Lib.hid (HT2.out.up hb3)
 clear hb3 hK K
 ((try simp only [Act.put]); (try simp only [List.setIfInBounds_toArray]); (try simp only [List.set_cons_succ]); (try simp only [List.set_cons_zero]))
 refine takeL 10 (h := ?_)
 refine takeL 11 (h := ?_)
 refine takeL 12 (h := ?_)
 refine takeL 13 (h := ?_)
 refine takeL 14 (h := ?_)
 refine wpAnyH_done (by kernel_rfl) ?_ _
 clear hHeld
 obtain ⟨r0, hr0⟩ := HJ3.out
 obtain ⟨c0, c1, c2, c3, c4, c5, c6, c7, c8, c9⟩ := CmAt.of HI3.out
 clear c0 c1 c2 c3 c4 c5 c6 c7
 by_cases hq : q = c.has
 ·have s2 := str_ne fun e => HNO.out ⟨hq, e⟩
  have hqq : (q == c.has) = true := by simp [hq]
  have hqn : (q != c.has) = false := by simp [hq]
  clear hq
  go_wp2_with (refine St.store rpOk (c := rpD.z) rfl (.tmp 4) (.tmp 31) rfl rfl rfl hr0 ?_)
  constructor
  intro w4 hs4
  go_wp2_with fail
  exact bodyPost_ret (St.res1 rpOk Tryz.results41 rfl hs4.i) rfl ⟨rfl, hs4.bel HB3.out (Nat.le_of_lt HL1.out)⟩
 ·have hqq : (q == c.has) = false := by simpa using hq
  have hqn : (q != c.has) = true := by simpa using hq
  clear hq
  go_wp2_with (refine St.store rpOk (c := rpD.z) rfl (.tmp 4) (.tmp 31) rfl rfl rfl hr0 ?_)
  constructor
  intro w4 hs4
  go_wp2_with fail
  exact bodyPost_ret (St.res1 rpOk Tryz.results41 rfl hs4.i) rfl ⟨rfl, hs4.bel HB3.out (Nat.le_of_lt HL1.out)⟩
theorem scheck_yes {w : World} {S M : List Nat} {b : Nat} {t : Tr} {K : List Cl} (c : Cm) (h : TreeAt H w S M b shf t) (hg : GoodT shf t K) (hr : c.row.size ≤ 1000000) (hc : c.col.size ≤ 1000000) (hf : c.cell.ok → FitsK (c.cell :: K)) (hy1 : getB t c.row c.col c.at_ = c.has) (hy2 : getV t c.row c.col c.at_ = c.expect) :
  Calls Tryz.prog 41 #[.pointer (some ⟨b, 0, none⟩), c.v] w (PutEndS H w S M b ⟨t.code c.cell, t.code c.cell == 0, ⟨#[]⟩, none, 0, 0⟩ (t.after shf c.cell)) := by
 have HLT : Hid (∀ k ∈ M, k < w.heap.size) := Lib.hid fun k hk => (tree_sub h k hk).2
 have HT := Lib.hid h
 have HG : Hid (∀ W S0, TreeAt H W (S0) M b shf t → Calls Tryz.prog 54 #[.pointer (some ⟨b, 0, none⟩), .string c.row, .string c.col, .int .i64 c.at_] W fun e w' => e = .returned (.tuple #[.string (getV t c.row c.col c.at_), .bool (getB t c.row c.col c.at_)]) ∧ Below W.heap.size W w') := Lib.hid fun W S0 hW => tree_get _ _ _ hW hg hr hc
 have HPUT : Hid (∀ W S0, TreeAt H W S0 M b shf t → Calls Tryz.prog 39 #[.pointer (some ⟨b, 0, none⟩), c.v] W (PutEndS H W S0 M b ⟨t.code c.cell, false, ⟨#[]⟩, none, 0, 0⟩ (t.after shf c.cell))) := Lib.hid fun W S0 hW => sput_any c hW hg hf
 generalize t.code c.cell = n at *
 generalize t.after shf c.cell = t' at *
 generalize getV t c.row c.col c.at_ = v at *
 generalize getB t c.row c.col c.at_ = q at *
 clear h hg hr hc hf
 go_enter Tryz.func41, Tryz.ntmps41
 go_wp2_with (refine St.box cmD rfl (.tmp 1) c rfl rfl ?_)
 constructor
 intro w1 hI1 hb1 hz1
 clear hz1
 go_wp2_with (refine St.alloc rpOk rfl rfl ?_)
 constructor
 intro w2 hJ2 hb2 hz2
 clear hz2
 have hd : Below w2.heap.size w2 w2.drew := (Below.refl _ _).drew
 have HL1 := Lib.hid hI1.lt
 have HL2 := Lib.hid hJ2.lt
 have HB := Lib.hid (bwstep (bwstep hb1 hb2) hd)
 have HN : Hid (∀ k ∈ [w.heap.size, w1.heap.size], w.heap.size ≤ k ∧ k < w2.drew.heap.size) := Lib.hid fun k hk => by
  have h1 := HL1.out
  have h2 := HL2.out
  have h3 := hd.size
  simp only [List.mem_cons, List.not_mem_nil, or_false] at hk
  rcases hk with rfl | rfl
  ·exact ⟨Nat.le_refl _, by omega⟩
  ·exact ⟨by omega, by omega⟩
 have HT2 := Lib.hid (HT.out.more HB.out _ HN.out)
 have HIJ := Lib.hid (sget_of ((hI1.up hb2).up hd) ⟨_, hJ2.up hd⟩)
 clear hI1 hJ2 hb1 hb2
 go_wp2_with fail
 refine wp_region_held_drew (S := fun z => cmD.In w.heap.size c z ∧ z.cell? ⟨w.heap.size, 3, none⟩ = some (.string c.row) ∧ z.cell? ⟨w.heap.size, 4, none⟩ = some (.string c.col) ∧ z.cell? ⟨w.heap.size, 6, none⟩ = some (.int .i64 c.at_) ∧ (∃ r0, rpD.In w1.heap.size r0 z)) (by kernel_rfl) HIJ.out (fun hHeld => ?_)
 refine takeL 0 (h := ?_)
 refine takeL 1 (h := ?_)
 refine takeL 2 (h := ?_)
 refine takeL 3 (h := ?_)
 refine takeL 4 (h := ?_)
 refine takeL 5 (h := ?_)
 refine takeL 6 (h := ?_)
 refine takeL 7 (h := ?_)
 refine takeL 8 (h := ?_)
 refine wpAnyH_ready (rs := [9]) (by kernel_rfl) (by simp) ?_
 refine AllReadyH.cons (o := _) (by simp only [List.getElem?_toArray, List.getElem?_cons_succ, List.getElem?_cons_zero]; rfl) (fun K hK => ?_) AllReadyH.nil
 go_simp
 go_at_call 54
 refine (HG.out _ _ HT2.out).mono ?_
 rintro e w3 ⟨rfl, hb3⟩
 have HB3 := Lib.hid (bwstep HB.out hb3)
 refine hK.out _ _ (sget_of (hHeld.1.up hb3) (hHeld.2.2.2.2.elim fun r0 q => ⟨r0, q.up hb3⟩)) (fun hHeld => ?_)
 have HI3 := Lib.hid hHeld.1
 have HJ3 := Lib.hid hHeld.2.2.2.2
 have HT3 := Lib.hid (HT2.out.up hb3)
 clear hb3 hK K
 ((try simp only [Act.put]); (try simp only [List.setIfInBounds_toArray]); (try simp only [List.set_cons_succ]); (try simp only [List.set_cons_zero]))
 refine takeL 10 (h := ?_)
 refine takeL 11 (h := ?_)
 refine takeL 12 (h := ?_)
 refine takeL 13 (h := ?_)
 refine takeL 14 (h := ?_)
 refine wpAnyH_done (by kernel_rfl) ?_ _
 clear hHeld
 obtain ⟨c0, c1, c2, c3, c4, c5, c6, c7, c8, c9⟩ := CmAt.of HI3.out
 clear c0 c1 c2 c3 c4 c5 c6 c7
 have s2 := str_eq hy2
 have hqq : (q == c.has) = true := by simp [hy1]
 have hqn : (q != c.has) = false := by simp [hy1]
 have hi3 := HI3.out
 clear hy1 hy2
 go_wp2_with (refine St.load cmOk rfl (.tmp 3) rfl rfl hi3 ?_)
 refine (HPUT.out _ _ HT3.out).mono ?_
 rintro e w4 ⟨M', rfl, hA, hP, hM⟩
 have HA := Lib.hid hA
 have HP := Lib.hid hP
 have HM := Lib.hid hM
 have HJ4 : Hid (∃ r0, rpD.In w1.heap.size r0 w4) := Lib.hid (HJ3.out.elim fun r0 q => ⟨r0, ⟨(hP.block _ q.lt fun hm => by have := HLT.out _ hm; have := HL1.out; omega).trans q.h⟩⟩)
 have HN3 : Hid (∀ k ∈ [w.heap.size, w1.heap.size], w.heap.size ≤ k ∧ k < w3.heap.size) := Lib.hid fun k hk => by
  have h1 := HL1.out
  have h2 := HI3.out.lt
  have h3 := HJ3.out.elim fun r0 q => q.lt
  simp only [List.mem_cons, List.not_mem_nil, or_false] at hk
  rcases hk with rfl | rfl
  ·exact ⟨Nat.le_refl _, by omega⟩
  ·exact ⟨by omega, by omega⟩
 clear hA hP hM hi3 c8 c9 s2
 go_wp2_with (refine St.alloc rpOk rfl rfl ?_)
 constructor
 intro w5 hK5 hb5 hz5
 clear hz5
 have HJ5 : Hid (∃ r0, rpD.In w1.heap.size r0 w5) := Lib.hid (HJ4.out.elim fun r0 q => ⟨r0, q.up hb5⟩)
 have HB5 := Lib.hid hb5
 have HL4 : Hid (w1.heap.size < w4.heap.size) := Lib.hid (HJ4.out.elim fun r0 q => q.lt)
 clear hb5
 go_wp2_with (refine St.store rpOk (c := ⟨n, false, ⟨#[]⟩, none, 0, 0⟩) rfl (.tmp 7) (.tmp 34) rfl rfl rfl hK5 ?_)
 constructor
 intro w6 hs6
 have HJ6 : Hid (∃ r0, rpD.In w1.heap.size r0 w6) := Lib.hid (HJ5.out.elim fun r0 q => ⟨r0, hs6.up q (Nat.ne_of_lt HL4.out)⟩)
 have HS6 := Lib.hid hs6
 have d0 : w6.cell? ⟨w4.heap.size, 0, none⟩ = some (.int .i64 n) := hs6.i.at_ rfl
 have d1 : w6.cell? ⟨w4.heap.size, 1, none⟩ = some (.bool false) := hs6.i.at_ rfl
 have f1 := hs6.i.fz 1
 have hS := chk_set (q := n == 0) hs6.i
 have hi7 := hS.i
 obtain ⟨r0, hr6⟩ := HJ6.out
 have hr7 := hS.up hr6 (Nat.ne_of_lt HL4.out)
 have HS7 := Lib.hid hS
 clear hs6 hK5 hS hr6
 go_wp2_with (first
  | (refine St.load rpOk (c := ⟨n, n == 0, ⟨#[]⟩, none, 0, 0⟩) rfl (.tmp 7) rfl rfl hi7 ?_)
  | (refine St.store rpOk (c := ⟨n, n == 0, ⟨#[]⟩, none, 0, 0⟩) rfl (.tmp 4) (.tmp 39) rfl rfl rfl hr7 ?_))
 constructor
 intro w8 hs8
 have hone : ∀ k ∈ [w4.heap.size], k ∈ [w.heap.size, w1.heap.size] ∨ w4.heap.size ≤ k := fun k hk => .inr (by rw [List.mem_singleton.1 hk]; exact Nat.le_refl _)
 have hk6 := (Kp.of_below HB5.out [w.heap.size, w1.heap.size]).trans (St.Sp.Set.kp HS6.out (S := [w4.heap.size]) (by simp)) hone
 have hk7 := hk6.trans (St.Sp.Set.kp HS7.out (S := [w4.heap.size]) (by simp)) hone
 have HK : Hid (Kp [w.heap.size, w1.heap.size] w4 w8) := Lib.hid (hk7.trans (St.Sp.Set.kp hs8 (S := [w.heap.size, w1.heap.size]) (by simp)) fun _ h => .inl h)
 clear hone hk6 hk7
 have HE := Lib.hid (TreeAt.done HB3.out HN3.out HLT.out HA.out HP.out HM.out HK.out)
 go_wp2_with fail
 exact bodyPost_ret (St.res1 rpOk Tryz.results41 rfl hs8.i) rfl ⟨M', rfl, HE.out⟩
end Go.Proofs.YtcpkhhbbjimdaaaGreatDoor.Ce
namespace Go.Proofs.YtcpkhhbbjimdaaaGreatDoor.Ce
open Go.RowKit
variable {H : Hos}
def DoEnd (H : Hos) (w : World) (S M : List Nat) (b : Nat) (L : List Cl) (c : Cm) (n : Nat) (e : Ending) (w' : World) : Prop :=
 ∃ (M' : List Nat) (r : Rv) (t' : Tr) (K' : List Cl), e = .returned r.v ∧ RpIs w' [] r (doR L c) ∧ TreeAt H w' (M' ++ S) M' b shf t' ∧ GoodT shf t' K' ∧ (K'.length ≤ n + 1 ∧ szs K' ≤ 401 * (K'.length : Int)) ∧ t'.cells = doL L c ∧ Kp M w w' ∧ ∀ k ∈ M', k ∈ M ∨ w.heap.size ≤ k
theorem put_do {t : Tr} {K : List Cl} {d : Cl} (hg : GoodT shf t K) (hd : d.ok) : t.code d = putE16 t.cells d ∧ (t.after shf d).cells = putL t.cells d := by
 unfold putE16 putL roomB
 by_cases hl : (put1 d t.cells).length ≤ 400
 ·obtain ⟨a, b⟩ := after_put hg.ok hd hl shf
  rw [if_pos (decide_eq_true hl), if_pos (decide_eq_true hl)]
  exact ⟨b, a⟩
 ·obtain ⟨a, b⟩ := after_full (t := t) hd hl shf
  rw [if_neg (by simpa using hl), if_neg (by simpa using hl), a]
  exact ⟨b, rfl⟩
theorem getB_there (t : Tr) (c : Cm) : getB t c.row c.col c.at_ = thereB t.cells c ∧ getV t c.row c.col c.at_ = if thereB t.cells c = true then foundV t.cells c else ⟨#[]⟩ := by
 unfold getB getV thereB foundV nwB nwC
 cases newest c.row c.col c.at_ t.cells with
 | none => exact ⟨rfl, rfl⟩
 | some d => cases hg : d.gone <;> simp [hg]
section
variable {w : World} {S M : List Nat} {b n : Nat} {t : Tr} {K : List Cl}
theorem PutEndS.do_ {c : Cm} {d : Cl} {r : Rv} (hg : GoodT shf t K) (hn : K.length ≤ n) (hn2 : n ≤ 104) (hs : szs K ≤ 401 * (K.length : Int)) (hd : d.ok) (hL : doL t.cells c = putL t.cells d) (hr : ∀ w' : World, RpIs w' [] r (doR t.cells c)) {e : Ending} {w' : World} (h : PutEndS H w S M b r (t.after shf d) e w') : DoEnd H w S M b t.cells c n e w' := by
 obtain ⟨M', rfl, h1, h2, h3⟩ := h
 obtain ⟨f1, f2⟩ := fits_snoc hg.f hd (by omega) hs
 exact ⟨M', r, _, d :: K, rfl, hr w', h1, ⟨hg.r, after_ok hg.ok shf d, after_in hg.i shf d, f1⟩, ⟨by rw [List.length_cons]; omega, f2⟩, by rw [hL]; exact (put_do hg hd).2, h2, h3⟩
theorem Below.do_ {c : Cm} {r : Rv} (h : TreeAt H w S M b shf t) (hg : GoodT shf t K) (hn : K.length ≤ n) (hs : szs K ≤ 401 * (K.length : Int)) (hL : doL t.cells c = t.cells) {w' : World} (hr : RpIs w' [] r (doR t.cells c)) {e : Ending} (he : e = .returned r.v) (hb : Below w.heap.size w w') : DoEnd H w S M b t.cells c n e w' := by
 obtain ⟨M', h1, h2, h3⟩ := h.same hb
 exact ⟨M', r, t, K, he, hr, h1, hg, ⟨by omega, hs⟩, hL.symm, h2, h3⟩
theorem do1_any (c : Cm) (h : TreeAt H w S M b shf t) (hg : GoodT shf t K) (hn : K.length ≤ n) (hn2 : n ≤ 104) (hs : szs K ≤ 401 * (K.length : Int)) (hr : c.Right) (hk : c.kind = 1) : Calls Tryz.prog 39 #[.pointer (some ⟨b, 0, none⟩), c.v] w (DoEnd H w S M b t.cells c n) := by
 have q := (hr.1.four (by omega)).cell
 have e1 : c.one = c.cell := by simp [Cm.one, Cm.cell, hk]
 refine (sput_any c h hg fun hd => (fits_snoc hg.f hd (by omega) hs).1).mono fun e w' => PutEndS.do_ hg hn hn2 hs q (by simp [doL, writesB, hk, e1]) fun w' => ⟨?_, ?_, ?_, ?_⟩
 ·simp [doR, writesB, hk, e1, (put_do hg q).1]
 ·simp [doR, writesB, hk]
 ·simp [doR, writesB, hk]
 ·simpa [doR, writesB, hk] using RdL.nil w' []
theorem do2_any (c : Cm) (h : TreeAt H w S M b shf t) (hg : GoodT shf t K) (hn : K.length ≤ n) (hn2 : n ≤ 104) (hs : szs K ≤ 401 * (K.length : Int)) (hr : c.Right) (hk : c.kind = 2) : Calls Tryz.prog 40 #[.pointer (some ⟨b, 0, none⟩), c.v] w (DoEnd H w S M b t.cells c n) := by
 have f := hr.1.four (by omega)
 have e1 : c.one = c.gone := by simp [Cm.one, Cm.gone, hk, f.value (.inl hk), nul]
 have q : c.gone.ok := e1 ▸ one_ok (L := []) hr.1 (by simp [writesB, hk])
 refine (srem_any c h hg fun hd => (fits_snoc hg.f hd (by omega) hs).1).mono fun e w' => PutEndS.do_ hg hn hn2 hs q (by simp [doL, writesB, hk, e1]) fun w' => ⟨?_, ?_, ?_, ?_⟩
 ·simp [doR, writesB, hk, e1, (put_do hg q).1]
 ·simp [doR, writesB, hk]
 ·simp [doR, writesB, hk]
 ·simpa [doR, writesB, hk] using RdL.nil w' []
theorem do3_any (c : Cm) (h : TreeAt H w S M b shf t) (hg : GoodT shf t K) (hn : K.length ≤ n) (hn2 : n ≤ 104) (hs : szs K ≤ 401 * (K.length : Int)) (hr : c.Right) (hk : c.kind = 3) : Calls Tryz.prog 41 #[.pointer (some ⟨b, 0, none⟩), c.v] w (DoEnd H w S M b t.cells c n) := by
 have f := hr.1.four (by omega)
 have q := f.cell
 have e1 : c.one = c.cell := by simp [Cm.one, Cm.cell, hk]
 have r1 := q.r2
 have r2 := q.c2
 obtain ⟨g1, g2⟩ := getB_there t c
 have hh : holdsB t.cells c = true ↔ (getB t c.row c.col c.at_ = c.has ∧ getV t c.row c.col c.at_ = c.expect) := by
  rw [g1, g2]
  unfold holdsB
  rcases f.has with hx | hx
  ·cases ht : thereB t.cells c <;> simp [hx]
  ·cases ht : thereB t.cells c
   ·simp [hx, nul]
   ·simp
 by_cases hq : getB t c.row c.col c.at_ = c.has ∧ getV t c.row c.col c.at_ = c.expect
 ·have hb := hh.2 hq
  refine (scheck_yes c h hg (by unfold Cm.cell at r1; simp only at r1; omega) (by unfold Cm.cell at r2; simp only at r2; omega) (fun hd => (fits_snoc hg.f hd (by omega) hs).1) hq.1 hq.2).mono fun e w' => PutEndS.do_ hg hn hn2 hs q (by simp [doL, writesB, hk, hb, e1]) fun w' => ⟨?_, ?_, ?_, ?_⟩
  ·simp [doR, writesB, hk, hb, e1, (put_do hg q).1]
  ·rw [(put_do hg q).1]
   simp only [doR, writesB, hk, hb, e1]
   simp
   rfl
  ·simp [doR, writesB, hk]
  ·simpa [doR, writesB, hk] using RdL.nil w' []
 ·have hb : holdsB t.cells c = false := by
   cases hx : holdsB t.cells c with
   | false => rfl
   | true => exact absurd (hh.1 hx) hq
  refine (scheck_no c h hg (by unfold Cm.cell at r1; simp only at r1; omega) (by unfold Cm.cell at r2; simp only at r2; omega) hq).mono fun e w' hw => Below.do_ h hg hn hs (by simp [doL, writesB, hk, hb]) ⟨?_, ?_, ?_, ?_⟩ hw.1 hw.2
  ·simp [doR, writesB, hk, hb]
  ·simp [doR, writesB, hk, hb]
  ·simp [doR, writesB, hk]
  ·simpa [doR, writesB, hk] using RdL.nil w' []
theorem do4_any (c : Cm) (h : TreeAt H w S M b shf t) (hg : GoodT shf t K) (hn : K.length ≤ n) (_hn2 : n ≤ 104) (hs : szs K ≤ 401 * (K.length : Int)) (hr : c.Right) (hk : c.kind = 4) : Calls Tryz.prog 42 #[.pointer (some ⟨b, 0, none⟩), c.v] w (DoEnd H w S M b t.cells c n) := by
 have q := (hr.1.four (by omega)).cell
 have r1 := q.r2
 have r2 := q.c2
 obtain ⟨g1, g2⟩ := getB_there t c
 refine (sget_any c h hg (by unfold Cm.cell at r1; simp only at r1; omega) (by unfold Cm.cell at r2; simp only at r2; omega)).mono fun e w' hw => Below.do_ h hg hn hs (by simp [doL, writesB, hk]) ⟨?_, ?_, ?_, ?_⟩ hw.1 hw.2
 ·simp [doR, writesB, hk]
 ·simp [doR, writesB, hk, g1]
 ·simp [doR, writesB, hk, g2]
 ·simpa [doR, writesB, hk] using RdL.nil w' []
theorem do5_any (c : Cm) (h : TreeAt H w S M b shf t) (hg : GoodT shf t K) (hn : K.length ≤ n) (_hn2 : n ≤ 104) (hs : szs K ≤ 401 * (K.length : Int)) (hr : c.Right) (hk : c.kind = 5) : Calls Tryz.prog 43 #[.pointer (some ⟨b, 0, none⟩), c.v] w (DoEnd H w S M b t.cells c n) := by
 have f := hr.1.five hk
 have r1 := f.row
 have r2 := f.to_
 refine (sscan_any c h hg (by omega) (by omega)).mono ?_
 rintro e w' ⟨⟨A, m, k, he, hx⟩, hb⟩
 refine Below.do_ h hg hn hs (by simp [doL, writesB, hk]) ⟨?_, ?_, ?_, ?_⟩ he hb
 ·simp [doR, writesB, hk]
 ·simp [doR, writesB, hk]
 ·simp [doR, writesB, hk]
 ·simpa [doR, writesB, hk] using hx
end
end Go.Proofs.YtcpkhhbbjimdaaaGreatDoor.Ce
namespace Go.Proofs.YtcpkhhbbjimdaaaGreatDoor.Ce
open Go.RowKit
structure StAt (w : World) (S M : List Nat) (b : Nat) (m : Sm) (n : Nat) : Prop where
 ex : ∃ (rv : Nat → Rv) (t : Tr) (K : List Cl), TreeAt (stH m.seq rv) w S M b shf t ∧ GoodT shf t K ∧ (K.length ≤ n ∧ szs K ≤ 401 * (K.length : Int)) ∧ t.cells = m.cells ∧ ∀ i, RpIs w S (rv i) (m.rep i)
 good : m.Good
 few : ∀ i, (m.rep i).cells.length ≤ 20
noncomputable def Sm.apply (m : Sm) (c : Cm) : Sm × Rp := if c.Right then m.app c else (m, Rp.err)
theorem Sm.apply_no {m : Sm} {c : Cm} (h : ¬ c.Right) : m.apply c = (m, Rp.err) := if_neg h
theorem Sm.apply_yes {m : Sm} {c : Cm} (h : c.Right) : m.apply c = m.app c := if_pos h
theorem RpIs.up {w w' : World} {S S' : List Nat} {r : Rv} {R : Rp} (h : RpIs w S r R) (hk : Kp S w w') (hS : ∀ k ∈ S', k ∈ S ∨ w.heap.size ≤ k) : RpIs w' S' r R := ⟨h.e, h.did, h.value, h.cells.up hk hS⟩
def AppEndS (w : World) (S M : List Nat) (b : Nat) (m : Sm) (R : Rp) (n : Nat) (e : Ending) (w' : World) : Prop :=
 ∃ (M' : List Nat) (r : Rv), e = .returned r.v ∧ RpOw w' w.heap.size r R ∧ StAt w' (M' ++ S) M' b m n ∧ Kp M w w' ∧ (∀ k ∈ M', k ∈ M ∨ w.heap.size ≤ k) ∧
  ∃ B, w.heap.size ≤ B ∧ RpOw w' B r R ∧ (∀ k ∈ M', k < B) ∧ ∀ N : List Nat, (∀ k ∈ N, B ≤ k ∧ k < w'.heap.size) → StAt w' (N ++ (M' ++ S)) M' b m n
section
variable {w w' : World} {S S' M N : List Nat} {b n n' : Nat} {m : Sm}
theorem StAt.bM (h : StAt w S M b m n) : b ∈ M := by
 obtain ⟨rv, t, K, h1, -⟩ := h.ex
 exact h1.bM
theorem StAt.sub (h : StAt w S M b m n) : ∀ k ∈ M, k ∈ S ∧ k < w.heap.size := by
 obtain ⟨rv, t, K, h1, -⟩ := h.ex
 exact tree_sub h1
theorem StAt.slt (h : StAt w S M b m n) : ∀ k ∈ S, k < w.heap.size := by
 obtain ⟨rv, t, K, h1, -⟩ := h.ex
 exact tree_slt h1
theorem StAt.keep (h : StAt w S M b m n) (hk : Kp N w w') (hN : ∀ k ∈ N, (k ∈ S ∧ k ∉ M) ∨ w.heap.size ≤ k) (hS : ∀ k ∈ S', k ∈ S ∨ w.heap.size ≤ k) (hM : ∀ k ∈ M, k ∈ S') (hz : ∀ k ∈ S', k < w'.heap.size) : StAt w' S' M b m n := by
 obtain ⟨rv, t, K, h1, h2, h3, h4, h5⟩ := h.ex
 refine ⟨⟨rv, t, K, tree_keep h1 hk hN hS hM hz, h2, h3, h4, fun i => (h5 i).up (S := S) ⟨hk.os, hk.tape, hk.output, hk.size, fun k hk2 hn => hk.block k hk2 fun hm => ?_⟩ hS⟩, h.good, h.few⟩
 rcases hN k hm with q | q
 ·exact hn q.1
 ·omega
theorem StAt.up (h : StAt w S M b m n) (hb : Below w.heap.size w w') : StAt w' S M b m n :=
 h.keep (Kp.of_below hb []) (by simp) (fun _ h => .inl h) (fun k hk => (h.sub k hk).1) fun k hk => Nat.lt_of_lt_of_le (h.slt k hk) hb.size
theorem StAt.mono (h : StAt w S M b m n) (hn : n ≤ n') : StAt w S M b m n' := by
 obtain ⟨rv, t, K, h1, h2, h3, h4, h5⟩ := h.ex
 exact ⟨⟨rv, t, K, h1, h2, ⟨by omega, h3.2⟩, h4, h5⟩, h.good, h.few⟩
theorem StAt.same (h : StAt w S M b m n) (hb : Below w.heap.size w w') : ∃ M', StAt w' (M' ++ S) M' b m n ∧ Kp M w w' ∧ ∀ k ∈ M', k ∈ M ∨ w.heap.size ≤ k := by
 refine ⟨M, h.keep (Kp.of_below hb []) (by simp) (fun k hk => .inl ?_) (fun k hk => by simp [hk]) (fun k hk => ?_), Kp.of_below hb M, fun k hk => .inl hk⟩
 ·rcases List.mem_append.1 hk with q | q
  ·exact (h.sub k q).1
  ·exact q
 ·rcases List.mem_append.1 hk with q | q
  ·exact Nat.lt_of_lt_of_le (h.sub k q).2 hb.size
  ·exact Nat.lt_of_lt_of_le (h.slt k q) hb.size
theorem StAt.end_ (h : StAt w S M b m n) (hb : Below w.heap.size w w') {r : Rv} {R : Rp} (hr : RpOw w' w.heap.size r R) : AppEndS w S M b m R (n + 1) (.returned r.v) w' := by
 have h' := h.mono (Nat.le_succ n)
 have hex : ∀ N : List Nat, (∀ k ∈ N, w.heap.size ≤ k ∧ k < w'.heap.size) → StAt w' (N ++ (M ++ S)) M b m (n + 1) := fun N hN => by
  refine h'.keep (Kp.of_below hb []) (by simp) (fun k hk => ?_) (fun k hk => by simp [hk]) (fun k hk => ?_)
  ·rcases List.mem_append.1 hk with q | q
   ·exact .inr (hN k q).1
   ·rcases List.mem_append.1 q with q | q
    ·exact .inl (h.sub k q).1
    ·exact .inl q
  ·rcases List.mem_append.1 hk with q | q
   ·exact (hN k q).2
   ·rcases List.mem_append.1 q with q | q
    ·exact Nat.lt_of_lt_of_le (h.sub k q).2 hb.size
    ·exact Nat.lt_of_lt_of_le (h.slt k q) hb.size
 exact ⟨M, r, rfl, hr, hex [] (by simp), Kp.of_below hb M, fun k hk => .inl hk, w.heap.size, Nat.le_refl _, hr, fun k hk => (h.sub k hk).2, hex⟩
end
theorem RpOw.err (w : World) (B : Nat) : RpOw w B RvE Rp.err := ⟨rfl, rfl, rfl, OwL.nil w B⟩
theorem apply_no {w : World} {S M : List Nat} {b n : Nat} {m : Sm} (c : Cm) (h : StAt w S M b m n) (hk : Kd w) (hr : ¬ c.Right) :
  Calls Tryz.prog 14 #[.pointer (some ⟨b, 0, none⟩), c.v] w (AppEndS w S M b m Rp.err (n + 1)) := by
 have HRT := Lib.hid (fun w hk => cright_any c w hk)
 have HK := Lib.hid hk
 have HST := Lib.hid h
 clear h hk
 rw [decide_eq_false hr] at HRT
 clear hr
 go_enter Tryz.func14, Tryz.ntmps14
 go_wp2_with (refine St.box cmD rfl (.tmp 1) c rfl rfl ?_)
 constructor
 intro w1 hI1 hb1 hz1
 clear hz1
 go_wp2_with (refine St.alloc rpOk rfl rfl ?_)
 constructor
 intro w2 hJ2 hb2 hz2
 clear hz2
 have HL1 := Lib.hid hI1.lt
 have HL2 := Lib.hid hJ2.lt
 have HB2 := Lib.hid (bwstep hb1 hb2)
 have hI2 := hI1.up hb2
 clear hI1 hb1 hb2
 go_wp2_with (refine St.load cmOk rfl (.tmp 3) rfl rfl hI2 ?_)
 refine (HRT.out _ (HK.out.up HB2.out)).mono ?_
 rintro e w3 ⟨rfl, hb3⟩
 have HI3 := Lib.hid (hI2.up hb3)
 have HJ3 := Lib.hid (hJ2.up hb3)
 have HB3 := Lib.hid (bwstep HB2.out hb3)
 clear hI2 hJ2 hb3 HB2
 have hj3 := HJ3.out
 go_wp2_with (refine St.store rpOk (c := RvE) rfl (.tmp 4) (.tmp 9) rfl rfl rfl hj3 ?_)
 constructor
 intro w4 hs4
 have HB4 := Lib.hid (hs4.bel HB3.out (Nat.le_of_lt HL1.out))
 go_wp2_with fail
 exact bodyPost_ret (St.res1 rpOk Tryz.results14 rfl hs4.i) rfl (HST.out.end_ HB4.out (RpOw.err _ _))
theorem apply_lt {w : World} {S M : List Nat} {b n : Nat} {m : Sm} (c : Cm) (h : StAt w S M b m n) (hk : Kd w) (hr : c.Right) (hq : c.seq < m.seq c.client.toNat) :
  Calls Tryz.prog 14 #[.pointer (some ⟨b, 0, none⟩), c.v] w (AppEndS w S M b m Rp.err (n + 1)) := by
 have HRT := Lib.hid (fun w hk => cright_any c w hk)
 have HK := Lib.hid hk
 have HST := Lib.hid h
 clear h hk
 rw [decide_eq_true hr] at HRT
 have h0 : (0 : Int) ≤ c.client := by have := hr.1.c1; omega
 have h17 : c.client < 17 := by have := hr.1.c2; omega
 have hn17 : c.client.toNat < 17 := by omega
 go_enter Tryz.func14, Tryz.ntmps14
 go_wp2_with (refine St.box cmD rfl (.tmp 1) c rfl rfl ?_)
 constructor
 intro w1 hI1 hb1 hz1
 clear hz1
 go_wp2_with (refine St.alloc rpOk rfl rfl ?_)
 constructor
 intro w2 hJ2 hb2 hz2
 clear hz2
 have HL1 := Lib.hid hI1.lt
 have HL2 := Lib.hid hJ2.lt
 have HB2 := Lib.hid (bwstep hb1 hb2)
 have hI2 := hI1.up hb2
 clear hI1 hb1 hb2
 go_wp2_with (refine St.load cmOk rfl (.tmp 3) rfl rfl hI2 ?_)
 refine (HRT.out _ (HK.out.up HB2.out)).mono ?_
 rintro e w3 ⟨rfl, hb3⟩
 have HI3 := Lib.hid (hI2.up hb3)
 have HJ3 := Lib.hid (hJ2.up hb3)
 have HB3 := Lib.hid (bwstep HB2.out hb3)
 clear hI2 hJ2 hb3 HB2
 obtain ⟨rv, t, K, ht, hg, hKn, htc, hrp⟩ := HST.out.ex
 have HT := Lib.hid ht
 have HRP := Lib.hid hrp
 clear ht hrp
 have q1 : w3.cell? ⟨w.heap.size, 1, none⟩ = some (.int .i64 c.seq) := (CmAt.of HI3.out).c1
 have q2 : w3.cell? ⟨b, 7 + c.client.toNat * 5, none⟩ = some (.int .i64 (m.seq c.client.toNat)) := (HT.out.up HB3.out).seqC hn17
 have q0 : w3.cell? ⟨w.heap.size, 0, none⟩ = some (.int .i64 c.client) := (CmAt.of HI3.out).c0
 go_wp2_with fail
 go_quiet (fail)
 have hbn := bwN (w := w3) nq
 have HI4 := Lib.hid (HI3.out.up hbn)
 have HJ4 := Lib.hid (HJ3.out.up hbn)
 have HB4 := Lib.hid (bwstep HB3.out hbn)
 clear q1 q2 hbn HI3 HJ3 HB3 q0
 generalize w3.drewN nq = w4 at *
 have q1 : w4.cell? ⟨w.heap.size, 1, none⟩ = some (.int .i64 c.seq) := (CmAt.of HI4.out).c1
 have q2 : w4.cell? ⟨b, 7 + c.client.toNat * 5, none⟩ = some (.int .i64 (m.seq c.client.toNat)) := (HT.out.up HB4.out).seqC hn17
 go_wp2_with fail
 go_quiet (fail)
 have hbn := bwN (w := w4) nq
 have HI5 := Lib.hid (HI4.out.up hbn)
 have HJ5 := Lib.hid (HJ4.out.up hbn)
 have HB5 := Lib.hid (bwstep HB4.out hbn)
 clear q1 q2 hbn HI4 HJ4 HB4
 generalize w4.drewN nq = w5 at *
 have hj5 := HJ5.out
 go_wp2_with (refine St.store rpOk (c := RvE) rfl (.tmp 4) (.tmp 23) rfl rfl rfl hj5 ?_)
 constructor
 intro w6 hs6
 have HB6 := Lib.hid (hs6.bel HB5.out (Nat.le_of_lt HL1.out))
 go_wp2_with fail
 exact bodyPost_ret (St.res1 rpOk Tryz.results14 rfl hs6.i) rfl (HST.out.end_ HB6.out (RpOw.err _ _))
theorem apply_eq {w : World} {S M : List Nat} {b n : Nat} {m : Sm} (c : Cm) (h : StAt w S M b m n) (hk : Kd w) (hr : c.Right) (hq : c.seq = m.seq c.client.toNat) :
  Calls Tryz.prog 14 #[.pointer (some ⟨b, 0, none⟩), c.v] w (AppEndS w S M b m (m.rep c.client.toNat) (n + 1)) := by
 have HRT := Lib.hid (fun w hk => cright_any c w hk)
 have HK := Lib.hid hk
 have HST := Lib.hid h
 clear h hk
 rw [decide_eq_true hr] at HRT
 have h0 : (0 : Int) ≤ c.client := by have := hr.1.c1; omega
 have h17 : c.client < 17 := by have := hr.1.c2; omega
 have hn17 : c.client.toNat < 17 := by omega
 have hn1 : ¬ c.seq < m.seq c.client.toNat := by omega
 have hn2 : ¬ m.seq c.client.toNat < c.seq := by omega
 have HOWN := Lib.hid (fun W r h => own_any r (m.rep c.client.toNat) W h (Nat.le_trans (HST.out.few c.client.toNat) (by omega)))
 clear hq
 go_enter Tryz.func14, Tryz.ntmps14
 go_wp2_with (refine St.box cmD rfl (.tmp 1) c rfl rfl ?_)
 constructor
 intro w1 hI1 hb1 hz1
 clear hz1
 go_wp2_with (refine St.alloc rpOk rfl rfl ?_)
 constructor
 intro w2 hJ2 hb2 hz2
 clear hz2
 have HL1 := Lib.hid hI1.lt
 have HL2 := Lib.hid hJ2.lt
 have HB2 := Lib.hid (bwstep hb1 hb2)
 have hI2 := hI1.up hb2
 clear hI1 hb1 hb2
 go_wp2_with (refine St.load cmOk rfl (.tmp 3) rfl rfl hI2 ?_)
 refine (HRT.out _ (HK.out.up HB2.out)).mono ?_
 rintro e w3 ⟨rfl, hb3⟩
 have HI3 := Lib.hid (hI2.up hb3)
 have HJ3 := Lib.hid (hJ2.up hb3)
 have HB3 := Lib.hid (bwstep HB2.out hb3)
 clear hI2 hJ2 hb3 HB2
 obtain ⟨rv, t, K, ht, hg, hKn, htc, hrp⟩ := HST.out.ex
 have HT := Lib.hid ht
 have HRP := Lib.hid hrp
 clear ht hrp
 have q1 : w3.cell? ⟨w.heap.size, 1, none⟩ = some (.int .i64 c.seq) := (CmAt.of HI3.out).c1
 have q2 : w3.cell? ⟨b, 7 + c.client.toNat * 5, none⟩ = some (.int .i64 (m.seq c.client.toNat)) := (HT.out.up HB3.out).seqC hn17
 have q0 : w3.cell? ⟨w.heap.size, 0, none⟩ = some (.int .i64 c.client) := (CmAt.of HI3.out).c0
 go_wp2_with fail
 go_quiet (fail)
 have hbn := bwN (w := w3) nq
 have HI4 := Lib.hid (HI3.out.up hbn)
 have HJ4 := Lib.hid (HJ3.out.up hbn)
 have HB4 := Lib.hid (bwstep HB3.out hbn)
 clear q1 q2 hbn HI3 HJ3 HB3 q0
 generalize w3.drewN nq = w4 at *
 have q1 : w4.cell? ⟨w.heap.size, 1, none⟩ = some (.int .i64 c.seq) := (CmAt.of HI4.out).c1
 have q2 : w4.cell? ⟨b, 7 + c.client.toNat * 5, none⟩ = some (.int .i64 (m.seq c.client.toNat)) := (HT.out.up HB4.out).seqC hn17
 go_wp2_with fail
 go_quiet (fail)
 have hbn := bwN (w := w4) nq
 have HI5 := Lib.hid (HI4.out.up hbn)
 have HJ5 := Lib.hid (HJ4.out.up hbn)
 have HB5 := Lib.hid (bwstep HB4.out hbn)
 clear q1 q2 hbn HI4 HJ4 HB4
 generalize w4.drewN nq = w5 at *
 have q1 : w5.cell? ⟨w.heap.size, 1, none⟩ = some (.int .i64 c.seq) := (CmAt.of HI5.out).c1
 have q2 : w5.cell? ⟨b, 7 + c.client.toNat * 5, none⟩ = some (.int .i64 (m.seq c.client.toNat)) := (HT.out.up HB5.out).seqC hn17
 go_wp2_with fail
 go_quiet (fail)
 have hbn := bwN (w := w5) nq
 have HI6 := Lib.hid (HI5.out.up hbn)
 have HJ6 := Lib.hid (HJ5.out.up hbn)
 have HB6 := Lib.hid (bwstep HB5.out hbn)
 clear q1 q2 hbn HI5 HJ5 HB5
 generalize w5.drewN nq = w6 at *
 have hra := (HT.out.up HB6.out).repAll hn17
 go_wp2_with (refine St.loadAt rpOk rfl (.tmp 50) rfl ⟨b, 7 + c.client.toNat * 5 + 1, none⟩ rfl hra ?_)
 have hri := (HRP.out c.client.toNat).up (S' := []) (Kp.of_below HB6.out S) (fun _ h => by cases h)
 refine (HOWN.out _ _ hri).mono ?_
 rintro e w7 ⟨⟨r7, rfl, ho7⟩, hb7⟩
 have HO7 := Lib.hid ho7
 have HB7 := Lib.hid (bwstep HB6.out hb7)
 have hj7 := HJ6.out.up hb7
 clear ho7 hb7 hra hri
 go_wp2_with (refine St.store rpOk (c := r7) rfl (.tmp 4) (.tmp 52) rfl rfl rfl hj7 ?_)
 constructor
 intro w8 hs8
 have HB8 := Lib.hid (hs8.bel HB7.out (Nat.le_of_lt HL1.out))
 have HR : Hid (RpOw w8 w.heap.size r7 (m.rep c.client.toNat)) := Lib.hid ⟨HO7.out.e, HO7.out.did, HO7.out.value, ((HO7.out.cells.keepN (St.Sp.Set.kp hs8 (S := [w1.heap.size]) (by simp)) fun k hk hm => by
  have := (HO7.out.cells.lt k hk).1
  have := HJ6.out.lt
  rw [List.mem_singleton.1 hm] at *
  omega).mono HB6.out.size)⟩
 go_wp2_with fail
 exact bodyPost_ret (St.res1 rpOk Tryz.results14 rfl hs8.i) rfl (HST.out.end_ HB8.out HR.out)
end Go.Proofs.YtcpkhhbbjimdaaaGreatDoor.Ce
