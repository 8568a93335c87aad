/- Votes in a map by their slots, each in a block of its own: plain, and as the world holds them. What a log says, where it lies: the greatest ballot and the map of votes; a vote more. One record more in what a log says. What a log says, as lists: its votes by rising slots. What a log's bytes say: gather, Read. The records of a compacted log. -/
import Derived.Test.YtaddbhdkgneiaaaGreatVlG
import Derived.Test.YtaddbhdkgneiaaaGreatDkG
import Derived.Test.YtaddbhdkgneiaaaGreatIter
import Derived.StillTailTactics
import Derived.Test.YtaddbhdkgneiaaaGreatSlI
import Derived.Test.YtaddbhdkgneiaaaGreatLgG
import Derived.Test.YtaddbhdkgneiaaaGreatFrmA
import Derived.Deep.RegionHeld3
import Derived.Test.YtaddbhdkgneiaaaGreatLow
set_option maxHeartbeats 8000000
set_option maxRecDepth 100000
namespace Go.Proofs.YtaddbhdkgneiaaaGreat.Ce
open Go.RowKit Go.Maps Dk
abbrev Pv := Vt × Nat
def pent (q : Pv) : Lit × DataW Unit := (.int .i64 q.1.slot, .lit (.int .i64 q.2))
def pdat (Q : List Pv) : DataW Unit := .map (Q.map pent)
def pput : List Pv → Pv → List Pv
 | [], q => [q]
 | x :: l, q => if x.1.slot < q.1.slot then x :: pput l q else if x.1.slot = q.1.slot then q :: l else q :: x :: l
def pfnd (Q : List Pv) (s : Int) : Option Pv := Q.find? fun q => decide (q.1.slot = s)
def pv (Q : List Pv) : List Vt := Q.map Prod.fst
def pb (Q : List Pv) : List Nat := Q.map Prod.snd
theorem pput_v (q : Pv) : ∀ Q : List Pv, pv (pput Q q) = put1V (pv Q) q.1
 | [] => rfl
 | x :: l => by
  unfold pput
  by_cases h1 : x.1.slot < q.1.slot
  ·rw [if_pos h1]
   show x.1 :: pv (pput l q) = put1V (x.1 :: pv l) q.1
   rw [put1V_lt h1, pput_v q l]
  ·rw [if_neg h1]
   by_cases h2 : x.1.slot = q.1.slot
   ·rw [if_pos h2]
    show q.1 :: pv l = put1V (x.1 :: pv l) q.1
    rw [put1V_eq h2]
   ·rw [if_neg h2]
    show q.1 :: x.1 :: pv l = put1V (x.1 :: pv l) q.1
    rw [put1V_gt (by omega)]
theorem mem_pput {q x : Pv} : ∀ {Q : List Pv}, x ∈ pput Q q → x = q ∨ x ∈ Q
 | [], h => .inl (List.mem_singleton.1 h)
 | y :: l, h => by
  unfold pput at h
  split at h
  ·rcases List.mem_cons.1 h with rfl | h
   ·exact .inr (by simp)
   ·exact (mem_pput h).imp id fun h => by simp [h]
  ·split at h
   ·exact (List.mem_cons.1 h).imp id fun h => by simp [h]
   ·exact (List.mem_cons.1 h).imp id id
theorem ins_pent (q : Pv) : ∀ Q : List Pv, SrtV (pv Q) → DataW.insert (pent q) ((Q.map pent).filter fun p => !p.1.sameKey (.int .i64 q.1.slot)) = (pput Q q).map pent
 | [], _ => rfl
 | x :: l, h => by
  obtain ⟨h1, h2⟩ := List.pairwise_cons.1 (show SrtV (x.1 :: pv l) from h)
  have ih := ins_pent q l h2
  have sk : (pent x).1.sameKey (.int .i64 q.1.slot) = decide (x.1.slot = q.1.slot) := by simp [pent, Lit.sameKey]
  have bf : (pent q).1.before (pent x).1 = decide (q.1.slot < x.1.slot) := rfl
  unfold pput
  rw [List.map_cons, List.filter_cons, sk]
  by_cases e1 : x.1.slot < q.1.slot
  ·rw [if_pos e1, if_pos (by simp; omega), DataW.insert, bf, if_neg (by simp; omega), ih, List.map_cons]
  ·rw [if_neg e1]
   have hgt : ∀ y ∈ l, x.1.slot < y.1.slot := fun y hy => h1 y.1 (List.mem_map.2 ⟨y, hy, rfl⟩)
   have hall : ((l.map pent).filter fun p => !p.1.sameKey (.int .i64 q.1.slot)) = l.map pent := by
    refine List.filter_eq_self.2 fun p hp => ?_
    obtain ⟨y, hy, rfl⟩ := List.mem_map.1 hp
    have := hgt y hy
    have e : (pent y).1.sameKey (.int .i64 q.1.slot) = decide (y.1.slot = q.1.slot) := by simp [pent, Lit.sameKey]
    rw [e]
    simp
    omega
   by_cases e2 : x.1.slot = q.1.slot
   ·rw [if_pos e2, if_neg (by simp [e2]), hall, List.map_cons]
    cases l with
    | nil => rfl
    | cons y l =>
     have := hgt y (by simp)
     rw [List.map_cons, DataW.insert, if_pos]
     show decide (q.1.slot < y.1.slot) = true
     simp
     omega
   ·rw [if_neg e2, if_pos (by simp; exact e2), hall, DataW.insert, bf, if_pos (by simp; omega)]
    simp
theorem pdat_put (q : Pv) (Q : List Pv) (h : SrtV (pv Q)) : (pdat Q).put (.int .i64 q.1.slot) (.lit (.int .i64 q.2)) = pdat (pput Q q) := by
 show DataW.map (DataW.insert (pent q) ((Q.map pent).filter fun p => !p.1.sameKey (.int .i64 q.1.slot))) = _
 rw [ins_pent q Q h]
 rfl
theorem pdat_at (s : Int) (Q : List Pv) : (pdat Q).atKey (.int .i64 s) .nil = datOf ((pfnd Q s).map Prod.snd) := by
 have e0 : (pdat Q).atKey (.int .i64 s) .nil = ((Q.map pent).find? (fun p => p.1.sameKey (.int .i64 s))).elim .nil (fun p => p.2) := by
  unfold pdat DataW.atKey
  dsimp only
  cases (Q.map pent).find? (fun p => p.1.sameKey (.int .i64 s)) <;> rfl
 rw [e0, List.find?_map]
 have e : (fun p : Lit × DataW Unit => p.1.sameKey (.int .i64 s)) ∘ pent = fun q => decide (q.1.slot = s) := by
  funext q
  simp [pent, Lit.sameKey]
 rw [e]
 unfold pfnd
 cases List.find? (fun q : Pv => decide (q.1.slot = s)) Q <;> rfl
theorem pdat_size (Q : List Pv) : Maps.size (pdat Q) = Q.length := by simp [pdat, Maps.size]
theorem pdat_keys (Q : List Pv) : intKeys (pdat Q) = Q.map fun q => q.1.slot := by simp [pdat, intKeys, pent, Go.intOf, Function.comp_def]
theorem pdat_sorted {Q : List Pv} (h : SrtV (pv Q)) {ss : List Int} (hp : ss.Perm (intKeys (pdat Q))) : (ss.mergeSort fun x y => decide (x ≤ y)) = Q.map fun q => q.1.slot := by
 rw [pdat_keys] at hp
 have h1 := mergeSort_of_perm_i hp
 have h3 : (Q.map fun q => q.1.slot).Pairwise fun a b => a < b := by
  unfold SrtV pv at h
  rw [List.pairwise_map] at h ⊢
  exact h
 have h2 : (Q.map fun q => q.1.slot).mergeSort leI = Q.map fun q => q.1.slot := List.mergeSort_of_pairwise (List.Pairwise.imp (fun {a b} hab => decide_eq_true (Int.le_of_lt hab)) h3)
 exact h1.trans h2
theorem pfnd_some {Q : List Pv} {s : Int} {q : Pv} (h : pfnd Q s = some q) : q ∈ Q ∧ q.1.slot = s := ⟨List.mem_of_find?_eq_some h, by simpa using List.find?_some h⟩
theorem pfnd_none {Q : List Pv} {s : Int} (h : pfnd Q s = none) : ∀ q ∈ Q, q.1.slot ≠ s := fun q hq e => by
 have := List.find?_eq_none.1 h q hq
 simp [e] at this
theorem pv_nodup {Q : List Pv} (h : SrtV (pv Q)) {a b : Pv} (ha : a ∈ Q) (hb : b ∈ Q) (e : a.1.slot = b.1.slot) : a = b := by
 induction Q with
 | nil => cases ha
 | cons x Q ih =>
  obtain ⟨h1, h2⟩ := List.pairwise_cons.1 (show SrtV (x.1 :: pv Q) from h)
  have hgt : ∀ y ∈ Q, x.1.slot < y.1.slot := fun y hy => h1 y.1 (List.mem_map.2 ⟨y, hy, rfl⟩)
  rcases List.mem_cons.1 ha with ea | ha'
  ·rcases List.mem_cons.1 hb with eb | hb'
   ·rw [ea, eb]
   ·have := hgt b hb'
    rw [ea] at e
    omega
  ·rcases List.mem_cons.1 hb with eb | hb'
   ·have := hgt a ha'
    rw [eb] at e
    omega
   ·exact ih h2 ha' hb'
theorem pfnd_of {Q : List Pv} (h : SrtV (pv Q)) {q : Pv} (hq : q ∈ Q) : pfnd Q q.1.slot = some q := by
 cases he : pfnd Q q.1.slot with
 | none => exact absurd rfl (pfnd_none he q hq)
 | some y =>
  obtain ⟨h1, h2⟩ := pfnd_some he
  rw [pv_nodup h h1 hq h2]
theorem over_of {Q : List Pv} (h : SrtV (pv Q)) {c : Vt} : overV (pv Q) c ↔ ∃ q, pfnd Q c.slot = some q ∧ c.ballot < q.1.ballot := by
 constructor
 ·rintro ⟨x, hx, h1, h2⟩
  obtain ⟨q, hq, rfl⟩ := List.mem_map.1 hx
  exact ⟨q, by rw [← h1]; exact pfnd_of h hq, h2⟩
 ·rintro ⟨q, h1, h2⟩
  obtain ⟨h3, h4⟩ := pfnd_some h1
  exact ⟨q.1, List.mem_map.2 ⟨q, h3, rfl⟩, h4, h2⟩
theorem slotK : Keyed Tryz.prog 3 := int_keyed Tryz.underlying3
theorem slotOf {s : Int} (h : inR s) : keyOf Tryz.prog 3 (.int .i64 s) = some (.int .i64 s) := keyOf_int_mk Tryz.underlying3 (WalkArith.wf_i64 h)
theorem zeroVt (w : World) : (zeroValue 113).run Tryz.prog w = .ok (.pointer none) w := by kernel_rfl
structure VmAt (w : World) (mb : Nat) (Q : List Pv) : Prop where
 map : w.ownsMap Tryz.prog 3 pR mb Q.length (pdat Q)
 cel : ∀ q ∈ Q, vtD.In q.2 q.1 w
 srt : SrtV (pv Q)
 rng : ∀ q ∈ Q, inR q.1.slot
def vfp (mb : Nat) (Q : List Pv) : List Nat := mb :: pb Q
theorem mem_vfp {mb k : Nat} {Q : List Pv} : k ∈ vfp mb Q ↔ k = mb ∨ ∃ q ∈ Q, q.2 = k := by
 unfold vfp pb
 rw [List.mem_cons, List.mem_map]
section
variable {w w' : World} {mb : Nat} {Q : List Pv}
theorem VmAt.lt (h : VmAt w mb Q) : ∀ k ∈ vfp mb Q, k < w.heap.size := fun k hk => by
 rcases mem_vfp.1 hk with rfl | ⟨q, hq, rfl⟩
 ·exact h.map.lt
 ·exact (h.cel q hq).lt
theorem VmAt.keep (h : VmAt w mb Q) (hk : ∀ k ∈ vfp mb Q, w'.heap[k]? = w.heap[k]?) : VmAt w' mb Q := by
 refine ⟨?_, fun q hq => (h.cel q hq).kept (hk _ (mem_vfp.2 (.inr ⟨q, hq, rfl⟩))), h.srt, h.rng⟩
 obtain ⟨es, clock, hb, r⟩ := h.map
 exact ⟨es, clock, by rw [hk mb (mem_vfp.2 (.inl rfl))]; exact hb, r⟩
theorem VmAt.up (h : VmAt w mb Q) (hb : Below w.heap.size w w') : VmAt w' mb Q := h.keep fun k hk => hb.block k (h.lt k hk)
theorem VmAt.new (w : World) : VmAt (w.alloc (.map #[] 0)) w.heap.size [] := ⟨World.ownsMap_made w Tryz.prog 3 pR, by simp, List.Pairwise.nil, by simp⟩
theorem VmAt.look (h : VmAt w mb Q) {s : Int} (hs : inR s) : (Instr.lookup 60 (.map (some mb)) (.int .i64 s) false).run Tryz.prog w = .ok (ptrOf ((pfnd Q s).map Prod.snd)) w := by
 obtain ⟨v, ps, hrun, hv⟩ := h.map.lookup slotK Tryz.underlying60 (zeroVt w) (zd := .nil) (zp := []) rfl (slotOf hs)
 obtain ⟨o, rfl, e⟩ := pR_inv hv
 rw [pdat_at] at e
 simp only [Prod.mk.injEq] at e
 rw [hrun, datOf_inj e.1]
theorem VmAt.neM (h : VmAt w mb Q) {q : Pv} (hq : vtD.In q.2 q.1 w) : q.2 ≠ mb := fun e => by
 obtain ⟨es, clock, hb, _⟩ := h.map
 have := hq.h
 rw [e, hb] at this
 cases this
theorem VmAt.put (h : VmAt w mb Q) {q : Pv} (hq : vtD.In q.2 q.1 w) (hr : inR q.1.slot) {m : Nat} (hm : w'.ownsMap Tryz.prog 3 pR mb m ((pdat Q).put (.int .i64 q.1.slot) (.lit (.int .i64 q.2)))) (hg : w.grownBy w' (some mb)) : VmAt w' mb (pput Q q) := by
 have ot : ∀ k, k < w.heap.size → k ≠ mb → w'.heap[k]? = w.heap[k]? := fun k hl hk => hg.block k hl fun e => hk (by injection e)
 have one : ∀ x : Pv, vtD.In x.2 x.1 w → vtD.In x.2 x.1 w' := fun x hx => hx.kept (ot _ hx.lt (h.neM hx))
 refine ⟨?_, fun x hx => ?_, by rw [pput_v]; exact put1V_srt h.srt, fun x hx => ?_⟩
 ·rw [pdat_put q Q h.srt] at hm
  have := ownsMap_tight hm
  rw [pdat_size] at this
  exact this
 ·rcases mem_pput hx with rfl | hx
  ·exact one _ hq
  ·exact one _ (h.cel x hx)
 ·rcases mem_pput hx with rfl | hx
  ·exact hr
  ·exact h.rng x hx
end
end Go.Proofs.YtaddbhdkgneiaaaGreat.Ce
namespace Go.Proofs.YtaddbhdkgneiaaaGreat.Ce
open Go.RowKit Go.Maps Dk
structure SyAt (w : World) (b o : Nat) (cs : Array Value) (t : Nat) (most : Int) (mb : Nat) (Q : List Pv) : Prop where
 row : w.heap[b]? = some (.cells cs t (0, 0))
 c0 : cs[o]? = some (.int .i64 most)
 c1 : cs[o + 1]? = some (.map (some mb))
 vm : VmAt w mb Q
 tag : t ≠ 33
section
variable {w w' : World} {b o : Nat} {cs : Array Value} {t : Nat} {most : Int} {mb : Nat} {Q : List Pv}
theorem SyAt.at0 (h : SyAt w b o cs t most mb Q) : w.cell? ⟨b, o, none⟩ = some (.int .i64 most) := (cell_of_row _ _ o _ _ _ h.row).trans h.c0
theorem SyAt.at1 (h : SyAt w b o cs t most mb Q) : w.cell? ⟨b, o + 1, none⟩ = some (.map (some mb)) := (cell_of_row _ _ _ _ _ _ h.row).trans h.c1
theorem SyAt.fz (h : SyAt w b o cs t most mb Q) (i : Nat) : w.frozen? ⟨b, i, none⟩ = false := frozen_of_row w _ _ _ _ h.row
theorem SyAt.lt (h : SyAt w b o cs t most mb Q) : b < w.heap.size := (Array.getElem?_eq_some_iff.1 h.row).1
theorem SyAt.ne (h : SyAt w b o cs t most mb Q) : b ∉ vfp mb Q := fun hm => by
 rcases mem_vfp.1 hm with e | ⟨q, hq, e⟩
 ·obtain ⟨es, clock, hb, _⟩ := h.vm.map
  rw [← e, h.row] at hb
  cases hb
 ·have := (h.vm.cel q hq).h
  rw [e, h.row] at this
  injection this with this
  injection this with _ ht _
  exact h.tag ht
theorem SyAt.up (h : SyAt w b o cs t most mb Q) (hb : Below w.heap.size w w') : SyAt w' b o cs t most mb Q := ⟨(hb.block b h.lt).trans h.row, h.c0, h.c1, h.vm.up hb, h.tag⟩
theorem SyAt.keep (h : SyAt w b o cs t most mb Q) (h1 : w'.heap[b]? = w.heap[b]?) (hk : ∀ k ∈ vfp mb Q, w'.heap[k]? = w.heap[k]?) : SyAt w' b o cs t most mb Q := ⟨h1.trans h.row, h.c0, h.c1, h.vm.keep hk, h.tag⟩
end
theorem SyAt.vote_end {w w4 w5 : World} {b o : Nat} {cs : Array Value} {t : Nat} {most : Int} {mb : Nat} {Q : List Pv} {c : Vt} (h : SyAt w b o cs t most mb Q) (h4 : SyAt w4 b o cs t most mb Q) (hI4 : vtD.In w.heap.size c w4) (hr : inR c.slot) (hB : Below w.heap.size w w4) (hA : addV (pv Q) c = put1V (pv Q) c) {m : Nat}
  (hm : w5.ownsMap Tryz.prog 3 pR mb m ((pdat Q).put (.int .i64 c.slot) (.lit (.int .i64 w.heap.size)))) (hg : w4.grownBy w5 (some mb)) : ∃ Q', SyAt w5 b o cs t most mb Q' ∧ pv Q' = addV (pv Q) c ∧ Kp [mb] w w5 ∧ ∀ k ∈ vfp mb Q', k ∈ vfp mb Q ∨ w.heap.size ≤ k := by
 have hne : b ≠ mb := fun e => h.ne (mem_vfp.2 (.inl e))
 refine ⟨pput Q (c, w.heap.size), ⟨(hg.block b h4.lt (fun e => hne (by injection e))).trans h4.row, h4.c0, h4.c1, h4.vm.put (q := (c, w.heap.size)) hI4 hr hm hg, h4.tag⟩, by rw [hA, pput_v], (Kp.of_below hB [mb]).trans (Kp.grown (S := [mb]) hg fun k e => by injection e with e; simp [e]) (fun x hx => .inl hx), fun k hk => ?_⟩
 rcases mem_vfp.1 hk with rfl | ⟨q, hq, rfl⟩
 ·exact .inl (mem_vfp.2 (.inl rfl))
 ·rcases mem_pput hq with rfl | hq
  ·exact .inr (Nat.le_refl _)
  ·exact .inl (mem_vfp.2 (.inr ⟨q, hq, rfl⟩))
theorem vvote_any {w : World} {b o : Nat} {cs : Array Value} {t : Nat} {most : Int} {mb : Nat} {Q : List Pv} (h : SyAt w b o cs t most mb Q) (c : Vt) (hr : inR c.slot) (hQ : Q.length ≤ 1000000) :
  Calls Tryz.prog 73 #[.pointer (some ⟨b, o, none⟩), c.v] w fun e w' => e = .returned (.tuple #[]) ∧ ∃ Q', SyAt w' b o cs t most mb Q' ∧ pv Q' = addV (pv Q) c ∧ Kp [mb] w w' ∧ ∀ k ∈ vfp mb Q', k ∈ vfp mb Q ∨ w.heap.size ≤ k := by
 have HADD : Hid (overV (pv Q) c → addV (pv Q) c = pv Q) := Lib.hid fun h => if_pos h
 have HPUT : Hid (¬ overV (pv Q) c → addV (pv Q) c = put1V (pv Q) c) := Lib.hid fun h => if_neg h
 go_enter Tryz.func73, Tryz.ntmps73
 go_wp2_with (refine St.box vtD rfl (.tmp 1) c rfl rfl ?_)
 constructor
 intro w1 hI1 hb1 hz1
 have h1 := h.up hb1
 have m1 := h1.at1
 have q0 := (VtAt.of hI1).c0
 have q1 := (VtAt.of hI1).c1
 have hl := fun n => (h1.vm.up (below_drewN (Below.refl _ w1) n)).look hr
 cases hf : pfnd Q c.slot with
 | none =>
  have hADD := Lib.hid (HPUT.out fun hov => by obtain ⟨q, hq, -⟩ := (over_of h.vm.srt).1 hov; rw [hf] at hq; cases hq)
  rw [hf] at hl
  simp only [Option.map_none, ptrOf] at hl
  clear hf HADD HPUT
  go_wp2_with fail
  go_quiet (fail)
  have hb2 := below_drewN (Below.refl w1.heap.size w1) nq
  have hI2 := hI1.up hb2
  have h2 := h1.up hb2
  generalize w1.drewN nq = w2 at hb2 hI2 h2 ⊢
  clear hl q0 q1 m1
  have q1 := (VtAt.of hI2).c1
  go_wp2_with fail
  go_quiet (fail)
  have hb3 := below_drewN (Below.refl w2.heap.size w2) nq
  have hI3 := hI2.up hb3
  have h3 := h2.up hb3
  generalize w2.drewN nq = w3 at hb3 hI3 h3 ⊢
  clear q1
  have q0 := (VtAt.of hI3).c0
  have m1 := h3.at1
  go_wp2_with fail
  go_still_tail 6, (by kernel_rfl)
  change wpList _ _ _ _ _ w3.drew
  have hb4 : Below w3.heap.size w3 w3.drew := (Below.refl _ _).drew
  have hI4 := hI3.up hb4
  have h4 := h3.up hb4
  generalize w3.drew = w4 at hb4 hI4 h4 ⊢
  clear q0 m1
  have hn : Q.length < maxLen := by unfold maxLen; omega
  have hB4 := hb1.trans ((hb2.trans (hb3.mono hb2.size)).trans (hb4.mono (Nat.le_trans hb2.size hb3.size)) |>.mono hb1.size)
  have hz4 : w1.heap.size ≤ w4.heap.size := Nat.le_trans hb2.size (Nat.le_trans hb3.size hb4.size)
  have HE := Lib.hid fun (z : World) (m : Nat) => SyAt.vote_end (w5 := z) (m := m) h h4 hI4 hr hB4 hADD.out
  clear hI1 hb1 h1 hb2 hI2 h2 hb3 hI3 h3 hb4 hB4 hADD
  go_wp2_with (at_mapUpdate; refine wpList_mapUpdate_own _ rfl _ _ _ 60 rfl 3 113 slotK Tryz.underlying60 pR mb Q.length (pdat Q) rfl h4.vm.map hn _ _ _ rfl rfl (slotOf hr) (.lit (.int .i64 w.heap.size)) [] (pR_mk (some w.heap.size)) ?_; intro w5 hown5 hgrow5; have HF := Lib.hid (HE.out _ _ hown5 hgrow5); clear hown5 hgrow5 h4 hI4 HE)
  go_end0
  exact ⟨rfl, HF.out⟩
 | some q =>
  have hq := (pfnd_some hf).1
  rw [hf] at hl
  simp only [Option.map_some, ptrOf] at hl
  have HOV := Lib.hid (over_of (c := c) h.vm.srt)
  by_cases hlt : c.ballot < q.1.ballot
  ·have hADD := Lib.hid (HADD.out (HOV.out.2 ⟨q, hf, hlt⟩))
   have hge : ¬ q.1.ballot ≤ c.ballot := by omega
   clear hf HADD HPUT HOV
   go_wp2_with fail
   go_quiet (fail)
   have hb2 := below_drewN (Below.refl w1.heap.size w1) nq
   have hI2 := hI1.up hb2
   have h2 := h1.up hb2
   generalize w1.drewN nq = w2 at hb2 hI2 h2 ⊢
   clear hl q0 q1 m1
   have q1 := (VtAt.of hI2).c1
   have p1 := (VtAt.of (h2.vm.cel q hq)).c1
   go_wp2_with fail
   go_quiet (fail)
   have hb3 := below_drewN (Below.refl w2.heap.size w2) nq
   have hI3 := hI2.up hb3
   have h3 := h2.up hb3
   generalize w2.drewN nq = w3 at hb3 hI3 h3 ⊢
   go_wp2_with fail
   go_end0
   exact ⟨rfl, Q, h.up (hb1.trans ((hb2.trans (hb3.mono hb2.size)).mono hb1.size)), hADD.out.symm, (Kp.of_below (hb1.trans ((hb2.trans (hb3.mono hb2.size)).mono hb1.size)) _), fun k hk => .inl hk⟩
  ·have hADD := Lib.hid (HPUT.out fun hov => by obtain ⟨q', hq', hlt'⟩ := HOV.out.1 hov; rw [hf] at hq'; injection hq' with hq'; rw [← hq'] at hlt'; exact hlt hlt')
   have hge : q.1.ballot ≤ c.ballot := by omega
   clear hf HADD HPUT HOV
   go_wp2_with fail
   go_quiet (fail)
   have hb2 := below_drewN (Below.refl w1.heap.size w1) nq
   have hI2 := hI1.up hb2
   have h2 := h1.up hb2
   generalize w1.drewN nq = w2 at hb2 hI2 h2 ⊢
   clear hl q0 q1 m1
   have q1 := (VtAt.of hI2).c1
   have p1 := (VtAt.of (h2.vm.cel q hq)).c1
   go_wp2_with fail
   go_quiet (fail)
   have hb3 := below_drewN (Below.refl w2.heap.size w2) nq
   have hI3 := hI2.up hb3
   have h3 := h2.up hb3
   generalize w2.drewN nq = w3 at hb3 hI3 h3 ⊢
   clear p1
   clear q1
   have q0 := (VtAt.of hI3).c0
   have m1 := h3.at1
   go_wp2_with fail
   go_still_tail 6, (by kernel_rfl)
   change wpList _ _ _ _ _ w3.drew
   have hb4 : Below w3.heap.size w3 w3.drew := (Below.refl _ _).drew
   have hI4 := hI3.up hb4
   have h4 := h3.up hb4
   generalize w3.drew = w4 at hb4 hI4 h4 ⊢
   clear q0 m1
   have hn : Q.length < maxLen := by unfold maxLen; omega
   have hB4 := hb1.trans ((hb2.trans (hb3.mono hb2.size)).trans (hb4.mono (Nat.le_trans hb2.size hb3.size)) |>.mono hb1.size)
   have hz4 : w1.heap.size ≤ w4.heap.size := Nat.le_trans hb2.size (Nat.le_trans hb3.size hb4.size)
   have HE := Lib.hid fun (z : World) (m : Nat) => SyAt.vote_end (w5 := z) (m := m) h h4 hI4 hr hB4 hADD.out
   clear hI1 hb1 h1 hb2 hI2 h2 hb3 hI3 h3 hb4 hB4 hADD
   go_wp2_with (at_mapUpdate; refine wpList_mapUpdate_own _ rfl _ _ _ 60 rfl 3 113 slotK Tryz.underlying60 pR mb Q.length (pdat Q) rfl h4.vm.map hn _ _ _ rfl rfl (slotOf hr) (.lit (.int .i64 w.heap.size)) [] (pR_mk (some w.heap.size)) ?_; intro w5 hown5 hgrow5; have HF := Lib.hid (HE.out _ _ hown5 hgrow5); clear hown5 hgrow5 h4 hI4 HE)
   go_end0
   exact ⟨rfl, HF.out⟩
end Go.Proofs.YtaddbhdkgneiaaaGreat.Ce
namespace Go.Proofs.YtaddbhdkgneiaaaGreat.Ce
open Go.RowKit Go.Maps Dk
theorem vget2_any (x : Value) (s : List UInt8) (w : World) (hr : Rd w w.heap.size x (s.map bv)) (hl : s.length ≤ 1000000) : Calls Tryz.prog 72 #[x] w fun e w' => (∃ n c k E, e = .returned (.tuple #[.int .i64 n, Vt.v c, .int .i64 E]) ∧ Says s n c k ∧ ((k = true ∧ E = 0) ∨ (k = false ∧ E = 2 ∧ n = 0 ∧ c = Vt.zero))) ∧ Below w.heap.size w w' := by
 refine (sget_any x s w hr hl).mono ?_
 rintro e w' ⟨⟨n, d, k, rfl, hs⟩, hb⟩
 refine ⟨⟨n, d, k, _, rfl, hs, ?_⟩, hb⟩
 cases hs with
 | prom _ h => exact .inl ⟨rfl, rfl⟩
 | vote _ h => exact .inl ⟨rfl, rfl⟩
 | none h1 h2 => exact .inr ⟨rfl, rfl, rfl, rfl⟩
theorem SyAt.most {w : World} {b o : Nat} {cs : Array Value} {t : Nat} {most : Int} {mb : Nat} {Q : List Pv} (h : SyAt w b o cs t most mb Q) (n : Int) : SyAt (w.setCell ⟨b, o, none⟩ (.int .i64 n)) b o (cs.setIfInBounds o (.int .i64 n)) t n mb Q := by
 have ho : o < cs.size := (Array.getElem?_eq_some_iff.1 h.c0).1
 refine ⟨setCell_same _ h.row, by simp [ho], by rw [Array.getElem?_setIfInBounds_ne (by omega)]; exact h.c1, h.vm.keep fun k hk => Below.heap_setCell _ _ _ _ fun e => h.ne (by have e2 : k = b := e; rw [← e2]; exact hk), h.tag⟩
def AddEnd (w w' : World) (b o : Nat) (cs : Array Value) (t mb : Nat) (Q : List Pv) (g' : Lg) : Prop :=
 ∃ Q', SyAt w' b o (cs.setIfInBounds o (.int .i64 g'.most)) t g'.most mb Q' ∧ pv Q' = g'.votes ∧ Kp [b, mb] w w' ∧ ∀ k ∈ vfp mb Q', k ∈ vfp mb Q ∨ w.heap.size ≤ k
theorem AddEnd.of {w w1 w2 w3 : World} {b o : Nat} {cs : Array Value} {t mb : Nat} {Q Q' : List Pv} {most : Int} {g' : Lg} (hw : Below w.heap.size w w1) (hk : Kp [mb] w1 w2) (h2 : SyAt w2 b o cs t most mb Q') (hv : pv Q' = g'.votes) (hS : ∀ k ∈ vfp mb Q', k ∈ vfp mb Q ∨ w1.heap.size ≤ k)
  (y : Int) (hy : y = g'.most) (h3 : w3 = (w2.setCell ⟨b, o, none⟩ (.int .i64 y)).drew) : AddEnd w w3 b o cs t mb Q g' := by
 subst hy
 subst h3
 have hd := (Below.refl (w2.setCell ⟨b, o, none⟩ (.int .i64 g'.most)).heap.size (w2.setCell ⟨b, o, none⟩ (.int .i64 g'.most))).drew
 refine ⟨Q', (h2.most g'.most).up hd, hv, ((Kp.of_below hw [b, mb]).trans hk fun x hx => .inl (by simp at hx; simp [hx])).trans ((Kp.set w2 (p := ⟨b, o, none⟩) (S := [b, mb]) (by simp) _).bel hd) fun x hx => .inl hx, fun k hk' => ?_⟩
 exact (hS k hk').imp id fun h => Nat.le_trans hw.size h
inductive VAdd (w : World) (b o : Nat) (cs : Array Value) (t mb : Nat) (Q : List Pv) (g : Lg) (s : List UInt8) : Ending → World → Prop
 | no (w' : World) (h : Says s 0 Vt.zero false) (hb : Below w.heap.size w w') : VAdd w b o cs t mb Q g s (.returned (.bool false)) w'
 | yes (w' : World) (n : Int) (c : Vt) (h : Says s n c true) (he : AddEnd w w' b o cs t mb Q (g.one n c s.length)) : VAdd w b o cs t mb Q g s (.returned (.bool true)) w'
theorem vadd_any {w : World} {b o : Nat} {cs : Array Value} {t : Nat} {mb : Nat} {Q : List Pv} {g : Lg} (h : SyAt w b o cs t g.most mb Q) (hv : pv Q = g.votes) (hg : g.Ok) (hQ : Q.length ≤ 1000000) (x : Value) (s : List UInt8) (hr : Rd w w.heap.size x (s.map bv)) (hl : s.length ≤ 1000000) :
  Calls Tryz.prog 51 #[.pointer (some ⟨b, o, none⟩), x] w fun e w' => VAdd w b o cs t mb Q g s e w' := by
 have hm0 := hg.m0
 have HG := Lib.hid hg
 go_enter Tryz.func51, Tryz.ntmps51
 go_wp2_with fail
 refine (vget2_any x s w hr hl).mono ?_
 rintro e w1 ⟨⟨n, c, k, E, rfl, hs, hk⟩, hb1⟩
 clear hr
 go_wp2_with (refine St.alloc vtOk rfl rfl ?_)
 constructor
 intro w2 hI2 hb2 hz2
 go_wp2_with (refine St.store vtOk (c := c) rfl (.tmp 6) (.tmp 12) rfl rfl rfl hI2 ?_)
 constructor
 intro w3 hs3
 have hb3 : Below w.heap.size w w3 := hs3.bel (hb1.trans (hb2.mono hb1.size)) (by have := hb1.size; omega)
 have h3 := h.up hb3
 have hI3 := hs3.i
 clear hs3 hI2 hb2 hz2 hb1
 rcases hk with ⟨rfl, rfl⟩ | ⟨rfl, rfl, rfl, rfl⟩
 ·cases hs with
  | prom _ hp =>
   have hp1 := hp.1.1
   have hn0 : ¬ n = 0 := by omega
   have m0 := h3.at0
   have f0 := h3.fz o
   have q1 := (VtAt.of hI3).c1
   go_wp2_with fail
   go_still_tail 11, (by kernel_rfl)
   change wpList _ _ _ _ _ w3.drew
   have hz0 : Vt.zero.ballot = 0 := rfl
   have HV := Lib.hid hv
   have HP := Lib.hid hp
   have H3 := Lib.hid h3
   clear hI3 h hg hQ hv h3 hp
   go_wp2_with fail
   all_goals
    go_ret
    refine .yes _ n _ (.prom n HP.out) (AddEnd.of hb3 (Kp.refl _ _) H3.out (by rw [one_pr (by omega)]; exact HV.out) (fun k hk => .inl hk) _ ?_ rfl)
    rw [one_pr (by omega)]
    show _ = max g.most n
    omega
  | vote _ hp =>
   have hcr := hp.1
   have hrng : inR c.slot := by
    obtain ⟨h1, h2, -⟩ := hcr
    constructor <;> omega
   have hcv := vvote_any h3 c hrng hQ
   have HI := Lib.hid fun z (hz : Kp [mb] w3 z) (hne : w1.heap.size ≠ mb) => hI3.kept (hz.block _ hI3.lt (by simpa using hne))
   have hne : w1.heap.size ≠ mb := h3.vm.neM (q := (c, w1.heap.size)) hI3
   have HH := Lib.hid h
   have HH3 := Lib.hid h3
   have HV := Lib.hid hv
   have HP := Lib.hid hp
   clear h hg hQ hv h3 hp
   go_wp2_with (refine St.load vtOk rfl (.tmp 6) rfl rfl hI3 ?_)
   refine hcv.mono ?_
   rintro e w4 ⟨rfl, Q', h4, hv4, hk4, hS4⟩
   have hI4 := HI.out _ hk4 hne
   have m0 := h4.at0
   have f0 := h4.fz o
   have q1 := (VtAt.of hI4).c1
   have H4 := Lib.hid h4
   have HV4 := Lib.hid hv4
   clear hcv h4 hv4 hI3 hI4 HI hrng
   go_wp2_with fail
   go_still_tail 11, (by kernel_rfl)
   change wpList _ _ _ _ _ w4.drew
   go_wp2_with fail
   all_goals
    go_ret
    refine .yes _ 0 c (.vote c HP.out) (AddEnd.of hb3 hk4 H4.out (by rw [one_vt, HV4.out, HV.out]) (fun k hk => (hS4 k hk).imp id id) _ ?_ rfl)
    rw [one_vt]
    show _ = max g.most c.ballot
    omega
 ·go_wp2_with fail
  go_ret
  exact .no _ hs hb3
end Go.Proofs.YtaddbhdkgneiaaaGreat.Ce
namespace Go.Proofs.YtaddbhdkgneiaaaGreat.Ce
open Go.RowKit Go.Maps Dk Go.Sort
theorem kept_vt {w w' : World} {mb : Nat} {Q : List Pv} (h : VmAt w mb Q) (hb : Below w.heap.size w w') {k : Nat} {q : Pv} (hq : Q[k]? = some q) : vtD.In q.2 q.1 w' := ((h.up hb).cel q (List.mem_of_getElem? hq))
theorem look_vt {w w' : World} {mb : Nat} {Q : List Pv} (h : VmAt w mb Q) (hb : Below w.heap.size w w') {k : Nat} {q : Pv} (hq : Q[k]? = some q) : (Instr.lookup 60 (.map (some mb)) (.int .i64 q.1.slot) false).run Tryz.prog w' = .ok (.pointer (some ⟨q.2, 0, none⟩)) w' := by
 have hm := List.mem_of_getElem? hq
 have := (h.up hb).look (h.rng q hm)
 rw [pfnd_of h.srt hm] at this
 exact this
theorem vlist_any {w : World} {b o : Nat} {cs : Array Value} {t : Nat} {most : Int} {mb : Nat} {Q : List Pv} (h : SyAt w b o cs t most mb Q) (hQ : Q.length ≤ 1000000) :
  Calls Tryz.prog 45 #[.pointer (some ⟨b, o, none⟩)] w fun e w' => (∃ v, e = .returned v ∧ St.OwS vtL w' w.heap.size v (pv Q)) ∧ Below w.heap.size w w' := by
 have m1 := h.at1
 have hown := h.vm.map
 have hmax : Maps.size (pdat Q) ≤ maxLen := by rw [pdat_size]; unfold maxLen; omega
 have hbytes : Maps.size (pdat Q) * 8 ≤ 140737488355328 := by rw [pdat_size]; omega
 have H := Lib.hid h
 have hsr := h.vm.srt
 clear h
 go_enter Tryz.func45, Tryz.ntmps45
 go_wp2_with fail
 refine ((callsIn_wide (n := 5)).1 (Tryz.maps_Keys_67 (some mb) w)).mono ?_
 rintro e w1 ⟨rfl, rfl⟩
 go_wp2_with fail
 refine ((callsIn_wide (n := 5)).1 (Tryz.slices_Sorted_keys_66_67 mb Q.length (pdat Q) pR w hown hmax hbytes)).mono ?_
 rintro e w2 ⟨v, ss, rfl, hS, hrow, hnil, hb⟩
 have hrow2 := ownsRow_base_a hrow (show w.heap.size ≤ _ by simp)
 rw [pdat_sorted hsr hS] at hrow2
 have hb2 : Below w.heap.size w w2 := ((Below.refl _ w).alloc (Nat.le_refl _) _).trans (hb.mono (by simp))
 have hlen : ss.length = Q.length := by
  have := hS.length_eq
  rw [pdat_keys] at this
  simpa using this
 rw [hlen] at hrow2
 have hro : Ow w2 w.heap.size 3 v ((Q.map fun q => q.1.slot).map encZ) := by
  have e : Q.length = ((Q.map fun q => q.1.slot).map encZ).length := by simp
  rw [e] at hrow2
  exact hrow2
 have hr := hro.rd
 obtain ⟨A, c, e, hc, hm⟩ := hr.shapeM
 have elen : (Q.map fun q => q.1.slot).length = Q.length := by simp
 rw [elen] at e hc
 subst e
 have HR := Lib.hid hr
 have HB2 := Lib.hid hb2
 clear hrow hrow2 hnil hS hb hro hr hown hmax hbytes hsr hlen elen
 go_wp2_with fail
 go_loopw [3, 5, 13] (fun l _ i wr => ∃ k : Nat, k ≤ Q.length ∧ i = .int .i64 (k : Int) ∧ St.OwS vtL wr w2.heap.size l (pv (Q.take k)) ∧ Below w2.heap.size w2 wr) (fun _ _ i _ => Q.length - (intOf i).toNat)
 case atStart => exact ⟨0, Nat.zero_le _, rfl, St.OwS.nil _ _ _, Below.refl _ _⟩
 case round =>
  obtain ⟨k, hk, rfl, ho, hbw⟩ := hrel
  by_cases hlt : k < Q.length
  ·have hfk : Q[k]? = some (Q[k]'hlt) := List.getElem?_eq_getElem _
   have hts : pv (Q.take (k + 1)) = pv (Q.take k) ++ [(Q[k]'hlt).1] := by
    unfold pv
    rw [List.take_succ_eq_append_getElem hlt, List.map_append]
    rfl
   have hwr := HB2.out.trans (hbw.mono HB2.out.size)
   obtain ⟨b2, off, rfl, -, hcell⟩ := (HR.out.up hbw).cellM (by simp; omega)
   have hc := hcell k (by simpa using hlt)
   rw [List.getElem_map] at hc
   clear hcell
   generalize Q[k]'hlt = q at hfk hts hc
   have hl := look_vt H.out.vm hwr hfk
   have hI := kept_vt H.out.vm hwr hfk
   have m1 := (H.out.up hwr).at1
   have HT := Lib.hid hts
   have hmx := hm
   unfold maxLen at hmx
   obtain ⟨⟨a0, a1, a2, a3, a4⟩, qb⟩ := q
   clear hts hfk
   simp only at hl hI hc
   have hh3 : (0 : Int) ≤ (k : Int) := by omega
   have hh4 : (k : Int) < (Q.length : Int) := by omega
   have hba : Below wr.heap.size wr (wr.alloc (.cells #[.int .i64 a0, .int .i64 a1, .int .i64 a2, .bool a3, .string a4] 33)) := (Below.refl _ wr).alloc (Nat.le_refl _) _
   have ho1 := ho.below hba
   have hx : St.RdS vtL (wr.alloc (.cells #[.int .i64 a0, .int .i64 a1, .int .i64 a2, .bool a3, .string a4] 33)) [] (.slice (some ⟨wr.heap.size, 0, none⟩) 1 1) [(⟨a0, a1, a2, a3, a4⟩ : Vt)] := St.RdS.new wr [] [(⟨a0, a1, a2, a3, a4⟩ : Vt)] _ rfl (by simp) (by simp [maxLen]) _
   have hk2 : (pv (Q.take k)).length = k := by unfold pv; rw [List.length_map, List.length_take]; omega
   have l1 : (pv (Q.take k)).length + [(⟨a0, a1, a2, a3, a4⟩ : Vt)].length ≤ maxLen := by rw [hk2]; simp [maxLen]; omega
   have l2 : ((pv (Q.take k)).length + [(⟨a0, a1, a2, a3, a4⟩ : Vt)].length) * 48 ≤ 140737488355328 := by rw [hk2]; simp; omega
   have hbb := bwstep hbw hba
   have l3 := hbb.size
   clear hk2 ho hba
   go_wp2_with (first
    | (refine St.load vtOk rfl (.tmp 24) rfl rfl hI ?_; simp only [Vt.cs])
    | (at_builtin; refine St.app vlOk vlS rfl (.tmp 17) (.tmp 26) rfl rfl ho1 rfl hx l1 l2 l3 ?_; intro v' w' ho3 hg3 h3; have HB := Lib.hid (hbb.grown hg3 l3 ho1.ge); have HO := Lib.hid ho3; clear ho3 hg3 h3 ho1 hx l1 l2 l3 hbb))
   go_roundw
   case rel => exact ⟨k + 1, by omega, by go_num, by rw [HT.out]; exact HO.out, HB.out⟩
   case measure => simp [intOf]; omega
  ·obtain rfl : k = Q.length := by omega
   rw [List.take_length] at ho
   have hz := HB2.out.size
   have hW := HB2.out.trans (hbw.mono hz)
   go_wp2_with fail
   go_ret
   exact ⟨⟨_, rfl, ho.mono hz⟩, hW⟩
end Go.Proofs.YtaddbhdkgneiaaaGreat.Ce
namespace Go.Proofs.YtaddbhdkgneiaaaGreat.Ce
open Go.RowKit Go.Maps Dk
abbrev syD : St.Sp (Int × Option Nat) := ⟨62, 0, 2, 16, fun p => #[.int .i64 p.1, .map p.2], (0, none)⟩
theorem syOk : syD.Ok Tryz.prog := ⟨⟨_, Tryz.underlying62, rfl⟩, by kernel_rfl, by decide, fun _ => rfl, fun x => by simp [Value.oneCell']⟩
def sy0 (most : Int) (mb : Nat) : Array Value := #[.int .i64 most, .map (some mb)]
theorem OwM.kp {w w' : World} {B n : Nat} {v : Value} {vs : Nat → Value} {g : Nat → List UInt8} {S : List Nat} (h : OwM w B v vs n g) (hk : Kp S w w') (hS : ∀ k ∈ S, k < B) : OwM w' B v vs n g :=
 ⟨h.out.same fun k hk' => hk.block k (h.out.lt k hk').2 (fun hm => by have := hS k hm; have := h.out.ge k hk'; omega), fun j hj => (h.row j hj).same fun k hk' => hk.block k ((h.row j hj).lt k hk').2 (fun hm => by have := hS k hm; have := (h.row j hj).ge k hk'; omega), h.ap, h.apo⟩
structure GaAt (w5 wr : World) (B b4 mb : Nat) (R : List (List UInt8)) (k : Nat) (g : Lg) (Q : List Pv) : Prop where
 rd : ReadAt R k g
 sy : SyAt wr b4 0 (sy0 g.most mb) 62 g.most mb Q
 v : pv Q = g.votes
 ge : ∀ j ∈ vfp mb Q, B ≤ j
 kp : Kp [b4, mb] w5 wr
theorem GaAt.len {w5 wr : World} {B b4 mb : Nat} {R : List (List UInt8)} {k : Nat} {g : Lg} {Q : List Pv} (h : GaAt w5 wr B b4 mb R k g Q) : Q.length ≤ 64 := by
 have := h.rd.ok.len
 rw [← h.v] at this
 unfold pv at this
 simpa using this
theorem GaAt.next {w5 wr w6 : World} {B b4 mb : Nat} {R : List (List UInt8)} {k : Nat} {g : Lg} {Q : List Pv} {r : List UInt8} {n : Int} {c : Vt} (h : GaAt w5 wr B b4 mb R k g Q) (hB : B ≤ w5.heap.size) (hr : R[k]? = some r) (hs : Says r n c true) (he : AddEnd wr w6 b4 0 (sy0 g.most mb) 62 mb Q (g.one n c r.length)) :
  ∃ Q', GaAt w5 w6 B b4 mb R (k + 1) (g.one n c r.length) Q' := by
 obtain ⟨Q', h1, h2, h3, h4⟩ := he
 refine ⟨Q', h.rd.next hr hs, h1, h2, fun j hj => ?_, h.kp.trans h3 fun x hx => .inl hx⟩
 rcases h4 j hj with h5 | h5
 ·exact h.ge j h5
 ·exact Nat.le_trans hB (Nat.le_trans h.kp.size h5)
theorem GaAt.bel {w5 wr w6 : World} {B b4 mb : Nat} {R : List (List UInt8)} {k : Nat} {g : Lg} {Q : List Pv} (h : GaAt w5 wr B b4 mb R k g Q) (hb : Below wr.heap.size wr w6) : GaAt w5 w6 B b4 mb R k g Q := ⟨h.rd, h.sy.up hb, h.v, h.ge, h.kp.bel hb⟩
def GaEnd (w : World) (R : List (List UInt8)) (e : Ending) (w' : World) : Prop :=
 (∃ mb Q, e = .returned (.tuple #[.agg #[.int .i64 (Lg.nil.reads R).most, .map (some mb)], .int .i64 ((Lg.nil.reads R).used : Int)]) ∧ VmAt w' mb Q ∧ pv Q = (Lg.nil.reads R).votes ∧ ∀ k ∈ vfp mb Q, w.heap.size ≤ k) ∧ Below w.heap.size w w'
theorem GaEnd.of {w w1 w5 wr : World} {R : List (List UInt8)} {k : Nat} {g : Lg} {Q : List Pv} (hI : syD.In w.heap.size (0, none) w5) (hB : Below w.heap.size w w5) (h : GaAt w5 wr w.heap.size (w1.heap.size + 1) w1.heap.size R k g Q) (hE : Lg.nil.reads R = g) :
  ∀ w7, syD.Set w.heap.size (g.most, some w1.heap.size) wr w7 → w.heap.size < w1.heap.size → GaEnd w R (.returned (.tuple #[.agg #[.int .i64 g.most, .map (some w1.heap.size)], .int .i64 (g.used : Int)])) w7 := by
 intro w7 hs hlt
 have hne : ∀ j ∈ vfp w1.heap.size Q, j ≠ w.heap.size := fun j hj e => by
  rcases mem_vfp.1 hj with e2 | ⟨q, hq, e2⟩
  ·omega
  ·have h1 := (h.sy.vm.cel q hq).h
   have h2 := hI.h
   rw [e2, e, h.kp.block _ hI.lt (by simp; omega), h2] at h1
   injection h1 with h1
   injection h1 with _ h1 _
   exact absurd h1 (by decide)
 subst hE
 refine ⟨⟨w1.heap.size, Q, rfl, h.sy.vm.keep fun j hj => hs.o j (hne j hj), h.v, h.ge⟩, hB.trans ⟨?_, ?_, ?_, ?_, fun j hj => ?_⟩⟩
 ·exact hs.b.os.trans h.kp.os
 ·exact hs.b.tape.trans h.kp.tape
 ·exact hs.b.output.trans h.kp.output
 ·exact Nat.le_trans h.kp.size (Nat.le_of_eq hs.z.symm)
 ·exact (hs.b.block j hj).trans (h.kp.block j (Nat.lt_of_lt_of_le hj hB.size) (by simp; omega))
theorem vgather_any (x : Value) (l m : List UInt8) (R : List (List UInt8)) (w : World) (hr : Rd w w.heap.size x (l.map bv)) (hs : Frm.Scanned l R m) (hl : l.length ≤ 1000000) :
  Calls Tryz.prog 26 #[x] w fun e w' => GaEnd w R e w' := by
 have hmm := @run_makeMap Tryz.prog
 go_enter Tryz.func26, Tryz.ntmps26
 go_wp2_with (refine St.alloc syOk rfl rfl ?_)
 constructor
 intro w1 hI1 hb1 hz1
 have hz1' : w.heap.size < w1.heap.size := by omega
 clear hz1
 have hr1 := hr.up hb1
 go_wp2_with (refine St.alloc syOk rfl rfl ?_)
 constructor
 intro w2 hI2 hb2 hz2
 have hvm0 := VmAt.new w1
 have hba : Below w1.heap.size w1 (w1.alloc (.map #[] 0)) := (Below.refl _ w1).alloc (Nat.le_refl _) _
 have hsa : (w1.alloc (.map #[] 0)).heap.size = w1.heap.size + 1 := by simp
 rw [← hsa] at hb2
 have hb12 := hba.trans (hb2.mono (by omega))
 have hvm2 := hvm0.up hb2
 go_wp2_with (refine St.store syOk (c := (0, some w1.heap.size)) rfl (.tmp 4) (.tmp 11) rfl rfl rfl hI2 ?_)
 constructor
 intro w3 hs3
 have hb13 : Below w1.heap.size w1 w3 := hs3.bel hb12 (by omega)
 have hvm3 : VmAt w3 w1.heap.size [] := hvm2.keep fun k hk => hs3.o k (by rw [show k = w1.heap.size by simpa [vfp, pb] using hk]; omega)
 have hI1 := hI1.up hb13
 have hr3 := hr1.up hb13
 have hsy3 : SyAt w3 (w1.heap.size + 1) 0 (sy0 0 w1.heap.size) 62 0 w1.heap.size [] := ⟨hs3.i.h, rfl, rfl, hvm3, by decide⟩
 have hz3 : w3.heap.size = w1.heap.size + 2 := by rw [hs3.z, hz2]
 clear hs3 hvm2 hvm0 hba hb12 hb2 hI2 hz2 hvm3 hr hr1
 go_wp2_with fail
 refine (scan_any x l m R w3 hr3 hs (by omega)).mono ?_
 rintro e w5 ⟨⟨y, vs, rfl, hO⟩, hb5⟩
 have hI1 := hI1.up hb5
 have hsy := hsy3.up hb5
 have hbw5 : Below w.heap.size w w5 := hb1.trans ((hb13.trans (hb5.mono hb13.size)).mono hb1.size)
 have hz5 := hb5.size
 have hz1 := hb1.size
 have HG0 : Hid (GaAt w5 w5 w.heap.size (w1.heap.size + 1) w1.heap.size R 0 Lg.nil []) := Lib.hid ⟨ReadAt.start R, hsy, rfl, fun j hj => Nat.le_of_lt_succ (by have e : j = w1.heap.size := (by simpa [vfp, pb] using hj); omega), Kp.refl _ _⟩
 obtain ⟨A, c, rfl, hc, hcm⟩ := hO.rd.shape
 unfold maxLen at hcm
 have HO := Lib.hid hO
 have HS := Lib.hid hs
 have HI1 := Lib.hid hI1
 have HB5 := Lib.hid hbw5
 have HR3 := Lib.hid hr3
 clear hI1 hsy hbw5 hsy3 hr3 hs hO hb13 hb1 hb5 hmm
 go_wp2_with fail
 go_loopw [5, 9, 19] (fun z _ i wr => ∃ (k : Nat) (g : Lg) (Q : List Pv), k ≤ R.length ∧ i = .int .i64 (k : Int) ∧ z = .int .i64 (g.used : Int) ∧ GaAt w5 wr w.heap.size (w1.heap.size + 1) w1.heap.size R k g Q) (fun _ _ i _ => R.length - (intOf i).toNat)
 case atStart => exact ⟨0, Lg.nil, [], Nat.zero_le _, rfl, rfl, HG0.out⟩
 case round =>
  obtain ⟨k, g, Q, hk, rfl, rfl, hG⟩ := hrel
  by_cases hlt : k < R.length
  ·have hkp := hG.kp
   have hHO := OwM.kp HO.out hkp (fun j hj => by simp at hj; omega)
   obtain ⟨b, off, rfl, -, hcell⟩ := hHO.out.rd.cellM (by simp; omega)
   have hc1 := hcell k (by simpa using hlt)
   rw [List.getElem_range] at hc1
   have hrow : RdS wr [w1.heap.size + 1, w1.heap.size] (vs k) (gl R k) := (hHO.row k hlt).rdS (fun j hj => by simp at hj; omega)
   have hg := gl_at R hlt
   rw [hg] at hrow
   have hrl := HS.out.2.1 _ (List.getElem_mem hlt)
   have hfk : R[k]? = some (R[k]'hlt) := List.getElem?_eq_getElem _
   generalize R[k]'hlt = r at hfk hrow hrl
   obtain ⟨A1, c1, e1, h1c, h1m⟩ := hrow.1.shapeM
   rw [e1] at hc1 hrow
   have hQl := hG.len
   have hus := hG.rd.used
   have hfl : (Frm.flat R).length ≤ 1000000 := by have := congrArg List.length HS.out.1; rw [List.length_append] at this; omega
   have HFK := Lib.hid hfk
   have HHG := Lib.hid hG
   have HROW := Lib.hid hrow
   have hadd := vadd_any hG.sy hG.v hG.rd.ok (by omega) (.slice A1 r.length c1) r hrow.1 (by omega)
   have hh3 : (0 : Int) ≤ (k : Int) := by omega
   have hh4 : (k : Int) < (R.length : Int) := by omega
   clear hg hfk hHO hG hkp hcell hrow e1
   go_wp2_with fail
   refine hadd.mono ?_
   rintro e w6 he
   clear hadd hc1
   cases he with
   | no _ hsn hb6 =>
    have hE := HHG.out.rd.stop HFK.out hsn
    have hG6 := HHG.out.bel hb6
    have HF := Lib.hid (GaEnd.of HI1.out HB5.out hG6 hE)
    have hI4 : syD.In (w1.heap.size + 1) (g.most, some w1.heap.size) w6 := ⟨hG6.sy.row⟩
    have hI2 : syD.In w.heap.size (0, none) w6 := HI1.out.kept (hG6.kp.block _ HI1.out.lt (by simp; omega))
    clear hE hG6 HFK HHG HROW HO HS HI1
    go_wp2_with (first | (refine St.load syOk rfl (.tmp 4) rfl rfl hI4 ?_) | (refine St.store syOk (c := (g.most, some w1.heap.size)) rfl (.tmp 2) (.tmp 32) rfl rfl rfl hI2 ?_))
    constructor
    intro w7 hs7
    go_wp2_with fail
    refine bodyPost_ret (St.res2 syOk Tryz.results26 rfl hs7.i) rfl ?_
    exact HF.out _ hs7 hz1'
   | yes _ n d hsy he =>
    have hkk : Kp [w1.heap.size + 1, w1.heap.size] wr w6 := by
     obtain ⟨Q', -, -, h3, -⟩ := he
     exact h3
    obtain ⟨Q', hG'⟩ := HHG.out.next (by omega) HFK.out hsy he
    have hr6 := (RdS.up HROW.out hkk (fun _ h => .inl h)).1
    have HG' := Lib.hid hG'
    clear he hkk hG' HHG HFK HROW
    go_wp2_with fail
    refine (fput_ok _ _ _ hr6 hrl).mono ?_
    rintro e w7 ⟨⟨q, rfl, hq⟩, hb7⟩
    obtain ⟨A2, c2, rfl, hc2, hm2⟩ := hq.rd.shapeM
    rw [Frm.frm_len]
    have HG7 := Lib.hid (HG'.out.bel hb7)
    have hw1 : ((g.used : Int) + ((12 + r.length : Nat) : Int)) = (((g.one n d r.length).used : Nat) : Int) := by rw [one_used]; push_cast; omega
    clear hq hr6 hb7 hc2 hm2
    go_wp2_with fail
    go_roundw
    case rel => exact ⟨k + 1, g.one n d r.length, Q', by omega, by go_num, by rw [← hw1]; go_num, HG7.out⟩
    case measure => simp [intOf]; omega
  ·obtain rfl : k = R.length := by omega
   have hE := hG.rd.all
   have HF := Lib.hid (GaEnd.of HI1.out HB5.out hG hE)
   have hI4 : syD.In (w1.heap.size + 1) (g.most, some w1.heap.size) wr := ⟨hG.sy.row⟩
   have hI2 : syD.In w.heap.size (0, none) wr := HI1.out.kept (hG.kp.block _ HI1.out.lt (by simp; omega))
   clear hE hG HO HS HI1
   go_wp2_with (first | (refine St.load syOk rfl (.tmp 4) rfl rfl hI4 ?_) | (refine St.store syOk (c := (g.most, some w1.heap.size)) rfl (.tmp 2) (.tmp 32) rfl rfl rfl hI2 ?_))
   constructor
   intro w7 hs7
   go_wp2_with fail
   refine bodyPost_ret (St.res2 syOk Tryz.results26 rfl hs7.i) rfl ?_
   exact HF.out _ hs7 hz1'
end Go.Proofs.YtaddbhdkgneiaaaGreat.Ce
namespace Go.Proofs.YtaddbhdkgneiaaaGreat.Ce
open Go.RowKit Go.Maps Dk
theorem recs_at {most : Int} {V : List Vt} {k : Nat} (hk : k < V.length) : gl (recsV most V) ((if 0 < most then 1 else 0) + k) = vtB V[k] := by
 have hlt : (if 0 < most then 1 else 0) + k < (recsV most V).length := by
  unfold recsV
  rw [List.length_append, List.length_map]
  split <;> simp <;> omega
 rw [gl_at _ hlt]
 unfold recsV
 split
 ·simp only [List.getElem_append]
  rw [dif_neg (by simp)]
  simp
 ·simp
theorem recs_len (most : Int) (V : List Vt) : (recsV most V).length = (if 0 < most then 1 else 0) + V.length := by
 unfold recsV
 rw [List.length_append, List.length_map]
 split <;> simp
theorem recs_zero {most : Int} (V : List Vt) (h : 0 < most) : gl (recsV most V) 0 = prB most := by
 rw [gl_at _ (by rw [recs_len, if_pos h]; omega)]
 unfold recsV
 simp [h]
theorem St.OwS.tagV {w : World} {B k : Nat} {v : Value} {V : List Vt} (h : St.OwS vtL w B v V) (hk : v.ownBlock = some k) : ∃ cur, w.heap[k]? = some (.cells cur 33 (0, 0)) := by
 obtain ⟨h1, h2⟩ := h
 rcases h2 with ⟨rfl, _⟩ | ⟨g, cap, cur, rfl, hg, hh, r⟩
 ·cases hk
 ·injection hk with hk
  have : g = k := hk
  subst this
  exact ⟨cur, hh⟩
theorem votes_apart {w : World} {B B2 : Nat} {v x : Value} {xs : List Value} {V : List Vt} (h : Ow w B 31 v xs) (h2 : St.OwS vtL w B2 x V) : ∀ k, x.ownBlock = some k → v.ownBlock ≠ some k := fun k hk e => by
 obtain ⟨c1, e1⟩ := h.tag e
 obtain ⟨c2, e2⟩ := St.OwS.tagV h2 hk
 rw [e1] at e2
 injection e2 with e2
 injection e2 with _ e2 _
 exact absurd e2 (by decide)
theorem vrecords_any {w : World} {b o : Nat} {cs : Array Value} {t : Nat} {mb : Nat} {Q : List Pv} {g : Lg} (h : SyAt w b o cs t g.most mb Q) (hv : pv Q = g.votes) (hg : g.Ok) :
  Calls Tryz.prog 36 #[.pointer (some ⟨b, o, none⟩)] w fun e w' => (∃ v vs, e = .returned v ∧ OwM w' w.heap.size v vs (recsV g.most g.votes).length (gl (recsV g.most g.votes))) ∧ Below w.heap.size w w' := by
 have hn := hg.len
 have hQ : Q.length ≤ 1000000 := by rw [← hv] at hn; unfold pv at hn; simp at hn; omega
 have m0 := h.at0
 have HL := Lib.hid fun z (hz : Below w.heap.size w z) => vlist_any (h.up hz) hQ
 have HVE := Lib.hid hv
 have HG := Lib.hid hg
 have h1m := hg.m1
 clear h hv hg
 generalize hV : g.votes = V at *
 generalize hM : g.most = most at *
 go_enter Tryz.func36, Tryz.ntmps36
 by_cases h0 : 0 < most
 ·go_wp2_with fail
  refine (sprom_yes most w ⟨by omega, h1m⟩).mono ?_
  rintro e w1 ⟨u, rfl, hu, hb1⟩
  have hB0 := Bld.of (OwM.nil w w.heap.size (gl (recsV most V))) (Below.refl _ _) hu hb1
  obtain ⟨Au, cu, rfl, -, -⟩ := hu.rd.shapeM
  have hone : One [Value.slice Au (prB most).length cu] := one_one rfl
  have hrd : Rd (w1.alloc (.cells #[.slice Au (prB most).length cu] 31)) _ (.slice (some ⟨w1.heap.size, 0, none⟩) 1 1) [.slice Au (prB most).length cu] := Rd.newW w1 31 #[.slice Au (prB most).length cu] rfl (by simp [maxLen]) rfl
  have hB2 := hB0.up (bwalloc (Below.refl _ _) (.cells #[.slice Au (prB most).length cu] 31))
  have hs2 := hB2.bel.size
  clear hu hb1 hB0
  go_wp2_with (at_builtin; refine wpList_app rowsT rfl rfl (.tmp 23) (.tmp 25) rfl rfl hB2.om.out rfl hrd hone (by simp [maxLen]) (by simp) hs2 ?_; intro v' w' ho hg h3; have HB := Lib.hid (hB2.push ho hg h3); clear ho hg h3 hrd hB2 hone)
  have hO1 : OwM w' w.heap.size v' _ 1 (gl (recsV most V)) := HB.out.1.congr fun i hi => by
   obtain rfl : i = 0 := by omega
   rw [if_pos rfl, recs_zero V h0]
  have hb' := HB.out.2
  refine (HL.out _ hb').mono ?_
  rintro e w2 ⟨⟨x, rfl, hx⟩, hb2⟩
  have hx := hx.mono hb'.size
  have hbw2 := hb'.trans (hb2.mono hb'.size)
  have hO := hO1.below hb2
  clear HB hO1 hb' hb2 hs2
  obtain ⟨Ax, cx, rfl, -, hcx⟩ := (hx.rd (S := []) (by simp)).shape
  rw [HVE.out] at hx ⊢
  unfold maxLen at hcx
  have HX := Lib.hid hx
  have HB2 := Lib.hid hbw2
  have HO := Lib.hid hO
  clear hx hO hbw2
  go_wp2_with fail
  go_loopw [3, 7, 8, 9, 30] (fun l _ _ _ i wr => ∃ (k : Nat) (vs : Nat → Value), k ≤ V.length ∧ i = .int .i64 (k : Int) ∧ St.OwS vtL wr w.heap.size (.slice Ax V.length cx) V ∧ OwM wr w.heap.size l vs (1 + k) (gl (recsV most V)) ∧ Below w.heap.size w wr) (fun _ _ _ _ i _ => V.length - (intOf i).toNat)
  case atStart => exact ⟨0, _, Nat.zero_le _, rfl, HX.out, HO.out, HB2.out⟩
  case round =>
   obtain ⟨k, vs, hk, rfl, hxo, ho, hB2⟩ := hrel
   by_cases hlt : k < V.length
   ·have hcr : (V[k]'hlt).Right := by
     have := (HG.out.right (V[k]'hlt) (by rw [hV]; exact List.getElem_mem hlt)).1
     exact this
    have hfk : V[k]? = some (V[k]'hlt) := List.getElem?_eq_getElem _
    have hgl : gl (recsV most V) (1 + k) = vtB (V[k]'hlt) := by have := recs_at (most := most) hlt; rw [if_pos h0] at this; exact this
    generalize V[k]'hlt = c at hcr hfk hgl
    have hxw := hxo.rd (S := []) (by simp)
    obtain ⟨b2, off, rfl, -, -⟩ := hxw.open_ (by omega)
    have hca := hxw.all vlOk hfk
    have hh3 : (0 : Int) ≤ (k : Int) := by omega
    have hh4 : (k : Int) < (V.length : Int) := by omega
    have HGL := Lib.hid hgl
    have hz2 := hB2.size
    clear hfk hxw hgl
    go_wp2_with (first | (refine St.loadAt vlOk rfl (.tmp 32) rfl ⟨b2, off + k * 5, none⟩ rfl hca ?_) | (refine St.alloc vtOk rfl rfl ?_))
    constructor
    intro w3 hI3 hb3 hz3
    clear hz3
    go_wp2_with (refine St.store vtOk (c := c) rfl (.tmp 7) (.tmp 33) rfl rfl rfl hI3 ?_)
    constructor
    intro w4 hs4
    have hb4 : Below wr.heap.size wr w4 := hs4.bel hb3 (Nat.le_refl _)
    have hI4 := hs4.i
    clear hs4 hI3 hb3 hca
    go_wp2_with (refine St.load vtOk rfl (.tmp 7) rfl rfl hI4 ?_)
    refine (sput_yes c _ hcr).mono ?_
    rintro e w5 ⟨u, rfl, hu, hb5⟩
    have hB0 := Bld.of (ho.below hb4) (hB2.trans (hb4.mono hB2.size)) hu hb5
    have hx5 := (hxo.below hb4).below hb5
    obtain ⟨Au, cu, rfl, -, -⟩ := hu.rd.shapeM
    rw [vtB_len] at hu hB0 ⊢
    have hone : One [Value.slice Au (24 + c.bytes.size) cu] := one_one rfl
    have hrd : Rd (w5.alloc (.cells #[.slice Au (24 + c.bytes.size) cu] 31)) _ (.slice (some ⟨w5.heap.size, 0, none⟩) 1 1) [.slice Au (24 + c.bytes.size) cu] := Rd.newW w5 31 #[.slice Au (24 + c.bytes.size) cu] rfl (by simp [maxLen]) rfl
    have hal := bwalloc (Below.refl w5.heap.size w5) (.cells #[.slice Au (24 + c.bytes.size) cu] 31)
    have hB2' := hB0.up hal
    have hx6 := hx5.below hal
    have hs2 := hB2'.bel.size
    have hl1 : ((List.range (1 + k)).map vs).length + [Value.slice Au (24 + c.bytes.size) cu].length ≤ maxLen := (by simp [maxLen]; omega)
    have hl2 : (((List.range (1 + k)).map vs).length + [Value.slice Au (24 + c.bytes.size) cu].length) * 24 ≤ 140737488355328 := (by simp; omega)
    have HAP := Lib.hid (votes_apart hB2'.om.out hx6)
    have HX6 := Lib.hid hx6
    clear ho hu hb5 hB0 hI4 hb4 hal hx5 hx6 hxo
    go_wp2_with (at_builtin; refine wpList_app rowsT rfl rfl (.tmp 39) (.tmp 41) rfl rfl hB2'.om.out rfl hrd hone hl1 hl2 hs2 ?_; intro v' w' ho hg h3; have HB := Lib.hid (hB2'.push ho hg h3); have HX7 := Lib.hid (HX6.out.kept hg HAP.out); clear ho hg h3 hrd hB2' hone HX6 HAP)
    go_roundw
    case rel => exact ⟨k + 1, _, by omega, by go_num, HX7.out, HB.out.1.congr fun i hi => by
     by_cases e : i = 1 + k
     ·subst e; rw [if_pos rfl, HGL.out]
     ·rw [if_neg e], HB.out.2⟩
    case measure => simp [intOf]; omega
   ·obtain rfl : k = V.length := by omega
    have hlen := recs_len most V
    rw [if_pos h0] at hlen
    go_wp2_with fail
    go_ret
    exact ⟨⟨_, vs, rfl, by rw [hlen]; exact ho⟩, hB2⟩
 ·go_wp2_with fail
  refine (HL.out _ (Below.refl _ _)).mono ?_
  rintro e w2 ⟨⟨x, rfl, hx⟩, hbw2⟩
  have hO := OwM.nil w2 w.heap.size (gl (recsV most V))
  obtain ⟨Ax, cx, rfl, -, hcx⟩ := (hx.rd (S := []) (by simp)).shape
  rw [HVE.out] at hx ⊢
  unfold maxLen at hcx
  have HX := Lib.hid hx
  have HB2 := Lib.hid hbw2
  have HO := Lib.hid hO
  clear hx hO hbw2
  go_wp2_with fail
  go_loopw [3, 7, 8, 9, 30] (fun l _ _ _ i wr => ∃ (k : Nat) (vs : Nat → Value), k ≤ V.length ∧ i = .int .i64 (k : Int) ∧ St.OwS vtL wr w.heap.size (.slice Ax V.length cx) V ∧ OwM wr w.heap.size l vs (0 + k) (gl (recsV most V)) ∧ Below w.heap.size w wr) (fun _ _ _ _ i _ => V.length - (intOf i).toNat)
  case atStart => exact ⟨0, _, Nat.zero_le _, rfl, HX.out, HO.out, HB2.out⟩
  case round =>
   obtain ⟨k, vs, hk, rfl, hxo, ho, hB2⟩ := hrel
   by_cases hlt : k < V.length
   ·have hcr : (V[k]'hlt).Right := by
     have := (HG.out.right (V[k]'hlt) (by rw [hV]; exact List.getElem_mem hlt)).1
     exact this
    have hfk : V[k]? = some (V[k]'hlt) := List.getElem?_eq_getElem _
    have hgl : gl (recsV most V) (0 + k) = vtB (V[k]'hlt) := by have := recs_at (most := most) hlt; rw [if_neg (show ¬ 0 < most by omega)] at this; exact this
    generalize V[k]'hlt = c at hcr hfk hgl
    have hxw := hxo.rd (S := []) (by simp)
    obtain ⟨b2, off, rfl, -, -⟩ := hxw.open_ (by omega)
    have hca := hxw.all vlOk hfk
    have hh3 : (0 : Int) ≤ (k : Int) := by omega
    have hh4 : (k : Int) < (V.length : Int) := by omega
    have HGL := Lib.hid hgl
    have hz2 := hB2.size
    clear hfk hxw hgl
    go_wp2_with (first | (refine St.loadAt vlOk rfl (.tmp 32) rfl ⟨b2, off + k * 5, none⟩ rfl hca ?_) | (refine St.alloc vtOk rfl rfl ?_))
    constructor
    intro w3 hI3 hb3 hz3
    clear hz3
    go_wp2_with (refine St.store vtOk (c := c) rfl (.tmp 7) (.tmp 33) rfl rfl rfl hI3 ?_)
    constructor
    intro w4 hs4
    have hb4 : Below wr.heap.size wr w4 := hs4.bel hb3 (Nat.le_refl _)
    have hI4 := hs4.i
    clear hs4 hI3 hb3 hca
    go_wp2_with (refine St.load vtOk rfl (.tmp 7) rfl rfl hI4 ?_)
    refine (sput_yes c _ hcr).mono ?_
    rintro e w5 ⟨u, rfl, hu, hb5⟩
    have hB0 := Bld.of (ho.below hb4) (hB2.trans (hb4.mono hB2.size)) hu hb5
    have hx5 := (hxo.below hb4).below hb5
    obtain ⟨Au, cu, rfl, -, -⟩ := hu.rd.shapeM
    rw [vtB_len] at hu hB0 ⊢
    have hone : One [Value.slice Au (24 + c.bytes.size) cu] := one_one rfl
    have hrd : Rd (w5.alloc (.cells #[.slice Au (24 + c.bytes.size) cu] 31)) _ (.slice (some ⟨w5.heap.size, 0, none⟩) 1 1) [.slice Au (24 + c.bytes.size) cu] := Rd.newW w5 31 #[.slice Au (24 + c.bytes.size) cu] rfl (by simp [maxLen]) rfl
    have hal := bwalloc (Below.refl w5.heap.size w5) (.cells #[.slice Au (24 + c.bytes.size) cu] 31)
    have hB2' := hB0.up hal
    have hx6 := hx5.below hal
    have hs2 := hB2'.bel.size
    have hl1 : ((List.range (0 + k)).map vs).length + [Value.slice Au (24 + c.bytes.size) cu].length ≤ maxLen := (by simp [maxLen]; omega)
    have hl2 : (((List.range (0 + k)).map vs).length + [Value.slice Au (24 + c.bytes.size) cu].length) * 24 ≤ 140737488355328 := (by simp; omega)
    have HAP := Lib.hid (votes_apart hB2'.om.out hx6)
    have HX6 := Lib.hid hx6
    clear ho hu hb5 hB0 hI4 hb4 hal hx5 hx6 hxo
    go_wp2_with (at_builtin; refine wpList_app rowsT rfl rfl (.tmp 39) (.tmp 41) rfl rfl hB2'.om.out rfl hrd hone hl1 hl2 hs2 ?_; intro v' w' ho hg h3; have HB := Lib.hid (hB2'.push ho hg h3); have HX7 := Lib.hid (HX6.out.kept hg HAP.out); clear ho hg h3 hrd hB2' hone HX6 HAP)
    go_roundw
    case rel => exact ⟨k + 1, _, by omega, by go_num, HX7.out, HB.out.1.congr fun i hi => by
     by_cases e : i = 0 + k
     ·subst e; rw [if_pos rfl, HGL.out]
     ·rw [if_neg e], HB.out.2⟩
    case measure => simp [intOf]; omega
   ·obtain rfl : k = V.length := by omega
    have hlen := recs_len most V
    rw [if_neg (show ¬ 0 < most by omega)] at hlen
    go_wp2_with fail
    go_ret
    exact ⟨⟨_, vs, rfl, by rw [hlen]; exact ho⟩, hB2⟩
end Go.Proofs.YtaddbhdkgneiaaaGreat.Ce
