/- The contracts of Sorted of package cell, and of the reference's. -/
import Derived.Test.YtcpkhhbbjimdaaaGreatDoorCbA
set_option maxHeartbeats 8000000
set_option maxRecDepth 100000
namespace Go.Proofs.YtcpkhhbbjimdaaaGreatDoor.Ce
open Go.RowKit
def TwoA (b o : Nat) (f : Cl) (b' o' : Nat) (t : Cl) (w0 w' : World) : Prop :=
 w'.cell? ⟨b, o, none⟩ = some (.string f.row) ∧ w'.cell? ⟨b, o + 1, none⟩ = some (.string f.col) ∧ w'.cell? ⟨b, o + 2, none⟩ = some (.int .i64 f.at_) ∧ w'.cell? ⟨b, o + 3, none⟩ = some (.string f.val) ∧ w'.cell? ⟨b, o + 4, none⟩ = some (.bool f.gone) ∧ w'.cell? ⟨b', o', none⟩ = some (.string t.row) ∧ w'.cell? ⟨b', o' + 1, none⟩ = some (.string t.col) ∧ w'.cell? ⟨b', o' + 2, none⟩ = some (.int .i64 t.at_) ∧ w'.cell? ⟨b', o' + 3, none⟩ = some (.string t.val) ∧ w'.cell? ⟨b', o' + 4, none⟩ = some (.bool t.gone) ∧ Below w0.heap.size w0 w'
theorem TwoA.of {b o b' o' : Nat} {f t : Cl} {w0 w' : World} (h : FiveAt b o f w0) (hb : b < w0.heap.size) (hi : FiveAt b' o' t w0) (hb' : b' < w0.heap.size) (hw : Below w0.heap.size w0 w') : TwoA b o f b' o' t w0 w' := by
 obtain ⟨a0, a1, a2, a3, a4⟩ := h.up hb hw
 obtain ⟨c0, c1, c2, c3, c4⟩ := hi.up hb' hw
 exact ⟨a0, a1, a2, a3, a4, c0, c1, c2, c3, c4, hw⟩
theorem TwoA.bel {b o b' o' : Nat} {f t : Cl} {w0 w' : World} (h : TwoA b o f b' o' t w0 w') : Below w0.heap.size w0 w' := h.2.2.2.2.2.2.2.2.2.2
def OneA (b o : Nat) (f : Cl) (w0 w' : World) : Prop := w'.cell? ⟨b, o, none⟩ = some (.string f.row) ∧ w'.cell? ⟨b, o + 1, none⟩ = some (.string f.col) ∧ w'.cell? ⟨b, o + 2, none⟩ = some (.int .i64 f.at_) ∧ w'.cell? ⟨b, o + 3, none⟩ = some (.string f.val) ∧ w'.cell? ⟨b, o + 4, none⟩ = some (.bool f.gone) ∧ Below w0.heap.size w0 w'
theorem OneA.of {b o : Nat} {f : Cl} {w0 w' : World} (h : FiveAt b o f w0) (hb : b < w0.heap.size) (hw : Below w0.heap.size w0 w') : OneA b o f w0 w' := by
 obtain ⟨a0, a1, a2, a3, a4⟩ := h.up hb hw
 exact ⟨a0, a1, a2, a3, a4, hw⟩
theorem OneA.bel {b o : Nat} {f : Cl} {w0 w' : World} (h : OneA b o f w0 w') : Below w0.heap.size w0 w' := h.2.2.2.2.2
theorem InC.fiveAt {g : Nat} {c : Cl} {w : World} (h : InC g c w) : FiveAt g 0 c w := ⟨h.c0, h.c1, h.c2, h.c3, h.c4⟩
theorem sorted_any (v : Value) (L : List Cl) (w : World) (hv : RdL w [] v L) (hL : L.length ≤ 1000000000) :
  Calls Tryz.prog 127 #[v] w fun e w' => e = .returned (.bool (sortedB L)) ∧ Below w.heap.size w w' := by
 obtain ⟨A, cp, rfl, hc, hm⟩ := hv.shape
 unfold maxLen at hm
 have HV := Lib.hid hv
 clear hv
 go_enter Tryz.func127, Tryz.ntmps127
 go_wp2_with fail
 go_loopw [7] (fun i wr => ∃ k : Nat, k ≤ L.length ∧ i = .int .i64 (k : Int) ∧ Hid (sortedTo L k) ∧ Below w.heap.size w wr) (fun i _ => L.length - (intOf i).toNat)
 case atStart => exact ⟨0, by omega, rfl, Lib.hid ⟨fun j c hj => by omega, fun j c d hj => by omega⟩, Below.refl _ _⟩
 case round =>
  obtain ⟨k, hk, rfl, HS, hbw⟩ := hrel
  have HBW := Lib.hid hbw
  by_cases hlt : k < L.length
  ·obtain ⟨b, off, rfl, -, -⟩ := HV.out.open_ (by omega)
   have hh3 : (0 : Int) ≤ (k : Int) := by omega
   have hh4 : (k : Int) < (L.length : Int) := by omega
   have hfk : L[k]? = some (L[k]'hlt) := List.getElem?_eq_getElem _
   generalize L[k]'hlt = f at hfk
   obtain ⟨h5, hbl⟩ := (HV.out.bel hbw).at_ hfk
   have HFK := Lib.hid hfk
   clear hfk hbw
   obtain ⟨c0, c1, c2, c3, c4⟩ := h5
   go_wp2_with (refine allocC rfl rfl ?_)
   constructor
   intro wx hIx hbx hzx
   have hv' := HV.out.bel (bwstep HBW.out hbx)
   obtain ⟨⟨c0, c1, c2, c3, c4⟩, hbl⟩ := hv'.at_ HFK.out
   clear hv'
   go_wp2_with (refine storeC (c := f) rfl (.tmp 4) (.tmp 11) rfl rfl rfl hIx ?_)
   constructor
   intro wz hsz
   have HI := Lib.hid hsz.i
   have HBZ : Hid (Below wr.heap.size wr wz) := Lib.hid (hsz.bel hbx (Nat.le_refl _))
   clear hIx hbx hzx hsz hbl c0 c1 c2 c3 c4
   have hrt := fun w => right_any f w
   by_cases hok : f.ok
   ·rw [decide_eq_true hok] at hrt
    rcases Nat.eq_zero_or_pos k with h0 | h0
    ·subst h0
     have HK := Lib.hid (sortedTo_succ HS.out HFK.out hok (fun b h => by omega))
     clear HS HFK
     have HT : Hid (OneA (wr.heap.size) (0) f wz wz.drew) := Lib.hid (OneA.of HI.out.fiveAt HI.out.lt (Below.refl _ _).drew)
     have HU : Hid (∀ x y : World, OneA (wr.heap.size) (0) f wz x → Below x.heap.size x y → OneA (wr.heap.size) (0) f wz y) := Lib.hid fun x y hS hb => OneA.of HI.out.fiveAt HI.out.lt (bwstep hS.bel hb)
     go_wp2_with fail
     refine wp_region_held_drew (S := fun w' => w'.cell? ⟨wr.heap.size, 0, none⟩ = some (.string f.row) ∧ w'.cell? ⟨wr.heap.size, 1, none⟩ = some (.string f.col) ∧ w'.cell? ⟨wr.heap.size, 2, none⟩ = some (.int .i64 f.at_) ∧ w'.cell? ⟨wr.heap.size, 3, none⟩ = some (.string f.val) ∧ w'.cell? ⟨wr.heap.size, 4, none⟩ = some (.bool f.gone) ∧ Below wz.heap.size wz w') (by kernel_rfl) HT.out (fun hHeld => ?_)
     refine wpAnyH_take (i := 0) (oi := ⟨some 12, _, _, _, _, _⟩) (v := ?vb0) rfl (by kernel_rfl) (by kernel_rfl) (by kernel_rfl) (fun _ _ _ h => h) (Or.inl ⟨by rfl, ?yb0⟩) (by assumption) ?rb0
     case yb0 => (intro w hSw; go_split_ands; go_simp; try (with_reducible rfl))
     try simp only [Act.put, List.setIfInBounds_toArray, List.set_cons_zero, List.set_cons_succ]
     refine wpAnyH_ready (rs := [1]) (by kernel_rfl) (by simp) ?_
     refine AllReadyH.cons (o := ⟨some 13, _, _, _, _, _⟩) rfl (fun K hK => ?_) AllReadyH.nil
     go_simp
     refine (hrt _).mono ?_
     rintro e wn ⟨rfl, hbn⟩
     go_wp2_with fail
     refine hK.out _ _ (HU.out _ _ hHeld hbn) (fun hHeld => ?_)
     clear hK K
     try simp only [Act.put, List.setIfInBounds_toArray, List.set_cons_zero, List.set_cons_succ]
     refine wpAnyH_take (i := 2) (oi := ⟨some 14, _, _, _, _, _⟩) (v := ?vb2) rfl (by kernel_rfl) (by kernel_rfl) (by kernel_rfl) (fun _ _ _ h => h) (Or.inl ⟨by rfl, ?yb2⟩) (by assumption) ?rb2
     case yb2 => (intro w hSw; go_split_ands; go_simp; try (with_reducible rfl))
     try simp only [Act.put, List.setIfInBounds_toArray, List.set_cons_zero, List.set_cons_succ]
     refine wpAnyH_take (i := 3) (oi := ⟨some 15, _, _, _, _, _⟩) (v := ?vb3) rfl (by kernel_rfl) (by kernel_rfl) (by kernel_rfl) (fun _ _ _ h => h) (Or.inl ⟨by rfl, ?yb3⟩) (by assumption) ?rb3
     case yb3 => (intro w hSw; go_split_ands; go_simp; try (with_reducible rfl))
     try simp only [Act.put, List.setIfInBounds_toArray, List.set_cons_zero, List.set_cons_succ]
     refine wpAnyH_take (i := 4) (oi := ⟨some 16, _, _, _, _, _⟩) (v := ?vb4) rfl (by kernel_rfl) (by kernel_rfl) (by kernel_rfl) (fun _ _ _ h => h) (Or.inl ⟨by rfl, ?yb4⟩) (by assumption) ?rb4
     case yb4 => (intro w hSw; go_split_ands; go_simp; try (with_reducible rfl))
     try simp only [Act.put, List.setIfInBounds_toArray, List.set_cons_zero, List.set_cons_succ]
     refine wpAnyH_take (i := 5) (oi := ⟨some 17, _, _, _, _, _⟩) (v := ?vb5) rfl (by kernel_rfl) (by kernel_rfl) (by kernel_rfl) (fun _ _ _ h => h) (Or.inl ⟨by rfl, ?yb5⟩) (by assumption) ?rb5
     case yb5 => (intro w hSw; go_split_ands; go_simp; try (with_reducible rfl))
     try simp only [Act.put, List.setIfInBounds_toArray, List.set_cons_zero, List.set_cons_succ]
     refine wpAnyH_take (i := 6) (oi := ⟨some 18, _, _, _, _, _⟩) (v := ?vb6) rfl (by kernel_rfl) (by kernel_rfl) (by kernel_rfl) (fun _ _ _ h => h) (Or.inl ⟨by rfl, ?yb6⟩) (by assumption) ?rb6
     case yb6 => (intro w hSw; go_split_ands; go_simp; try (with_reducible rfl))
     try simp only [Act.put, List.setIfInBounds_toArray, List.set_cons_zero, List.set_cons_succ]
     refine wpAnyH_take (i := 7) (oi := ⟨some 19, _, _, _, _, _⟩) (v := undef) rfl (by kernel_rfl) (by kernel_rfl) (by kernel_rfl) (fun _ _ _ h => h) (Or.inr ⟨by rfl, rfl⟩) (by assumption) ?_
     try simp only [Act.put, List.setIfInBounds_toArray, List.set_cons_zero, List.set_cons_succ]
     refine wpAnyH_take (i := 8) (oi := ⟨some 20, _, _, _, _, _⟩) (v := undef) rfl (by kernel_rfl) (by kernel_rfl) (by kernel_rfl) (fun _ _ _ h => h) (Or.inr ⟨by rfl, rfl⟩) (by assumption) ?_
     try simp only [Act.put, List.setIfInBounds_toArray, List.set_cons_zero, List.set_cons_succ]
     refine wpAnyH_take (i := 9) (oi := ⟨some 21, _, _, _, _, _⟩) (v := undef) rfl (by kernel_rfl) (by kernel_rfl) (by kernel_rfl) (fun _ _ _ h => h) (Or.inr ⟨by rfl, rfl⟩) (by assumption) ?_
     try simp only [Act.put, List.setIfInBounds_toArray, List.set_cons_zero, List.set_cons_succ]
     refine wpAnyH_take (i := 10) (oi := ⟨some 22, _, _, _, _, _⟩) (v := undef) rfl (by kernel_rfl) (by kernel_rfl) (by kernel_rfl) (fun _ _ _ h => h) (Or.inr ⟨by rfl, rfl⟩) (by assumption) ?_
     try simp only [Act.put, List.setIfInBounds_toArray, List.set_cons_zero, List.set_cons_succ]
     refine wpAnyH_take (i := 11) (oi := ⟨some 23, _, _, _, _, _⟩) (v := undef) rfl (by kernel_rfl) (by kernel_rfl) (by kernel_rfl) (fun _ _ _ h => h) (Or.inr ⟨by rfl, rfl⟩) (by assumption) ?_
     try simp only [Act.put, List.setIfInBounds_toArray, List.set_cons_zero, List.set_cons_succ]
     refine wpAnyH_take (i := 12) (oi := ⟨some 24, _, _, _, _, _⟩) (v := undef) rfl (by kernel_rfl) (by kernel_rfl) (by kernel_rfl) (fun _ _ _ h => h) (Or.inr ⟨by rfl, rfl⟩) (by assumption) ?_
     try simp only [Act.put, List.setIfInBounds_toArray, List.set_cons_zero, List.set_cons_succ]
     refine wpAnyH_take (i := 13) (oi := ⟨some 25, _, _, _, _, _⟩) (v := undef) rfl (by kernel_rfl) (by kernel_rfl) (by kernel_rfl) (fun _ _ _ h => h) (Or.inr ⟨by rfl, rfl⟩) (by assumption) ?_
     try simp only [Act.put, List.setIfInBounds_toArray, List.set_cons_zero, List.set_cons_succ]
     refine wpAnyH_take (i := 14) (oi := ⟨some 26, _, _, _, _, _⟩) (v := undef) rfl (by kernel_rfl) (by kernel_rfl) (by kernel_rfl) (fun _ _ _ h => h) (Or.inr ⟨by rfl, rfl⟩) (by assumption) ?_
     try simp only [Act.put, List.setIfInBounds_toArray, List.set_cons_zero, List.set_cons_succ]
     refine wpAnyH_take (i := 15) (oi := ⟨some 27, _, _, _, _, _⟩) (v := ?vb15) rfl (by kernel_rfl) (by kernel_rfl) (by kernel_rfl) (fun _ _ _ h => h) (Or.inl ⟨by rfl, ?yb15⟩) (by assumption) ?rb15
     case yb15 => (intro w hSw; go_split_ands; go_simp; try (with_reducible rfl))
     try simp only [Act.put, List.setIfInBounds_toArray, List.set_cons_zero, List.set_cons_succ]
     refine wpAnyH_take (i := 16) (oi := ⟨some 28, _, _, _, _, _⟩) (v := ?vb16) rfl (by kernel_rfl) (by kernel_rfl) (by kernel_rfl) (fun _ _ _ h => h) (Or.inl ⟨by rfl, ?yb16⟩) (by assumption) ?rb16
     case yb16 => (intro w hSw; go_split_ands; go_simp; try (with_reducible rfl))
     try simp only [Act.put, List.setIfInBounds_toArray, List.set_cons_zero, List.set_cons_succ]
     refine wpAnyH_done (by kernel_rfl) ?_ _
     go_wp2_with fail
     go_roundw
     case rel => exact ⟨1, by omega, by go_num, HK, bwstep HBW.out (bwstep HBZ.out (bwstep (Below.refl _ _).drew hbn))⟩
     case measure => simp [intOf]; omega
    ·obtain ⟨p, rfl⟩ : ∃ p, k = p + 1 := ⟨k - 1, by omega⟩
     have hgk : L[p]? = some (L[p]'(by omega)) := List.getElem?_eq_getElem _
     generalize L[p]'(by omega) = g at hgk
     have H6 : Hid (FiveAt b (off + p * 5) g wz ∧ b < wz.heap.size) := Lib.hid ((HV.out.bel (bwstep HBW.out HBZ.out)).at_ hgk)
     have hp3 : (0 : Int) ≤ (p : Int) := by omega
     have hp4 : (p : Int) < (L.length : Int) := by omega
     have hp5 : p + 1 < L.length := hlt
     have hp6 : p < L.length := by omega
     have hp7 : (0 : Int) ≤ (p : Int) + 1 := by omega
     have hp8 : (p : Int) + 1 < (L.length : Int) := by omega
     have hp9 : ((p : Int) + 1).toNat = p + 1 := by omega
     have hw2 : IntKind.i64.wrap (p : Int) = (p : Int) := IntWalk.i64_in _ (by omega)
     have hw1 : IntKind.i64.wrap ((p : Int) + 1 - 1) = (p : Int) := by rw [Int.add_sub_cancel]; exact hw2
     have hgp : decide ((0 : Int) < (p : Int) + 1) = true := decide_eq_true (by omega)
     have HT : Hid (TwoA (wr.heap.size) (0) f b (off + p * 5) g wz wz.drew) := Lib.hid (TwoA.of (HI.out.fiveAt) (HI.out.lt) H6.out.1 H6.out.2 (Below.refl _ _).drew)
     have HU : Hid (∀ x y : World, TwoA (wr.heap.size) (0) f b (off + p * 5) g wz x → Below x.heap.size x y → TwoA (wr.heap.size) (0) f b (off + p * 5) g wz y) := Lib.hid fun x y hS hb => TwoA.of (HI.out.fiveAt) (HI.out.lt) H6.out.1 H6.out.2 (bwstep hS.bel hb)
     have hcmp := fun w => compare_any g f w
     by_cases hkl : klt g f
     ·rw [ccmp_lt.2 hkl] at hcmp
      have HK := Lib.hid (sortedTo_succ HS.out HFK.out hok (fun b _ h => by
       rw [Nat.add_sub_cancel, hgk] at h
       injection h with h
       exact h ▸ hkl))
      clear HS HFK hgk hkl
      go_wp2_with fail
      go_region_held3 (fun w' => w'.cell? ⟨wr.heap.size, 0, none⟩ = some (.string f.row) ∧ w'.cell? ⟨wr.heap.size, 1, none⟩ = some (.string f.col) ∧ w'.cell? ⟨wr.heap.size, 2, none⟩ = some (.int .i64 f.at_) ∧ w'.cell? ⟨wr.heap.size, 3, none⟩ = some (.string f.val) ∧ w'.cell? ⟨wr.heap.size, 4, none⟩ = some (.bool f.gone) ∧ w'.cell? ⟨b, off + p * 5, none⟩ = some (.string g.row) ∧ w'.cell? ⟨b, off + p * 5 + 1, none⟩ = some (.string g.col) ∧ w'.cell? ⟨b, off + p * 5 + 2, none⟩ = some (.int .i64 g.at_) ∧ w'.cell? ⟨b, off + p * 5 + 3, none⟩ = some (.string g.val) ∧ w'.cell? ⟨b, off + p * 5 + 4, none⟩ = some (.bool g.gone) ∧ Below wz.heap.size wz w') (first | exact HT.out | assumption | exact HU.out _ _ (by assumption) (by assumption))
       (first | (go_at_call 65; refine (hrt _).mono ?_; rintro e wn ⟨rfl, hbn⟩) | (go_at_call 59; refine (hcmp _).mono ?_; rintro e wm ⟨rfl, hbm⟩))
      go_wp2_with fail
      go_roundw
      case rel => exact ⟨p + 1 + 1, by omega, by go_num, HK, bwstep HBW.out (bwstep HBZ.out (bwstep (bwstep (Below.refl _ _).drew hbn) hbm))⟩
      case measure => simp [intOf]; omega
     ·have HNS := Lib.hid (sortedB_false (not_sorted_lt hgk HFK.out hkl))
      have hge : 0 ≤ ccmp g f := by
       rcases ccmp_cases g f with ⟨e, q⟩ | ⟨e, q⟩ | ⟨e, q⟩
       ·exact absurd q hkl
       ·omega
       ·omega
      generalize ccmp g f = cq at *
      have hcq : decide (0 ≤ cq) = true := by simp; omega
      have hcn : (cq != -1) = true := by simp; omega
      clear HS HFK hgk hkl
      go_wp2_with fail
      go_region_held3 (fun w' => w'.cell? ⟨wr.heap.size, 0, none⟩ = some (.string f.row) ∧ w'.cell? ⟨wr.heap.size, 1, none⟩ = some (.string f.col) ∧ w'.cell? ⟨wr.heap.size, 2, none⟩ = some (.int .i64 f.at_) ∧ w'.cell? ⟨wr.heap.size, 3, none⟩ = some (.string f.val) ∧ w'.cell? ⟨wr.heap.size, 4, none⟩ = some (.bool f.gone) ∧ w'.cell? ⟨b, off + p * 5, none⟩ = some (.string g.row) ∧ w'.cell? ⟨b, off + p * 5 + 1, none⟩ = some (.string g.col) ∧ w'.cell? ⟨b, off + p * 5 + 2, none⟩ = some (.int .i64 g.at_) ∧ w'.cell? ⟨b, off + p * 5 + 3, none⟩ = some (.string g.val) ∧ w'.cell? ⟨b, off + p * 5 + 4, none⟩ = some (.bool g.gone) ∧ Below wz.heap.size wz w') (first | exact HT.out | assumption | exact HU.out _ _ (by assumption) (by assumption))
       (first | (go_at_call 65; refine (hrt _).mono ?_; rintro e wn ⟨rfl, hbn⟩) | (go_at_call 59; refine (hcmp _).mono ?_; rintro e wm ⟨rfl, hbm⟩))
      go_wp2_with fail
      go_ret
      exact ⟨ret1 (vb HNS.out.symm), bwstep HBW.out (bwstep HBZ.out (bwstep (bwstep (Below.refl _ _).drew hbn) hbm))⟩
   ·rw [decide_eq_false hok] at hrt
    have HNS := Lib.hid (sortedB_false (not_sorted_ok HFK.out hok))
    clear HS HFK hok
    have HT : Hid (OneA (wr.heap.size) (0) f wz wz.drew) := Lib.hid (OneA.of HI.out.fiveAt HI.out.lt (Below.refl _ _).drew)
    have HU : Hid (∀ x y : World, OneA (wr.heap.size) (0) f wz x → Below x.heap.size x y → OneA (wr.heap.size) (0) f wz y) := Lib.hid fun x y hS hb => OneA.of HI.out.fiveAt HI.out.lt (bwstep hS.bel hb)
    go_wp2_with fail
    refine wp_region_held_drew (S := fun w' => w'.cell? ⟨wr.heap.size, 0, none⟩ = some (.string f.row) ∧ w'.cell? ⟨wr.heap.size, 1, none⟩ = some (.string f.col) ∧ w'.cell? ⟨wr.heap.size, 2, none⟩ = some (.int .i64 f.at_) ∧ w'.cell? ⟨wr.heap.size, 3, none⟩ = some (.string f.val) ∧ w'.cell? ⟨wr.heap.size, 4, none⟩ = some (.bool f.gone) ∧ Below wz.heap.size wz w') (by kernel_rfl) HT.out (fun hHeld => ?_)
    refine wpAnyH_take (i := 0) (oi := ⟨some 12, _, _, _, _, _⟩) (v := ?vc0) rfl (by kernel_rfl) (by kernel_rfl) (by kernel_rfl) (fun _ _ _ h => h) (Or.inl ⟨by rfl, ?yc0⟩) (by assumption) ?rc0
    case yc0 => (intro w hSw; go_split_ands; go_simp; try (with_reducible rfl))
    try simp only [Act.put, List.setIfInBounds_toArray, List.set_cons_zero, List.set_cons_succ]
    refine wpAnyH_ready (rs := [1]) (by kernel_rfl) (by simp) ?_
    refine AllReadyH.cons (o := ⟨some 13, _, _, _, _, _⟩) rfl (fun K hK => ?_) AllReadyH.nil
    go_simp
    refine (hrt _).mono ?_
    rintro e wn ⟨rfl, hbn⟩
    go_wp2_with fail
    refine hK.out _ _ (HU.out _ _ hHeld hbn) (fun hHeld => ?_)
    clear hK K
    try simp only [Act.put, List.setIfInBounds_toArray, List.set_cons_zero, List.set_cons_succ]
    refine wpAnyH_take (i := 2) (oi := ⟨some 14, _, _, _, _, _⟩) (v := ?vc2) rfl (by kernel_rfl) (by kernel_rfl) (by kernel_rfl) (fun _ _ _ h => h) (Or.inl ⟨by rfl, ?yc2⟩) (by assumption) ?rc2
    case yc2 => (intro w hSw; go_split_ands; go_simp; try (with_reducible rfl))
    try simp only [Act.put, List.setIfInBounds_toArray, List.set_cons_zero, List.set_cons_succ]
    refine wpAnyH_take (i := 3) (oi := ⟨some 15, _, _, _, _, _⟩) (v := ?vc3) rfl (by kernel_rfl) (by kernel_rfl) (by kernel_rfl) (fun _ _ _ h => h) (Or.inl ⟨by rfl, ?yc3⟩) (by assumption) ?rc3
    case yc3 => (intro w hSw; go_split_ands; go_simp; try (with_reducible rfl))
    try simp only [Act.put, List.setIfInBounds_toArray, List.set_cons_zero, List.set_cons_succ]
    refine wpAnyH_take (i := 4) (oi := ⟨some 16, _, _, _, _, _⟩) (v := undef) rfl (by kernel_rfl) (by kernel_rfl) (by kernel_rfl) (fun _ _ _ h => h) (Or.inr ⟨by rfl, rfl⟩) (by assumption) ?_
    try simp only [Act.put, List.setIfInBounds_toArray, List.set_cons_zero, List.set_cons_succ]
    refine wpAnyH_take (i := 5) (oi := ⟨some 17, _, _, _, _, _⟩) (v := undef) rfl (by kernel_rfl) (by kernel_rfl) (by kernel_rfl) (fun _ _ _ h => h) (Or.inr ⟨by rfl, rfl⟩) (by assumption) ?_
    try simp only [Act.put, List.setIfInBounds_toArray, List.set_cons_zero, List.set_cons_succ]
    refine wpAnyH_take (i := 6) (oi := ⟨some 18, _, _, _, _, _⟩) (v := undef) rfl (by kernel_rfl) (by kernel_rfl) (by kernel_rfl) (fun _ _ _ h => h) (Or.inr ⟨by rfl, rfl⟩) (by assumption) ?_
    try simp only [Act.put, List.setIfInBounds_toArray, List.set_cons_zero, List.set_cons_succ]
    refine wpAnyH_take (i := 7) (oi := ⟨some 19, _, _, _, _, _⟩) (v := undef) rfl (by kernel_rfl) (by kernel_rfl) (by kernel_rfl) (fun _ _ _ h => h) (Or.inr ⟨by rfl, rfl⟩) (by assumption) ?_
    try simp only [Act.put, List.setIfInBounds_toArray, List.set_cons_zero, List.set_cons_succ]
    refine wpAnyH_take (i := 8) (oi := ⟨some 20, _, _, _, _, _⟩) (v := undef) rfl (by kernel_rfl) (by kernel_rfl) (by kernel_rfl) (fun _ _ _ h => h) (Or.inr ⟨by rfl, rfl⟩) (by assumption) ?_
    try simp only [Act.put, List.setIfInBounds_toArray, List.set_cons_zero, List.set_cons_succ]
    refine wpAnyH_take (i := 9) (oi := ⟨some 21, _, _, _, _, _⟩) (v := undef) rfl (by kernel_rfl) (by kernel_rfl) (by kernel_rfl) (fun _ _ _ h => h) (Or.inr ⟨by rfl, rfl⟩) (by assumption) ?_
    try simp only [Act.put, List.setIfInBounds_toArray, List.set_cons_zero, List.set_cons_succ]
    refine wpAnyH_take (i := 10) (oi := ⟨some 22, _, _, _, _, _⟩) (v := undef) rfl (by kernel_rfl) (by kernel_rfl) (by kernel_rfl) (fun _ _ _ h => h) (Or.inr ⟨by rfl, rfl⟩) (by assumption) ?_
    try simp only [Act.put, List.setIfInBounds_toArray, List.set_cons_zero, List.set_cons_succ]
    refine wpAnyH_take (i := 11) (oi := ⟨some 23, _, _, _, _, _⟩) (v := undef) rfl (by kernel_rfl) (by kernel_rfl) (by kernel_rfl) (fun _ _ _ h => h) (Or.inr ⟨by rfl, rfl⟩) (by assumption) ?_
    try simp only [Act.put, List.setIfInBounds_toArray, List.set_cons_zero, List.set_cons_succ]
    refine wpAnyH_take (i := 12) (oi := ⟨some 24, _, _, _, _, _⟩) (v := undef) rfl (by kernel_rfl) (by kernel_rfl) (by kernel_rfl) (fun _ _ _ h => h) (Or.inr ⟨by rfl, rfl⟩) (by assumption) ?_
    try simp only [Act.put, List.setIfInBounds_toArray, List.set_cons_zero, List.set_cons_succ]
    refine wpAnyH_take (i := 13) (oi := ⟨some 25, _, _, _, _, _⟩) (v := undef) rfl (by kernel_rfl) (by kernel_rfl) (by kernel_rfl) (fun _ _ _ h => h) (Or.inr ⟨by rfl, rfl⟩) (by assumption) ?_
    try simp only [Act.put, List.setIfInBounds_toArray, List.set_cons_zero, List.set_cons_succ]
    refine wpAnyH_take (i := 14) (oi := ⟨some 26, _, _, _, _, _⟩) (v := undef) rfl (by kernel_rfl) (by kernel_rfl) (by kernel_rfl) (fun _ _ _ h => h) (Or.inr ⟨by rfl, rfl⟩) (by assumption) ?_
    try simp only [Act.put, List.setIfInBounds_toArray, List.set_cons_zero, List.set_cons_succ]
    refine wpAnyH_take (i := 15) (oi := ⟨some 27, _, _, _, _, _⟩) (v := undef) rfl (by kernel_rfl) (by kernel_rfl) (by kernel_rfl) (fun _ _ _ h => h) (Or.inr ⟨by rfl, rfl⟩) (by assumption) ?_
    try simp only [Act.put, List.setIfInBounds_toArray, List.set_cons_zero, List.set_cons_succ]
    refine wpAnyH_take (i := 16) (oi := ⟨some 28, _, _, _, _, _⟩) (v := ?vc16) rfl (by kernel_rfl) (by kernel_rfl) (by kernel_rfl) (fun _ _ _ h => h) (Or.inl ⟨by rfl, ?yc16⟩) (by assumption) ?rc16
    case yc16 => (intro w hSw; go_split_ands; go_simp; try (with_reducible rfl))
    try simp only [Act.put, List.setIfInBounds_toArray, List.set_cons_zero, List.set_cons_succ]
    refine wpAnyH_done (by kernel_rfl) ?_ _
    go_wp2_with fail
    go_ret
    exact ⟨ret1 (vb HNS.out.symm), bwstep HBW.out (bwstep HBZ.out (bwstep (Below.refl _ _).drew hbn))⟩
  ·obtain rfl : k = L.length := by omega
   have HNS := Lib.hid (sortedB_true HS.out)
   clear hbw HS
   go_wp2_with fail
   go_ret
   exact ⟨ret1 (vb HNS.out.symm), HBW.out⟩
end Go.Proofs.YtcpkhhbbjimdaaaGreatDoor.Ce
