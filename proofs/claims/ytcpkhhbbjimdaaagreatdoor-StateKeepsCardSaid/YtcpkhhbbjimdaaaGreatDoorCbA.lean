/- The contracts of slices.BinarySearchFunc over cells, and of Newest of package cell. The contract of Newest of package cell. The contracts of the reference's Few and Newest of layer 8. -/
import Derived.Test.YtcpkhhbbjimdaaaGreatDoorCsA
import Derived.IntWalk
set_option maxHeartbeats 8000000
set_option maxRecDepth 100000
namespace Go.Proofs.YtcpkhhbbjimdaaaGreatDoor.Ce
open Go.RowKit
def TwoC (b o : Nat) (f : Cl) (g : Nat) (t : Cl) (w0 w' : World) : Prop :=
 w'.cell? ⟨b, o, none⟩ = some (.string f.row) ∧ w'.cell? ⟨b, o + 1, none⟩ = some (.string f.col) ∧ w'.cell? ⟨b, o + 2, none⟩ = some (.int .i64 f.at_) ∧ w'.cell? ⟨b, o + 3, none⟩ = some (.string f.val) ∧ w'.cell? ⟨b, o + 4, none⟩ = some (.bool f.gone) ∧
 w'.cell? ⟨g, 0, none⟩ = some (.string t.row) ∧ w'.cell? ⟨g, 1, none⟩ = some (.string t.col) ∧ w'.cell? ⟨g, 2, none⟩ = some (.int .i64 t.at_) ∧ w'.cell? ⟨g, 3, none⟩ = some (.string t.val) ∧ w'.cell? ⟨g, 4, none⟩ = some (.bool t.gone) ∧ Below w0.heap.size w0 w'
theorem TwoC.of {b o g : Nat} {f t : Cl} {w0 w' : World} (h : FiveAt b o f w0) (hb : b < w0.heap.size) (hi : InC g t w0) (hw : Below w0.heap.size w0 w') : TwoC b o f g t w0 w' := by
 obtain ⟨a0, a1, a2, a3, a4⟩ := h.up hb hw
 obtain ⟨c0, c1, c2, c3, c4⟩ := (hi.up hw).five
 exact ⟨a0, a1, a2, a3, a4, c0, c1, c2, c3, c4, hw⟩
theorem TwoC.bel {b o g : Nat} {f t : Cl} {w0 w' : World} (h : TwoC b o f g t w0 w') : Below w0.heap.size w0 w' := h.2.2.2.2.2.2.2.2.2.2
def fnd (L : List Cl) (t : Cl) (k : Nat) : Bool := match L[k]? with | some c => decide (ccmp c t = 0) | none => false
def BsEnd (w : World) (k : Int) (q : Bool) (e : Ending) (w' : World) : Prop := e = .returned (.tuple #[.int .i64 k, .bool q]) ∧ Below w.heap.size w w'
structure Place (L : List Cl) (t : Cl) (k : Nat) : Prop where
 le : k ≤ L.length
 lt : ∀ j c, j < k → L[j]? = some c → klt c t
 ge : ∀ j c, k ≤ j → L[j]? = some c → ¬ klt c t
def BsRel (L : List Cl) (t : Cl) (lo hi : Nat) : Prop := (∀ j c, j < lo → L[j]? = some c → klt c t) ∧ (∀ j c, hi ≤ j → L[j]? = some c → ¬ klt c t)
theorem BsRel.up {L : List Cl} {t : Cl} {lo hi h : Nat} {f : Cl} (H : BsRel L t lo hi) (hs : Srt L) (hf : L[h]? = some f) (hk : klt f t) : BsRel L t (h + 1) hi :=
 ⟨fun j c hj hc => by
  by_cases e : j = h
  ·subst e
   rw [hf] at hc
   injection hc with hc
   exact hc ▸ hk
  ·exact klt_trans (srt_at hs (by omega) hc hf) hk, H.2⟩
theorem BsRel.dn {L : List Cl} {t : Cl} {lo hi h : Nat} {f : Cl} (H : BsRel L t lo hi) (hs : Srt L) (hf : L[h]? = some f) (hk : ¬ klt f t) : BsRel L t lo h :=
 ⟨H.1, fun j c hj hc hlt => by
  by_cases e : j = h
  ·subst e
   rw [hf] at hc
   injection hc with hc
   exact hk (hc ▸ hlt)
  ·exact hk (klt_trans (srt_at hs (by omega) hf hc) hlt)⟩
theorem bs_any (v : Value) (L : List Cl) (t : Cl) (w : World) (hv : RdL w [] v L) (hs : Srt L) (hL : L.length ≤ 2199023255552) (k : Nat) (hk : Place L t k) :
  Calls Tryz.prog 99 #[v, t.v, .func (.func 59) #[] #[]] w (BsEnd w k (fnd L t k)) := by
 obtain ⟨A, cp, rfl, hc, hm⟩ := hv.shape
 unfold maxLen at hm
 go_enter Tryz.func99, Tryz.ntmps99
 go_wp2_with (refine boxC rfl (.tmp 1) t rfl rfl ?_)
 constructor
 intro w1 hI1 hb1 hz1
 have HV := Lib.hid (hv.bel hb1)
 have HI := Lib.hid hI1
 have HB := Lib.hid hb1
 clear hv hI1 hb1 hz1
 go_wp2_with fail
 go_loopw [9, 10] (fun i j wr => ∃ lo hi : Nat, lo ≤ hi ∧ hi ≤ L.length ∧ i = .int .i64 (lo : Int) ∧ j = .int .i64 (hi : Int) ∧ Hid (BsRel L t lo hi) ∧ Below w1.heap.size w1 wr) (fun i j _ => (intOf j).toNat - (intOf i).toNat)
 case atStart => exact ⟨0, L.length, by omega, by omega, rfl, rfl, Lib.hid ⟨fun j c hj => by omega, fun j c hj hc => by have := (List.getElem?_eq_some_iff.1 hc).1; omega⟩, Below.refl _ _⟩
 case round =>
  obtain ⟨lo, hi, h1, h2, rfl, rfl, HR, hbw⟩ := hrel
  have HBW := Lib.hid hbw
  by_cases hlt : lo < hi
  ·obtain ⟨b, off, rfl, -, -⟩ := HV.out.open_ (by omega)
   obtain ⟨h, hh⟩ : ∃ h : Nat, ((lo : Int) + (hi : Int)) / 2 = (h : Int) := ⟨(lo + hi) / 2, by omega⟩
   have hh1 : lo ≤ h := by omega
   have hh2 : h < hi := by omega
   have hhn : (lo + hi) / 2 = h := by omega
   have hh3 : (0 : Int) ≤ (h : Int) := by omega
   have hh4 : (h : Int) < (L.length : Int) := by omega
   have hh5 : h < L.length := by omega
   have hfk : L[h]? = some (L[h]'(by omega)) := List.getElem?_eq_getElem _
   generalize L[h]'(by omega) = f at hfk
   obtain ⟨h5, hbl⟩ := (HV.out.bel hbw).at_ hfk
   have HFK := Lib.hid hfk
   have HT : Hid (TwoC b (off + h * 5) f w.heap.size t wr wr.drew) := Lib.hid (TwoC.of h5 hbl (HI.out.up hbw) (Below.refl _ _).drew)
   have HU : Hid (∀ x y : World, TwoC b (off + h * 5) f w.heap.size t wr x → Below x.heap.size x y → TwoC b (off + h * 5) f w.heap.size t wr y) := Lib.hid fun x y hS hb => TwoC.of h5 hbl (HI.out.up hbw) (bwstep hS.bel hb)
   clear hfk h5 hbl hbw
   have hcmp := fun w => compare_any f t w
   by_cases hkl : klt f t
   ·rw [ccmp_lt.2 hkl] at hcmp
    have HK := Lib.hid (HR.out.up hs HFK.out hkl)
    clear hkl HFK HR
    go_wp2_with fail
    go_region_held3 (fun w' => w'.cell? ⟨b, off + h * 5, none⟩ = some (.string f.row) ∧ w'.cell? ⟨b, off + h * 5 + 1, none⟩ = some (.string f.col) ∧ w'.cell? ⟨b, off + h * 5 + 2, none⟩ = some (.int .i64 f.at_) ∧ w'.cell? ⟨b, off + h * 5 + 3, none⟩ = some (.string f.val) ∧ w'.cell? ⟨b, off + h * 5 + 4, none⟩ = some (.bool f.gone) ∧ w'.cell? ⟨w.heap.size, 0, none⟩ = some (.string t.row) ∧ w'.cell? ⟨w.heap.size, 1, none⟩ = some (.string t.col) ∧ w'.cell? ⟨w.heap.size, 2, none⟩ = some (.int .i64 t.at_) ∧ w'.cell? ⟨w.heap.size, 3, none⟩ = some (.string t.val) ∧ w'.cell? ⟨w.heap.size, 4, none⟩ = some (.bool t.gone) ∧ Below wr.heap.size wr w') (first | exact HT.out | assumption | exact HU.out _ _ (by assumption) (by assumption))
     (first | (go_at_call 59; refine (hcmp _).mono ?_; rintro e wn ⟨rfl, hbn⟩))
    go_wp2_with fail
    go_roundw
    case rel => exact ⟨h + 1, hi, by omega, by omega, by go_num, rfl, HK, bwstep HBW.out (bwstep (Below.refl _ _).drew hbn)⟩
    case measure => simp [intOf]; omega
   ·have hge : 0 ≤ ccmp f t := by
     rcases ccmp_cases f t with ⟨e, q⟩ | ⟨e, q⟩ | ⟨e, q⟩
     ·exact absurd q hkl
     ·omega
     ·omega
    generalize ccmp f t = cq at *
    have HK := Lib.hid (HR.out.dn hs HFK.out hkl)
    have hcq : decide (cq < 0) = false := by simp; omega
    clear hkl HFK HR
    go_wp2_with fail
    go_region_held3 (fun w' => w'.cell? ⟨b, off + h * 5, none⟩ = some (.string f.row) ∧ w'.cell? ⟨b, off + h * 5 + 1, none⟩ = some (.string f.col) ∧ w'.cell? ⟨b, off + h * 5 + 2, none⟩ = some (.int .i64 f.at_) ∧ w'.cell? ⟨b, off + h * 5 + 3, none⟩ = some (.string f.val) ∧ w'.cell? ⟨b, off + h * 5 + 4, none⟩ = some (.bool f.gone) ∧ w'.cell? ⟨w.heap.size, 0, none⟩ = some (.string t.row) ∧ w'.cell? ⟨w.heap.size, 1, none⟩ = some (.string t.col) ∧ w'.cell? ⟨w.heap.size, 2, none⟩ = some (.int .i64 t.at_) ∧ w'.cell? ⟨w.heap.size, 3, none⟩ = some (.string t.val) ∧ w'.cell? ⟨w.heap.size, 4, none⟩ = some (.bool t.gone) ∧ Below wr.heap.size wr w') (first | exact HT.out | assumption | exact HU.out _ _ (by assumption) (by assumption))
     (first | (go_at_call 59; refine (hcmp _).mono ?_; rintro e wn ⟨rfl, hbn⟩))
    go_wp2_with fail
    go_roundw
    case rel => exact ⟨lo, h, by omega, by omega, rfl, rfl, HK, bwstep HBW.out (bwstep (Below.refl _ _).drew hbn)⟩
    case measure => simp [intOf]; omega
  ·obtain rfl : hi = lo := by omega
   obtain rfl : hi = k := by
    have p1 := HR.out.1
    have p2 := HR.out.2
    rcases Nat.lt_trichotomy hi k with e | e | e
    ·have hf : L[hi]? = some (L[hi]'(by have := hk.le; omega)) := List.getElem?_eq_getElem _
     exact absurd (hk.lt hi _ e hf) (p2 hi _ (Nat.le_refl _) hf)
    ·exact e
    ·have hf : L[k]? = some (L[k]'(by omega)) := List.getElem?_eq_getElem _
     exact absurd (p1 k _ e hf) (hk.ge k _ (Nat.le_refl _) hf)
   clear hk HR
   by_cases hn : hi < L.length
   ·have hh3 : (0 : Int) ≤ (hi : Int) := by omega
    have hh4 : (hi : Int) < (L.length : Int) := by omega
    obtain ⟨b, off, rfl, -, -⟩ := HV.out.open_ (by omega)
    have hfk : L[hi]? = some (L[hi]'hn) := List.getElem?_eq_getElem _
    generalize L[hi]'hn = f at hfk
    have HQ : Hid (fnd L t hi = decide (ccmp f t = 0)) := Lib.hid (by unfold fnd; rw [hfk])
    generalize fnd L t hi = q at *
    obtain ⟨h5, hbl⟩ := (HV.out.bel hbw).at_ hfk
    have HT : Hid (TwoC b (off + hi * 5) f w.heap.size t wr wr.drew) := Lib.hid (TwoC.of h5 hbl (HI.out.up hbw) (Below.refl _ _).drew)
    have HU : Hid (∀ x y : World, TwoC b (off + hi * 5) f w.heap.size t wr x → Below x.heap.size x y → TwoC b (off + hi * 5) f w.heap.size t wr y) := Lib.hid fun x y hS hb => TwoC.of h5 hbl (HI.out.up hbw) (bwstep hS.bel hb)
    clear hfk h5 hbl hbw
    have hcmp := fun w => compare_any f t w
    generalize ccmp f t = cq at *
    go_wp2_with fail
    go_region_held3 (fun w' => w'.cell? ⟨b, off + hi * 5, none⟩ = some (.string f.row) ∧ w'.cell? ⟨b, off + hi * 5 + 1, none⟩ = some (.string f.col) ∧ w'.cell? ⟨b, off + hi * 5 + 2, none⟩ = some (.int .i64 f.at_) ∧ w'.cell? ⟨b, off + hi * 5 + 3, none⟩ = some (.string f.val) ∧ w'.cell? ⟨b, off + hi * 5 + 4, none⟩ = some (.bool f.gone) ∧ w'.cell? ⟨w.heap.size, 0, none⟩ = some (.string t.row) ∧ w'.cell? ⟨w.heap.size, 1, none⟩ = some (.string t.col) ∧ w'.cell? ⟨w.heap.size, 2, none⟩ = some (.int .i64 t.at_) ∧ w'.cell? ⟨w.heap.size, 3, none⟩ = some (.string t.val) ∧ w'.cell? ⟨w.heap.size, 4, none⟩ = some (.bool t.gone) ∧ Below wr.heap.size wr w') (first | exact HT.out | assumption | exact HU.out _ _ (by assumption) (by assumption))
     (first | (go_at_call 59; refine (hcmp _).mono ?_; rintro e wn ⟨rfl, hbn⟩))
    go_wp2_with fail
    go_ret2
    exact ⟨by rw [HQ.out]; rfl, bwstep HB.out (bwstep HBW.out (bwstep (Below.refl _ _).drew hbn))⟩
   ·have HQ : Hid (fnd L t hi = false) := Lib.hid (by unfold fnd; rw [List.getElem?_eq_none (by omega)])
    generalize fnd L t hi = q at *
    go_wp2_with fail
    go_quiet (fail)
    go_wp2_with fail
    go_ret2
    exact ⟨by rw [HQ.out]; first | rfl | simp [hn] | (simp; omega), bwstep HB.out (below_drewN HBW.out _)⟩
end Go.Proofs.YtcpkhhbbjimdaaaGreatDoor.Ce
namespace Go.Proofs.YtcpkhhbbjimdaaaGreatDoor.Ce
open Go.RowKit
def tgt (row col : ByteArray) (at_ : Int) : Cl := ⟨row, col, at_, ⟨#[]⟩, false⟩
theorem place_exists {L : List Cl} (hs : Srt L) (t : Cl) : ∃ k, Place L t k := by
 have main : ∀ n, n ≤ L.length → (∀ j c, j < n → L[j]? = some c → klt c t) ∨ ∃ k, k < n ∧ (∀ j c, j < k → L[j]? = some c → klt c t) ∧ ∃ f, L[k]? = some f ∧ ¬ klt f t := by
  intro n
  induction n with
  | zero => exact fun _ => .inl fun j c hj => by omega
  | succ n ih =>
   intro hn
   rcases ih (by omega) with h | ⟨k, hk, h1, h2⟩
   ·have hf : L[n]? = some (L[n]'(by omega)) := List.getElem?_eq_getElem _
    by_cases hlt : klt (L[n]'(by omega)) t
    ·refine .inl fun j c hj hc => ?_
     by_cases e : j = n
     ·subst e
      rw [hf] at hc
      injection hc with hc
      exact hc ▸ hlt
     ·exact h j c (by omega) hc
    ·exact .inr ⟨n, by omega, h, _, hf, hlt⟩
   ·exact .inr ⟨k, by omega, h1, h2⟩
 rcases main L.length (Nat.le_refl _) with h | ⟨k, hk, h1, f, hf, h2⟩
 ·exact ⟨L.length, Nat.le_refl _, h, fun j c hj hc => by have := (List.getElem?_eq_some_iff.1 hc).1; omega⟩
 ·refine ⟨k, by omega, h1, fun j c hj hc hlt => ?_⟩
  by_cases e : k = j
  ·subst e
   rw [hf] at hc
   injection hc with hc
   exact h2 (hc ▸ hlt)
  ·exact h2 (klt_trans (srt_at hs (by omega) hf hc) hlt)
section
variable {L : List Cl} {row col : ByteArray} {at_ : Int} {k : Nat} {f : Cl}
theorem newest_some (hk : Place L (tgt row col at_) k) (hf : L[k]? = some f) (hr : f.row = row) (hc : f.col = col) : newest row col at_ L = some f := by
 unfold newest
 obtain ⟨hlt, hfe⟩ := List.getElem?_eq_some_iff.1 hf
 rw [List.find?_eq_some_iff_getElem]
 refine ⟨decide_eq_true (fits_iff.2 ⟨hr, hc, hk.ge k f (Nat.le_refl _) hf⟩), k, hlt, hfe, fun j hj => ?_⟩
 have hn := hk.lt j (L[j]'(by omega)) hj (List.getElem?_eq_getElem _)
 simp only [Bool.not_eq_true', decide_eq_false_iff_not]
 exact fun hfit => (fits_iff.1 hfit).2.2 hn
theorem newest_none_end (hk : Place L (tgt row col at_) L.length) : newest row col at_ L = none := by
 unfold newest
 rw [List.find?_eq_none]
 intro c hc
 obtain ⟨j, hj⟩ := List.getElem?_of_mem hc
 have hn := hk.lt j c (List.getElem?_eq_some_iff.1 hj).1 hj
 simp only [decide_eq_true_eq]
 exact fun hfit => (fits_iff.1 hfit).2.2 hn
theorem newest_none (hs : Srt L) (hk : Place L (tgt row col at_) k) (hf : L[k]? = some f) (hne : ¬ (f.row = row ∧ f.col = col)) : newest row col at_ L = none := by
 unfold newest
 rw [List.find?_eq_none]
 intro c hc
 obtain ⟨j, hj⟩ := List.getElem?_of_mem hc
 simp only [decide_eq_true_eq]
 intro hfit
 obtain ⟨h1, h2, h3⟩ := fits_iff.1 hfit
 have hge := hk.ge k f (Nat.le_refl _) hf
 by_cases hjk : j < k
 ·exact h3 (hk.lt j c hjk hj)
 ·by_cases e : j = k
  ·subst e
   rw [hf] at hj
   injection hj with hj
   exact hne (hj ▸ ⟨h1, h2⟩)
  ·have hlt := srt_at hs (show k < j by omega) hf hj
   by_cases hq : keq f (tgt row col at_)
   ·exact hne ⟨hq.1, hq.2.1⟩
   ·have hb := between (klt_total hge hq) (.inl hlt) (by rw [h1]; rfl) (by rw [h2]; rfl)
    exact hne ⟨hb.1.trans h1, hb.2.trans h2⟩
end
def nwC (row col : ByteArray) (at_ : Int) (L : List Cl) : Cl := (newest row col at_ L).getD Cl.zero
def nwB (row col : ByteArray) (at_ : Int) (L : List Cl) : Bool := (newest row col at_ L).isSome
theorem newest_any (v : Value) (L : List Cl) (row col : ByteArray) (at_ : Int) (w : World) (hv : RdL w [] v L) (hs : Srt L) (hL : L.length ≤ 1000000000) :
  Calls Tryz.prog 105 #[v, .string row, .string col, .int .i64 at_] w fun e w' => e = .returned (.tuple #[(nwC row col at_ L).v, .bool (nwB row col at_ L)]) ∧ Below w.heap.size w w' := by
 obtain ⟨k, hk⟩ := place_exists hs (tgt row col at_)
 obtain ⟨A, cp, rfl, hc, hm⟩ := hv.shape
 unfold maxLen at hm
 have HK := Lib.hid hk
 have hkl := hk.le
 clear hk
 go_enter Tryz.func105, Tryz.ntmps105
 go_wp2_with (refine allocC rfl rfl ?_)
 constructor
 intro w1 hI1 hb1 hz1
 have HV := Lib.hid (hv.bel hb1)
 have HB := Lib.hid hb1
 clear hv hb1 hz1
 go_wp2_with fail
 refine (bs_any _ L (tgt row col at_) _ HV.out hs (by omega) k HK.out).mono ?_
 generalize fnd L (tgt row col at_) k = q
 rintro e w2 ⟨rfl, hb2⟩
 have hI2 := hI1.up hb2
 have HV2 := Lib.hid (HV.out.bel hb2)
 have HB2 := Lib.hid (bwstep HB.out hb2)
 clear hI1 hb2 HV HB
 by_cases hn : k < L.length
 ·have hh3 : (0 : Int) ≤ (k : Int) := by omega
  have hh4 : (k : Int) < (L.length : Int) := by omega
  have hne : ¬ ((k : Int) = (L.length : Int)) := by omega
  have hneb : ((k : Int) == (L.length : Int)) = false := by simp; omega
  obtain ⟨b, off, rfl, -, -⟩ := HV2.out.open_ (by omega)
  have hfk : L[k]? = some (L[k]'hn) := List.getElem?_eq_getElem _
  generalize L[k]'hn = f at hfk
  obtain ⟨h5, hbl⟩ := HV2.out.at_ hfk
  have HFK := Lib.hid hfk
  obtain ⟨c0, c1, c2, c3, c4⟩ := h5
  clear hfk
  by_cases hr : f.row = row
  ·by_cases hcl : f.col = col
   ·have e0 := str_eq hr
    have e1 := str_eq hcl
    have HN := Lib.hid (newest_some HK.out HFK.out hr hcl)
    clear hr hcl
    go_wp2_with (refine storeC (c := f) rfl (.tmp 8) (.tmp 47) rfl rfl rfl hI2 ?_)
    constructor
    intro w3 hs3
    have HS := Lib.hid hs3
    clear hs3
    go_wp2_with fail
    exact bodyPost_ret (res2 Tryz.results105 rfl HS.out.i) rfl ⟨by unfold nwC nwB; rw [HN.out]; rfl, HS.out.bel HB2.out (Nat.le_refl _)⟩
   ·have e0 := str_eq hr
    have e1 := str_ne hcl
    have HN := Lib.hid (newest_none hs HK.out HFK.out (fun h => hcl h.2))
    clear hr hcl
    go_wp2_with (refine storeC (c := Cl.zero) rfl (.tmp 8) (.tmp 43) rfl rfl rfl hI2 ?_)
    constructor
    intro w3 hs3
    have HS := Lib.hid hs3
    clear hs3
    go_wp2_with fail
    exact bodyPost_ret (res2 Tryz.results105 rfl HS.out.i) rfl ⟨by unfold nwC nwB; rw [HN.out]; rfl, HS.out.bel HB2.out (Nat.le_refl _)⟩
  ·have e0 := str_ne hr
   have HN := Lib.hid (newest_none hs HK.out HFK.out (fun h => hr h.1))
   clear hr
   go_wp2_with (refine storeC (c := Cl.zero) rfl (.tmp 8) (.tmp 43) rfl rfl rfl hI2 ?_)
   constructor
   intro w3 hs3
   have HS := Lib.hid hs3
   clear hs3
   go_wp2_with fail
   exact bodyPost_ret (res2 Tryz.results105 rfl HS.out.i) rfl ⟨by unfold nwC nwB; rw [HN.out]; rfl, HS.out.bel HB2.out (Nat.le_refl _)⟩
 ·obtain rfl : k = L.length := by omega
  have HN := Lib.hid (newest_none_end HK.out)
  go_wp2_with (refine storeC (c := Cl.zero) rfl (.tmp 8) (.tmp 43) rfl rfl rfl hI2 ?_)
  constructor
  intro w3 hs3
  have HS := Lib.hid hs3
  clear hs3
  go_wp2_with fail
  exact bodyPost_ret (res2 Tryz.results105 rfl HS.out.i) rfl ⟨by unfold nwC nwB; rw [HN.out]; rfl, HS.out.bel HB2.out (Nat.le_refl _)⟩
end Go.Proofs.YtcpkhhbbjimdaaaGreatDoor.Ce
namespace Go.Proofs.YtcpkhhbbjimdaaaGreatDoor.Ce
open Go.RowKit
def noC : Cl := ⟨⟨#[]⟩, ⟨#[]⟩, -1, ⟨#[]⟩, false⟩
def bst (row col : ByteArray) (at_ : Int) (L : List Cl) (k : Nat) : Cl := (newest row col at_ (L.take k)).getD noC
section
variable {row col : ByteArray} {at_ : Int} {L : List Cl} {k : Nat} {f : Cl}
theorem newest_snoc (hf : L[k]? = some f) : newest row col at_ (L.take (k + 1)) = (newest row col at_ (L.take k)).or (if fits row col at_ f then some f else none) := by
 obtain ⟨hl, rfl⟩ := List.getElem?_eq_some_iff.1 hf
 unfold newest
 rw [List.take_succ_eq_append_getElem hl, List.find?_append]
 congr 1
 rw [List.find?_singleton]
 by_cases h : fits row col at_ L[k]
 ·simp [h]
 ·simp [h]
theorem newest_mem {c : Cl} (h : newest row col at_ (L.take k) = some c) : fits row col at_ c ∧ ∃ j, j < k ∧ L[j]? = some c := by
 unfold newest at h
 have h1 := List.find?_some h
 have h2 := List.mem_of_find?_eq_some h
 obtain ⟨j, hj⟩ := List.getElem?_of_mem h2
 rw [List.getElem?_take] at hj
 split at hj
 ·exact ⟨of_decide_eq_true h1, j, by assumption, hj⟩
 ·cases hj
theorem bst_not (hf : L[k]? = some f) (h : ¬ fits row col at_ f) : bst row col at_ L (k + 1) = bst row col at_ L k := by
 unfold bst
 rw [newest_snoc hf, if_neg h, Option.or_none]
theorem bst_yes (hf : L[k]? = some f) (h : fits row col at_ f) (hs : Srt L) (hok : ∀ c ∈ L, c.ok) :
  (¬ (bst row col at_ L k).at_ < f.at_ ∧ bst row col at_ L (k + 1) = bst row col at_ L k) ∨ ((bst row col at_ L k).at_ < f.at_ ∧ bst row col at_ L (k + 1) = f) := by
 cases hq : newest row col at_ (L.take k) with
 | none =>
  refine .inr ⟨?_, ?_⟩
  ·unfold bst
   rw [hq]
   have := (hok f (List.mem_of_getElem? hf)).a1
   show (-1 : Int) < f.at_
   omega
  ·unfold bst
   rw [newest_snoc hf, if_pos h, hq]
   rfl
 | some c =>
  refine .inl ⟨?_, ?_⟩
  ·obtain ⟨h1, j, hj, hc⟩ := newest_mem hq
   have hlt := srt_at hs hj hc hf
   unfold bst
   rw [hq]
   show ¬ c.at_ < f.at_
   rcases hlt with h2 | ⟨-, h2 | ⟨-, h2⟩⟩
   ·rw [h1.1, h.1] at h2
    exact absurd h2 (List.lt_irrefl _)
   ·rw [h1.2.1, h.2.1] at h2
    exact absurd h2 (List.lt_irrefl _)
   ·omega
  ·unfold bst
   rw [newest_snoc hf, hq]
   rfl
theorem bst_end (hok : ∀ c ∈ L, c.ok) : ((bst row col at_ L L.length).at_ < 0 ∧ nwC row col at_ L = Cl.zero ∧ nwB row col at_ L = false) ∨ (¬ (bst row col at_ L L.length).at_ < 0 ∧ nwC row col at_ L = bst row col at_ L L.length ∧ nwB row col at_ L = true) := by
 unfold bst nwC nwB
 rw [List.take_length]
 cases hq : newest row col at_ L with
 | none => exact .inl ⟨by show (-1 : Int) < 0; omega, rfl, rfl⟩
 | some c =>
  refine .inr ⟨?_, rfl, rfl⟩
  have hm : c ∈ L := by unfold newest at hq; exact List.mem_of_find?_eq_some hq
  have := (hok c hm).a1
  show ¬ c.at_ < 0
  omega
end
structure NwS (w : World) (g k : Nat) (b : Cl) (w' : World) : Prop where
 ig : InC g Cl.zero w'
 ik : InC k b w'
 ne : k ≠ g
 ge : w.heap.size ≤ g ∧ w.heap.size ≤ k
 bel : Below w.heap.size w w'
theorem NwS.up {w : World} {g k : Nat} {b : Cl} {x y : World} (h : NwS w g k b x) (hb : Below x.heap.size x y) : NwS w g k b y := ⟨h.ig.up hb, h.ik.up hb, h.ne, h.ge, bwstep h.bel hb⟩
theorem NwS.set {w : World} {g k : Nat} {b c : Cl} {x y : World} (h : NwS w g k b x) (hs : SetC k c x y) : NwS w g k c y := ⟨hs.up h.ig h.ne.symm, hs.i, h.ne, h.ge, hs.bel h.bel h.ge.2⟩
theorem rnewest_any (v : Value) (L : List Cl) (row col : ByteArray) (at_ : Int) (w : World) (hv : RdL w [] v L) (hs : Srt L) (hL : L.length ≤ 1000000000) (hok : ∀ c ∈ L, c.ok) :
  Calls Tryz.prog 22 #[v, .string row, .string col, .int .i64 at_] w fun e w' => e = .returned (.tuple #[(nwC row col at_ L).v, .bool (nwB row col at_ L)]) ∧ Below w.heap.size w w' := by
 obtain ⟨A, cp, rfl, hc, hm⟩ := hv.shape
 unfold maxLen at hm
 have HV := Lib.hid hv
 have HOK := Lib.hid hok
 clear hv hok
 go_enter Tryz.func22, Tryz.ntmps22
 go_wp2_with (refine allocC rfl rfl ?_)
 constructor
 intro w1 hI1 hb1 hz1
 go_wp2_with (refine allocC rfl rfl ?_)
 constructor
 intro w2 hI2 hb2 hz2
 have hI1 := hI1.bel hb2 (by omega)
 have hlt1 := hI1.lt
 go_wp2_with (refine storeC (c := noC) rfl (.tmp 10) (.tmp 12) rfl rfl rfl hI2 ?_)
 constructor
 intro w3 hs3
 have HN3 : Hid (NwS w w.heap.size (w.heap.size + 1) noC w3) := Lib.hid (by
  exact ⟨hs3.up hI1 (by omega), hs3.i, by omega, ⟨by omega, by omega⟩, hs3.bel (hb1.trans (hb2.mono (by omega))) (by omega)⟩)
 clear hI1 hb1 hI2 hb2 hs3 hz2 hlt1
 go_wp2_with fail
 clear hz1
 go_loopw [11] (fun i wr => ∃ k : Nat, k ≤ L.length ∧ i = .int .i64 (k : Int) ∧ Hid (NwS w w.heap.size (w.heap.size + 1) (bst row col at_ L k) wr)) (fun i _ => L.length - (intOf i).toNat)
 case atStart => exact ⟨0, by omega, rfl, HN3⟩
 case round =>
  obtain ⟨k, hk, rfl, HN⟩ := hrel
  by_cases hlt : k < L.length
  ·obtain ⟨b, off, rfl, -, -⟩ := HV.out.open_ (by omega)
   have hh3 : (0 : Int) ≤ (k : Int) := by omega
   have hh4 : (k : Int) < (L.length : Int) := by omega
   have hfk : L[k]? = some (L[k]'hlt) := List.getElem?_eq_getElem _
   generalize L[k]'hlt = f at hfk
   have hv9 := HV.out.bel HN.out.bel
   obtain ⟨h5, hbl⟩ := hv9.at_ hfk
   have HFK := Lib.hid hfk
   obtain ⟨c0, c1, c2, c3, c4⟩ := h5
   obtain ⟨p0, p1, p2, p3, p4⟩ := HN.out.ik.five
   clear hfk hv9
   by_cases hr : f.row = row
   ·have e0 := str_eq hr
    by_cases hcl : f.col = col
    ·have e1 := str_eq hcl
     by_cases hat : f.at_ ≤ at_
     ·have hd1 := decide_eq_true hat
      rcases bst_yes (row := row) (col := col) (at_ := at_) HFK.out ⟨hr, hcl, hat⟩ hs HOK.out with ⟨hg, he⟩ | ⟨hg, he⟩
      ·have hd2 := decide_eq_false hg
       have HE := Lib.hid he
       clear hr hcl he
       go_wp2_with fail
       go_quiet (fail)
       go_wp2_with fail
       go_roundw
       case rel => exact ⟨k + 1, by omega, by go_num, Lib.hid (by rw [HE.out]; exact HN.out.up (bwN _))⟩
       case measure => simp [intOf]; omega
      ·have hd2 := decide_eq_true hg
       have HE := Lib.hid he
       clear hr hcl he
       go_wp2_with fail
       go_quiet (fail)
       have HN2 := Lib.hid (HN.out.up (bwN nq))
       have hv9 := HV.out.bel HN2.out.bel
       obtain ⟨⟨c0, c1, c2, c3, c4⟩, hbl⟩ := hv9.at_ HFK.out
       generalize wr.drewN nq = wq at *
       clear hv9 hbl
       go_wp2_with (refine storeC (c := f) rfl (.tmp 10) (.tmp 57) rfl rfl rfl HN2.out.ik ?_)
       constructor
       intro w9 hs9
       have HN9 := Lib.hid (HN2.out.set hs9)
       clear hs9
       go_wp2_with fail
       go_roundw
       case rel => exact ⟨k + 1, by omega, by go_num, Lib.hid (by rw [HE.out]; exact HN9.out)⟩
       case measure => simp [intOf]; omega
     ·have hd1 := decide_eq_false hat
      have HE := Lib.hid (bst_not (row := row) (col := col) (at_ := at_) HFK.out (fun h => hat h.2.2))
      clear hr hcl
      go_wp2_with fail
      go_quiet (fail)
      go_wp2_with fail
      go_roundw
      case rel => exact ⟨k + 1, by omega, by go_num, Lib.hid (by rw [HE.out]; exact HN.out.up (bwN _))⟩
      case measure => simp [intOf]; omega
    ·have e1 := str_ne hcl
     have HE := Lib.hid (bst_not (row := row) (col := col) (at_ := at_) HFK.out (fun h => hcl h.2.1))
     clear hr hcl
     go_wp2_with fail
     go_quiet (fail)
     go_wp2_with fail
     go_roundw
     case rel => exact ⟨k + 1, by omega, by go_num, Lib.hid (by rw [HE.out]; exact HN.out.up (bwN _))⟩
     case measure => simp [intOf]; omega
   ·have e0 := str_ne hr
    have HE := Lib.hid (bst_not (row := row) (col := col) (at_ := at_) HFK.out (fun h => hr h.1))
    clear hr
    go_wp2_with fail
    go_quiet (fail)
    go_wp2_with fail
    go_roundw
    case rel => exact ⟨k + 1, by omega, by go_num, Lib.hid (by rw [HE.out]; exact HN.out.up (bwN _))⟩
    case measure => simp [intOf]; omega
  ·obtain rfl : k = L.length := by omega
   obtain ⟨p0, p1, p2, p3, p4⟩ := HN.out.ik.five
   rcases bst_end (row := row) (col := col) (at_ := at_) HOK.out with ⟨h1, h2, h3⟩ | ⟨h1, h2, h3⟩
   ·have HE := Lib.hid (And.intro h2 h3)
    clear h2 h3
    go_wp2_with (refine storeC (c := Cl.zero) rfl (.tmp 8) (.tmp 61) rfl rfl rfl HN.out.ig ?_)
    constructor
    intro w9 hs9
    have HS := Lib.hid hs9
    clear hs9
    go_wp2_with fail
    exact bodyPost_ret (res2 Tryz.results22 rfl HS.out.i) rfl ⟨by rw [HE.out.1, HE.out.2]; rfl, HS.out.bel HN.out.bel (Nat.le_refl _)⟩
   ·have HE := Lib.hid (And.intro h2 h3)
    clear h2 h3
    go_wp2_with (refine storeC (c := bst row col at_ L L.length) rfl (.tmp 8) (.tmp 62) rfl rfl rfl HN.out.ig ?_)
    constructor
    intro w9 hs9
    have HS := Lib.hid hs9
    clear hs9
    go_wp2_with fail
    exact bodyPost_ret (res2 Tryz.results22 rfl HS.out.i) rfl ⟨by rw [HE.out.1, HE.out.2]; rfl, HS.out.bel HN.out.bel (Nat.le_refl _)⟩
end Go.Proofs.YtcpkhhbbjimdaaaGreatDoor.Ce
