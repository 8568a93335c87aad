/- The contracts of slices.BinarySearchFunc over cells, and of Newest of package cell. -/
import Derived.Test.YtffkbepcdidnjaaCs
import Derived.IntWalk
namespace Go.Proofs.Ytffkbepcdidnjaa.Ce
open Go.RowKit

/-- a cell at an address, another one in a block -/
def TwoC (b o : Nat) (f : Cl) (g : Nat) (t : Cl) (w0 w' : World) : Prop :=
  w'.cell? ⟨b, o, none⟩ = some (.string f.row) ∧ w'.cell? ⟨b, o + 1, none⟩ = some (.string f.col) ∧ w'.cell? ⟨b, o + 2, none⟩ = some (.int .i64 f.at_) ∧ w'.cell? ⟨b, o + 3, none⟩ = some (.string f.val) ∧ w'.cell? ⟨b, o + 4, none⟩ = some (.bool f.gone) ∧
  w'.cell? ⟨g, 0, none⟩ = some (.string t.row) ∧ w'.cell? ⟨g, 1, none⟩ = some (.string t.col) ∧ w'.cell? ⟨g, 2, none⟩ = some (.int .i64 t.at_) ∧ w'.cell? ⟨g, 3, none⟩ = some (.string t.val) ∧ w'.cell? ⟨g, 4, none⟩ = some (.bool t.gone) ∧ Below w0.heap.size w0 w'
theorem TwoC.of {b o g : Nat} {f t : Cl} {w0 w' : World} (h : FiveAt b o f w0) (hb : b < w0.heap.size) (hi : InC g t w0) (hw : Below w0.heap.size w0 w') : TwoC b o f g t w0 w' := by
  obtain ⟨a0, a1, a2, a3, a4⟩ := h.up hb hw
  obtain ⟨c0, c1, c2, c3, c4⟩ := (hi.up hw).five
  exact ⟨a0, a1, a2, a3, a4, c0, c1, c2, c3, c4, hw⟩
theorem TwoC.bel {b o g : Nat} {f t : Cl} {w0 w' : World} (h : TwoC b o f g t w0 w') : Below w0.heap.size w0 w' := h.2.2.2.2.2.2.2.2.2.2
/-- does t's key stand at k? -/
def fnd (L : List Cl) (t : Cl) (k : Nat) : Bool := match L[k]? with | some c => decide (ccmp c t = 0) | none => false
def BsEnd (w : World) (k : Int) (q : Bool) (e : Ending) (w' : World) : Prop := e = .returned (.tuple #[.int .i64 k, .bool q]) ∧ Below w.heap.size w w'
/-- the place that t has, or would have -/
structure Place (L : List Cl) (t : Cl) (k : Nat) : Prop where
  le : k ≤ L.length
  lt : ∀ j c, j < k → L[j]? = some c → klt c t
  ge : ∀ j c, k ≤ j → L[j]? = some c → ¬ klt c t
def BsRel (L : List Cl) (t : Cl) (lo hi : Nat) : Prop := (∀ j c, j < lo → L[j]? = some c → klt c t) ∧ (∀ j c, hi ≤ j → L[j]? = some c → ¬ klt c t)
theorem BsRel.up {L : List Cl} {t : Cl} {lo hi h : Nat} {f : Cl} (H : BsRel L t lo hi) (hs : Srt L) (hf : L[h]? = some f) (hk : klt f t) : BsRel L t (h + 1) hi :=
  ⟨fun j c hj hc => by
    by_cases e : j = h
    · subst e
      rw [hf] at hc
      injection hc with hc
      exact hc ▸ hk
    · exact klt_trans (srt_at hs (by omega) hc hf) hk, H.2⟩
theorem BsRel.dn {L : List Cl} {t : Cl} {lo hi h : Nat} {f : Cl} (H : BsRel L t lo hi) (hs : Srt L) (hf : L[h]? = some f) (hk : ¬ klt f t) : BsRel L t lo h :=
  ⟨H.1, fun j c hj hc hlt => by
    by_cases e : j = h
    · subst e
      rw [hf] at hc
      injection hc with hc
      exact hk (hc ▸ hlt)
    · exact hk (klt_trans (srt_at hs (by omega) hf hc) hlt)⟩
set_option maxHeartbeats 4000000 in
set_option maxRecDepth 100000 in
theorem bs_any (v : Value) (L : List Cl) (t : Cl) (w : World) (hv : RdL w [] v L) (hs : Srt L) (hL : L.length ≤ 2199023255552) (k : Nat) (hk : Place L t k) :
    Calls Try.prog 36 #[v, t.v, .func (.func 37) #[] #[]] w (BsEnd w k (fnd L t k)) := by
  obtain ⟨A, cp, rfl, hc, hm⟩ := hv.shape
  unfold maxLen at hm
  go_enter Try.func36, Try.ntmps36
  go_wp2_with (refine boxC rfl (.tmp 1) t rfl rfl ?_)
  constructor
  intro w1 hI1 hb1 hz1
  have HV := Lib.hid (hv.bel hb1)
  have HI := Lib.hid hI1
  have HB := Lib.hid hb1
  clear hv hI1 hb1 hz1
  go_wp2_with fail
  go_loopw [9, 10] (fun i j wr => ∃ lo hi : Nat, lo ≤ hi ∧ hi ≤ L.length ∧ i = .int .i64 (lo : Int) ∧ j = .int .i64 (hi : Int) ∧ Hid (BsRel L t lo hi) ∧ Below w1.heap.size w1 wr) (fun i j _ => (intOf j).toNat - (intOf i).toNat)
  case atStart => exact ⟨0, L.length, by omega, by omega, rfl, rfl, Lib.hid ⟨fun j c hj => by omega, fun j c hj hc => by have := (List.getElem?_eq_some_iff.1 hc).1; omega⟩, Below.refl _ _⟩
  case round =>
    obtain ⟨lo, hi, h1, h2, rfl, rfl, HR, hbw⟩ := hrel
    have HBW := Lib.hid hbw
    by_cases hlt : lo < hi
    · obtain ⟨b, off, rfl, -, -⟩ := HV.out.open_ (by omega)
      obtain ⟨h, hh⟩ : ∃ h : Nat, ((lo : Int) + (hi : Int)) / 2 = (h : Int) := ⟨(lo + hi) / 2, by omega⟩
      have hh1 : lo ≤ h := by omega
      have hh2 : h < hi := by omega
      have hhn : (lo + hi) / 2 = h := by omega
      have hh3 : (0 : Int) ≤ (h : Int) := by omega
      have hh4 : (h : Int) < (L.length : Int) := by omega
      have hh5 : h < L.length := by omega
      have hfk : L[h]? = some (L[h]'(by omega)) := List.getElem?_eq_getElem _
      generalize L[h]'(by omega) = f at hfk
      obtain ⟨h5, hbl⟩ := (HV.out.bel hbw).at_ hfk
      have HFK := Lib.hid hfk
      have HT : Hid (TwoC b (off + h * 5) f w.heap.size t wr wr.drew) := Lib.hid (TwoC.of h5 hbl (HI.out.up hbw) (Below.refl _ _).drew)
      have HU : Hid (∀ x y : World, TwoC b (off + h * 5) f w.heap.size t wr x → Below x.heap.size x y → TwoC b (off + h * 5) f w.heap.size t wr y) := Lib.hid fun x y hS hb => TwoC.of h5 hbl (HI.out.up hbw) (bwstep hS.bel hb)
      clear hfk h5 hbl hbw
      have hcmp := fun w => compare_any f t w
      by_cases hkl : klt f t
      · rw [ccmp_lt.2 hkl] at hcmp
        have HK := Lib.hid (HR.out.up hs HFK.out hkl)
        clear hkl HFK HR
        go_wp2_with fail
        go_region_held3 (fun w' => w'.cell? ⟨b, off + h * 5, none⟩ = some (.string f.row) ∧ w'.cell? ⟨b, off + h * 5 + 1, none⟩ = some (.string f.col) ∧ w'.cell? ⟨b, off + h * 5 + 2, none⟩ = some (.int .i64 f.at_) ∧ w'.cell? ⟨b, off + h * 5 + 3, none⟩ = some (.string f.val) ∧ w'.cell? ⟨b, off + h * 5 + 4, none⟩ = some (.bool f.gone) ∧ w'.cell? ⟨w.heap.size, 0, none⟩ = some (.string t.row) ∧ w'.cell? ⟨w.heap.size, 1, none⟩ = some (.string t.col) ∧ w'.cell? ⟨w.heap.size, 2, none⟩ = some (.int .i64 t.at_) ∧ w'.cell? ⟨w.heap.size, 3, none⟩ = some (.string t.val) ∧ w'.cell? ⟨w.heap.size, 4, none⟩ = some (.bool t.gone) ∧ Below wr.heap.size wr w') (first | exact HT.out | assumption | exact HU.out _ _ (by assumption) (by assumption))
          (first | (go_at_call 37; refine (hcmp _).mono ?_; rintro e wn ⟨rfl, hbn⟩))
        go_wp2_with fail
        go_roundw
        case rel => exact ⟨h + 1, hi, by omega, by omega, by go_num, rfl, HK, bwstep HBW.out (bwstep (Below.refl _ _).drew hbn)⟩
        case measure => simp [intOf]; omega
      · have hge : 0 ≤ ccmp f t := by
          rcases ccmp_cases f t with ⟨e, q⟩ | ⟨e, q⟩ | ⟨e, q⟩
          · exact absurd q hkl
          · omega
          · omega
        generalize ccmp f t = cq at *
        have HK := Lib.hid (HR.out.dn hs HFK.out hkl)
        have hcq : decide (cq < 0) = false := by simp; omega
        clear hkl HFK HR
        go_wp2_with fail
        go_region_held3 (fun w' => w'.cell? ⟨b, off + h * 5, none⟩ = some (.string f.row) ∧ w'.cell? ⟨b, off + h * 5 + 1, none⟩ = some (.string f.col) ∧ w'.cell? ⟨b, off + h * 5 + 2, none⟩ = some (.int .i64 f.at_) ∧ w'.cell? ⟨b, off + h * 5 + 3, none⟩ = some (.string f.val) ∧ w'.cell? ⟨b, off + h * 5 + 4, none⟩ = some (.bool f.gone) ∧ w'.cell? ⟨w.heap.size, 0, none⟩ = some (.string t.row) ∧ w'.cell? ⟨w.heap.size, 1, none⟩ = some (.string t.col) ∧ w'.cell? ⟨w.heap.size, 2, none⟩ = some (.int .i64 t.at_) ∧ w'.cell? ⟨w.heap.size, 3, none⟩ = some (.string t.val) ∧ w'.cell? ⟨w.heap.size, 4, none⟩ = some (.bool t.gone) ∧ Below wr.heap.size wr w') (first | exact HT.out | assumption | exact HU.out _ _ (by assumption) (by assumption))
          (first | (go_at_call 37; refine (hcmp _).mono ?_; rintro e wn ⟨rfl, hbn⟩))
        go_wp2_with fail
        go_roundw
        case rel => exact ⟨lo, h, by omega, by omega, rfl, rfl, HK, bwstep HBW.out (bwstep (Below.refl _ _).drew hbn)⟩
        case measure => simp [intOf]; omega
    · obtain rfl : hi = lo := by omega
      obtain rfl : hi = k := by
        have p1 := HR.out.1
        have p2 := HR.out.2
        rcases Nat.lt_trichotomy hi k with e | e | e
        · have hf : L[hi]? = some (L[hi]'(by have := hk.le; omega)) := List.getElem?_eq_getElem _
          exact absurd (hk.lt hi _ e hf) (p2 hi _ (Nat.le_refl _) hf)
        · exact e
        · have hf : L[k]? = some (L[k]'(by omega)) := List.getElem?_eq_getElem _
          exact absurd (p1 k _ e hf) (hk.ge k _ (Nat.le_refl _) hf)
      clear hk HR
      by_cases hn : hi < L.length
      · have hh3 : (0 : Int) ≤ (hi : Int) := by omega
        have hh4 : (hi : Int) < (L.length : Int) := by omega
        obtain ⟨b, off, rfl, -, -⟩ := HV.out.open_ (by omega)
        have hfk : L[hi]? = some (L[hi]'hn) := List.getElem?_eq_getElem _
        generalize L[hi]'hn = f at hfk
        have HQ : Hid (fnd L t hi = decide (ccmp f t = 0)) := Lib.hid (by unfold fnd; rw [hfk])
        generalize fnd L t hi = q at *
        obtain ⟨h5, hbl⟩ := (HV.out.bel hbw).at_ hfk
        have HT : Hid (TwoC b (off + hi * 5) f w.heap.size t wr wr.drew) := Lib.hid (TwoC.of h5 hbl (HI.out.up hbw) (Below.refl _ _).drew)
        have HU : Hid (∀ x y : World, TwoC b (off + hi * 5) f w.heap.size t wr x → Below x.heap.size x y → TwoC b (off + hi * 5) f w.heap.size t wr y) := Lib.hid fun x y hS hb => TwoC.of h5 hbl (HI.out.up hbw) (bwstep hS.bel hb)
        clear hfk h5 hbl hbw
        have hcmp := fun w => compare_any f t w
        generalize ccmp f t = cq at *
        go_wp2_with fail
        go_region_held3 (fun w' => w'.cell? ⟨b, off + hi * 5, none⟩ = some (.string f.row) ∧ w'.cell? ⟨b, off + hi * 5 + 1, none⟩ = some (.string f.col) ∧ w'.cell? ⟨b, off + hi * 5 + 2, none⟩ = some (.int .i64 f.at_) ∧ w'.cell? ⟨b, off + hi * 5 + 3, none⟩ = some (.string f.val) ∧ w'.cell? ⟨b, off + hi * 5 + 4, none⟩ = some (.bool f.gone) ∧ w'.cell? ⟨w.heap.size, 0, none⟩ = some (.string t.row) ∧ w'.cell? ⟨w.heap.size, 1, none⟩ = some (.string t.col) ∧ w'.cell? ⟨w.heap.size, 2, none⟩ = some (.int .i64 t.at_) ∧ w'.cell? ⟨w.heap.size, 3, none⟩ = some (.string t.val) ∧ w'.cell? ⟨w.heap.size, 4, none⟩ = some (.bool t.gone) ∧ Below wr.heap.size wr w') (first | exact HT.out | assumption | exact HU.out _ _ (by assumption) (by assumption))
          (first | (go_at_call 37; refine (hcmp _).mono ?_; rintro e wn ⟨rfl, hbn⟩))
        go_wp2_with fail
        go_ret2
        exact ⟨by rw [HQ.out]; rfl, bwstep HB.out (bwstep HBW.out (bwstep (Below.refl _ _).drew hbn))⟩
      · have HQ : Hid (fnd L t hi = false) := Lib.hid (by unfold fnd; rw [List.getElem?_eq_none (by omega)])
        generalize fnd L t hi = q at *
        go_wp2_with fail
        go_quiet (fail)
        go_wp2_with fail
        go_ret2
        exact ⟨by rw [HQ.out]; first | rfl | simp [hn] | (simp; omega), bwstep HB.out (below_drewN HBW.out _)⟩
end Go.Proofs.Ytffkbepcdidnjaa.Ce
