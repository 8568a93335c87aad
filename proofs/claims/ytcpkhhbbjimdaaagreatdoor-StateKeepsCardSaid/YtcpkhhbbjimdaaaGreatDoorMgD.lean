/- The contracts of together, found, Visible and Clean of package merge. The contracts of Visible and Clean of package merge. -/
import Derived.Test.YtcpkhhbbjimdaaaGreatDoorMgC
import Derived.Test.YtcpkhhbbjimdaaaGreatDoorMgR
import Derived.Deep.RegionHeld3
import Derived.BigQuiet
set_option maxHeartbeats 8000000
set_option maxRecDepth 100000
namespace Go.Proofs.YtcpkhhbbjimdaaaGreatDoor.Ce
open Go.RowKit
def togB (a b : Cl) : Bool := decide (a.row = b.row ∧ a.col = b.col)
theorem together_any (a b : Cl) (w : World) : Calls Tryz.prog 107 #[a.v, b.v] w fun e w' => e = .returned (.bool (togB a b)) ∧ Below w.heap.size w w' := by
 have HQ : Hid (∀ q : Bool, (q = true ↔ (a.row = b.row ∧ a.col = b.col)) → q = togB a b) := Lib.hid fun q h => by
  unfold togB
  rw [Bool.eq_iff_iff, h, decide_eq_true_iff]
 go_enter Tryz.func107, Tryz.ntmps107
 go_wp2_with (refine boxC rfl (.tmp 0) a rfl rfl ?_)
 constructor
 intro w1 hI1 hb1 hz1
 go_wp2_with (refine boxC rfl (.tmp 1) b rfl rfl ?_)
 constructor
 intro w2 hI2 hb2 hz2
 obtain ⟨c0, c1, -, -, -⟩ := (hI1.bel hb2 (by omega)).five
 obtain ⟨d0, d1, -, -, -⟩ := hI2.five
 have HB : Hid (Below w.heap.size w w2) := Lib.hid (hb1.trans (hb2.mono (by omega)))
 clear hI1 hI2 hb1 hb2
 by_cases h1 : a.row = b.row
 ·have e1 := str_eq h1
  by_cases h2 : a.col = b.col
  ·have e2 := str_eq h2
   have HF := Lib.hid (HQ.out true (by simp [h1, h2]))
   clear h1 h2
   go_wp2_with fail
   go_ret
   rw [← HF.out]
   exact ⟨rfl, HB.out⟩
  ·have e2 := str_ne h2
   have HF := Lib.hid (HQ.out false (by simp [h2]))
   clear h1 h2
   go_wp2_with fail
   go_ret
   rw [← HF.out]
   exact ⟨rfl, HB.out⟩
 ·have e1 := str_ne h1
  have HF := Lib.hid (HQ.out false (by simp [h1]))
  clear h1
  go_wp2_with fail
  go_ret
  rw [← HF.out]
  exact ⟨rfl, HB.out⟩
def TwoF (b o : Nat) (p : Cl) (g : Nat) (f : Cl) (w0 w' : World) : Prop := w'.cell? ⟨b, o, none⟩ = some (.string p.row) ∧ w'.cell? ⟨b, o + 1, none⟩ = some (.string p.col) ∧ w'.cell? ⟨b, o + 2, none⟩ = some (.int .i64 p.at_) ∧ w'.cell? ⟨b, o + 3, none⟩ = some (.string p.val) ∧ w'.cell? ⟨b, o + 4, none⟩ = some (.bool p.gone) ∧ w'.cell? ⟨g, 0, none⟩ = some (.string f.row) ∧ w'.cell? ⟨g, 1, none⟩ = some (.string f.col) ∧ w'.cell? ⟨g, 2, none⟩ = some (.int .i64 f.at_) ∧ w'.cell? ⟨g, 3, none⟩ = some (.string f.val) ∧ w'.cell? ⟨g, 4, none⟩ = some (.bool f.gone) ∧ Below w0.heap.size w0 w'
theorem TwoF.bel {b o : Nat} {p : Cl} {g : Nat} {f : Cl} {w0 w' : World} (h : TwoF b o p g f w0 w') : Below w0.heap.size w0 w' := h.2.2.2.2.2.2.2.2.2.2
theorem TwoF.of {b o : Nat} {p : Cl} {g : Nat} {f : Cl} {w0 w' : World} (h : FiveAt b o p w0) (hb : b < w0.heap.size) (hi : InC g f w0) (hw : Below w0.heap.size w0 w') : TwoF b o p g f w0 w' := by
 obtain ⟨a0, a1, a2, a3, a4⟩ := h.up hb hw
 obtain ⟨c0, c1, c2, c3, c4⟩ := (hi.up hw).five
 exact ⟨a0, a1, a2, a3, a4, c0, c1, c2, c3, c4, hw⟩
theorem found_any (v : Value) (L : List Cl) (i : Nat) (f : Cl) (t : Int) (w : World) (hv : RdL w [] v L) (hs : Srt L) (hf : L[i]? = some f) (hL : L.length ≤ 1000000000) :
  Calls Tryz.prog 94 #[v, .int .i64 (i : Int), .int .i64 t] w fun e w' => e = .returned (.bool (fndB L t f)) ∧ Below w.heap.size w w' := by
 have hlt := (List.getElem?_eq_some_iff.1 hf).1
 obtain ⟨A, c, rfl, hc, hm⟩ := hv.shape
 unfold maxLen at hm
 obtain ⟨b, off, rfl, hb, -⟩ := hv.open_ (by omega)
 have hh3 : (0 : Int) ≤ (i : Int) := by omega
 have hh4 : (i : Int) < (L.length : Int) := by omega
 have HF5 : Hid (FiveAt b (off + i * 5) f w) := Lib.hid (hv.at_ hf).1
 obtain ⟨f0, f1, f2, f3, f4⟩ := HF5.out
 have HV := Lib.hid hv
 have HB := Lib.hid hb
 have HLT := Lib.hid (fun h => fnd_late (t := t) hs hf h)
 have HGN := Lib.hid (fun h => fnd_gone (L := L) (c := f) (t := t) h)
 have HFS := Lib.hid (fun (h0 : L[0]? = some f) h1 h2 => fnd_first (t := t) hs h0 h1 h2)
 have HNX := Lib.hid (fun j p (hp : L[j]? = some p) (hc : L[j + 1]? = some f) h1 h2 h3 => fnd_next (t := t) hs hp hc h1 h2 h3)
 have HHD := Lib.hid (fun j p (hp : L[j]? = some p) (hc : L[j + 1]? = some f) h1 h2 => fnd_hid (t := t) hs hp hc h1 h2)
 have HF := Lib.hid hf
 generalize fndB L t f = q at *
 clear hv hs hf
 go_enter Tryz.func94, Tryz.ntmps94
 go_wp2_with (first | (refine loadV (c := f) rfl (.tmp 10) rfl ⟨b, off + i * 5, none⟩ rfl HF5.out.all ?_) | (refine allocC rfl rfl ?_))
 constructor
 intro w1 hI1 hb1 hz1
 go_wp2_with (refine storeC (c := f) rfl (.tmp 7) (.tmp 11) rfl rfl rfl hI1 ?_)
 constructor
 intro w2 hs2
 have hb2 := hs2.bel hb1 (Nat.le_refl _)
 have HB2 := Lib.hid hb2
 have HI2 := Lib.hid hs2.i
 have HV2 := Lib.hid (HV.out.bel hb2)
 obtain ⟨c0, c1, c2, c3, c4⟩ := hs2.i.five
 clear hI1 hb1 hz1 hs2 hb2 f0 f1 f2 f3 f4
 by_cases ht : t < f.at_
 ·have hq := HLT.out ht
  subst hq
  go_wp2_with fail
  go_ret
  exact ⟨rfl, HB2.out⟩
 ·cases hg : f.gone with
  | true =>
   have hq := HGN.out hg
   subst hq
   rw [hg] at c4
   clear hg
   go_wp2_with fail
   go_ret
   exact ⟨rfl, HB2.out⟩
  | false =>
   have HG := Lib.hid hg
   rw [hg] at c4
   clear hg
   rcases Nat.eq_zero_or_pos i with h0 | h0
   ·subst h0
    have hq := HFS.out HF.out (by omega) HG.out
    subst hq
    go_wp2_with fail
    go_quiet (fail)
    go_wp2_with fail
    go_ret
    exact ⟨rfl, bwstep HB2.out (bwN nq)⟩
   ·obtain ⟨j, rfl⟩ : ∃ j, i = j + 1 := ⟨i - 1, by omega⟩
    have hpj : L[j]? = some (L[j]'(by omega)) := List.getElem?_eq_getElem _
    generalize L[j]'(by omega) = p at hpj
    obtain ⟨hp5, hpb⟩ := HV2.out.at_ hpj
    have HP5 := Lib.hid hp5
    obtain ⟨p0, p1, p2, p3, p4⟩ := hp5
    have hx3 : (0 : Int) ≤ (j : Int) := by omega
    have hx4 : (j : Int) < (L.length : Int) := by omega
    have hx7 : (0 : Int) ≤ (j : Int) + 1 := by omega
    have hx8 : (j : Int) + 1 < (L.length : Int) := by omega
    have hx9 : ((j : Int) + 1).toNat = j + 1 := by omega
    have hw2 : IntKind.i64.wrap (j : Int) = (j : Int) := IntWalk.i64_in _ (by omega)
    have hw1 : IntKind.i64.wrap ((j : Int) + 1 - 1) = (j : Int) := by rw [Int.add_sub_cancel]; exact hw2
    have hj0 : ((j : Int) + 1 == 0) = false := by rw [beq_eq_false_iff_ne]; omega
    have hj1 : ¬ (j : Int) + 1 = 0 := by omega
    by_cases hpt : t < p.at_
    ·have hq := HNX.out j p hpj HF.out (by omega) HG.out (.inl hpt)
     subst hq
     clear hpj
     go_wp2_with fail
     go_quiet (fail)
     go_wp2_with fail
     go_ret
     exact ⟨rfl, bwstep HB2.out (bwN nq)⟩
    ·have HQT : Hid (q = !togB p f) := Lib.hid <| by
      unfold togB
      by_cases htg : p.row = f.row ∧ p.col = f.col
      ·rw [HHD.out j p hpj HF.out (by omega) htg, decide_eq_true htg]
       rfl
      ·rw [HNX.out j p hpj HF.out (by omega) HG.out (.inr htg), decide_eq_false htg]
       rfl
     have HT : Hid (TwoF b (off + j * 5) p w.heap.size f w2 w2.drew) := Lib.hid (TwoF.of HP5.out hpb HI2.out (Below.refl _ _).drew)
     have HU : Hid (∀ x y : World, TwoF b (off + j * 5) p w.heap.size f w2 x → Below x.heap.size x y → TwoF b (off + j * 5) p w.heap.size f w2 y) := Lib.hid fun x y hS hb => TwoF.of HP5.out hpb HI2.out (bwstep hS.bel hb)
     have hpt2 : decide (t < p.at_) = false := decide_eq_false hpt
     clear hpj p0 p1 p2 p3 p4
     go_wp2_with fail
     go_region_held3 (fun w' => w'.cell? ⟨b, off + j * 5, none⟩ = some (.string p.row) ∧ w'.cell? ⟨b, off + j * 5 + 1, none⟩ = some (.string p.col) ∧ w'.cell? ⟨b, off + j * 5 + 2, none⟩ = some (.int .i64 p.at_) ∧ w'.cell? ⟨b, off + j * 5 + 3, none⟩ = some (.string p.val) ∧ w'.cell? ⟨b, off + j * 5 + 4, none⟩ = some (.bool p.gone) ∧ w'.cell? ⟨w.heap.size, 0, none⟩ = some (.string f.row) ∧ w'.cell? ⟨w.heap.size, 1, none⟩ = some (.string f.col) ∧ w'.cell? ⟨w.heap.size, 2, none⟩ = some (.int .i64 f.at_) ∧ w'.cell? ⟨w.heap.size, 3, none⟩ = some (.string f.val) ∧ w'.cell? ⟨w.heap.size, 4, none⟩ = some (.bool f.gone) ∧ Below w2.heap.size w2 w') (first | exact HT.out | assumption | exact HU.out _ _ (by assumption) (by assumption))
      (first | (go_at_call 107; refine (together_any p f _).mono ?_; rintro e wn ⟨rfl, hbn⟩))
     all_goals
      go_wp2_with fail
      go_ret
      exact ⟨by rw [HQT.out]; rfl, bwstep HB2.out (bwstep (Below.refl _ _).drew hbn)⟩
end Go.Proofs.YtcpkhhbbjimdaaaGreatDoor.Ce
namespace Go.Proofs.YtcpkhhbbjimdaaaGreatDoor.Ce
open Go.RowKit
theorem vis_any (v : Value) (L : List Cl) (t : Int) (w : World) (hv : RdL w [] v L) (hs : Srt L) (hL : L.length ≤ 1000000000) :
  Calls Tryz.prog 75 #[v, .int .i64 t] w fun e w' => (∃ x, e = .returned x ∧ OwL w' w.heap.size x (visP t L)) ∧ Below w.heap.size w w' := by
 obtain ⟨A, c, rfl, hc, hm⟩ := hv.shape
 unfold maxLen at hm
 have HV := Lib.hid hv
 have HN : Hid (∀ (f : Cl) (i : Nat) w', L[i]? = some f → Below w.heap.size w w' → Calls Tryz.prog 94 #[.slice A L.length c, .int .i64 (i : Int), .int .i64 t] w' fun e w2 => e = .returned (.bool (fndB L t f)) ∧ Below w'.heap.size w' w2) := Lib.hid fun f i w' hf hb => found_any _ L i f t w' (hv.bel hb) hs hf hL
 clear hv hs
 go_enter Tryz.func75, Tryz.ntmps75
 go_wp2_with fail
 go_loopw [5, 10] (fun o i wr => ∃ k : Nat, k ≤ L.length ∧ i = .int .i64 (k : Int) ∧ Hid (OwL wr w.heap.size o ((L.take k).filter fun c => fndB L t c)) ∧ Below w.heap.size w wr) (fun _ i _ => L.length - (intOf i).toNat)
 case atStart => exact ⟨0, by omega, rfl, Lib.hid (by simpa using OwL.nil _ _), Below.refl _ _⟩
 case round =>
  obtain ⟨k, hk, rfl, HO, hbw⟩ := hrel
  have HBW := Lib.hid hbw
  by_cases hlt : k < L.length
  ·obtain ⟨b, off, rfl, -, -⟩ := HV.out.open_ (by omega)
   have hh3 : (0 : Int) ≤ (k : Int) := by omega
   have hh4 : (k : Int) < (L.length : Int) := by omega
   have hfk : L[k]? = some (L[k]'hlt) := List.getElem?_eq_getElem _
   generalize L[k]'hlt = f at hfk
   have HF5 : Hid (∀ z, Below w.heap.size w z → FiveAt b (off + k * 5) f z) := Lib.hid fun z hz => ((HV.out.bel hz).at_ hfk).1
   have HS := Lib.hid (filter_snoc hfk fun c => fndB L t c)
   have hnf := fun z hz => HN.out f k z hfk hz
   obtain ⟨c0, c1, c2, c3, c4⟩ := HF5.out _ hbw
   have hlen : ((L.take k).filter fun c => fndB L t c).length ≤ 1000000000 := Nat.le_trans (List.length_filter_le _ _) (by simp; omega)
   generalize (L.take k).filter (fun c => fndB L t c) = F at HO HS hlen
   clear hfk hbw
   generalize fndB L t f = q at HS hnf
   have HN2 := Lib.hid hnf
   clear hnf
   obtain ⟨wo, hwo⟩ : ∃ wo, wo = wr := ⟨_, rfl⟩
   subst hwo
   have H5O := Lib.hid (HF5.out _ HBW.out)
   go_wp2_with (first | (refine loadV (c := f) rfl (.tmp 13) rfl ⟨b, off + k * 5, none⟩ rfl H5O.out.all ?_) | (refine allocC rfl rfl ?_))
   constructor
   intro w1 hI1 hb1 hz1
   go_wp2_with (refine storeC (c := f) rfl (.tmp 7) (.tmp 14) rfl rfl rfl hI1 ?_)
   constructor
   intro w2 hs2
   have hb2 := hs2.bel hb1 (Nat.le_refl _)
   have HI2 := Lib.hid hs2.i
   have HO2 := Lib.hid (HO.out.below hb2)
   have HB2 := Lib.hid (bwstep HBW.out hb2)
   obtain ⟨d0, d1, d2, d3, d4⟩ := hs2.i.five
   clear hI1 hb1 hz1 hs2 hb2 c0 c1 c2 c3 c4
   go_wp2_with fail
   refine (HN2.out _ HB2.out).mono ?_
   rintro e w3 ⟨rfl, hb3⟩
   have HO3 := Lib.hid (HO2.out.below hb3)
   have HB3 := Lib.hid (bwstep HB2.out hb3)
   have HI3 := Lib.hid (HI2.out.up hb3)
   obtain ⟨e0, e1, e2, e3, e4⟩ := HI3.out.five
   clear d0 d1 d2 d3 d4 hb3 HN2
   cases q
   ·have HE : Hid (((L.take (k + 1)).filter fun c => fndB L t c) = F) := Lib.hid (by rw [HS.out]; simp)
    clear HS e0 e1 e2 e3 e4
    go_wp2_with fail
    go_roundw
    case rel => exact ⟨k + 1, by omega, by go_num, Lib.hid (by rw [HE.out]; exact HO3.out), HB3.out⟩
    case measure => simp [intOf]; omega
   ·have HE : Hid (((L.take (k + 1)).filter fun c => fndB L t c) = F ++ [f]) := Lib.hid (by rw [HS.out]; simp)
    clear HS
    have hx := RdL.one w3 [] f (by simp) 47
    have ho2 := HO3.out.below (bwalloc (bwrefl w3) (.cells #[.string f.row, .string f.col, .int .i64 f.at_, .string f.val, .bool f.gone] 47))
    have hb2 := bwalloc HB3.out (.cells #[.string f.row, .string f.col, .int .i64 f.at_, .string f.val, .bool f.gone] 47)
    have hs2 := hb2.size
    have hl2 : F.length + [f].length ≤ 2199023255552 := by simp; omega
    go_wp2_with (at_builtin; refine wpList_appL rfl (.tmp 19) (.tmp 21) rfl rfl ho2 rfl hx hl2 hs2 ?_; intro v4 w4 ho4 hg4 _; have HO4 := Lib.hid ho4; have HB4 := Lib.hid (hb2.grown hg4 hs2 (fun q hq => (ho2.lt q hq).1)); clear ho4 hg4)
    go_roundw
    case rel => exact ⟨k + 1, by omega, by go_num, Lib.hid (by rw [HE.out]; exact HO4.out), HB4.out⟩
    case measure => simp [intOf]; omega
  ·obtain rfl : k = L.length := by omega
   rw [List.take_length] at HO
   go_wp2_with fail
   go_ret
   exact ⟨⟨_, rfl, HO.out⟩, HBW.out⟩
end Go.Proofs.YtcpkhhbbjimdaaaGreatDoor.Ce
