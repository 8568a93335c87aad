/- The contracts of Sorted of package cell, and of the reference's. -/
import Derived.Test.YtknkdehjgkjljaaCbA
namespace Go.Proofs.Ytknkdehjgkjljaa.Ce
open Go.RowKit

/-- two cells at addresses -/
def TwoA (b o : Nat) (f : Cl) (b' o' : Nat) (t : Cl) (w0 w' : World) : Prop :=
  w'.cell? ⟨b, o, none⟩ = some (.string f.row) ∧ w'.cell? ⟨b, o + 1, none⟩ = some (.string f.col) ∧ w'.cell? ⟨b, o + 2, none⟩ = some (.int .i64 f.at_) ∧ w'.cell? ⟨b, o + 3, none⟩ = some (.string f.val) ∧ w'.cell? ⟨b, o + 4, none⟩ = some (.bool f.gone) ∧ w'.cell? ⟨b', o', none⟩ = some (.string t.row) ∧ w'.cell? ⟨b', o' + 1, none⟩ = some (.string t.col) ∧ w'.cell? ⟨b', o' + 2, none⟩ = some (.int .i64 t.at_) ∧ w'.cell? ⟨b', o' + 3, none⟩ = some (.string t.val) ∧ w'.cell? ⟨b', o' + 4, none⟩ = some (.bool t.gone) ∧ Below w0.heap.size w0 w'
theorem TwoA.of {b o b' o' : Nat} {f t : Cl} {w0 w' : World} (h : FiveAt b o f w0) (hb : b < w0.heap.size) (hi : FiveAt b' o' t w0) (hb' : b' < w0.heap.size) (hw : Below w0.heap.size w0 w') : TwoA b o f b' o' t w0 w' := by
  obtain ⟨a0, a1, a2, a3, a4⟩ := h.up hb hw
  obtain ⟨c0, c1, c2, c3, c4⟩ := hi.up hb' hw
  exact ⟨a0, a1, a2, a3, a4, c0, c1, c2, c3, c4, hw⟩
theorem TwoA.bel {b o b' o' : Nat} {f t : Cl} {w0 w' : World} (h : TwoA b o f b' o' t w0 w') : Below w0.heap.size w0 w' := h.2.2.2.2.2.2.2.2.2.2
def OneA (b o : Nat) (f : Cl) (w0 w' : World) : Prop := w'.cell? ⟨b, o, none⟩ = some (.string f.row) ∧ w'.cell? ⟨b, o + 1, none⟩ = some (.string f.col) ∧ w'.cell? ⟨b, o + 2, none⟩ = some (.int .i64 f.at_) ∧ w'.cell? ⟨b, o + 3, none⟩ = some (.string f.val) ∧ w'.cell? ⟨b, o + 4, none⟩ = some (.bool f.gone) ∧ Below w0.heap.size w0 w'
theorem OneA.of {b o : Nat} {f : Cl} {w0 w' : World} (h : FiveAt b o f w0) (hb : b < w0.heap.size) (hw : Below w0.heap.size w0 w') : OneA b o f w0 w' := by
  obtain ⟨a0, a1, a2, a3, a4⟩ := h.up hb hw
  exact ⟨a0, a1, a2, a3, a4, hw⟩
theorem OneA.bel {b o : Nat} {f : Cl} {w0 w' : World} (h : OneA b o f w0 w') : Below w0.heap.size w0 w' := h.2.2.2.2.2
theorem InC.fiveAt {g : Nat} {c : Cl} {w : World} (h : InC g c w) : FiveAt g 0 c w := ⟨h.c0, h.c1, h.c2, h.c3, h.c4⟩
set_option maxHeartbeats 4000000 in
set_option maxRecDepth 100000 in
theorem rsorted_any (v : Value) (L : List Cl) (w : World) (hv : RdL w [] v L) (hL : L.length ≤ 1000000000) (hsh : ∀ c ∈ L, Sh c) :
    Calls Try.prog 22 #[v] w fun e w' => e = .returned (.bool (sortedB L)) ∧ Below w.heap.size w w' := by
  obtain ⟨A, cp, rfl, hc, hm⟩ := hv.shape
  unfold maxLen at hm
  have HV := Lib.hid hv
  clear hv
  go_enter Try.func22, Try.ntmps22
  go_wp2_with fail
  go_loopw [3] (fun i wr => ∃ k : Nat, k ≤ L.length ∧ i = .int .i64 (k : Int) ∧ Hid (sortedTo L k) ∧ Below w.heap.size w wr) (fun i _ => L.length - (intOf i).toNat)
  case atStart => exact ⟨0, by omega, rfl, Lib.hid ⟨fun j c hj => by omega, fun j c d hj => by omega⟩, Below.refl _ _⟩
  case round =>
    obtain ⟨k, hk, rfl, HS, hbw⟩ := hrel
    have HBW := Lib.hid hbw
    by_cases hlt : k < L.length
    · obtain ⟨b, off, rfl, -, -⟩ := HV.out.open_ (by omega)
      have hh3 : (0 : Int) ≤ (k : Int) := by omega
      have hh4 : (k : Int) < (L.length : Int) := by omega
      have hfk : L[k]? = some (L[k]'hlt) := List.getElem?_eq_getElem _
      generalize L[k]'hlt = f at hfk
      obtain ⟨h5, hbl⟩ := (HV.out.bel hbw).at_ hfk
      have HFK := Lib.hid hfk
      clear hfk hbw
      obtain ⟨wz, hwz⟩ : ∃ wz, wz = wr := ⟨_, rfl⟩
      have HBZ : Hid (Below wr.heap.size wr wz) := Lib.hid (by rw [hwz]; exact Below.refl _ _)
      have H5 : Hid (FiveAt b (off + k * 5) f wz ∧ b < wz.heap.size) := Lib.hid (by rw [hwz]; exact ⟨h5, hbl⟩)
      rw [← hwz]
      clear h5 hbl hwz
      have hrt := fun w => rright_any f w
      by_cases hok : f.ok
      · rw [decide_eq_true hok] at hrt
        rcases Nat.eq_zero_or_pos k with h0 | h0
        · subst h0
          have HK := Lib.hid (sortedTo_succ HS.out HFK.out hok (fun b h => by omega))
          clear HS HFK
          have H5 : Hid (FiveAt b off f wz ∧ b < wz.heap.size) := Lib.hid (by have := H5.out; rw [Nat.zero_mul, Nat.add_zero] at this; exact this)
          have HT : Hid (OneA b off f wz wz.drew) := Lib.hid (OneA.of H5.out.1 H5.out.2 (Below.refl _ _).drew)
          have HU : Hid (∀ x y : World, OneA (b) off f wz x → Below x.heap.size x y → OneA (b) off f wz y) := Lib.hid fun x y hS hb => OneA.of H5.out.1 H5.out.2 (bwstep hS.bel hb)
          go_wp2_with fail
          refine wp_region_held_drew (S := fun w' => w'.cell? ⟨b, off, none⟩ = some (.string f.row) ∧ w'.cell? ⟨b, off + 1, none⟩ = some (.string f.col) ∧ w'.cell? ⟨b, off + 2, none⟩ = some (.int .i64 f.at_) ∧ w'.cell? ⟨b, off + 3, none⟩ = some (.string f.val) ∧ w'.cell? ⟨b, off + 4, none⟩ = some (.bool f.gone) ∧ Below wz.heap.size wz w') (by kernel_rfl) HT.out (fun hHeld => ?_)
          refine wpAnyH_take (i := 0) (oi := ⟨some 10, _, _, _, _, _⟩) (v := ?vd0) rfl (by kernel_rfl) (by kernel_rfl) (by kernel_rfl) (fun _ _ _ h => h) (Or.inl ⟨by rfl, ?yd0⟩) (by assumption) ?rd0
          case yd0 => (intro w hSw; go_split_ands; go_simp; try (with_reducible rfl))
          try simp only [Act.put, List.setIfInBounds_toArray, List.set_cons_zero, List.set_cons_succ]
          refine wpAnyH_take (i := 1) (oi := ⟨some 11, _, _, _, _, _⟩) (v := ?vd1) rfl (by kernel_rfl) (by kernel_rfl) (by kernel_rfl) (fun _ _ _ h => h) (Or.inl ⟨by rfl, ?yd1⟩) (by assumption) ?rd1
          case yd1 => (intro w hSw; go_split_ands; go_simp; try (with_reducible rfl))
          try simp only [Act.put, List.setIfInBounds_toArray, List.set_cons_zero, List.set_cons_succ]
          refine wpAnyH_take (i := 2) (oi := ⟨some 12, _, _, _, _, _⟩) (v := ?vd2) rfl (by kernel_rfl) (by kernel_rfl) (by kernel_rfl) (fun _ _ _ h => h) (Or.inl ⟨by rfl, ?yd2⟩) (by assumption) ?rd2
          case yd2 => (intro w hSw; go_split_ands; go_simp; try (with_reducible rfl))
          try simp only [Act.put, List.setIfInBounds_toArray, List.set_cons_zero, List.set_cons_succ]
          refine wpAnyH_take (i := 3) (oi := ⟨some 13, _, _, _, _, _⟩) (v := ?vd3) rfl (by kernel_rfl) (by kernel_rfl) (by kernel_rfl) (fun _ _ _ h => h) (Or.inl ⟨by rfl, ?yd3⟩) (by assumption) ?rd3
          case yd3 => (intro w hSw; go_split_ands; go_simp; try (with_reducible rfl))
          try simp only [Act.put, List.setIfInBounds_toArray, List.set_cons_zero, List.set_cons_succ]
          refine wpAnyH_ready (rs := [4]) (by kernel_rfl) (by simp) ?_
          refine AllReadyH.cons (o := ⟨some 14, _, _, _, _, _⟩) rfl (fun K hK => ?_) AllReadyH.nil
          go_simp
          refine (hrt _).mono ?_
          rintro e wn ⟨rfl, hbn⟩
          go_wp2_with fail
          refine hK.out _ _ (HU.out _ _ hHeld hbn) (fun hHeld => ?_)
          clear hK K
          try simp only [Act.put, List.setIfInBounds_toArray, List.set_cons_zero, List.set_cons_succ]
          refine wpAnyH_take (i := 5) (oi := ⟨some 15, _, _, _, _, _⟩) (v := ?vd5) rfl (by kernel_rfl) (by kernel_rfl) (by kernel_rfl) (fun _ _ _ h => h) (Or.inl ⟨by rfl, ?yd5⟩) (by assumption) ?rd5
          case yd5 => (intro w hSw; go_split_ands; go_simp; try (with_reducible rfl))
          try simp only [Act.put, List.setIfInBounds_toArray, List.set_cons_zero, List.set_cons_succ]
          refine wpAnyH_take (i := 6) (oi := ⟨some 16, _, _, _, _, _⟩) (v := ?vd6) rfl (by kernel_rfl) (by kernel_rfl) (by kernel_rfl) (fun _ _ _ h => h) (Or.inl ⟨by rfl, ?yd6⟩) (by assumption) ?rd6
          case yd6 => (intro w hSw; go_split_ands; go_simp; try (with_reducible rfl))
          try simp only [Act.put, List.setIfInBounds_toArray, List.set_cons_zero, List.set_cons_succ]
          refine wpAnyH_take (i := 7) (oi := ⟨some 17, _, _, _, _, _⟩) (v := ?vd7) rfl (by kernel_rfl) (by kernel_rfl) (by kernel_rfl) (fun _ _ _ h => h) (Or.inl ⟨by rfl, ?yd7⟩) (by assumption) ?rd7
          case yd7 => (intro w hSw; go_split_ands; go_simp; try (with_reducible rfl))
          try simp only [Act.put, List.setIfInBounds_toArray, List.set_cons_zero, List.set_cons_succ]
          refine wpAnyH_take (i := 8) (oi := ⟨some 18, _, _, _, _, _⟩) (v := ?vd8) rfl (by kernel_rfl) (by kernel_rfl) (by kernel_rfl) (fun _ _ _ h => h) (Or.inl ⟨by rfl, ?yd8⟩) (by assumption) ?rd8
          case yd8 => (intro w hSw; go_split_ands; go_simp; try (with_reducible rfl))
          try simp only [Act.put, List.setIfInBounds_toArray, List.set_cons_zero, List.set_cons_succ]
          refine wpAnyH_take (i := 9) (oi := ⟨some 19, _, _, _, _, _⟩) (v := ?vd9) rfl (by kernel_rfl) (by kernel_rfl) (by kernel_rfl) (fun _ _ _ h => h) (Or.inl ⟨by rfl, ?yd9⟩) (by assumption) ?rd9
          case yd9 => (intro w hSw; go_split_ands; go_simp; try (with_reducible rfl))
          try simp only [Act.put, List.setIfInBounds_toArray, List.set_cons_zero, List.set_cons_succ]
          refine wpAnyH_take (i := 10) (oi := ⟨some 20, _, _, _, _, _⟩) (v := undef) rfl (by kernel_rfl) (by kernel_rfl) (by kernel_rfl) (fun _ _ _ h => h) (Or.inr ⟨by rfl, rfl⟩) (by assumption) ?_
          try simp only [Act.put, List.setIfInBounds_toArray, List.set_cons_zero, List.set_cons_succ]
          refine wpAnyH_take (i := 11) (oi := ⟨some 21, _, _, _, _, _⟩) (v := undef) rfl (by kernel_rfl) (by kernel_rfl) (by kernel_rfl) (fun _ _ _ h => h) (Or.inr ⟨by rfl, rfl⟩) (by assumption) ?_
          try simp only [Act.put, List.setIfInBounds_toArray, List.set_cons_zero, List.set_cons_succ]
          refine wpAnyH_take (i := 12) (oi := ⟨some 22, _, _, _, _, _⟩) (v := undef) rfl (by kernel_rfl) (by kernel_rfl) (by kernel_rfl) (fun _ _ _ h => h) (Or.inr ⟨by rfl, rfl⟩) (by assumption) ?_
          try simp only [Act.put, List.setIfInBounds_toArray, List.set_cons_zero, List.set_cons_succ]
          refine wpAnyH_take (i := 13) (oi := ⟨some 23, _, _, _, _, _⟩) (v := undef) rfl (by kernel_rfl) (by kernel_rfl) (by kernel_rfl) (fun _ _ _ h => h) (Or.inr ⟨by rfl, rfl⟩) (by assumption) ?_
          try simp only [Act.put, List.setIfInBounds_toArray, List.set_cons_zero, List.set_cons_succ]
          refine wpAnyH_take (i := 14) (oi := ⟨some 24, _, _, _, _, _⟩) (v := undef) rfl (by kernel_rfl) (by kernel_rfl) (by kernel_rfl) (fun _ _ _ h => h) (Or.inr ⟨by rfl, rfl⟩) (by assumption) ?_
          try simp only [Act.put, List.setIfInBounds_toArray, List.set_cons_zero, List.set_cons_succ]
          refine wpAnyH_take (i := 15) (oi := ⟨some 25, _, _, _, _, _⟩) (v := undef) rfl (by kernel_rfl) (by kernel_rfl) (by kernel_rfl) (fun _ _ _ h => h) (Or.inr ⟨by rfl, rfl⟩) (by assumption) ?_
          try simp only [Act.put, List.setIfInBounds_toArray, List.set_cons_zero, List.set_cons_succ]
          refine wpAnyH_take (i := 16) (oi := ⟨some 26, _, _, _, _, _⟩) (v := undef) rfl (by kernel_rfl) (by kernel_rfl) (by kernel_rfl) (fun _ _ _ h => h) (Or.inr ⟨by rfl, rfl⟩) (by assumption) ?_
          try simp only [Act.put, List.setIfInBounds_toArray, List.set_cons_zero, List.set_cons_succ]
          refine wpAnyH_take (i := 17) (oi := ⟨some 27, _, _, _, _, _⟩) (v := undef) rfl (by kernel_rfl) (by kernel_rfl) (by kernel_rfl) (fun _ _ _ h => h) (Or.inr ⟨by rfl, rfl⟩) (by assumption) ?_
          try simp only [Act.put, List.setIfInBounds_toArray, List.set_cons_zero, List.set_cons_succ]
          refine wpAnyH_take (i := 18) (oi := ⟨some 28, _, _, _, _, _⟩) (v := undef) rfl (by kernel_rfl) (by kernel_rfl) (by kernel_rfl) (fun _ _ _ h => h) (Or.inr ⟨by rfl, rfl⟩) (by assumption) ?_
          try simp only [Act.put, List.setIfInBounds_toArray, List.set_cons_zero, List.set_cons_succ]
          refine wpAnyH_take (i := 19) (oi := ⟨some 29, _, _, _, _, _⟩) (v := undef) rfl (by kernel_rfl) (by kernel_rfl) (by kernel_rfl) (fun _ _ _ h => h) (Or.inr ⟨by rfl, rfl⟩) (by assumption) ?_
          try simp only [Act.put, List.setIfInBounds_toArray, List.set_cons_zero, List.set_cons_succ]
          refine wpAnyH_take (i := 20) (oi := ⟨some 30, _, _, _, _, _⟩) (v := undef) rfl (by kernel_rfl) (by kernel_rfl) (by kernel_rfl) (fun _ _ _ h => h) (Or.inr ⟨by rfl, rfl⟩) (by assumption) ?_
          try simp only [Act.put, List.setIfInBounds_toArray, List.set_cons_zero, List.set_cons_succ]
          refine wpAnyH_take (i := 21) (oi := ⟨some 31, _, _, _, _, _⟩) (v := ?vd21) rfl (by kernel_rfl) (by kernel_rfl) (by kernel_rfl) (fun _ _ _ h => h) (Or.inl ⟨by rfl, ?yd21⟩) (by assumption) ?rd21
          case yd21 => (intro w hSw; go_split_ands; go_simp; try (with_reducible rfl))
          try simp only [Act.put, List.setIfInBounds_toArray, List.set_cons_zero, List.set_cons_succ]
          refine wpAnyH_take (i := 22) (oi := ⟨some 32, _, _, _, _, _⟩) (v := ?vd22) rfl (by kernel_rfl) (by kernel_rfl) (by kernel_rfl) (fun _ _ _ h => h) (Or.inl ⟨by rfl, ?yd22⟩) (by assumption) ?rd22
          case yd22 => (intro w hSw; go_split_ands; go_simp; try (with_reducible rfl))
          try simp only [Act.put, List.setIfInBounds_toArray, List.set_cons_zero, List.set_cons_succ]
          refine wpAnyH_done (by kernel_rfl) ?_ _
          go_wp2_with fail
          go_roundw
          case rel => exact ⟨1, by omega, by go_num, HK, bwstep HBW.out (bwstep HBZ.out (bwstep (Below.refl _ _).drew hbn))⟩
          case measure => simp [intOf]; omega
        · obtain ⟨p, rfl⟩ : ∃ p, k = p + 1 := ⟨k - 1, by omega⟩
          have hgk : L[p]? = some (L[p]'(by omega)) := List.getElem?_eq_getElem _
          generalize L[p]'(by omega) = g at hgk
          have H6 : Hid (FiveAt b (off + p * 5) g wz ∧ b < wz.heap.size) := Lib.hid ((HV.out.bel (bwstep HBW.out HBZ.out)).at_ hgk)
          have hp3 : (0 : Int) ≤ (p : Int) := by omega
          have hp4 : (p : Int) < (L.length : Int) := by omega
          have hp5 : p + 1 < L.length := hlt
          have hp6 : p < L.length := by omega
          have hp7 : (0 : Int) ≤ (p : Int) + 1 := by omega
          have hp8 : (p : Int) + 1 < (L.length : Int) := by omega
          have hp9 : ((p : Int) + 1).toNat = p + 1 := by omega
          have hw2 : IntKind.i64.wrap (p : Int) = (p : Int) := IntWalk.i64_in _ (by omega)
          have hw1 : IntKind.i64.wrap ((p : Int) + 1 - 1) = (p : Int) := by rw [Int.add_sub_cancel]; exact hw2
          have hgp : decide ((0 : Int) < (p : Int) + 1) = true := decide_eq_true (by omega)
          have HT : Hid (TwoA (b) (off + (p + 1) * 5) f b (off + p * 5) g wz wz.drew) := Lib.hid (TwoA.of (H5.out.1) (H5.out.2) H6.out.1 H6.out.2 (Below.refl _ _).drew)
          have HU : Hid (∀ x y : World, TwoA (b) (off + (p + 1) * 5) f b (off + p * 5) g wz x → Below x.heap.size x y → TwoA (b) (off + (p + 1) * 5) f b (off + p * 5) g wz y) := Lib.hid fun x y hS hb => TwoA.of (H5.out.1) (H5.out.2) H6.out.1 H6.out.2 (bwstep hS.bel hb)
          have hcmp := fun w => rcompare_any g f w (hsh _ (List.mem_of_getElem? hgk)) (hsh _ (List.mem_of_getElem? HFK.out))
          by_cases hkl : klt g f
          · rw [ccmp_lt.2 hkl] at hcmp
            have HK := Lib.hid (sortedTo_succ HS.out HFK.out hok (fun b _ h => by
              rw [Nat.add_sub_cancel, hgk] at h
              injection h with h
              exact h ▸ hkl))
            clear HS HFK hgk hkl
            go_wp2_with fail
            go_region_held3 (fun w' => w'.cell? ⟨b, off + (p + 1) * 5, none⟩ = some (.string f.row) ∧ w'.cell? ⟨b, off + (p + 1) * 5 + 1, none⟩ = some (.string f.col) ∧ w'.cell? ⟨b, off + (p + 1) * 5 + 2, none⟩ = some (.int .i64 f.at_) ∧ w'.cell? ⟨b, off + (p + 1) * 5 + 3, none⟩ = some (.string f.val) ∧ w'.cell? ⟨b, off + (p + 1) * 5 + 4, none⟩ = some (.bool f.gone) ∧ w'.cell? ⟨b, off + p * 5, none⟩ = some (.string g.row) ∧ w'.cell? ⟨b, off + p * 5 + 1, none⟩ = some (.string g.col) ∧ w'.cell? ⟨b, off + p * 5 + 2, none⟩ = some (.int .i64 g.at_) ∧ w'.cell? ⟨b, off + p * 5 + 3, none⟩ = some (.string g.val) ∧ w'.cell? ⟨b, off + p * 5 + 4, none⟩ = some (.bool g.gone) ∧ Below wz.heap.size wz w') (first | exact HT.out | assumption | exact HU.out _ _ (by assumption) (by assumption))
              (first | (go_at_call 29; refine (hrt _).mono ?_; rintro e wn ⟨rfl, hbn⟩) | (go_at_call 23; refine (hcmp _).mono ?_; rintro e wm ⟨rfl, hbm⟩))
            go_wp2_with fail
            go_roundw
            case rel => exact ⟨p + 1 + 1, by omega, by go_num, HK, bwstep HBW.out (bwstep HBZ.out (bwstep (bwstep (Below.refl _ _).drew hbn) hbm))⟩
            case measure => simp [intOf]; omega
          · have HNS := Lib.hid (sortedB_false (not_sorted_lt hgk HFK.out hkl))
            have hge : 0 ≤ ccmp g f := by
              rcases ccmp_cases g f with ⟨e, q⟩ | ⟨e, q⟩ | ⟨e, q⟩
              · exact absurd q hkl
              · omega
              · omega
            generalize ccmp g f = cq at *
            have hcq : decide (0 ≤ cq) = true := by simp; omega
            have hcn : (cq != -1) = true := by simp; omega
            clear HS HFK hgk hkl
            go_wp2_with fail
            go_region_held3 (fun w' => w'.cell? ⟨b, off + (p + 1) * 5, none⟩ = some (.string f.row) ∧ w'.cell? ⟨b, off + (p + 1) * 5 + 1, none⟩ = some (.string f.col) ∧ w'.cell? ⟨b, off + (p + 1) * 5 + 2, none⟩ = some (.int .i64 f.at_) ∧ w'.cell? ⟨b, off + (p + 1) * 5 + 3, none⟩ = some (.string f.val) ∧ w'.cell? ⟨b, off + (p + 1) * 5 + 4, none⟩ = some (.bool f.gone) ∧ w'.cell? ⟨b, off + p * 5, none⟩ = some (.string g.row) ∧ w'.cell? ⟨b, off + p * 5 + 1, none⟩ = some (.string g.col) ∧ w'.cell? ⟨b, off + p * 5 + 2, none⟩ = some (.int .i64 g.at_) ∧ w'.cell? ⟨b, off + p * 5 + 3, none⟩ = some (.string g.val) ∧ w'.cell? ⟨b, off + p * 5 + 4, none⟩ = some (.bool g.gone) ∧ Below wz.heap.size wz w') (first | exact HT.out | assumption | exact HU.out _ _ (by assumption) (by assumption))
              (first | (go_at_call 29; refine (hrt _).mono ?_; rintro e wn ⟨rfl, hbn⟩) | (go_at_call 23; refine (hcmp _).mono ?_; rintro e wm ⟨rfl, hbm⟩))
            go_wp2_with fail
            go_ret
            exact ⟨ret1 (vb HNS.out.symm), bwstep HBW.out (bwstep HBZ.out (bwstep (bwstep (Below.refl _ _).drew hbn) hbm))⟩
      · rw [decide_eq_false hok] at hrt
        have HNS := Lib.hid (sortedB_false (not_sorted_ok HFK.out hok))
        clear HS HFK hok
        have HT : Hid (OneA b (off + k * 5) f wz wz.drew) := Lib.hid (OneA.of H5.out.1 H5.out.2 (Below.refl _ _).drew)
        have HU : Hid (∀ x y : World, OneA (b) (off + k * 5) f wz x → Below x.heap.size x y → OneA (b) (off + k * 5) f wz y) := Lib.hid fun x y hS hb => OneA.of H5.out.1 H5.out.2 (bwstep hS.bel hb)
        go_wp2_with fail
        refine wp_region_held_drew (S := fun w' => w'.cell? ⟨b, off + k * 5, none⟩ = some (.string f.row) ∧ w'.cell? ⟨b, off + k * 5 + 1, none⟩ = some (.string f.col) ∧ w'.cell? ⟨b, off + k * 5 + 2, none⟩ = some (.int .i64 f.at_) ∧ w'.cell? ⟨b, off + k * 5 + 3, none⟩ = some (.string f.val) ∧ w'.cell? ⟨b, off + k * 5 + 4, none⟩ = some (.bool f.gone) ∧ Below wz.heap.size wz w') (by kernel_rfl) HT.out (fun hHeld => ?_)
        refine wpAnyH_take (i := 0) (oi := ⟨some 10, _, _, _, _, _⟩) (v := ?ve0) rfl (by kernel_rfl) (by kernel_rfl) (by kernel_rfl) (fun _ _ _ h => h) (Or.inl ⟨by rfl, ?ye0⟩) (by assumption) ?re0
        case ye0 => (intro w hSw; go_split_ands; go_simp; try (with_reducible rfl))
        try simp only [Act.put, List.setIfInBounds_toArray, List.set_cons_zero, List.set_cons_succ]
        refine wpAnyH_take (i := 1) (oi := ⟨some 11, _, _, _, _, _⟩) (v := ?ve1) rfl (by kernel_rfl) (by kernel_rfl) (by kernel_rfl) (fun _ _ _ h => h) (Or.inl ⟨by rfl, ?ye1⟩) (by assumption) ?re1
        case ye1 => (intro w hSw; go_split_ands; go_simp; try (with_reducible rfl))
        try simp only [Act.put, List.setIfInBounds_toArray, List.set_cons_zero, List.set_cons_succ]
        refine wpAnyH_take (i := 2) (oi := ⟨some 12, _, _, _, _, _⟩) (v := ?ve2) rfl (by kernel_rfl) (by kernel_rfl) (by kernel_rfl) (fun _ _ _ h => h) (Or.inl ⟨by rfl, ?ye2⟩) (by assumption) ?re2
        case ye2 => (intro w hSw; go_split_ands; go_simp; try (with_reducible rfl))
        try simp only [Act.put, List.setIfInBounds_toArray, List.set_cons_zero, List.set_cons_succ]
        refine wpAnyH_take (i := 3) (oi := ⟨some 13, _, _, _, _, _⟩) (v := ?ve3) rfl (by kernel_rfl) (by kernel_rfl) (by kernel_rfl) (fun _ _ _ h => h) (Or.inl ⟨by rfl, ?ye3⟩) (by assumption) ?re3
        case ye3 => (intro w hSw; go_split_ands; go_simp; try (with_reducible rfl))
        try simp only [Act.put, List.setIfInBounds_toArray, List.set_cons_zero, List.set_cons_succ]
        refine wpAnyH_ready (rs := [4]) (by kernel_rfl) (by simp) ?_
        refine AllReadyH.cons (o := ⟨some 14, _, _, _, _, _⟩) rfl (fun K hK => ?_) AllReadyH.nil
        go_simp
        refine (hrt _).mono ?_
        rintro e wn ⟨rfl, hbn⟩
        go_wp2_with fail
        refine hK.out _ _ (HU.out _ _ hHeld hbn) (fun hHeld => ?_)
        clear hK K
        try simp only [Act.put, List.setIfInBounds_toArray, List.set_cons_zero, List.set_cons_succ]
        refine wpAnyH_take (i := 5) (oi := ⟨some 15, _, _, _, _, _⟩) (v := ?ve5) rfl (by kernel_rfl) (by kernel_rfl) (by kernel_rfl) (fun _ _ _ h => h) (Or.inl ⟨by rfl, ?ye5⟩) (by assumption) ?re5
        case ye5 => (intro w hSw; go_split_ands; go_simp; try (with_reducible rfl))
        try simp only [Act.put, List.setIfInBounds_toArray, List.set_cons_zero, List.set_cons_succ]
        refine wpAnyH_take (i := 6) (oi := ⟨some 16, _, _, _, _, _⟩) (v := ?ve6) rfl (by kernel_rfl) (by kernel_rfl) (by kernel_rfl) (fun _ _ _ h => h) (Or.inl ⟨by rfl, ?ye6⟩) (by assumption) ?re6
        case ye6 => (intro w hSw; go_split_ands; go_simp; try (with_reducible rfl))
        try simp only [Act.put, List.setIfInBounds_toArray, List.set_cons_zero, List.set_cons_succ]
        refine wpAnyH_take (i := 7) (oi := ⟨some 17, _, _, _, _, _⟩) (v := undef) rfl (by kernel_rfl) (by kernel_rfl) (by kernel_rfl) (fun _ _ _ h => h) (Or.inr ⟨by rfl, rfl⟩) (by assumption) ?_
        try simp only [Act.put, List.setIfInBounds_toArray, List.set_cons_zero, List.set_cons_succ]
        refine wpAnyH_take (i := 8) (oi := ⟨some 18, _, _, _, _, _⟩) (v := undef) rfl (by kernel_rfl) (by kernel_rfl) (by kernel_rfl) (fun _ _ _ h => h) (Or.inr ⟨by rfl, rfl⟩) (by assumption) ?_
        try simp only [Act.put, List.setIfInBounds_toArray, List.set_cons_zero, List.set_cons_succ]
        refine wpAnyH_take (i := 9) (oi := ⟨some 19, _, _, _, _, _⟩) (v := undef) rfl (by kernel_rfl) (by kernel_rfl) (by kernel_rfl) (fun _ _ _ h => h) (Or.inr ⟨by rfl, rfl⟩) (by assumption) ?_
        try simp only [Act.put, List.setIfInBounds_toArray, List.set_cons_zero, List.set_cons_succ]
        refine wpAnyH_take (i := 10) (oi := ⟨some 20, _, _, _, _, _⟩) (v := undef) rfl (by kernel_rfl) (by kernel_rfl) (by kernel_rfl) (fun _ _ _ h => h) (Or.inr ⟨by rfl, rfl⟩) (by assumption) ?_
        try simp only [Act.put, List.setIfInBounds_toArray, List.set_cons_zero, List.set_cons_succ]
        refine wpAnyH_take (i := 11) (oi := ⟨some 21, _, _, _, _, _⟩) (v := undef) rfl (by kernel_rfl) (by kernel_rfl) (by kernel_rfl) (fun _ _ _ h => h) (Or.inr ⟨by rfl, rfl⟩) (by assumption) ?_
        try simp only [Act.put, List.setIfInBounds_toArray, List.set_cons_zero, List.set_cons_succ]
        refine wpAnyH_take (i := 12) (oi := ⟨some 22, _, _, _, _, _⟩) (v := undef) rfl (by kernel_rfl) (by kernel_rfl) (by kernel_rfl) (fun _ _ _ h => h) (Or.inr ⟨by rfl, rfl⟩) (by assumption) ?_
        try simp only [Act.put, List.setIfInBounds_toArray, List.set_cons_zero, List.set_cons_succ]
        refine wpAnyH_take (i := 13) (oi := ⟨some 23, _, _, _, _, _⟩) (v := undef) rfl (by kernel_rfl) (by kernel_rfl) (by kernel_rfl) (fun _ _ _ h => h) (Or.inr ⟨by rfl, rfl⟩) (by assumption) ?_
        try simp only [Act.put, List.setIfInBounds_toArray, List.set_cons_zero, List.set_cons_succ]
        refine wpAnyH_take (i := 14) (oi := ⟨some 24, _, _, _, _, _⟩) (v := undef) rfl (by kernel_rfl) (by kernel_rfl) (by kernel_rfl) (fun _ _ _ h => h) (Or.inr ⟨by rfl, rfl⟩) (by assumption) ?_
        try simp only [Act.put, List.setIfInBounds_toArray, List.set_cons_zero, List.set_cons_succ]
        refine wpAnyH_take (i := 15) (oi := ⟨some 25, _, _, _, _, _⟩) (v := undef) rfl (by kernel_rfl) (by kernel_rfl) (by kernel_rfl) (fun _ _ _ h => h) (Or.inr ⟨by rfl, rfl⟩) (by assumption) ?_
        try simp only [Act.put, List.setIfInBounds_toArray, List.set_cons_zero, List.set_cons_succ]
        refine wpAnyH_take (i := 16) (oi := ⟨some 26, _, _, _, _, _⟩) (v := undef) rfl (by kernel_rfl) (by kernel_rfl) (by kernel_rfl) (fun _ _ _ h => h) (Or.inr ⟨by rfl, rfl⟩) (by assumption) ?_
        try simp only [Act.put, List.setIfInBounds_toArray, List.set_cons_zero, List.set_cons_succ]
        refine wpAnyH_take (i := 17) (oi := ⟨some 27, _, _, _, _, _⟩) (v := undef) rfl (by kernel_rfl) (by kernel_rfl) (by kernel_rfl) (fun _ _ _ h => h) (Or.inr ⟨by rfl, rfl⟩) (by assumption) ?_
        try simp only [Act.put, List.setIfInBounds_toArray, List.set_cons_zero, List.set_cons_succ]
        refine wpAnyH_take (i := 18) (oi := ⟨some 28, _, _, _, _, _⟩) (v := undef) rfl (by kernel_rfl) (by kernel_rfl) (by kernel_rfl) (fun _ _ _ h => h) (Or.inr ⟨by rfl, rfl⟩) (by assumption) ?_
        try simp only [Act.put, List.setIfInBounds_toArray, List.set_cons_zero, List.set_cons_succ]
        refine wpAnyH_take (i := 19) (oi := ⟨some 29, _, _, _, _, _⟩) (v := undef) rfl (by kernel_rfl) (by kernel_rfl) (by kernel_rfl) (fun _ _ _ h => h) (Or.inr ⟨by rfl, rfl⟩) (by assumption) ?_
        try simp only [Act.put, List.setIfInBounds_toArray, List.set_cons_zero, List.set_cons_succ]
        refine wpAnyH_take (i := 20) (oi := ⟨some 30, _, _, _, _, _⟩) (v := undef) rfl (by kernel_rfl) (by kernel_rfl) (by kernel_rfl) (fun _ _ _ h => h) (Or.inr ⟨by rfl, rfl⟩) (by assumption) ?_
        try simp only [Act.put, List.setIfInBounds_toArray, List.set_cons_zero, List.set_cons_succ]
        refine wpAnyH_take (i := 21) (oi := ⟨some 31, _, _, _, _, _⟩) (v := undef) rfl (by kernel_rfl) (by kernel_rfl) (by kernel_rfl) (fun _ _ _ h => h) (Or.inr ⟨by rfl, rfl⟩) (by assumption) ?_
        try simp only [Act.put, List.setIfInBounds_toArray, List.set_cons_zero, List.set_cons_succ]
        refine wpAnyH_take (i := 22) (oi := ⟨some 32, _, _, _, _, _⟩) (v := ?ve22) rfl (by kernel_rfl) (by kernel_rfl) (by kernel_rfl) (fun _ _ _ h => h) (Or.inl ⟨by rfl, ?ye22⟩) (by assumption) ?re22
        case ye22 => (intro w hSw; go_split_ands; go_simp; try (with_reducible rfl))
        try simp only [Act.put, List.setIfInBounds_toArray, List.set_cons_zero, List.set_cons_succ]
        refine wpAnyH_done (by kernel_rfl) ?_ _
        go_wp2_with fail
        go_ret
        exact ⟨ret1 (vb HNS.out.symm), bwstep HBW.out (bwstep HBZ.out (bwstep (Below.refl _ _).drew hbn))⟩
    · obtain rfl : k = L.length := by omega
      have HNS := Lib.hid (sortedB_true HS.out)
      clear hbw HS
      go_wp2_with fail
      go_ret
      exact ⟨ret1 (vb HNS.out.symm), HBW.out⟩
end Go.Proofs.Ytknkdehjgkjljaa.Ce
