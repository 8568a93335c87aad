/- The contract of cutEnd of package table. -/
import Derived.Test.YtdemdmingelamaaTfi
import Derived.Test.YtdemdmingelamaaCpA
import Derived.Test.YtdemdmingelamaaFrmA
import Derived.Test.YtdemdmingelamaaBlmA
namespace Go.Proofs.Ytdemdmingelamaa.Ce
open Go.RowKit Frm

/-- what stands ahead of the footer's frame, and the footer, where there is such -/
def EndOk (l bd ft : List UInt8) : Prop := ∀ body r, r.length ≤ 65535 → l = body ++ (frm r ++ numB (12 + r.length)) → bd = body ∧ ft = r
theorem end_num {l body r : List UInt8} (hr : r.length ≤ 65535) (h : l = body ++ (frm r ++ numB (12 + r.length))) : l.length - 4 = body.length + (12 + r.length) ∧ 16 ≤ l.length ∧ cnN (l.drop (l.length - 4)) = 12 + r.length ∧ l.take (l.length - 4 - (12 + r.length)) = body ∧ (l.take (l.length - 4)).drop (l.length - 4 - (12 + r.length)) = frm r := by
  have hl := congrArg List.length h
  rw [List.length_append, List.length_append, frm_len, numB_len] at hl
  have e1 : l.length - 4 = body.length + (12 + r.length) := by omega
  have e2 : l.length - 4 - (12 + r.length) = body.length := by omega
  have e3 : (body ++ frm r).length = l.length - 4 := by rw [List.length_append, frm_len]; omega
  refine ⟨e1, by omega, ?_, ?_, ?_⟩
  · have h2 : l.drop (l.length - 4) = numB (12 + r.length) := by
      rw [← e3]
      conv => lhs; rw [h, ← List.append_assoc]
      rw [List.drop_left]
    rw [h2]
    unfold cnN
    rw [if_pos (by rw [numB_len]; omega)]
    have := Frm.numOf_numB (12 + r.length) (by omega) []
    rwa [List.append_nil] at this
  · rw [e2]
    conv => lhs; rw [h]
    rw [List.take_left]
  · have h2 : l.take (l.length - 4) = body ++ frm r := by
      rw [← e3]
      conv => lhs; rw [h, ← List.append_assoc]
      rw [List.take_left]
    rw [e2, h2, List.drop_left]
theorem endOk_no {l : List UInt8} (h : ¬ cnN (l.drop (l.length - 4)) ≤ l.length - 4) : EndOk l [] [] := fun body r hr hl => by
  obtain ⟨e1, -, e2, -⟩ := end_num hr hl
  omega
theorem endOk_not {l bd : List UInt8} {n : Nat} (hn : n = cnN (l.drop (l.length - 4))) (h : ¬ Whole ((l.take (l.length - 4)).drop (l.length - 4 - n))) : EndOk l bd [] := fun body r hr hl => by
  obtain ⟨e1, -, e2, -, e4⟩ := end_num hr hl
  rw [hn, e2, e4] at h
  exact absurd (whole_iff.2 ⟨r, [], by rw [List.append_nil], hr⟩) h
theorem endOk_yes {l r' m : List UInt8} {n : Nat} (hn : n = cnN (l.drop (l.length - 4))) (h : (l.take (l.length - 4)).drop (l.length - 4 - n) = frm r' ++ m) (hr' : r'.length ≤ 65535) : EndOk l (l.take (l.length - 4 - n)) r' := fun body r hr hl => by
  obtain ⟨e1, -, e2, e3, e4⟩ := end_num hr hl
  rw [hn, e2, e4] at h
  obtain ⟨h1, -⟩ := frm_inj (m := []) (by rw [List.append_nil]; exact h) hr hr'
  rw [hn, e2, e3]
  exact ⟨rfl, h1.symm⟩
/-- what is told -/
def CutEnds (l : List UInt8) (B : Nat) (w : World) (e : Ending) (w' : World) : Prop :=
  (∃ x y bd ft, e = .returned (.tuple #[x, y]) ∧ Rd w' B x (bd.map bv) ∧ Ow w' w.heap.size 5 y (ft.map bv) ∧ bd.length ≤ l.length ∧ ft.length ≤ l.length ∧ EndOk l bd ft) ∧ Below w.heap.size w w'
theorem rdUp {w w' : World} {B : Nat} {v : Value} {xs : List Value} (h : Rd w B v xs) (hB : B ≤ w.heap.size) (hb : Below w.heap.size w w') : Rd w' B v xs := h.below (hb.mono hB)
set_option maxHeartbeats 600000 in
set_option maxRecDepth 100000 in
theorem cutEnd_any (v : Value) (l : List UInt8) (B : Nat) (w : World) (hr : Rd w B v (l.map bv)) (hB : B ≤ w.heap.size) (hl : l.length ≤ 1000000000) :
    Calls Try.prog 43 #[v] w (CutEnds l B w) := by
  obtain ⟨A, c, rfl, hc, hm⟩ := hr.shapeM
  unfold maxLen at hm
  by_cases h0 : l = []
  · subst h0
    have hcn := fun v w hr => cutNum_any v [] B w hr (by simp)
    have hno : ¬ Whole [] := not_whole_short (by simp)
    have hcu := fun v w hr hB => Go.Proofs.Ytdemdmingelamaa.cut_no v [] w B hr hB hno (by simp)
    have he : ∀ bd, EndOk [] bd [] := fun bd body r hr hl => by
      have := congrArg List.length hl
      rw [List.length_append, List.length_append, frm_len, numB_len] at this
      simp at this
    have HE := Lib.hid he
    have hmx : (if (0 : Int) > 0 - 4 then (0 : Int) else 0 - 4) = 0 := by omega
    by_cases h1 : c = 0
    · subst h1
      have hr0 : Rd w B (.slice A 0 0) (([] : List UInt8).map bv) := hr
      have HR := Lib.hid hr0
      clear hr hr0 he hno
      go_enter Try.func43, Try.ntmps43
      go_wp2_with (refine Blm.wpList_max rfl (.tmp 10) (.const (.int .i64 0)) _ rfl (0 - 4) 0 0 rfl rfl hmx ?_)
      refine (hcn _ _ HR.out).mono ?_
      rintro e w1 ⟨⟨q1, q2, rfl, -⟩, hb1⟩
      have HB1 := Lib.hid hb1
      have h00 : cnN [] = 0 := rfl
      rw [h00]
      clear hb1
      go_wp2_with fail
      refine (hcu _ _ (rdUp HR.out hB HB1.out) (Nat.le_trans hB HB1.out.size)).mono ?_
      rintro e w2 ⟨⟨x2, y2, rfl, hx2, -⟩, hb2⟩
      have HB2 := Lib.hid (bwstep HB1.out hb2)
      have HX2 := Lib.hid (hx2.mono HB1.out.size)
      clear hb2 hx2
      go_wp2_with fail
      go_ret2
      exact ⟨⟨_, _, [], [], rfl, rdUp HR.out hB HB2.out, HX2.out, by simp, by simp, HE.out _⟩, HB2.out⟩
    · have hr0 : Rd w B (.slice A 0 c) (([] : List UInt8).map bv) := hr
      have HR := Lib.hid hr0
      clear hr hr0 he hno
      go_enter Try.func43, Try.ntmps43
      go_wp2_with (refine Blm.wpList_max rfl (.tmp 10) (.const (.int .i64 0)) _ rfl (0 - 4) 0 0 rfl rfl hmx ?_)
      refine (hcn _ _ HR.out).mono ?_
      rintro e w1 ⟨⟨q1, q2, rfl, -⟩, hb1⟩
      have HB1 := Lib.hid hb1
      have h00 : cnN [] = 0 := rfl
      rw [h00]
      clear hb1
      go_wp2_with fail
      refine (hcu _ _ (rdUp HR.out hB HB1.out) (Nat.le_trans hB HB1.out.size)).mono ?_
      rintro e w2 ⟨⟨x2, y2, rfl, hx2, -⟩, hb2⟩
      have HB2 := Lib.hid (bwstep HB1.out hb2)
      have HX2 := Lib.hid (hx2.mono HB1.out.size)
      clear hb2 hx2
      go_wp2_with fail
      go_ret2
      exact ⟨⟨_, _, [], [], rfl, rdUp HR.out hB HB2.out, HX2.out, by simp, by simp, HE.out _⟩, HB2.out⟩
  · have hp : 0 < l.length := List.length_pos_iff.2 h0
    obtain ⟨b, off, rfl⟩ : ∃ b off, A = some ⟨b, off, none⟩ := by
      obtain ⟨b, off, c', e', -⟩ := hr.at_ (by simpa using hp)
      injection e' with e1 _ _
      exact ⟨b, off, e1⟩
    obtain ⟨E, hE⟩ : ∃ E, E = l.length - 4 := ⟨_, rfl⟩
    obtain ⟨N, hN⟩ : ∃ N, N = cnN (l.drop E) := ⟨_, rfl⟩
    have hmx : (if (0 : Int) > (l.length : Int) - 4 then (0 : Int) else (l.length : Int) - 4) = (E : Int) := by split <;> omega
    have HMX := Lib.hid hmx
    have hEl : E < l.length := by omega
    have hcE : ¬ c = E := by omega
    have hr1 := hr.fromC (lo := E) (by omega) hcE
    rw [← List.map_drop] at hr1
    have hcn := fun v w hr => cutNum_any v (l.drop E) B w hr (by rw [List.length_drop]; omega)
    rw [← hN] at hcn
    have hE1 : (E : Int) ≤ (l.length : Int) := by omega
    have hE0 : (0 : Int) ≤ (E : Int) := by omega
    have HNE := Lib.hid (show N = cnN (l.drop (l.length - 4)) by rw [← hE]; exact hN)
    have HEE := Lib.hid hE
    clear hN hE hmx h0 hp
    have HR := Lib.hid hr
    have HR1 := Lib.hid hr1
    clear hr hr1
    by_cases hNE : N ≤ E
    · have hw2 : IntKind.i64.wrap ((E : Int) - (N : Int)) = ((E - N : Nat) : Int) := by rw [IntKind.wrap_i64]; omega
      have hg : (N : Int) ≤ (E : Int) := by omega
      obtain ⟨D, hD⟩ : ∃ D, D = E - N := ⟨_, rfl⟩
      rw [← hD] at hw2
      have hsub : (E : Int) - (N : Int) = (D : Int) := by omega
      have hDE : (D : Int) ≤ (E : Int) := by omega
      have hD0 : (0 : Int) ≤ (D : Int) := by omega
      have hDl : (D : Int) ≤ (l.length : Int) := by omega
      have hEc : (E : Int) ≤ (c : Int) := by omega
      have hDc : (D : Int) ≤ (c : Int) := by omega
      have hcD : ¬ c = D := by omega
      have hr2 := HR.out.midC (lo := D) (hi := E) (by omega) (by omega) hcD
      rw [← List.map_take, ← List.map_drop] at hr2
      have hr3 := HR.out.cutTo (hi := D) (by omega)
      rw [← List.map_take] at hr3
      have HR2 := Lib.hid hr2
      have HR3 := Lib.hid hr3
      have HDD := Lib.hid hD
      clear hr2 hr3 hD
      have hfin : ∃ ft : List UInt8, ft.length ≤ l.length ∧ EndOk l (l.take D) ft ∧ ∀ (v : Value) (w : World), Rd w B v (((l.take E).drop D).map bv) → B ≤ w.heap.size → Calls Try.prog 63 #[v] w fun e w' => (∃ x y q, e = .returned (.tuple #[x, y, .bool q]) ∧ Ow w' w.heap.size 5 x (ft.map bv)) ∧ Below w.heap.size w w' := by
        have hdl : ((l.take E).drop D).length ≤ l.length := by rw [List.length_drop, List.length_take]; omega
        by_cases hwh : Whole ((l.take E).drop D)
        · obtain ⟨r, m, hb, hr5⟩ := whole_iff.1 hwh
          have hbl := congrArg List.length hb
          rw [List.length_append, frm_len] at hbl
          refine ⟨r, by omega, ?_, fun v w hv hB => (Go.Proofs.Ytdemdmingelamaa.cut_ok v _ r m w B hv hB hb hr5 (by omega)).mono fun e w' ⟨⟨x, y, h1, h2, _⟩, h3⟩ => ⟨⟨x, y, _, h1, h2⟩, h3⟩⟩
          have := endOk_yes (l := l) (n := N) HNE.out (by rw [← HEE.out, ← HDD.out]; exact hb) hr5
          rwa [← HEE.out, ← HDD.out] at this
        · refine ⟨[], by simp, ?_, fun v w hv hB => (Go.Proofs.Ytdemdmingelamaa.cut_no v _ w B hv hB hwh (by omega)).mono fun e w' ⟨⟨x, y, h1, h2, _⟩, h3⟩ => ⟨⟨x, y, _, h1, h2⟩, h3⟩⟩
          exact endOk_not HNE.out (by rw [← HEE.out, ← HDD.out]; exact hwh)
      obtain ⟨ft, hft, hEO, hcu⟩ := hfin
      have HEO := Lib.hid hEO
      have HCU := Lib.hid hcu
      have HFT := Lib.hid hft
      clear hEO hcu hft
      go_enter Try.func43, Try.ntmps43
      go_wp2_with (refine Blm.wpList_max rfl (.tmp 10) (.const (.int .i64 0)) _ rfl ((l.length : Int) - 4) 0 (E : Int) rfl rfl HMX.out ?_)
      refine (hcn _ _ HR1.out).mono ?_
      rintro e w1 ⟨⟨q1, q2, rfl, -⟩, hb1⟩
      have HB1 := Lib.hid hb1
      clear hb1
      go_wp2_with fail
      refine (HCU.out _ _ (rdUp HR2.out hB HB1.out) (Nat.le_trans hB HB1.out.size)).mono ?_
      rintro e w2 ⟨⟨x2, y2, q, rfl, hx2⟩, hb2⟩
      have HB2 := Lib.hid (bwstep HB1.out hb2)
      have HX2 := Lib.hid (hx2.mono HB1.out.size)
      clear hb2 hx2
      go_wp2_with fail
      go_ret2
      exact ⟨⟨_, _, l.take D, ft, rfl, rdUp HR3.out hB HB2.out, HX2.out, by rw [List.length_take]; omega, HFT.out, HEO.out⟩, HB2.out⟩
    · have HEO : Hid (EndOk l [] []) := Lib.hid (endOk_no (by rw [← HNE.out, ← HEE.out]; exact hNE))
      have hg : ¬ (N : Int) ≤ (E : Int) := by omega
      have hg2 : (E : Int) < (N : Int) := by omega
      go_enter Try.func43, Try.ntmps43
      go_wp2_with (refine Blm.wpList_max rfl (.tmp 10) (.const (.int .i64 0)) _ rfl ((l.length : Int) - 4) 0 (E : Int) rfl rfl HMX.out ?_)
      refine (hcn _ _ HR1.out).mono ?_
      rintro e w1 ⟨⟨q1, q2, rfl, -⟩, hb1⟩
      have HB1 := Lib.hid hb1
      clear hb1
      go_wp2_with fail
      go_ret2
      exact ⟨⟨_, _, [], [], rfl, Rd.nil _ _, Ow.nilB _ _ _, by simp, by simp, HEO.out⟩, HB1.out⟩
end Go.Proofs.Ytdemdmingelamaa.Ce
