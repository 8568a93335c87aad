/- The contracts of the reference function Same and of bytes.Equal. The contracts of the reference functions of layer 1. The contracts of the reference functions of layer 1, going on. Plain lemmas: what is put is cut off as it was. -/
import Derived.Test.YtkpdadnmbjmfpaaDoorBase
import Derived.Test.YtkpdadnmbjmfpaaDoorWir
namespace Go.Proofs.YtkpdadnmbjmfpaaDoor
open Go.RowKit

/-- the same bytes? -/
def sameB (a b : List UInt8) : Bool := decide (a = b)
theorem sameB_self (l : List UInt8) : sameB l l = true := by simp [sameB]
end Go.Proofs.YtkpdadnmbjmfpaaDoor

namespace Go.Proofs.YtkpdadnmbjmfpaaDoor
open Go.RowKit

set_option maxHeartbeats 400000 in
theorem rnum_bad (n : Int) (w : World) (h : n < 0 ∨ 4294967295 < n) :
    Calls Tryd.prog 22 #[.int .i64 n] w fun e w' => e = .returned (.slice none 0 0) ∧ w = w' := by
  rcases h with h | h
  · go_enter Tryd.func22, Tryd.ntmps22
    go_wp2
    go_ret
    exact ⟨rfl, rfl⟩
  · have : ¬ n < 0 := by omega
    go_enter Tryd.func22, Tryd.ntmps22
    go_wp2
    go_ret
    exact ⟨rfl, rfl⟩
set_option maxHeartbeats 400000 in
theorem rnum_ok (n : Nat) (w : World) (h2 : n ≤ 4294967295) :
    Calls Tryd.prog 22 #[.int .i64 (n : Int)] w fun e w' => ∃ v, e = .returned v ∧ Ow w' w.heap.size 5 v ((numB n).map bv) ∧ Below w.heap.size w w' := by
  go_enter Tryd.func22, Tryd.ntmps22
  go_wp2
  go_ret
  exact ⟨_, rfl, Ow.new _ _ rfl (by simp [maxLen]) (by rw [bv_num n h2]) (Nat.le_refl _), (Below.refl _ _).alloc (Nat.le_refl _) _⟩
set_option maxHeartbeats 400000 in
theorem rtext_ok (s : ByteArray) (w : World) (h2 : s.size ≤ 4294967295) :
    Calls Tryd.prog 23 #[.string s] w fun e w' => ∃ v, e = .returned v ∧ Ow w' w.heap.size 5 v ((textB s).map bv) ∧ Below w.heap.size w w' := by
  go_enter Tryd.func23, Tryd.ntmps23
  go_wp2_with fail
  refine (rnum_ok _ _ h2).mono ?_
  rintro e w1 ⟨v, rfl, ho, hb⟩
  obtain ⟨x, w2, hcv, hx, hb2, _⟩ := run_bytes (P := Tryd.prog) w1 s Tryd.underlying9 Tryd.underlying41 Tryd.underlying5 (by simp [maxLen]; omega)
  go_wp2_with (at_builtin; refine wpList_appB bytesT rfl _ _ rfl rfl (ho.below hb2) rfl hx (by simp [numB_len]; have : s.data.size = s.size := rfl; omega) (Nat.le_trans hb.size hb2.size) ?_; intro v' w' hown' hg _)
  go_ret
  exact ⟨v', rfl, hown', (hb.trans (hb2.mono hb.size)).grown hg (Nat.le_trans hb.size hb2.size) ho.ge⟩

set_option maxHeartbeats 400000 in
theorem rat_no (x : Value) (l : List UInt8) (at_ B : Nat) (w : World) (hr : Rd w B x (l.map bv)) (h : l.length < at_ + 4) (hat : at_ ≤ 1000000000000) :
    Calls Tryd.prog 26 #[x, .int .i64 (at_ : Int)] w fun e w' => e = .returned (.int .i64 (-1)) ∧ w = w' := by
  obtain ⟨A, c, rfl, hc, hm⟩ := hr.shapeM
  go_enter Tryd.func26, Tryd.ntmps26
  go_wp2
  go_ret
  exact ⟨rfl, rfl⟩
theorem numOf_drop (l : List UInt8) (k : Nat) (h : k + 4 ≤ l.length) : (numOf (l.drop k) : Int) = 16777216 * (l[k].toNat : Int) + 65536 * (l[k + 1].toNat : Int) + 256 * (l[k + 2].toNat : Int) + (l[k + 3].toNat : Int) := by
  rw [numOf4 _ (by simp; omega)]
  simp
set_option maxHeartbeats 1000000 in
theorem rat_okN (x : Value) (l : List UInt8) (at_ B : Nat) (w : World) (hr : Rd w B x (l.map bv)) (h : at_ + 4 ≤ l.length) (hat : l.length ≤ 1000000000000) :
    Calls Tryd.prog 26 #[x, .int .i64 (at_ : Int)] w fun e w' => e = .returned (.int .i64 (numOf (l.drop at_))) ∧ ∃ m, w' = w.drewN m := by
  obtain ⟨A, c, rfl, hc, hm⟩ := hr.shapeM
  obtain ⟨b, off, rfl, hb, hcell⟩ := hr.cellM (by omega)
  have c0 := hcell at_ (by omega)
  have c1 := hcell (at_ + 1) (by omega)
  have c2 := hcell (at_ + 2) (by omega)
  have c3 := hcell (at_ + 3) (by omega)
  simp only [bv] at c0 c1 c2 c3
  have d0 := UInt8.toNat_lt l[at_]
  have d1 := UInt8.toNat_lt l[at_ + 1]
  have d2 := UInt8.toNat_lt l[at_ + 2]
  have d3 := UInt8.toNat_lt l[at_ + 3]
  have hl1 : (at_ : Int) + 1 < l.length := by omega
  have hl2 : (at_ : Int) + 2 < l.length := by omega
  have hl3 : (at_ : Int) + 3 < l.length := by omega
  have hl0 : (at_ : Int) < l.length := by omega
  clear hcell hr
  have hnd := Lib.hid (numOf_drop l at_ h)
  go_enter Tryd.func26, Tryd.ntmps26
  go_wp2
  go_quiet (fail)
  go_wp2
  go_ret
  exact ⟨ret1 (vi hnd.out.symm), _, rfl⟩
theorem rat_ok (x : Value) (l : List UInt8) (at_ B : Nat) (w : World) (hr : Rd w B x (l.map bv)) (h : at_ + 4 ≤ l.length) (hat : l.length ≤ 1000000000000) :
    Calls Tryd.prog 26 #[x, .int .i64 (at_ : Int)] w fun e w' => e = .returned (.int .i64 (numOf (l.drop at_))) ∧ Below w.heap.size w w' :=
  Calls.bel (rat_okN x l at_ B w hr h hat)

/-- a text that stands at a place -/
def textSize (l : List UInt8) : Nat := if textOk l then 4 + numOf l else 0
def textThere (l : List UInt8) : ByteArray := if textOk l then ⟨(textOf l).toArray⟩ else ⟨#[]⟩
set_option maxHeartbeats 1000000 in
theorem rtextAt_any (x : Value) (l : List UInt8) (at_ B : Nat) (w : World) (hB : B ≤ w.heap.size) (hr : Rd w B x (l.map bv)) (hat : at_ ≤ 1000000000000) (hl : l.length ≤ 1000000000000) :
    Calls Tryd.prog 25 #[x, .int .i64 (at_ : Int)] w fun e w' => e = .returned (.tuple #[.string (textThere (l.drop at_)), .int .i64 (textSize (l.drop at_))]) ∧ Below w.heap.size w w' := by
  obtain ⟨A, c, rfl, hc, hm⟩ := hr.shapeM
  have hm' : c ≤ 9223372036854775807 := hm
  by_cases h4 : at_ + 4 ≤ l.length
  · have hn := numOf_lt (l.drop at_)
    by_cases ht : at_ + 4 + numOf (l.drop at_) ≤ l.length
    · have hok : textOk (l.drop at_) := by constructor <;> simp <;> omega
      have e1 : textThere (l.drop at_) = ⟨(textOf (l.drop at_)).toArray⟩ := by unfold textThere; rw [if_pos hok]
      have e2 : textSize (l.drop at_) = 4 + numOf (l.drop at_) := by unfold textSize; rw [if_pos hok]
      rw [e1, e2]
      clear e1 e2
      have htx : ((l.take (at_ + 4 + numOf (l.drop at_))).drop (at_ + 4)).map bv = (textOf (l.drop at_)).map bv := by
        unfold textOf
        rw [List.drop_drop, List.drop_take]
        congr 2
        omega
      rw [List.map_drop, List.map_take] at htx
      obtain ⟨b, off, rfl, -, -⟩ := hr.cellM (by omega)
      by_cases hcc : c = at_ + 4
      · subst hcc
        have hn0 : numOf (l.drop at_) = 0 := by omega
        have hcut := hr.midEnd (lo := at_ + 4) (hi := at_ + 4 + numOf (l.drop at_)) (by omega) ht
        rw [htx] at hcut
        have HC := Lib.hid hcut
        clear hcut htx
        go_enter Tryd.func25, Tryd.ntmps25
        go_wp2_with fail
        refine (rat_ok _ _ at_ B _ hr h4 hl).mono ?_
        rintro e w1 ⟨rfl, hb⟩
        rw [hn0]
        have HN := Lib.hid hn0
        clear hn0
        have hcv := run_strS (P := Tryd.prog) (w := w1) Tryd.underlying41 Tryd.underlying5 Tryd.underlying9 (HC.out.below (hb.mono hB))
        go_wp2_with fail
        go_ret2
        exact ⟨ret2 rfl (vi (by rw [HN.out]; rfl)), hb⟩
      · have hcut := hr.midC (lo := at_ + 4) (hi := at_ + 4 + numOf (l.drop at_)) (by omega) ht hcc
        rw [htx] at hcut
        have HC := Lib.hid hcut
        clear hcut htx
        go_enter Tryd.func25, Tryd.ntmps25
        go_wp2_with fail
        refine (rat_ok _ _ at_ B _ hr h4 hl).mono ?_
        rintro e w1 ⟨rfl, hb⟩
        generalize hgn : numOf (l.drop at_) = n at *
        have HG := Lib.hid hgn
        clear hgn
        have hcv := run_strS (P := Tryd.prog) (w := w1) Tryd.underlying41 Tryd.underlying5 Tryd.underlying9 (HC.out.below (hb.mono hB))
        go_wp2_with fail
        go_ret2
        exact ⟨ret2 rfl (vi (by rw [HG.out]; omega)), hb⟩
    · have hok : ¬ textOk (l.drop at_) := by unfold textOk; simp; omega
      have e1 : textThere (l.drop at_) = ⟨#[]⟩ := by unfold textThere; rw [if_neg hok]
      have e2 : textSize (l.drop at_) = 0 := by unfold textSize; rw [if_neg hok]
      rw [e1, e2]
      clear e1 e2
      go_enter Tryd.func25, Tryd.ntmps25
      go_wp2_with fail
      refine (rat_ok _ _ at_ B _ hr h4 hl).mono ?_
      rintro e w1 ⟨rfl, hb⟩
      generalize numOf (l.drop at_) = n at *
      go_wp2_with fail
      go_ret2
      exact ⟨rfl, hb⟩
  · have hok : ¬ textOk (l.drop at_) := by unfold textOk; simp; omega
    have e1 : textThere (l.drop at_) = ⟨#[]⟩ := by unfold textThere; rw [if_neg hok]
    have e2 : textSize (l.drop at_) = 0 := by unfold textSize; rw [if_neg hok]
    rw [e1, e2]
    clear e1 e2
    go_enter Tryd.func25, Tryd.ntmps25
    go_wp2_with fail
    refine (rat_no _ _ at_ B _ hr (by omega) hat).mono ?_
    rintro e w1 ⟨rfl, rfl⟩
    go_wp2_with fail
    go_ret2
    exact ⟨rfl, Below.refl _ _⟩

/-- the same texts? -/
def sameT (a b : List ByteArray) : Bool := decide (a = b)
theorem sameT_ne (a b : List ByteArray) (h : a.length ≠ b.length) : sameT a b = false := by
  unfold sameT
  rw [decide_eq_false_iff_not]
  rintro rfl
  exact h rfl
theorem sameT_at (a b : List ByteArray) (k : Nat) (ha : k < a.length) (hb : k < b.length) (h : a[k] ≠ b[k]) : sameT a b = false := by
  unfold sameT
  rw [decide_eq_false_iff_not]
  rintro rfl
  exact h rfl
theorem sameT_all (a b : List ByteArray) (hl : a.length = b.length) (h : ∀ j (ha : j < a.length) (hb : j < b.length), a[j] = b[j]) : sameT a b = true := by
  unfold sameT
  rw [decide_eq_true_iff]
  exact List.ext_getElem hl h
end Go.Proofs.YtkpdadnmbjmfpaaDoor

namespace Go.Proofs.YtkpdadnmbjmfpaaDoor
open Go.RowKit

def sumS (l : List ByteArray) : Nat := (l.map ByteArray.size).sum
theorem sumS_snoc (l : List ByteArray) (k : Nat) (h : k < l.length) : sumS (l.take (k + 1)) = sumS (l.take k) + l[k].size := by
  unfold sumS
  rw [List.take_succ_eq_append_getElem h, List.map_append, List.sum_append]
  simp
/-- few texts, and short -/
def FewSaid (w : World) (l : List ByteArray) (e : Ending) (w' : World) : Prop :=
  ∃ q : Bool, e = .returned (.bool q) ∧ (q = true → l.length ≤ 100 ∧ sumS l ≤ 5000) ∧ Below w.heap.size w w'

end Go.Proofs.YtkpdadnmbjmfpaaDoor

namespace Go.Proofs.YtkpdadnmbjmfpaaDoor
open Go.RowKit

theorem numOf_numB (n : Nat) (h : n ≤ 4294967295) (more : List UInt8) : numOf (numB n ++ more) = n := by
  unfold numOf numB
  simp
  omega
theorem drop4 (n : Nat) (more : List UInt8) : (numB n ++ more).drop 4 = more := rfl
theorem textOk_textB (s : ByteArray) (h : s.size ≤ 4294967295) (more : List UInt8) : textOk (textB s ++ more) := by
  unfold textOk textB
  rw [List.append_assoc, numOf_numB _ h]
  simp [numB_len]
theorem textOf_textB (s : ByteArray) (h : s.size ≤ 4294967295) (more : List UInt8) : textOf (textB s ++ more) = s.data.toList := by
  unfold textOf textB
  rw [List.append_assoc, numOf_numB _ h, drop4]
  have : s.data.toList.length = s.size := rfl
  rw [← this]
  exact List.take_left
theorem textRest_textB (s : ByteArray) (h : s.size ≤ 4294967295) (more : List UInt8) : textRest (textB s ++ more) = more := by
  unfold textRest textB
  rw [List.append_assoc, numOf_numB _ h, drop4]
  have : s.data.toList.length = s.size := rfl
  rw [← this]
  exact List.drop_left
theorem allB_cons (s : ByteArray) (l : List ByteArray) : allB (s :: l) = textB s ++ allB l := rfl
theorem takeTexts_allB (l : List ByteArray) (h : ∀ s ∈ l, s.size ≤ 4294967295) (more : List UInt8) (k : Nat) (hk : k ≤ l.length) :
    takeTexts k (allB l ++ more) = some (l.take k, allB (l.drop k) ++ more) := by
  induction k with
  | zero => rfl
  | succ k ih =>
    have hlt : k < l.length := by omega
    have hs := h _ (List.getElem_mem hlt)
    rw [takeTexts_succ (ih (by omega)), List.drop_eq_getElem_cons hlt, allB_cons, List.append_assoc, if_pos (textOk_textB _ hs _), textOf_textB _ hs, textRest_textB _ hs,
      List.take_succ_eq_append_getElem hlt]
theorem takeTexts_textsB (l : List ByteArray) (h0 : l.length ≤ 4294967295) (h : ∀ s ∈ l, s.size ≤ 4294967295) (more : List UInt8) :
    takeTexts (numOf (textsB l ++ more)) ((textsB l ++ more).drop 4) = some (l, more) := by
  unfold textsB
  rw [List.append_assoc, numOf_numB _ h0, drop4, takeTexts_allB l h more _ (Nat.le_refl _)]
  simp [allB]
theorem textsB_len (l : List ByteArray) : (textsB l).length = 4 + (allB l).length := by
  unfold textsB
  rw [List.length_append]; rfl
theorem allB_len (l : List ByteArray) : (allB l).length = 4 * l.length + sumS l := by
  induction l with
  | nil => rfl
  | cons s l ih =>
    rw [allB_cons, List.length_append, ih, textB_len]
    simp [sumS]
    omega
theorem size_le_sumS {l : List ByteArray} {s : ByteArray} (h : s ∈ l) : s.size ≤ sumS l := by
  induction l with
  | nil => cases h
  | cons t l ih =>
    rcases List.mem_cons.1 h with rfl | h
    · simp [sumS]
    · have := ih h
      simp [sumS] at this ⊢
      omega

theorem textRest_len (l : List UInt8) : (textRest l).length ≤ l.length := by
  unfold textRest
  rw [List.length_drop, List.length_drop]
  omega

/-! awake -/
theorem awakeP1 : numOf [0, 0, 1, 2, 9] = 258 := rfl
def ab : ByteArray := ⟨#[97, 98]⟩
def exs : List ByteArray := [⟨#[]⟩, ⟨#[120]⟩]
theorem awakeP2 : textOf (textB ab) = [97, 98] := rfl
theorem awakeP3 : textOk (textB ab) := by have := textOk_textB ab (by decide) []; rwa [List.append_nil] at this
theorem awakeP4 : takeTexts (numOf (textsB exs)) ((textsB exs).drop 4) = some (exs, []) := by have := takeTexts_textsB exs (by decide) (by decide) []; rwa [List.append_nil] at this
end Go.Proofs.YtkpdadnmbjmfpaaDoor
