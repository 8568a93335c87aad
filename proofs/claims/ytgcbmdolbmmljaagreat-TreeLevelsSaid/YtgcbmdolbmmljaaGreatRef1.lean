/- The contracts of the reference function Same and of bytes.Equal. The contracts of the reference functions of layer 1. The contracts of the reference functions of layer 1, going on. Plain lemmas: what is put is cut off as it was. -/
import Derived.Test.YtgcbmdolbmmljaaGreatBase
import Derived.Test.YtgcbmdolbmmljaaGreatWir
namespace Go.Proofs.YtgcbmdolbmmljaaGreat
open Go.RowKit

/-- the same bytes? -/
def sameB (a b : List UInt8) : Bool := decide (a = b)
theorem sameB_self (l : List UInt8) : sameB l l = true := by simp [sameB]
set_option maxHeartbeats 400000 in
theorem equal_any (x y : Value) (a b : List UInt8) (B D : Nat) (w : World) (hx : Rd w B x (a.map bv)) (hy : Rd w D y (b.map bv)) :
    Calls Tryz.prog 87 #[x, y] w fun e w' => e = .returned (.bool (sameB a b)) ∧ w' = w := by
  have c1 := run_str (P := Tryz.prog) (w := w) Tryz.underlying51 Tryz.underlying5 Tryz.underlying9 hx
  have c2 := run_str (P := Tryz.prog) (w := w) Tryz.underlying51 Tryz.underlying5 Tryz.underlying9 hy
  go_enter Tryz.func87, Tryz.ntmps87
  go_wp2
  go_ret
  refine ⟨ret1 (vb ?_), rfl⟩
  unfold sameB
  by_cases h : a = b <;> simp [h]
end Go.Proofs.YtgcbmdolbmmljaaGreat

namespace Go.Proofs.YtgcbmdolbmmljaaGreat
open Go.RowKit

set_option maxHeartbeats 400000 in
theorem rnum_bad (n : Int) (w : World) (h : n < 0 ∨ 4294967295 < n) :
    Calls Tryz.prog 47 #[.int .i64 n] w fun e w' => e = .returned (.slice none 0 0) ∧ w = w' := by
  rcases h with h | h
  · go_enter Tryz.func47, Tryz.ntmps47
    go_wp2
    go_ret
    exact ⟨rfl, rfl⟩
  · have : ¬ n < 0 := by omega
    go_enter Tryz.func47, Tryz.ntmps47
    go_wp2
    go_ret
    exact ⟨rfl, rfl⟩
set_option maxHeartbeats 400000 in
theorem rnum_ok (n : Nat) (w : World) (h2 : n ≤ 4294967295) :
    Calls Tryz.prog 47 #[.int .i64 (n : Int)] w fun e w' => ∃ v, e = .returned v ∧ Ow w' w.heap.size 5 v ((numB n).map bv) ∧ Below w.heap.size w w' := by
  go_enter Tryz.func47, Tryz.ntmps47
  go_wp2
  go_ret
  exact ⟨_, rfl, Ow.new _ _ rfl (by simp [maxLen]) (by rw [bv_num n h2]) (Nat.le_refl _), (Below.refl _ _).alloc (Nat.le_refl _) _⟩
set_option maxHeartbeats 400000 in
theorem rtext_ok (s : ByteArray) (w : World) (h2 : s.size ≤ 4294967295) :
    Calls Tryz.prog 46 #[.string s] w fun e w' => ∃ v, e = .returned v ∧ Ow w' w.heap.size 5 v ((textB s).map bv) ∧ Below w.heap.size w w' := by
  go_enter Tryz.func46, Tryz.ntmps46
  go_wp2_with fail
  refine (rnum_ok _ _ h2).mono ?_
  rintro e w1 ⟨v, rfl, ho, hb⟩
  obtain ⟨x, w2, hcv, hx, hb2, _⟩ := run_bytes (P := Tryz.prog) w1 s Tryz.underlying9 Tryz.underlying51 Tryz.underlying5 (by simp [maxLen]; omega)
  go_wp2_with (at_builtin; refine wpList_appB bytesT rfl _ _ rfl rfl (ho.below hb2) rfl hx (by simp [numB_len]; have : s.data.size = s.size := rfl; omega) (Nat.le_trans hb.size hb2.size) ?_; intro v' w' hown' hg _)
  go_ret
  exact ⟨v', rfl, hown', (hb.trans (hb2.mono hb.size)).grown hg (Nat.le_trans hb.size hb2.size) ho.ge⟩

theorem numOf_drop (l : List UInt8) (k : Nat) (h : k + 4 ≤ l.length) : (numOf (l.drop k) : Int) = 16777216 * (l[k].toNat : Int) + 65536 * (l[k + 1].toNat : Int) + 256 * (l[k + 2].toNat : Int) + (l[k + 3].toNat : Int) := by
  rw [numOf4 _ (by simp; omega)]
  simp
/-- a text that stands at a place -/
def textSize (l : List UInt8) : Nat := if textOk l then 4 + numOf l else 0
def textThere (l : List UInt8) : ByteArray := if textOk l then ⟨(textOf l).toArray⟩ else ⟨#[]⟩
/-- the same texts? -/
def sameT (a b : List ByteArray) : Bool := decide (a = b)
theorem sameT_ne (a b : List ByteArray) (h : a.length ≠ b.length) : sameT a b = false := by
  unfold sameT
  rw [decide_eq_false_iff_not]
  rintro rfl
  exact h rfl
theorem sameT_at (a b : List ByteArray) (k : Nat) (ha : k < a.length) (hb : k < b.length) (h : a[k] ≠ b[k]) : sameT a b = false := by
  unfold sameT
  rw [decide_eq_false_iff_not]
  rintro rfl
  exact h rfl
theorem sameT_all (a b : List ByteArray) (hl : a.length = b.length) (h : ∀ j (ha : j < a.length) (hb : j < b.length), a[j] = b[j]) : sameT a b = true := by
  unfold sameT
  rw [decide_eq_true_iff]
  exact List.ext_getElem hl h
end Go.Proofs.YtgcbmdolbmmljaaGreat

namespace Go.Proofs.YtgcbmdolbmmljaaGreat
open Go.RowKit

def sumS (l : List ByteArray) : Nat := (l.map ByteArray.size).sum
theorem sumS_snoc (l : List ByteArray) (k : Nat) (h : k < l.length) : sumS (l.take (k + 1)) = sumS (l.take k) + l[k].size := by
  unfold sumS
  rw [List.take_succ_eq_append_getElem h, List.map_append, List.sum_append]
  simp
/-- few texts, and short -/
def FewSaid (w : World) (l : List ByteArray) (e : Ending) (w' : World) : Prop :=
  ∃ q : Bool, e = .returned (.bool q) ∧ (q = true → l.length ≤ 100 ∧ sumS l ≤ 5000) ∧ Below w.heap.size w w'

end Go.Proofs.YtgcbmdolbmmljaaGreat

namespace Go.Proofs.YtgcbmdolbmmljaaGreat
open Go.RowKit

theorem numOf_numB (n : Nat) (h : n ≤ 4294967295) (more : List UInt8) : numOf (numB n ++ more) = n := by
  unfold numOf numB
  simp
  omega
theorem drop4 (n : Nat) (more : List UInt8) : (numB n ++ more).drop 4 = more := rfl
theorem textOk_textB (s : ByteArray) (h : s.size ≤ 4294967295) (more : List UInt8) : textOk (textB s ++ more) := by
  unfold textOk textB
  rw [List.append_assoc, numOf_numB _ h]
  simp [numB_len]
theorem textOf_textB (s : ByteArray) (h : s.size ≤ 4294967295) (more : List UInt8) : textOf (textB s ++ more) = s.data.toList := by
  unfold textOf textB
  rw [List.append_assoc, numOf_numB _ h, drop4]
  have : s.data.toList.length = s.size := rfl
  rw [← this]
  exact List.take_left
theorem textRest_textB (s : ByteArray) (h : s.size ≤ 4294967295) (more : List UInt8) : textRest (textB s ++ more) = more := by
  unfold textRest textB
  rw [List.append_assoc, numOf_numB _ h, drop4]
  have : s.data.toList.length = s.size := rfl
  rw [← this]
  exact List.drop_left
theorem allB_cons (s : ByteArray) (l : List ByteArray) : allB (s :: l) = textB s ++ allB l := rfl
theorem takeTexts_allB (l : List ByteArray) (h : ∀ s ∈ l, s.size ≤ 4294967295) (more : List UInt8) (k : Nat) (hk : k ≤ l.length) :
    takeTexts k (allB l ++ more) = some (l.take k, allB (l.drop k) ++ more) := by
  induction k with
  | zero => rfl
  | succ k ih =>
    have hlt : k < l.length := by omega
    have hs := h _ (List.getElem_mem hlt)
    rw [takeTexts_succ (ih (by omega)), List.drop_eq_getElem_cons hlt, allB_cons, List.append_assoc, if_pos (textOk_textB _ hs _), textOf_textB _ hs, textRest_textB _ hs,
      List.take_succ_eq_append_getElem hlt]
theorem takeTexts_textsB (l : List ByteArray) (h0 : l.length ≤ 4294967295) (h : ∀ s ∈ l, s.size ≤ 4294967295) (more : List UInt8) :
    takeTexts (numOf (textsB l ++ more)) ((textsB l ++ more).drop 4) = some (l, more) := by
  unfold textsB
  rw [List.append_assoc, numOf_numB _ h0, drop4, takeTexts_allB l h more _ (Nat.le_refl _)]
  simp [allB]
theorem textsB_len (l : List ByteArray) : (textsB l).length = 4 + (allB l).length := by
  unfold textsB
  rw [List.length_append]; rfl
theorem allB_len (l : List ByteArray) : (allB l).length = 4 * l.length + sumS l := by
  induction l with
  | nil => rfl
  | cons s l ih =>
    rw [allB_cons, List.length_append, ih, textB_len]
    simp [sumS]
    omega
theorem size_le_sumS {l : List ByteArray} {s : ByteArray} (h : s ∈ l) : s.size ≤ sumS l := by
  induction l with
  | nil => cases h
  | cons t l ih =>
    rcases List.mem_cons.1 h with rfl | h
    · simp [sumS]
    · have := ih h
      simp [sumS] at this ⊢
      omega

theorem textRest_len (l : List UInt8) : (textRest l).length ≤ l.length := by
  unfold textRest
  rw [List.length_drop, List.length_drop]
  omega

/-! awake -/
theorem awakeP1 : numOf [0, 0, 1, 2, 9] = 258 := rfl
def ab : ByteArray := ⟨#[97, 98]⟩
def exs : List ByteArray := [⟨#[]⟩, ⟨#[120]⟩]
theorem awakeP2 : textOf (textB ab) = [97, 98] := rfl
theorem awakeP3 : textOk (textB ab) := by have := textOk_textB ab (by decide) []; rwa [List.append_nil] at this
theorem awakeP4 : takeTexts (numOf (textsB exs)) ((textsB exs).drop 4) = some (exs, []) := by have := takeTexts_textsB exs (by decide) (by decide) []; rwa [List.append_nil] at this
end Go.Proofs.YtgcbmdolbmmljaaGreat
