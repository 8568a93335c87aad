/- The contracts of the reference functions of layer 1. -/
import Derived.Test.YtffkbepcdidnjaaWir
import Derived.Test.YtffkbepcdidnjaaSame
namespace Go.Proofs.Ytffkbepcdidnjaa
open Go.RowKit

set_option maxHeartbeats 400000 in
theorem rnum_bad (n : Int) (w : World) (h : n < 0 ∨ 4294967295 < n) :
    Calls Try.prog 31 #[.int .i64 n] w fun e w' => e = .returned (.slice none 0 0) ∧ w = w' := by
  rcases h with h | h
  · go_enter Try.func31, Try.ntmps31
    go_wp2
    go_ret
    exact ⟨rfl, rfl⟩
  · have : ¬ n < 0 := by omega
    go_enter Try.func31, Try.ntmps31
    go_wp2
    go_ret
    exact ⟨rfl, rfl⟩
set_option maxHeartbeats 400000 in
theorem rnum_ok (n : Nat) (w : World) (h2 : n ≤ 4294967295) :
    Calls Try.prog 31 #[.int .i64 (n : Int)] w fun e w' => ∃ v, e = .returned v ∧ Ow w' w.heap.size 5 v ((numB n).map bv) ∧ Below w.heap.size w w' := by
  go_enter Try.func31, Try.ntmps31
  go_wp2
  go_ret
  exact ⟨_, rfl, Ow.new _ _ rfl (by simp [maxLen]) (by rw [bv_num n h2]) (Nat.le_refl _), (Below.refl _ _).alloc (Nat.le_refl _) _⟩
set_option maxHeartbeats 400000 in
theorem rtext_ok (s : ByteArray) (w : World) (h2 : s.size ≤ 4294967295) :
    Calls Try.prog 30 #[.string s] w fun e w' => ∃ v, e = .returned v ∧ Ow w' w.heap.size 5 v ((textB s).map bv) ∧ Below w.heap.size w w' := by
  go_enter Try.func30, Try.ntmps30
  go_wp2_with fail
  refine (rnum_ok _ _ h2).mono ?_
  rintro e w1 ⟨v, rfl, ho, hb⟩
  obtain ⟨x, w2, hcv, hx, hb2, _⟩ := run_bytes (P := Try.prog) w1 s Try.underlying9 Try.underlying31 Try.underlying5 (by simp [maxLen]; omega)
  go_wp2_with (at_builtin; refine wpList_appB bytesT rfl _ _ rfl rfl (ho.below hb2) rfl hx (by simp [numB_len]; have : s.data.size = s.size := rfl; omega) (Nat.le_trans hb.size hb2.size) ?_; intro v' w' hown' hg _)
  go_ret
  exact ⟨v', rfl, hown', (hb.trans (hb2.mono hb.size)).grown hg (Nat.le_trans hb.size hb2.size) ho.ge⟩

theorem numOf_drop (l : List UInt8) (k : Nat) (h : k + 4 ≤ l.length) : (numOf (l.drop k) : Int) = 16777216 * (l[k].toNat : Int) + 65536 * (l[k + 1].toNat : Int) + 256 * (l[k + 2].toNat : Int) + (l[k + 3].toNat : Int) := by
  rw [numOf4 _ (by simp; omega)]
  simp
/-- a text that stands at a place -/
def textSize (l : List UInt8) : Nat := if textOk l then 4 + numOf l else 0
def textThere (l : List UInt8) : ByteArray := if textOk l then ⟨(textOf l).toArray⟩ else ⟨#[]⟩
/-- the same texts? -/
def sameT (a b : List ByteArray) : Bool := decide (a = b)
theorem sameT_ne (a b : List ByteArray) (h : a.length ≠ b.length) : sameT a b = false := by
  unfold sameT
  rw [decide_eq_false_iff_not]
  rintro rfl
  exact h rfl
theorem sameT_at (a b : List ByteArray) (k : Nat) (ha : k < a.length) (hb : k < b.length) (h : a[k] ≠ b[k]) : sameT a b = false := by
  unfold sameT
  rw [decide_eq_false_iff_not]
  rintro rfl
  exact h rfl
theorem sameT_all (a b : List ByteArray) (hl : a.length = b.length) (h : ∀ j (ha : j < a.length) (hb : j < b.length), a[j] = b[j]) : sameT a b = true := by
  unfold sameT
  rw [decide_eq_true_iff]
  exact List.ext_getElem hl h
end Go.Proofs.Ytffkbepcdidnjaa
