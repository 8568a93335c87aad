/- The contracts of the reference functions of layer 1. -/
import Derived.Test.YtiiibiajkhkplaaWir
import Derived.Test.YtiiibiajkhkplaaSame
namespace Go.Proofs.Ytiiibiajkhkplaa
open Go.RowKit

theorem numOf_drop (l : List UInt8) (k : Nat) (h : k + 4 ≤ l.length) : (numOf (l.drop k) : Int) = 16777216 * (l[k].toNat : Int) + 65536 * (l[k + 1].toNat : Int) + 256 * (l[k + 2].toNat : Int) + (l[k + 3].toNat : Int) := by
  rw [numOf4 _ (by simp; omega)]
  simp
/-- a text that stands at a place -/
def textSize (l : List UInt8) : Nat := if textOk l then 4 + numOf l else 0
def textThere (l : List UInt8) : ByteArray := if textOk l then ⟨(textOf l).toArray⟩ else ⟨#[]⟩
/-- the same texts? -/
def sameT (a b : List ByteArray) : Bool := decide (a = b)
theorem sameT_ne (a b : List ByteArray) (h : a.length ≠ b.length) : sameT a b = false := by
  unfold sameT
  rw [decide_eq_false_iff_not]
  rintro rfl
  exact h rfl
theorem sameT_at (a b : List ByteArray) (k : Nat) (ha : k < a.length) (hb : k < b.length) (h : a[k] ≠ b[k]) : sameT a b = false := by
  unfold sameT
  rw [decide_eq_false_iff_not]
  rintro rfl
  exact h rfl
theorem sameT_all (a b : List ByteArray) (hl : a.length = b.length) (h : ∀ j (ha : j < a.length) (hb : j < b.length), a[j] = b[j]) : sameT a b = true := by
  unfold sameT
  rw [decide_eq_true_iff]
  exact List.ext_getElem hl h
set_option maxHeartbeats 1000000 in
theorem rstrings_any (x y : Value) (a b : List ByteArray) (B D : Nat) (w : World) (hB : B ≤ w.heap.size) (hD : D ≤ w.heap.size) (hx : Rd w B x (a.map sv)) (hy : Rd w D y (b.map sv)) :
    Calls Try.prog 18 #[x, y] w fun e w' => e = .returned (.bool (sameT a b)) ∧ Below w.heap.size w w' := by
  obtain ⟨A1, c1, rfl, hc1, hm1⟩ := hx.shapeM
  obtain ⟨A2, c2, rfl, hc2, hm2⟩ := hy.shapeM
  have hm1' : c1 ≤ 9223372036854775807 := hm1
  have hm2' : c2 ≤ 9223372036854775807 := hm2
  by_cases hl : a.length = b.length
  · have HL := Lib.hid hl
    have hl1 : ((a.length : Int) != (b.length : Int)) = false := by simp [hl]
    clear hl
    go_enter Try.func18, Try.ntmps18
    go_wp2_with fail
    go_loopw [5] (fun i wr => ∃ k : Nat, k ≤ a.length ∧ i = .int .i64 k ∧ (∀ j (ha : j < a.length) (hb : j < b.length), j < k → a[j] = b[j]) ∧ Below w.heap.size w wr) (fun i _ => a.length - (intOf i).toNat)
    case atStart => exact ⟨0, Nat.zero_le _, rfl, fun j _ _ h => absurd h (by omega), Below.refl _ _⟩
    case round =>
      obtain ⟨k, hk, rfl, hsame, hbk⟩ := hrel
      have HS := Lib.hid hsame
      clear hsame
      by_cases hlt : k < a.length
      · have hlt2 : k < b.length := by rw [← HL.out]; exact hlt
        obtain ⟨b1, o1, rfl, -, hcell1⟩ := (hx.below (hbk.mono hB)).cellM (by omega)
        obtain ⟨b2, o2, rfl, -, hcell2⟩ := (hy.below (hbk.mono hD)).cellM (by omega)
        have k1 := hcell1 k hlt
        have k2 := hcell2 k hlt2
        simp only [sv] at k1 k2
        clear hcell1 hcell2 
        by_cases he : a[k] = b[k]
        · have he1 := str_eq he
          have HE := Lib.hid he
          clear he
          go_wp2_with fail
          go_quiet (fail)
          go_wp2_with fail
          go_roundw
          case rel =>
            refine ⟨k + 1, by omega, by go_num, fun j ha hb hj => ?_, below_drewN hbk _⟩
            by_cases hjk : j = k
            · subst hjk; exact HE.out
            · exact HS.out j ha hb (by omega)
          case measure => simp [intOf]; omega
        · have he1 := str_ne he
          have HE := Lib.hid he
          clear he
          go_wp2_with fail
          go_quiet (fail)
          go_wp2_with fail
          go_ret
          exact ⟨ret1 (vb (sameT_at a b k hlt hlt2 HE.out).symm), below_drewN hbk _⟩
      · go_wp2_with fail
        go_ret
        exact ⟨ret1 (vb (sameT_all a b HL.out fun j ha hb => HS.out j ha hb (by omega)).symm), hbk⟩
  · have hne : ((a.length : Int) != (b.length : Int)) = true := by simp; omega
    go_enter Try.func18, Try.ntmps18
    go_wp2_with fail
    go_ret
    exact ⟨ret1 (vb (sameT_ne a b hl).symm), Below.refl _ _⟩
end Go.Proofs.Ytiiibiajkhkplaa
