/- The contracts of package wire. The contracts of package wire, going on: lists of texts. The contracts of package wire, going on: cutting. The contracts of package wire, going on: lists of texts that are cut off. -/
import Derived.Test.YtkpdadnmbjmfpaaDoorBase
namespace Go.Proofs.YtkpdadnmbjmfpaaDoor
open Go.RowKit

/-- a number's four bytes -/
def numB (n : Nat) : List UInt8 := [UInt8.ofNat (n / 16777216), UInt8.ofNat (n / 65536), UInt8.ofNat (n / 256), UInt8.ofNat n]
theorem numB_len (n : Nat) : (numB n).length = 4 := rfl
theorem bv_num (n : Nat) (h : n ≤ 4294967295) : (numB n).map bv = [.int .u8 ((n:Int) / 16777216), .int .u8 ((n:Int) / 65536 % 256), .int .u8 ((n:Int) / 256 % 256), .int .u8 ((n:Int) % 256)] := by
  simp [numB, bv]; omega
def textB (s : ByteArray) : List UInt8 := numB s.size ++ s.data.toList
theorem textB_len (s : ByteArray) : (textB s).length = 4 + s.size := by
  unfold textB
  rw [List.length_append]; rfl

set_option maxHeartbeats 400000 in
theorem num_bad (n : Int) (w : World) (h : n < 0 ∨ 4294967295 < n) :
    Calls Tryd.prog 30 #[.int .i64 n] w fun e w' => e = .returned (.slice none 0 0) ∧ w = w' := by
  rcases h with h | h
  · go_enter Tryd.func30, Tryd.ntmps30
    go_wp2
    go_ret
    exact ⟨rfl, rfl⟩
  · have : ¬ n < 0 := by omega
    go_enter Tryd.func30, Tryd.ntmps30
    go_wp2
    go_ret
    exact ⟨rfl, rfl⟩
set_option maxHeartbeats 400000 in
theorem num_ok (n : Nat) (w : World) (h2 : n ≤ 4294967295) :
    Calls Tryd.prog 30 #[.int .i64 (n : Int)] w fun e w' => ∃ v, e = .returned v ∧ Ow w' w.heap.size 5 v ((numB n).map bv) ∧ Below w.heap.size w w' := by
  go_enter Tryd.func30, Tryd.ntmps30
  go_wp2
  go_ret
  exact ⟨_, rfl, Ow.new _ _ rfl (by simp [maxLen]) (by rw [bv_num n h2]) (Nat.le_refl _), (Below.refl _ _).alloc (Nat.le_refl _) _⟩
set_option maxHeartbeats 400000 in
theorem text_ok (s : ByteArray) (w : World) (h2 : s.size ≤ 4294967295) :
    Calls Tryd.prog 31 #[.string s] w fun e w' => ∃ v, e = .returned v ∧ Ow w' w.heap.size 5 v ((textB s).map bv) ∧ Below w.heap.size w w' := by
  go_enter Tryd.func31, Tryd.ntmps31
  go_wp2_with fail
  refine (num_ok _ _ h2).mono ?_
  rintro e w1 ⟨v, rfl, ho, hb⟩
  go_wp2_with (at_builtin; refine wpList_appS bytesT Tryd.underlying9 rfl _ _ rfl rfl ho rfl (by simp [numB_len]; omega) hb.size ?_; intro v' w' hown' hg)
  go_ret
  exact ⟨v', rfl, hown', hb.grown hg hb.size ho.ge⟩
end Go.Proofs.YtkpdadnmbjmfpaaDoor

namespace Go.Proofs.YtkpdadnmbjmfpaaDoor
open Go.RowKit

def allB (l : List ByteArray) : List UInt8 := l.flatMap textB
def textsB (l : List ByteArray) : List UInt8 := numB l.length ++ allB l
theorem allB_snoc (l : List ByteArray) (k : Nat) (h : k < l.length) : allB (l.take (k + 1)) = allB (l.take k) ++ textB l[k] := by
  unfold allB
  rw [List.take_succ_eq_append_getElem h, List.flatMap_append]
  simp
theorem allB_take_le (l : List ByteArray) (k : Nat) : (allB (l.take k)).length ≤ (allB l).length := by
  have : allB l = allB (l.take k) ++ allB (l.drop k) := by
    unfold allB
    rw [← List.flatMap_append, List.take_append_drop]
  rw [this]; simp

end Go.Proofs.YtkpdadnmbjmfpaaDoor

namespace Go.Proofs.YtkpdadnmbjmfpaaDoor
open Go.RowKit

/-- the number at the beginning -/
def numOf (l : List UInt8) : Nat := 16777216 * (l.getD 0 0).toNat + 65536 * (l.getD 1 0).toNat + 256 * (l.getD 2 0).toNat + (l.getD 3 0).toNat

set_option maxHeartbeats 400000 in
theorem splitNum_no (x : Value) (l : List UInt8) (B : Nat) (w : World) (hr : Rd w B x (l.map bv)) (h : l.length < 4) :
    Calls Tryd.prog 36 #[x] w fun e w' => e = .returned (.tuple #[.int .i64 0, .slice none 0 0, .bool false]) ∧ w = w' := by
  obtain ⟨A, c, rfl, hc, hm⟩ := hr.shapeM
  go_enter Tryd.func36, Tryd.ntmps36
  go_wp2
  go_ret3
  exact ⟨rfl, rfl⟩

theorem numOf4 (l : List UInt8) (h : 4 ≤ l.length) : numOf l = 16777216 * l[0].toNat + 65536 * l[1].toNat + 256 * l[2].toNat + l[3].toNat := by
  unfold numOf
  simp [List.getD, List.getElem?_eq_getElem (show 0 < l.length by omega), List.getElem?_eq_getElem (show 1 < l.length by omega), List.getElem?_eq_getElem (show 2 < l.length by omega), List.getElem?_eq_getElem (show 3 < l.length by omega)]

set_option maxHeartbeats 1000000 in
theorem splitNum_ok (x : Value) (l : List UInt8) (B : Nat) (w : World) (hr : Rd w B x (l.map bv)) (h : 4 ≤ l.length) :
    Calls Tryd.prog 36 #[x] w fun e w' => ∃ r, e = .returned (.tuple #[.int .i64 (numOf l), r, .bool true]) ∧ Rd w' B r ((l.drop 4).map bv) ∧ Below w.heap.size w w' := by
  obtain ⟨A, c, rfl, hc, hm⟩ := hr.shapeM
  obtain ⟨b, off, rfl, hb, hcell⟩ := hr.cellM (by omega)
  have c0 := hcell 0 (by omega)
  have c1 := hcell 1 (by omega)
  have c2 := hcell 2 (by omega)
  have c3 := hcell 3 (by omega)
  simp only [bv, Nat.add_zero] at c0 c1 c2 c3
  have d0 := UInt8.toNat_lt l[0]
  have d1 := UInt8.toNat_lt l[1]
  have d2 := UInt8.toNat_lt l[2]
  have d3 := UInt8.toNat_lt l[3]
  clear hcell
  have hcut := hr.cutFrom (lo := 4) (by omega)
  rw [← List.map_drop] at hcut
  have HC := Lib.hid hcut
  clear hcut hr
  have hm' : c ≤ 9223372036854775807 := hm
  by_cases hc4 : c = 4
  all_goals
    go_enter Tryd.func36, Tryd.ntmps36
    go_wp2
    go_quiet (fail)
    go_wp2
    go_quiet (fail)
    go_wp2
    go_ret3
    refine ⟨_, ret3 (vi ?_) rfl rfl, ?_, below_drewN (bwN _) _⟩
    · rw [numOf4 l h]; exact or4 _ _ _ _ d0 d1 d2 d3
    · have h2 := HC.out
      simp only [hc4, if_true, if_false] at h2
      exact h2.below (below_drewN (below_drewN (Below.refl _ _) _) _)

/-- is a text whole at the beginning? -/
def textOk (l : List UInt8) : Prop := 4 ≤ l.length ∧ numOf l ≤ l.length - 4
instance (l : List UInt8) : Decidable (textOk l) := by unfold textOk; infer_instance
def textOf (l : List UInt8) : List UInt8 := (l.drop 4).take (numOf l)
def textRest (l : List UInt8) : List UInt8 := (l.drop 4).drop (numOf l)
theorem numOf_lt (l : List UInt8) : numOf l < 4294967296 := by
  unfold numOf
  have d0 := UInt8.toNat_lt (l.getD 0 0)
  have d1 := UInt8.toNat_lt (l.getD 1 0)
  have d2 := UInt8.toNat_lt (l.getD 2 0)
  have d3 := UInt8.toNat_lt (l.getD 3 0)
  omega

set_option maxHeartbeats 400000 in
theorem splitText_no (x : Value) (l : List UInt8) (B : Nat) (w : World) (hr : Rd w B x (l.map bv)) (h : ¬ textOk l) :
    Calls Tryd.prog 38 #[x] w fun e w' => e = .returned (.tuple #[.string ⟨#[]⟩, .slice none 0 0, .bool false]) ∧ Below w.heap.size w w' := by
  by_cases h4 : 4 ≤ l.length
  · have hn : l.length - 4 < numOf l := by
      unfold textOk at h; omega
    have hlt := numOf_lt l
    go_enter Tryd.func38, Tryd.ntmps38
    go_wp2_with fail
    refine (splitNum_ok _ _ B _ hr h4).mono ?_
    rintro e w1 ⟨r, rfl, hr1, hb⟩
    obtain ⟨A, c, rfl, hc, hm⟩ := hr1.shapeM
    go_wp2_with fail
    go_ret3
    exact ⟨rfl, hb⟩
  · go_enter Tryd.func38, Tryd.ntmps38
    go_wp2_with fail
    refine (splitNum_no _ _ B _ hr (by omega)).mono ?_
    rintro e w1 ⟨rfl, rfl⟩
    go_wp2_with fail
    go_ret3
    exact ⟨rfl, Below.refl _ _⟩

set_option maxHeartbeats 1000000 in
theorem splitText_ok (x : Value) (l : List UInt8) (B : Nat) (w : World) (hr : Rd w B x (l.map bv)) (h : textOk l) :
    Calls Tryd.prog 38 #[x] w fun e w' => ∃ r, e = .returned (.tuple #[.string ⟨(textOf l).toArray⟩, r, .bool true]) ∧ Rd w' B r ((textRest l).map bv) ∧ Below w.heap.size w w' := by
  obtain ⟨h4, hn⟩ := h
  go_enter Tryd.func38, Tryd.ntmps38
  go_wp2_with fail
  refine (splitNum_ok _ _ B _ hr h4).mono ?_
  rintro e w1 ⟨r, rfl, hr1, hb⟩
  obtain ⟨A, c, rfl, hc, hm⟩ := hr1.shapeM
  have hm' : c ≤ 9223372036854775807 := hm
  rw [List.length_drop] at hr1 hc ⊢
  have hlt := numOf_lt l
  have hcl : numOf l ≤ c := by omega
  have H1 := hr1.cutTo (hi := numOf l) hn
  have HR := Lib.hid hr1
  rw [← List.map_take] at H1
  clear hr1
  have hcv := fun k => run_str (P := Tryd.prog) (w := w1.drewN k) Tryd.underlying41 Tryd.underlying5 Tryd.underlying9 (l := textOf l) (D := B) (H1.below (below_drewN (Below.refl _ _) k))
  clear H1
  by_cases hcc : c = numOf l
  · subst hcc
    go_wp2
    go_quiet (fail)
    go_wp2
    go_ret3
    exact ⟨_, rfl, by unfold textRest; rw [List.map_drop]; exact (HR.out.fromEnd hn).below (bwN' _ _), below_drewN hb _⟩
  · go_wp2
    go_quiet (fail)
    go_wp2
    go_ret3
    exact ⟨_, rfl, by unfold textRest; rw [List.map_drop]; exact (HR.out.from_ hn hcc).below (bwN' _ _), below_drewN hb _⟩

/-! own: the rest, copied -/
set_option maxHeartbeats 400000 in
theorem own_int (n : Int) (ok : Bool) (x : Value) (l : List UInt8) (B : Nat) (w : World) (hr : Rd w B x (l.map bv)) (hl : l.length ≤ 1000000000000) :
    Calls Tryd.prog 35 #[.int .i64 n, x, .bool ok] w fun e w' => ∃ r, e = .returned (.tuple #[.int .i64 n, r, .bool ok]) ∧ Ow w' w.heap.size 5 r (l.map bv) ∧ Below w.heap.size w w' := by
  go_enter Tryd.func35, Tryd.ntmps35
  go_wp2_with (at_builtin; refine wpList_appB bytesT rfl _ _ rfl rfl (Ow.nilB w w.heap.size 5) rfl hr (by simp; omega) (Nat.le_refl _) ?_; intro v' w' hown' hg _)
  go_ret3
  exact ⟨v', rfl, hown', (Below.refl _ _).grown hg (Nat.le_refl _) (fun k hk => by cases hk)⟩
set_option maxHeartbeats 400000 in
theorem own_str (s : ByteArray) (ok : Bool) (x : Value) (l : List UInt8) (B : Nat) (w : World) (hr : Rd w B x (l.map bv)) (hl : l.length ≤ 1000000000000) :
    Calls Tryd.prog 37 #[.string s, x, .bool ok] w fun e w' => ∃ r, e = .returned (.tuple #[.string s, r, .bool ok]) ∧ Ow w' w.heap.size 5 r (l.map bv) ∧ Below w.heap.size w w' := by
  go_enter Tryd.func37, Tryd.ntmps37
  go_wp2_with (at_builtin; refine wpList_appB bytesT rfl _ _ rfl rfl (Ow.nilB w w.heap.size 5) rfl hr (by simp; omega) (Nat.le_refl _) ?_; intro v' w' hown' hg _)
  go_ret3
  exact ⟨v', rfl, hown', (Below.refl _ _).grown hg (Nat.le_refl _) (fun k hk => by cases hk)⟩
end Go.Proofs.YtkpdadnmbjmfpaaDoor

namespace Go.Proofs.YtkpdadnmbjmfpaaDoor
open Go.RowKit

theorem textT : ET Tryd.prog 40 9 (.string ⟨#[]⟩) 16 := ⟨Tryd.underlying40, by kernel_rfl⟩

/-- k texts off the beginning, and what is left -/
def takeTexts : Nat → List UInt8 → Option (List ByteArray × List UInt8)
  | 0, b => some ([], b)
  | k + 1, b => match takeTexts k b with
    | none => none
    | some (acc, m) => if textOk m then some (acc ++ [⟨(textOf m).toArray⟩], textRest m) else none

theorem takeTexts_none {k j : Nat} {b : List UInt8} (h : takeTexts k b = none) (hkj : k ≤ j) : takeTexts j b = none := by
  induction j with
  | zero => have : k = 0 := by omega
            subst this; exact h
  | succ j ih =>
    by_cases hk : k = j + 1
    · subst hk; exact h
    · simp only [takeTexts, ih (by omega)]
theorem takeTexts_len {k : Nat} {b m : List UInt8} {acc : List ByteArray} (h : takeTexts k b = some (acc, m)) : acc.length = k ∧ m.length + 4 * k ≤ b.length := by
  induction k generalizing acc m with
  | zero => simp only [takeTexts, Option.some.injEq, Prod.mk.injEq] at h; obtain ⟨rfl, rfl⟩ := h; simp
  | succ k ih =>
    simp only [takeTexts] at h
    split at h
    · cases h
    · rename_i acc' m' he
      obtain ⟨h1, h2⟩ := ih he
      split at h
      · rename_i hok
        simp only [Option.some.injEq, Prod.mk.injEq] at h
        obtain ⟨rfl, rfl⟩ := h
        have := hok.1
        refine ⟨by simp [h1], ?_⟩
        simp only [textRest, List.length_drop]
        omega
      · cases h
theorem takeTexts_succ {k : Nat} {b m : List UInt8} {acc : List ByteArray} (h : takeTexts k b = some (acc, m)) : takeTexts (k + 1) b = if textOk m then some (acc ++ [⟨(textOf m).toArray⟩], textRest m) else none := by
  simp only [takeTexts, h]

def Posts (p : Prop) : Prop := p

def TextsEnd (w : World) (B : Nat) (l : List UInt8) (e : Ending) (w' : World) : Prop :=
  match takeTexts (numOf l) (l.drop 4) with
  | none => e = .returned (.tuple #[.slice none 0 0, .slice none 0 0, .bool false]) ∧ Below w.heap.size w w'
  | some (acc, m) => ∃ v r, e = .returned (.tuple #[v, r, .bool true]) ∧ Ow w' w.heap.size 9 v (acc.map sv) ∧ Rd w' B r (m.map bv) ∧ Below w.heap.size w w'

/-! The exported calls. -/
set_option maxHeartbeats 400000 in
theorem cutNum_no (x : Value) (l : List UInt8) (B : Nat) (w : World) (hr : Rd w B x (l.map bv)) (h : l.length < 4) :
    Calls Tryd.prog 32 #[x] w fun e w' => ∃ r, e = .returned (.tuple #[.int .i64 0, r, .bool false]) ∧ Ow w' w.heap.size 5 r (([] : List UInt8).map bv) ∧ Below w.heap.size w w' := by
  go_enter Tryd.func32, Tryd.ntmps32
  go_wp2_with fail
  refine (splitNum_no _ _ B _ hr h).mono ?_
  rintro e w1 ⟨rfl, rfl⟩
  go_wp2_with fail
  refine (own_int 0 false _ [] w.heap.size _ (Rd.nil _ _) (by simp)).mono ?_
  rintro e w2 ⟨r, rfl, ho, hb⟩
  go_wp2_with fail
  go_ret3
  exact ⟨r, rfl, ho, hb⟩
set_option maxHeartbeats 400000 in
theorem cutNum_ok (x : Value) (l : List UInt8) (B : Nat) (w : World) (hr : Rd w B x (l.map bv)) (h : 4 ≤ l.length) (hl : l.length ≤ 1000000000000) :
    Calls Tryd.prog 32 #[x] w fun e w' => ∃ r, e = .returned (.tuple #[.int .i64 (numOf l), r, .bool true]) ∧ Ow w' w.heap.size 5 r ((l.drop 4).map bv) ∧ Below w.heap.size w w' := by
  go_enter Tryd.func32, Tryd.ntmps32
  go_wp2_with fail
  refine (splitNum_ok _ _ B _ hr h).mono ?_
  rintro e w1 ⟨r1, rfl, hr1, hb1⟩
  go_wp2_with fail
  refine (own_int _ true _ _ B _ hr1 (by simp; omega)).mono ?_
  rintro e w2 ⟨r, rfl, ho, hb⟩
  go_wp2_with fail
  go_ret3
  exact ⟨r, rfl, ho.mono hb1.size, bwtrans hb1 hb (Nat.le_refl _)⟩
set_option maxHeartbeats 400000 in
theorem cutText_no (x : Value) (l : List UInt8) (B : Nat) (w : World) (hr : Rd w B x (l.map bv)) (h : ¬ textOk l) :
    Calls Tryd.prog 33 #[x] w fun e w' => ∃ r, e = .returned (.tuple #[.string ⟨#[]⟩, r, .bool false]) ∧ Ow w' w.heap.size 5 r (([] : List UInt8).map bv) ∧ Below w.heap.size w w' := by
  go_enter Tryd.func33, Tryd.ntmps33
  go_wp2_with fail
  refine (splitText_no _ _ B _ hr h).mono ?_
  rintro e w1 ⟨rfl, hb1⟩
  go_wp2_with fail
  refine (own_str _ false _ [] w1.heap.size _ (Rd.nil _ _) (by simp)).mono ?_
  rintro e w2 ⟨r, rfl, ho, hb⟩
  go_wp2_with fail
  go_ret3
  exact ⟨r, rfl, ho.mono hb1.size, bwtrans hb1 hb (Nat.le_refl _)⟩
set_option maxHeartbeats 400000 in
theorem cutText_ok (x : Value) (l : List UInt8) (B : Nat) (w : World) (hr : Rd w B x (l.map bv)) (h : textOk l) (hl : l.length ≤ 1000000000000) :
    Calls Tryd.prog 33 #[x] w fun e w' => ∃ r, e = .returned (.tuple #[.string ⟨(textOf l).toArray⟩, r, .bool true]) ∧ Ow w' w.heap.size 5 r ((textRest l).map bv) ∧ Below w.heap.size w w' := by
  go_enter Tryd.func33, Tryd.ntmps33
  go_wp2_with fail
  refine (splitText_ok _ _ B _ hr h).mono ?_
  rintro e w1 ⟨r1, rfl, hr1, hb1⟩
  go_wp2_with fail
  refine (own_str _ true _ _ B _ hr1 (by simp [textRest]; omega)).mono ?_
  rintro e w2 ⟨r, rfl, ho, hb⟩
  go_wp2_with fail
  go_ret3
  exact ⟨r, rfl, ho.mono hb1.size, bwtrans hb1 hb (Nat.le_refl _)⟩
end Go.Proofs.YtkpdadnmbjmfpaaDoor
