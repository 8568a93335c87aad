/- The contracts of package wire, going on: lists of texts that are cut off. -/
import Derived.Test.YtlglokjehgejoaaWireC
namespace Go.Proofs.Ytlglokjehgejoaa
open Go.RowKit

theorem textT : ET Try.prog 22 9 (.string ⟨#[]⟩) 16 := ⟨Try.underlying22, by kernel_rfl⟩

/-- k texts off the beginning, and what is left -/
def takeTexts : Nat → List UInt8 → Option (List ByteArray × List UInt8)
  | 0, b => some ([], b)
  | k + 1, b => match takeTexts k b with
    | none => none
    | some (acc, m) => if textOk m then some (acc ++ [⟨(textOf m).toArray⟩], textRest m) else none

theorem takeTexts_none {k j : Nat} {b : List UInt8} (h : takeTexts k b = none) (hkj : k ≤ j) : takeTexts j b = none := by
  induction j with
  | zero => have : k = 0 := by omega
            subst this; exact h
  | succ j ih =>
    by_cases hk : k = j + 1
    · subst hk; exact h
    · simp only [takeTexts, ih (by omega)]
theorem takeTexts_len {k : Nat} {b m : List UInt8} {acc : List ByteArray} (h : takeTexts k b = some (acc, m)) : acc.length = k ∧ m.length + 4 * k ≤ b.length := by
  induction k generalizing acc m with
  | zero => simp only [takeTexts, Option.some.injEq, Prod.mk.injEq] at h; obtain ⟨rfl, rfl⟩ := h; simp
  | succ k ih =>
    simp only [takeTexts] at h
    split at h
    · cases h
    · rename_i acc' m' he
      obtain ⟨h1, h2⟩ := ih he
      split at h
      · rename_i hok
        simp only [Option.some.injEq, Prod.mk.injEq] at h
        obtain ⟨rfl, rfl⟩ := h
        have := hok.1
        refine ⟨by simp [h1], ?_⟩
        simp only [textRest, List.length_drop]
        omega
      · cases h
theorem takeTexts_succ {k : Nat} {b m : List UInt8} {acc : List ByteArray} (h : takeTexts k b = some (acc, m)) : takeTexts (k + 1) b = if textOk m then some (acc ++ [⟨(textOf m).toArray⟩], textRest m) else none := by
  simp only [takeTexts, h]

def Posts (p : Prop) : Prop := p

set_option maxHeartbeats 400000 in
theorem splitTexts_short (x : Value) (l : List UInt8) (B : Nat) (w : World) (hr : Rd w B x (l.map bv)) (h : l.length < 4) :
    Calls Try.prog 29 #[x] w fun e w' => e = .returned (.tuple #[.slice none 0 0, .slice none 0 0, .bool false]) ∧ w = w' := by
  go_enter Try.func29, Try.ntmps29
  go_wp2_with fail
  refine (splitNum_no _ _ B _ hr (by omega)).mono ?_
  rintro e w1 ⟨rfl, rfl⟩
  go_wp2_with fail
  go_ret3
  exact ⟨rfl, rfl⟩

def TextsEnd (w : World) (B : Nat) (l : List UInt8) (e : Ending) (w' : World) : Prop :=
  match takeTexts (numOf l) (l.drop 4) with
  | none => e = .returned (.tuple #[.slice none 0 0, .slice none 0 0, .bool false]) ∧ Below w.heap.size w w'
  | some (acc, m) => ∃ v r, e = .returned (.tuple #[v, r, .bool true]) ∧ Ow w' w.heap.size 9 v (acc.map sv) ∧ Rd w' B r (m.map bv) ∧ Below w.heap.size w w'

set_option maxHeartbeats 1000000 in
theorem splitTexts_any (x : Value) (l : List UInt8) (B : Nat) (w : World) (hB : B ≤ w.heap.size) (hr : Rd w B x (l.map bv)) (h : 4 ≤ l.length) :
    Calls Try.prog 29 #[x] w (TextsEnd w B l) := by
  have hn := numOf_lt l
  go_enter Try.func29, Try.ntmps29
  go_wp2_with fail
  refine (splitNum_ok _ _ B _ hr h).mono ?_
  rintro e w1 ⟨r, rfl, hr1, hb⟩
  go_wp2_with fail
  go_loopw [6, 8, 19] (fun r v i wr => ∃ (k : Nat) (acc : List ByteArray) (m : List UInt8), k ≤ numOf l ∧ i = .int .i64 k ∧ takeTexts k (l.drop 4) = some (acc, m) ∧ Ow wr w.heap.size 9 v (acc.map sv) ∧ Rd wr B r (m.map bv) ∧ Below w.heap.size w wr) (fun _ _ i _ => numOf l - (intOf i).toNat)
  case atStart => exact ⟨0, [], _, Nat.zero_le _, rfl, rfl, Ow.nil _ _ _, hr1, hb⟩
  case round =>
    obtain ⟨k, acc, m, hk, rfl, htk, hok, hrk, hbk⟩ := hrel
    have HT := Lib.hid htk
    clear htk
    by_cases hlt : k < numOf l
    · by_cases hm : textOk m
      · go_wp2_with fail
        refine (splitText_ok _ _ B _ hrk hm).mono ?_
        rintro e w2 ⟨r2, rfl, hr2, hb2⟩
        have hlen := (takeTexts_len HT.out).1
        have hs2 := Nat.le_trans hbk.size hb2.size
        have hsz : ((acc.map sv).length + [sv ⟨(textOf m).toArray⟩].length) * 16 ≤ 140737488355328 := by simp; omega
        have hsz2 : (acc.map sv).length + [sv ⟨(textOf m).toArray⟩].length ≤ maxLen := by simp [maxLen]; omega
        have HL := Lib.hid hlen
        clear hlen
        go_wp2_with (at_builtin; refine wpList_app textT rfl rfl _ _ rfl rfl ((hok.below hb2).below ((Below.refl _ _).alloc (Nat.le_refl _) _)) rfl (Rd.new _ _ _ rfl (by simp [maxLen]) rfl) (one_sv [⟨(textOf m).toArray⟩]) hsz2 hsz (by simp; omega) ?_; intro v' w' hown' hg _)
        go_roundw
        case rel =>
          refine ⟨k + 1, acc ++ [⟨(textOf m).toArray⟩], textRest m, by omega, by go_num, ?_, ?_, ?_, ?_⟩
          · rw [takeTexts_succ HT.out, if_pos hm]
          · rw [List.map_append]; exact hown'
          · exact ((hr2.below ((Below.refl _ _).alloc (Nat.le_trans hB hs2) _)).below ((bwgrown hg hok.ge (by simp; omega)).mono hB))
          · exact ((hbk.trans (hb2.mono hbk.size)).alloc hs2 _).trans (bwgrown hg hok.ge (by simp; omega))
        case measure => simp [intOf]; omega
      · go_wp2_with fail
        refine (splitText_no _ _ B _ hrk hm).mono ?_
        rintro e w2 ⟨rfl, hb2⟩
        go_wp2_with fail
        go_ret3
        unfold TextsEnd
        rw [takeTexts_none (j := numOf l) (by rw [takeTexts_succ HT.out, if_neg hm]) (by omega)]
        exact ⟨rfl, hbk.trans (hb2.mono hbk.size)⟩
    · go_wp2_with fail
      go_ret3
      have : k = numOf l := by omega
      subst this
      unfold TextsEnd
      rw [HT.out]
      exact ⟨_, _, rfl, hok, hrk, hbk⟩

/-! The exported calls. -/
set_option maxHeartbeats 400000 in
theorem cutNum_no (x : Value) (l : List UInt8) (B : Nat) (w : World) (hr : Rd w B x (l.map bv)) (h : l.length < 4) :
    Calls Try.prog 18 #[x] w fun e w' => ∃ r, e = .returned (.tuple #[.int .i64 0, r, .bool false]) ∧ Ow w' w.heap.size 5 r (([] : List UInt8).map bv) ∧ Below w.heap.size w w' := by
  go_enter Try.func18, Try.ntmps18
  go_wp2_with fail
  refine (splitNum_no _ _ B _ hr h).mono ?_
  rintro e w1 ⟨rfl, rfl⟩
  go_wp2_with fail
  refine (own_int 0 false _ [] w.heap.size _ (Rd.nil _ _) (by simp)).mono ?_
  rintro e w2 ⟨r, rfl, ho, hb⟩
  go_wp2_with fail
  go_ret3
  exact ⟨r, rfl, ho, hb⟩
set_option maxHeartbeats 400000 in
theorem cutNum_ok (x : Value) (l : List UInt8) (B : Nat) (w : World) (hr : Rd w B x (l.map bv)) (h : 4 ≤ l.length) (hl : l.length ≤ 1000000000000) :
    Calls Try.prog 18 #[x] w fun e w' => ∃ r, e = .returned (.tuple #[.int .i64 (numOf l), r, .bool true]) ∧ Ow w' w.heap.size 5 r ((l.drop 4).map bv) ∧ Below w.heap.size w w' := by
  go_enter Try.func18, Try.ntmps18
  go_wp2_with fail
  refine (splitNum_ok _ _ B _ hr h).mono ?_
  rintro e w1 ⟨r1, rfl, hr1, hb1⟩
  go_wp2_with fail
  refine (own_int _ true _ _ B _ hr1 (by simp; omega)).mono ?_
  rintro e w2 ⟨r, rfl, ho, hb⟩
  go_wp2_with fail
  go_ret3
  exact ⟨r, rfl, ho.mono hb1.size, bwtrans hb1 hb (Nat.le_refl _)⟩
set_option maxHeartbeats 400000 in
theorem cutText_no (x : Value) (l : List UInt8) (B : Nat) (w : World) (hr : Rd w B x (l.map bv)) (h : ¬ textOk l) :
    Calls Try.prog 19 #[x] w fun e w' => ∃ r, e = .returned (.tuple #[.string ⟨#[]⟩, r, .bool false]) ∧ Ow w' w.heap.size 5 r (([] : List UInt8).map bv) ∧ Below w.heap.size w w' := by
  go_enter Try.func19, Try.ntmps19
  go_wp2_with fail
  refine (splitText_no _ _ B _ hr h).mono ?_
  rintro e w1 ⟨rfl, hb1⟩
  go_wp2_with fail
  refine (own_str _ false _ [] w1.heap.size _ (Rd.nil _ _) (by simp)).mono ?_
  rintro e w2 ⟨r, rfl, ho, hb⟩
  go_wp2_with fail
  go_ret3
  exact ⟨r, rfl, ho.mono hb1.size, bwtrans hb1 hb (Nat.le_refl _)⟩
set_option maxHeartbeats 400000 in
theorem cutText_ok (x : Value) (l : List UInt8) (B : Nat) (w : World) (hr : Rd w B x (l.map bv)) (h : textOk l) (hl : l.length ≤ 1000000000000) :
    Calls Try.prog 19 #[x] w fun e w' => ∃ r, e = .returned (.tuple #[.string ⟨(textOf l).toArray⟩, r, .bool true]) ∧ Ow w' w.heap.size 5 r ((textRest l).map bv) ∧ Below w.heap.size w w' := by
  go_enter Try.func19, Try.ntmps19
  go_wp2_with fail
  refine (splitText_ok _ _ B _ hr h).mono ?_
  rintro e w1 ⟨r1, rfl, hr1, hb1⟩
  go_wp2_with fail
  refine (own_str _ true _ _ B _ hr1 (by simp [textRest]; omega)).mono ?_
  rintro e w2 ⟨r, rfl, ho, hb⟩
  go_wp2_with fail
  go_ret3
  exact ⟨r, rfl, ho.mono hb1.size, bwtrans hb1 hb (Nat.le_refl _)⟩
set_option maxHeartbeats 400000 in
theorem cutTexts_short (x : Value) (l : List UInt8) (B : Nat) (w : World) (hr : Rd w B x (l.map bv)) (h : l.length < 4) :
    Calls Try.prog 22 #[x] w fun e w' => ∃ r, e = .returned (.tuple #[.slice none 0 0, r, .bool false]) ∧ Ow w' w.heap.size 5 r (([] : List UInt8).map bv) ∧ Below w.heap.size w w' := by
  go_enter Try.func22, Try.ntmps22
  go_wp2_with fail
  refine (splitTexts_short _ _ B _ hr h).mono ?_
  rintro e w1 ⟨rfl, rfl⟩
  go_wp2_with fail
  refine (own_strs _ _ _ false _ [] w.heap.size _ (Rd.nil _ _) (by simp)).mono ?_
  rintro e w2 ⟨r, rfl, ho, hb⟩
  go_wp2_with fail
  go_ret3
  exact ⟨r, rfl, ho, hb⟩
set_option maxHeartbeats 400000 in
theorem cutTexts_no (x : Value) (l : List UInt8) (B : Nat) (w : World) (hB : B ≤ w.heap.size) (hr : Rd w B x (l.map bv)) (h : 4 ≤ l.length) (hn : takeTexts (numOf l) (l.drop 4) = none) :
    Calls Try.prog 22 #[x] w fun e w' => ∃ r, e = .returned (.tuple #[.slice none 0 0, r, .bool false]) ∧ Ow w' w.heap.size 5 r (([] : List UInt8).map bv) ∧ Below w.heap.size w w' := by
  have HN := Lib.hid hn
  clear hn
  go_enter Try.func22, Try.ntmps22
  go_wp2_with fail
  refine (splitTexts_any _ _ B _ hB hr h).mono ?_
  intro e w1 he
  unfold TextsEnd at he
  rw [HN.out] at he
  obtain ⟨rfl, hb1⟩ := he
  go_wp2_with fail
  refine (own_strs _ _ _ false _ [] w1.heap.size _ (Rd.nil _ _) (by simp)).mono ?_
  rintro e w2 ⟨r, rfl, ho, hb⟩
  go_wp2_with fail
  go_ret3
  exact ⟨r, rfl, ho.mono hb1.size, bwtrans hb1 hb (Nat.le_refl _)⟩
set_option maxHeartbeats 400000 in
theorem cutTexts_ok (x : Value) (l : List UInt8) (B : Nat) (w : World) (hB : B ≤ w.heap.size) (hr : Rd w B x (l.map bv)) (h : 4 ≤ l.length) (hl : l.length ≤ 1000000000000) (acc : List ByteArray) (m : List UInt8) (hn : takeTexts (numOf l) (l.drop 4) = some (acc, m)) :
    Calls Try.prog 22 #[x] w fun e w' => ∃ v r, e = .returned (.tuple #[v, r, .bool true]) ∧ Rd w' w'.heap.size v (acc.map sv) ∧ Ow w' w.heap.size 5 r (m.map bv) ∧ Below w.heap.size w w' := by
  have HN := Lib.hid hn
  clear hn
  go_enter Try.func22, Try.ntmps22
  go_wp2_with fail
  refine (splitTexts_any _ _ B _ hB hr h).mono ?_
  intro e w1 he
  unfold TextsEnd at he
  rw [HN.out] at he
  obtain ⟨v, r1, rfl, hv, hr1, hb1⟩ := he
  obtain ⟨A, c, rfl, hc, hm⟩ := hv.rd.shapeM
  have hml : m.length ≤ 1000000000000 := by
    have := (takeTexts_len HN.out).2
    simp at this; omega
  go_wp2_with fail
  refine (own_strs _ _ _ true _ _ B _ hr1 hml).mono ?_
  rintro e w2 ⟨r, rfl, ho, hb⟩
  go_wp2_with fail
  go_ret3
  exact ⟨_, r, rfl, (hv.rd.below hb).mono hb.size, ho.mono hb1.size, bwtrans hb1 hb (Nat.le_refl _)⟩
end Go.Proofs.Ytlglokjehgejoaa
