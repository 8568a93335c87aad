/- The statements of layer 1: their walks, going on. -/
import Derived.Test.YtlglokjehgejoaaWireM
namespace Go.Proofs.Ytlglokjehgejoaa
open Go.RowKit

set_option maxHeartbeats 4000000 in
set_option maxRecDepth 100000 in
theorem wireBack_walk (n : Int) (s : ByteArray) (x : Value) (l : List ByteArray) (y : Value) (m : List UInt8) (w : World) (hn : (Lit.int .u32 n).wf = true) (hs : s.size ≤ 140737488351232)
    (hx : Rd w w.heap.size x (l.map sv)) (_hl : l.length ≤ 140737488351232) (hm : ∀ s ∈ l, s.size ≤ 140737488351232) (hy : Rd w w.heap.size y (m.map bv)) (_hml : m.length ≤ 140737488351232) :
    Calls Try.prog 6 #[.int .u32 n, .string s, x, y] w fun e w' => e = .returned (.bool true) ∧ Below w.heap.size w w' := by
  have hn2 : 0 ≤ n ∧ n ≤ 4294967295 := by
    simp [Lit.wf, IntKind.min, IntKind.max, IntKind.signed, IntKind.bits] at hn
    omega
  obtain ⟨k, rfl⟩ := Int.eq_ofNat_of_zero_le hn2.1
  have hk : k ≤ 4294967295 := by omega
  clear hn hn2
  have HM := Lib.hid hm
  clear hm
  obtain ⟨A, c, rfl, hc, hcm⟩ := hy.shapeM
  by_cases h3 : s.size ≤ 3000
  · go_enter Try.func6, Try.ntmps6
    go_wp2_with fail
    refine (awake_ok _).mono ?_
    rintro e w1 ⟨rfl, hb1⟩
    go_wp2_with fail
    refine (rfew_any _ l w.heap.size _ hb1.size (hx.below hb1) (fun s h => Nat.le_trans (HM.out s h) (by decide))).mono ?_
    rintro e w2 ⟨q, rfl, hq, hb2⟩
    have hB2 := bwstep hb1 hb2
    clear hb1 hb2
    cases q with
    | false =>
      go_wp2_with fail
      refine (awake_ok _).mono ?_
      rintro e w3 ⟨rfl, hb3⟩
      go_wp2_with fail
      go_ret
      exact ⟨rfl, bwstep hB2 hb3⟩
    | true =>
      obtain ⟨hl1, hl2⟩ := hq rfl
      clear hq
      have HS := Lib.hid (fun s h => Nat.le_trans (size_le_sumS (l := l) (s := s) h) (Nat.le_trans hl2 (by decide : (5000 : Nat) ≤ 4294967295)))
      have hA := allB_len l
      have HA : Hid ((allB l).length ≤ 6000) := by show _ ≤ _; omega
      clear hA
      by_cases h5 : m.length ≤ 500
      · go_wp2_with fail
        refine (num_ok k _ hk).mono ?_
        rintro e w3 ⟨r3, rfl, hr3, hb3⟩
        have ho0 : Ow (w2.alloc (.cells #[] 5)) w2.heap.size 5 (.slice (some ⟨w2.heap.size, 0, none⟩) 0 0) (([] : List UInt8).map bv) := Ow.new _ _ rfl (by simp [maxLen]) rfl (Nat.le_refl _)
        have hs0 : w2.heap.size ≤ (w2.alloc (.cells #[] 5)).heap.size := by simp
        have ho3 := ho0.below hb3
        have hs3 := Nat.le_trans hs0 hb3.size
        have hB3 : Below w2.heap.size w2 w3 := ((Below.refl _ _).alloc (Nat.le_refl _) _).trans (hb3.mono hs0)
        have hR3 := hr3.rd
        clear hb3 hr3 ho0 hs0
        go_wp2_with (at_builtin; refine wpList_appB bytesT rfl _ _ rfl rfl ho3 rfl hR3 (by simp [numB_len]) hs3 ?_; intro v4 w4 ho4 hg4 hpl; clear hpl)
        have hB4 := hB3.trans (bwgrown hg4 ho3.ge hs3)
        clear hg4 hB3 hR3 ho3 hs3
        rw [List.nil_append] at ho4
        refine (text_ok _ _ (by omega)).mono ?_
        rintro e w5 ⟨r5, rfl, hr5, hb5⟩
        have hB5 := hB4.trans (hb5.mono hB4.size)
        have ho5 := ho4.below hb5
        have hR5 := hr5.rd
        have hz5 : (numB k).length + (textB s).length ≤ 140737488355328 := by rw [textB_len, numB_len]; omega
        clear hb5 hr5 ho4 hB4
        go_wp2_with (at_builtin; refine wpList_appB bytesT rfl _ _ rfl rfl ho5 rfl hR5 hz5 hB5.size ?_; intro v6 w6 ho6 hg6 hpl; clear hpl)
        have hB6 := hB5.trans (bwgrown hg6 ho5.ge hB5.size)
        clear hg6 hB5 hR5 ho5 hz5
        refine (texts_ok _ l _ (((hx.below hB2).mono hB2.size).up hB6) (by omega) HS.out (Nat.le_trans HA.out (by decide))).mono ?_
        rintro e w7 ⟨r7, rfl, hr7, hb7⟩
        have hB7 := hB6.trans (hb7.mono hB6.size)
        have ho7 := ho6.below hb7
        have hR7 := hr7.rd
        have hz7 : (numB k ++ textB s).length + (textsB l).length ≤ 140737488355328 := by
          have := HA.out
          rw [List.length_append, textB_len, numB_len, textsB_len]; omega
        clear hb7 hr7 ho6 hB6
        have hz8 : (numB k ++ textB s ++ textsB l).length + m.length ≤ 140737488355328 := by
          have := HA.out
          rw [List.length_append, List.length_append, textB_len, numB_len, textsB_len]; omega
        have hY7 := (((hy.below hB2).mono hB2.size).below hB7)
        go_wp2_with (first
          | (at_builtin
             refine wpList_appB bytesT rfl (.tmp 44) (.tmp 46) rfl rfl ho7 rfl hR7 hz7 hB7.size ?_
             intro v8 w8 ho8 hg8 hpl; clear hpl
             have hB8 := bwgrown hg8 ho7.ge hB7.size)
          | (at_builtin
             refine wpList_appB bytesT rfl (.tmp 47) (.tmp 48) rfl rfl ho8 rfl (hY7.below hB8) hz8 (Nat.le_trans hB7.size hB8.size) ?_
             intro v9 w9 ho9 hg9 hpl; clear hpl))
        have hB9 := (hB7.trans hB8).trans (bwgrown hg9 ho8.ge (Nat.le_trans hB7.size hB8.size))
        have hBW := bwstep hB2 hB9
        have HY := Lib.hid hy
        have HX := Lib.hid hx
        clear hg8 hg9 hB7 hR7 ho7 hz7 hB8 ho8 hY7 hB9 hB2 hx hy
        have e0 : numB k ++ textB s ++ textsB l ++ m = numB k ++ (textB s ++ (textsB l ++ m)) := by simp [List.append_assoc]
        rw [e0] at ho9
        clear e0
        have hz9 : (textB s ++ (textsB l ++ m)).length ≤ 10000 := by
          have := HA.out
          rw [List.length_append, List.length_append, textB_len, textsB_len]; omega
        have hz10 : (textsB l ++ m).length ≤ 10000 := by rw [List.length_append] at hz9; omega
        have hz11 : 4 ≤ (textsB l ++ m).length := by rw [List.length_append, textsB_len]; omega
        refine (cutNum_ok _ (numB k ++ (textB s ++ (textsB l ++ m))) _ _ ho9.rd (by rw [List.length_append, numB_len]; omega) (by rw [List.length_append, numB_len]; omega)).mono ?_
        rintro e w10 ⟨r10, rfl, hr10, hb10⟩
        rw [numOf_numB _ hk, drop4] at *
        have hB10 := bwstep hBW hb10
        have hR10 := hr10.rd
        clear ho9 hBW hb10 hr10
        go_wp2_with fail
        refine (cutText_ok _ (textB s ++ (textsB l ++ m)) _ _ hR10 (textOk_textB s (by omega) _) (by omega)).mono ?_
        rintro e w11 ⟨r11, rfl, hr11, hb11⟩
        rw [textOf_textB s (by omega), textRest_textB s (by omega)] at *
        have es : (⟨s.data.toList.toArray⟩ : ByteArray) = s := by cases s; simp
        rw [es]
        clear es
        have hB11 := bwstep hB10 hb11
        have hR11 := hr11.rd
        clear hR10 hB10 hb11 hr11
        go_wp2_with fail
        refine (cutTexts_ok _ (textsB l ++ m) _ _ (Nat.le_refl _) hR11 hz11 (by omega) l m (takeTexts_textsB l (by omega) HS.out m)).mono ?_
        rintro e w12 ⟨v12, r12, rfl, hv12, hr12, hb12⟩
        have hB12 := bwstep hB11 hb12
        have hR12 := hr12.rd
        clear hR11 hB11 hb12 hr12
        have hse := str_eq (rfl : s = s)
        go_wp2_with fail
        refine (rstrings_any _ _ l l _ _ _ (Nat.le_refl _) hB12.size hv12 (HX.out.below hB12)).mono ?_
        rintro e w13 ⟨rfl, hb13⟩
        have est : sameT l l = true := by simp [sameT]
        rw [est]
        clear est
        have hB13 := bwstep hB12 hb13
        go_wp2_with fail
        refine (rsame_any _ _ m m _ _ _ (hR12.below hb13) (HY.out.below hB13)).mono ?_
        rintro e w14 ⟨rfl, rfl⟩
        rw [sameB_self]
        go_wp2_with fail
        go_ret
        exact ⟨rfl, hB13⟩
      · go_wp2_with fail
        refine (awake_ok _).mono ?_
        rintro e w3 ⟨rfl, hb3⟩
        go_wp2_with fail
        go_ret
        exact ⟨rfl, bwstep hB2 hb3⟩
  · go_enter Try.func6, Try.ntmps6
    go_wp2_with fail
    refine (awake_ok _).mono ?_
    rintro e w1 ⟨rfl, hb1⟩
    go_wp2_with fail
    refine (awake_ok _).mono ?_
    rintro e w2 ⟨rfl, hb2⟩
    go_wp2_with fail
    go_ret
    exact ⟨rfl, bwstep hb1 hb2⟩

theorem numOf_append (m q : List UInt8) (h : 4 ≤ m.length) : numOf (m ++ q) = numOf m := by
  unfold numOf
  simp only [List.getD]
  rw [List.getElem?_append_left (by omega), List.getElem?_append_left (by omega), List.getElem?_append_left (by omega), List.getElem?_append_left (by omega)]
theorem text_append (m q : List UInt8) (h : textOk m) : textOk (m ++ q) ∧ textOf (m ++ q) = textOf m ∧ textRest (m ++ q) = textRest m ++ q := by
  obtain ⟨h4, hn⟩ := h
  have e := numOf_append m q h4
  have hd : (m ++ q).drop 4 = m.drop 4 ++ q := List.drop_append_of_le_length h4
  refine ⟨⟨by rw [List.length_append]; omega, by rw [e, List.length_append]; omega⟩, ?_, ?_⟩
  · unfold textOf
    rw [e, hd, List.take_append_of_le_length (by rw [List.length_drop]; exact hn)]
  · unfold textRest
    rw [e, hd, List.drop_append_of_le_length (by rw [List.length_drop]; exact hn)]
theorem takeTexts_append {k : Nat} {b m : List UInt8} {acc : List ByteArray} (q : List UInt8) (h : takeTexts k b = some (acc, m)) : takeTexts k (b ++ q) = some (acc, m ++ q) := by
  induction k generalizing acc m with
  | zero => simp only [takeTexts, Option.some.injEq, Prod.mk.injEq] at h; obtain ⟨rfl, rfl⟩ := h; rfl
  | succ k ih =>
    simp only [takeTexts] at h
    split at h
    · cases h
    · rename_i acc' m' he
      split at h
      · rename_i hok
        simp only [Option.some.injEq, Prod.mk.injEq] at h
        obtain ⟨rfl, rfl⟩ := h
        obtain ⟨h1, h2, h3⟩ := text_append m' q hok
        rw [takeTexts_succ (ih he), if_pos h1, h2, h3]
      · cases h
/-- no beginning of a list is one that is whole -/
theorem takeTexts_cut (l : List ByteArray) (h0 : l.length ≤ 4294967295) (h : ∀ s ∈ l, s.size ≤ 4294967295) (c : Nat) (hc : c < (textsB l).length) (h4 : 4 ≤ c) :
    takeTexts (numOf ((textsB l).take c)) (((textsB l).take c).drop 4) = none := by
  have hl := textsB_len l
  have hn : numOf ((textsB l).take c) = l.length := by
    have e := numOf_append ((textsB l).take c) ((textsB l).drop c) (by rw [List.length_take]; omega)
    rw [List.take_append_drop] at e
    rw [← e]
    exact numOf_numB _ h0 _
  rw [hn]
  cases he : takeTexts l.length (((textsB l).take c).drop 4) with
  | none => rfl
  | some r =>
    exfalso
    obtain ⟨acc, m⟩ := r
    have h1 := takeTexts_append ((textsB l).drop c) he
    have h2 : ((textsB l).take c).drop 4 ++ (textsB l).drop c = allB l := by
      rw [← List.drop_append_of_le_length (by rw [List.length_take]; omega), List.take_append_drop]
      rfl
    rw [h2] at h1
    have h3 := takeTexts_allB l h [] l.length (Nat.le_refl _)
    rw [List.append_nil, h1] at h3
    simp only [List.drop_length, List.append_nil, Option.some.injEq, Prod.mk.injEq] at h3
    have h4 := congrArg List.length h3.2
    rw [List.length_append, List.length_drop] at h4
    simp [allB] at h4
    omega
def four : ByteArray := ⟨#[102, 111, 117, 114]⟩
theorem four_cut : ∀ c, c < 8 → ¬ textOk ((textB four).take c) := by decide

theorem cutTexts_bad (x : Value) (l : List UInt8) (B : Nat) (w : World) (hB : B ≤ w.heap.size) (hr : Rd w B x (l.map bv)) (hn : 4 ≤ l.length → takeTexts (numOf l) (l.drop 4) = none) :
    Calls Try.prog 22 #[x] w fun e w' => ∃ r, e = .returned (.tuple #[.slice none 0 0, r, .bool false]) ∧ Ow w' w.heap.size 5 r (([] : List UInt8).map bv) ∧ Below w.heap.size w w' := by
  by_cases h : 4 ≤ l.length
  · exact cutTexts_no x l B w hB hr h (hn h)
  · exact cutTexts_short x l B w hr (by omega)

set_option maxHeartbeats 4000000 in
set_option maxRecDepth 100000 in
theorem wireCut_walk (x : Value) (l : List ByteArray) (n : Int) (w : World) (hx : Rd w w.heap.size x (l.map sv)) (_hl : l.length ≤ 140737488351232) (hm : ∀ s ∈ l, s.size ≤ 140737488351232) (hn : (Lit.int .u16 n).wf = true) :
    Calls Try.prog 7 #[x, .int .u16 n] w fun e w' => e = .returned (.bool true) ∧ Below w.heap.size w w' := by
  have hn2 : 0 ≤ n ∧ n ≤ 65535 := by
    simp [Lit.wf, IntKind.min, IntKind.max, IntKind.signed, IntKind.bits] at hn
    omega
  obtain ⟨k, rfl⟩ := Int.eq_ofNat_of_zero_le hn2.1
  have hk : k ≤ 65535 := by omega
  clear hn hn2
  have HM := Lib.hid hm
  clear hm
  go_enter Try.func7, Try.ntmps7
  go_wp2_with fail
  refine (awake_ok _).mono ?_
  rintro e w1 ⟨rfl, hb1⟩
  go_wp2_with fail
  refine (rfew_any _ l w.heap.size _ hb1.size (hx.below hb1) (fun s h => Nat.le_trans (HM.out s h) (by decide))).mono ?_
  rintro e w2 ⟨q, rfl, hq, hb2⟩
  have hB2 := bwstep hb1 hb2
  clear hb1 hb2
  cases q with
  | false =>
    go_wp2_with fail
    refine (awake_ok _).mono ?_
    rintro e w3 ⟨rfl, hb3⟩
    go_wp2_with fail
    go_ret
    exact ⟨rfl, bwstep hB2 hb3⟩
  | true =>
    obtain ⟨hl1, hl2⟩ := hq rfl
    clear hq
    have HS := Lib.hid (fun s h => Nat.le_trans (size_le_sumS (l := l) (s := s) h) (Nat.le_trans hl2 (by decide : (5000 : Nat) ≤ 4294967295)))
    have hA := allB_len l
    have HA : Hid ((allB l).length ≤ 6000) := by show _ ≤ _; omega
    clear hA
    have hX2 := hx.up hB2
    go_wp2_with fail
    refine (texts_ok _ l _ hX2 (by omega) HS.out (Nat.le_trans HA.out (by decide))).mono ?_
    rintro e w3 ⟨r3, rfl, hr3, hb3⟩
    have hB3 := bwstep hB2 hb3
    have hR3 := hr3.rd
    obtain ⟨A, c, rfl, hc, hcm⟩ := hR3.shapeM
    have hlen := textsB_len l
    have hlA := HA.out
    have hp : 0 < (textsB l).length := by omega
    have HC := Lib.hid (takeTexts_cut l (by omega) HS.out (k % (textsB l).length) (Nat.mod_lt _ hp))
    have hmod := Nat.mod_lt k hp
    have hlen2 : 4 ≤ (textsB l).length ∧ (textsB l).length ≤ 10000 := by omega
    clear hr3 hb3 hX2 hB2 hlen hlA
    generalize hb : textsB l = tb at *
    have HT := Lib.hid hb
    clear hb
    have hm0 : 0 ≤ (k : Int) % (tb.length : Int) := Int.emod_nonneg _ (by omega)
    have hm1 : (k : Int) % (tb.length : Int) < (tb.length : Int) := Int.emod_lt_of_pos _ (by omega)
    have hm2 : (k : Int) % (tb.length : Int) ≤ (c : Int) := by omega
    have hcut := hR3.cutTo (hi := k % tb.length) (Nat.le_of_lt hmod)
    rw [← List.map_take] at hcut
    have HK := Lib.hid hmod
    clear hmod hR3
    go_wp2_with fail
    refine (cutTexts_bad _ (tb.take (k % tb.length)) _ _ (Nat.le_refl _) hcut (fun h => HC.out (by rw [List.length_take] at h; omega))).mono ?_
    rintro e w4 ⟨r4, rfl, hr4, hb4⟩
    have hB4 := bwstep hB3 hb4
    clear hr4 hb4 hB3 hcut HK HC HT hm0 hm1 hm2
    go_wp2_with fail
    refine (text_ok four _ (by decide)).mono ?_
    rintro e w5 ⟨r5, rfl, hr5, hb5⟩
    have hB5 := bwstep hB4 hb5
    have hR5 := hr5.rd
    obtain ⟨A5, c5, rfl, hc5, hcm5⟩ := hR5.shapeM
    clear hr5 hb5 hB4
    have e8 : (textB four).length = 8 := rfl
    rw [e8] at hR5 hc5 ⊢
    have hm0 : 0 ≤ (k : Int) % 8 := Int.emod_nonneg _ (by omega)
    have hm1 : (k : Int) % 8 < 8 := Int.emod_lt_of_pos _ (by omega)
    have hm2 : (k : Int) % 8 ≤ (c5 : Int) := by omega
    have hcut := hR5.cutTo (hi := k % 8) (by omega)
    rw [← List.map_take] at hcut
    have HF := Lib.hid (four_cut (k % 8) (by omega))
    clear hR5 e8
    go_wp2_with fail
    refine (cutText_no _ ((textB four).take (k % 8)) _ _ hcut HF.out).mono ?_
    rintro e w6 ⟨r6, rfl, hr6, hb6⟩
    go_wp2_with fail
    go_ret
    exact ⟨rfl, bwstep hB5 hb6⟩
end Go.Proofs.Ytlglokjehgejoaa
