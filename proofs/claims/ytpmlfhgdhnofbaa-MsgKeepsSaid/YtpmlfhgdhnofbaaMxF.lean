/- The contracts of package msg's vote and of the closures over what is left of a record. -/
import Derived.Test.YtpmlfhgdhnofbaaMxB
import Derived.Test.YtpmlfhgdhnofbaaSlB
import Derived.Test.YtpmlfhgdhnofbaaCmX
set_option maxHeartbeats 8000000
set_option maxRecDepth 100000
namespace Go.Proofs.Ytpmlfhgdhnofbaa.Ce
open Go.RowKit
theorem mvote_any (s : ByteArray) (w : World) (hs : s.size ≤ 1000000) : Calls Try.prog 45 #[.string s] w fun e w' => e = .returned (Vt.v (vof s.data.toList)) ∧ Below w.heap.size w w' := by
 go_enter Try.func45, Try.ntmps45
 go_wp2_with (refine St.alloc vtOk rfl rfl ?_)
 constructor
 intro w1 hI1 hb1 hz1
 obtain ⟨x, w2, hcv, hx, hb2, n0, c0, hxe⟩ := run_bytes (P := Try.prog) w1 (src := 9) (dst := 29) (e := 5) s Try.underlying9 Try.underlying29 Try.underlying5 (by simp [maxLen]; omega)
 have HI2 := Lib.hid (hI1.up hb2)
 have HB2 := Lib.hid (bwstep hb1 hb2)
 have hsl : s.data.toList.length ≤ 1000000 := by rw [Array.length_toList]; exact hs
 have HG := Lib.hid (sget_any x s.data.toList w2 hx hsl)
 clear hz1 hxe hI1 hb1 hb2 hx hsl
 go_wp2_with fail
 refine HG.out.mono ?_
 rintro e w3 ⟨⟨n, c, k, rfl, hs⟩, hb3⟩
 have HC := Lib.hid hs.vof
 have HI3 := Lib.hid (HI2.out.up hb3)
 have HB3 := Lib.hid (bwstep HB2.out hb3)
 have HLT := Lib.hid HI3.out.lt
 generalize (if k = true then (0 : Int) else 2) = E
 clear hs hb3 HI2 HB2 HG hcv
 go_wp2_with (refine St.alloc vtOk rfl rfl ?_)
 constructor
 intro w4 hJ4 hb4 hz4
 have HI4 := Lib.hid (HI3.out.up hb4)
 have HB4 := Lib.hid (bwstep HB3.out hb4)
 clear hz4 hb4
 go_wp2_with (refine St.store vtOk (c := c) rfl (.tmp 4) (.tmp 11) rfl rfl rfl hJ4 ?_)
 constructor
 intro w5 hs5
 have hJ5 := hs5.i
 have hI5 := hs5.up HI4.out (Nat.ne_of_lt HLT.out)
 have HB5 := Lib.hid (hs5.bel HB4.out (Nat.le_of_lt HLT.out))
 clear hs5 hJ4
 go_wp2_with (first | (refine St.load vtOk rfl (.tmp 4) rfl rfl hJ5 ?_) | (refine St.store vtOk (c := c) rfl (.tmp 2) (.tmp 13) rfl rfl rfl hI5 ?_))
 constructor
 intro w6 hs6
 have HS6 := Lib.hid hs6
 clear hs6 hI5 hJ5
 go_wp2_with fail
 exact bodyPost_ret (St.res1 vtOk Try.results45 rfl HS6.out.i) rfl ⟨by rw [← HC.out]; rfl, HS6.out.bel HB5.out (Nat.le_refl _)⟩
structure LeftAt (B G lb : Nat) (l : List UInt8) (w : World) : Prop where
 h : ∃ v, w.heap[lb]? = some (.cells #[v] 29 (0, 0)) ∧ RdX w B G v (l.map bv)
 b : B ≤ lb
theorem LeftAt.up {B G lb : Nat} {l : List UInt8} {w w' : World} (h : LeftAt B G lb l w) (hb : Below w.heap.size w w') : LeftAt B G lb l w' := by
 obtain ⟨v, h1, h2⟩ := h.h
 exact ⟨⟨v, (hb.block _ (Array.getElem?_eq_some_iff.1 h1).1).trans h1, h2.up hb⟩, h.b⟩
theorem LeftAt.lt {B G lb : Nat} {l : List UInt8} {w : World} (h : LeftAt B G lb l w) : lb < w.heap.size := by
 obtain ⟨v, h1, -⟩ := h.h
 exact (Array.getElem?_eq_some_iff.1 h1).1
theorem LeftAt.set {B G lb g : Nat} {l : List UInt8} {w w' : World} (h : LeftAt B G lb l w) (ho : ∀ k, k ≠ g → w'.heap[k]? = w.heap[k]?) (hz : w'.heap.size = w.heap.size) (h1 : lb < g) (h2 : g < G) : LeftAt B G lb l w' := by
 obtain ⟨v, hh, hr⟩ := h.h
 exact ⟨⟨v, (ho lb (Nat.ne_of_lt h1)).trans hh, hr.set ho hz (Nat.le_trans h.b (Nat.le_of_lt h1)) h2⟩, h.b⟩
theorem LeftAt.put {B G lb : Nat} {l l' : List UInt8} {w w2 : World} {r : Value} (h : LeftAt B G lb l w) (hb : Below w.heap.size w w2) (hr : Ow w2 w.heap.size 5 r (l'.map bv)) :
  LeftAt B w.heap.size lb l' (w2.setCell ⟨lb, 0, none⟩ r) ∧ Kp [lb] w (w2.setCell ⟨lb, 0, none⟩ r) := by
 have hlt := h.lt
 have hk : Kp [lb] w (w2.setCell ⟨lb, 0, none⟩ r) := (Kp.of_below hb [lb]).trans (Kp.set w2 (p := ⟨lb, 0, none⟩) (List.mem_singleton.2 rfl) r) fun x hx => .inl hx
 obtain ⟨v, h1, -⟩ := (h.up hb).h
 refine ⟨⟨⟨r, ?_, ?_⟩, h.b⟩, hk⟩
 ·rw [heap_setCell_same _ _ _ _ _ _ h1]
  rfl
 ·exact .inr ((RdG.of_ow hr (Nat.le_refl _)).set (fun k hk => heap_setCell_other _ _ _ _ (by simp; omega)) (by simp [World.setCell]))
theorem Ow.putL {lb e : Nat} {w w2 : World} {r v : Value} {xs : List Value} (hlt : lb < w.heap.size) (h : Ow w2 w.heap.size e v xs) : Ow (w2.setCell ⟨lb, 0, none⟩ r) w.heap.size e v xs :=
 h.kept (row := some lb) ⟨rfl, rfl, rfl, by simp [World.setCell], fun k _ hk => heap_setCell_other _ _ _ _ (by simpa using fun e => hk (by rw [e]))⟩ fun k hk e => by
  have := h.ge k hk
  injection e with e
  omega
theorem mnum_any (B G lb : Nat) (l : List UInt8) (w : World) (h : LeftAt B G lb l w) (hl : l.length ≤ 1000000) :
  Calls Try.prog 51 #[.pointer (some ⟨lb, 0, none⟩)] w fun e w' => e = .returned (.int .i64 (hd l)) ∧ LeftAt B w.heap.size lb (l.drop 4) w' ∧ Kp [lb] w w' := by
 obtain ⟨v, hh, hr⟩ := h.h
 have c := cell_of_row w lb 0 _ _ _ hh
 simp only [List.getElem?_toArray, List.getElem?_cons_zero] at c
 have HC := Lib.hid (scut_any v l w hr.rd hl)
 have HH := Lib.hid hh
 have HL := Lib.hid h
 clear hr hh h
 go_enter Try.func51, Try.ntmps51
 go_wp2_with fail
 refine HC.out.mono ?_
 rintro e w2 ⟨r, b, rfl, ho, hb⟩
 obtain ⟨Ar, cr, rfl, -, -⟩ := ho.rd.shapeM
 have hh2 := (hb.block _ HL.out.lt).trans HH.out
 have c2 := cell_of_row w2 lb 0 _ _ _ hh2
 have f2 := frozen_of_row w2 lb 0 _ _ hh2
 simp only [List.getElem?_toArray, List.getElem?_cons_zero] at c2
 have HP := Lib.hid (HL.out.put hb ho)
 rw [List.length_drop] at HP
 clear ho hb hh2 c
 go_wp2_with fail
 go_ret
 exact ⟨rfl, HP.out.1, HP.out.2⟩
theorem stext_any (x : Value) (l : List UInt8) (w : World) (hr : Rd w w.heap.size x (l.map bv)) (hl : l.length ≤ 1000000) : Calls Try.prog 53 #[x] w fun e w' => ∃ r b, e = .returned (.tuple #[.string (tx l), r, .bool b]) ∧ Ow w' w.heap.size 5 r ((txr l).map bv) ∧ Below w.heap.size w w' := by
 unfold tx txr
 by_cases h : textOk l
 ·rw [if_pos h, if_pos h]
  refine (cutText_ok x l _ w hr h (by omega)).mono ?_
  rintro e w' ⟨r, rfl, ho, hb⟩
  exact ⟨r, _, rfl, ho, hb⟩
 ·rw [if_neg h, if_neg h]
  refine (cutText_no x l _ w hr h).mono ?_
  rintro e w' ⟨r, rfl, ho, hb⟩
  exact ⟨r, _, rfl, ho, hb⟩
theorem mtext_any (B G lb : Nat) (l : List UInt8) (w : World) (h : LeftAt B G lb l w) (hl : l.length ≤ 1000000) :
  Calls Try.prog 52 #[.pointer (some ⟨lb, 0, none⟩)] w fun e w' => e = .returned (.string (tx l)) ∧ LeftAt B w.heap.size lb (txr l) w' ∧ Kp [lb] w w' := by
 obtain ⟨v, hh, hr⟩ := h.h
 have c := cell_of_row w lb 0 _ _ _ hh
 simp only [List.getElem?_toArray, List.getElem?_cons_zero] at c
 have HC := Lib.hid (stext_any v l w hr.rd hl)
 have HH := Lib.hid hh
 have HL := Lib.hid h
 clear hr hh h
 go_enter Try.func52, Try.ntmps52
 go_wp2_with fail
 refine HC.out.mono ?_
 rintro e w2 ⟨r, b, rfl, ho, hb⟩
 obtain ⟨Ar, cr, rfl, -, -⟩ := ho.rd.shapeM
 have hh2 := (hb.block _ HL.out.lt).trans HH.out
 have c2 := cell_of_row w2 lb 0 _ _ _ hh2
 have f2 := frozen_of_row w2 lb 0 _ _ hh2
 simp only [List.getElem?_toArray, List.getElem?_cons_zero] at c2
 have HP := Lib.hid (HL.out.put hb ho)
 clear ho hb hh2 c
 go_wp2_with fail
 go_ret
 exact ⟨rfl, HP.out.1, HP.out.2⟩
theorem cutTexts_own (x : Value) (l : List UInt8) (B : Nat) (w : World) (hB : B ≤ w.heap.size) (hr : Rd w B x (l.map bv)) (h : 4 ≤ l.length) (hl : l.length ≤ 1000000000000) (acc : List ByteArray) (m : List UInt8) (hn : takeTexts (numOf l) (l.drop 4) = some (acc, m)) :
  Calls Try.prog 55 #[x] w fun e w' => ∃ v r, e = .returned (.tuple #[v, r, .bool true]) ∧ Ow w' w.heap.size 9 v (acc.map sv) ∧ Ow w' w.heap.size 5 r (m.map bv) ∧ Below w.heap.size w w' := by
 have HN := Lib.hid hn
 clear hn
 go_enter Try.func55, Try.ntmps55
 go_wp2_with fail
 refine (splitTexts_any _ _ B _ hB hr h).mono ?_
 intro e w1 he
 unfold TextsEnd at he
 rw [HN.out] at he
 obtain ⟨v, r1, rfl, hv, hr1, hb1⟩ := he
 obtain ⟨A, c, rfl, hc, hm⟩ := hv.rd.shapeM
 have hml : m.length ≤ 1000000000000 := by
  have := (takeTexts_len HN.out).2
  simp at this; omega
 go_wp2_with fail
 refine (own_strs _ _ _ true _ _ B _ hr1 hml).mono ?_
 rintro e w2 ⟨r, rfl, ho, hb⟩
 go_wp2_with fail
 go_ret3
 exact ⟨_, r, rfl, hv.below hb, ho.mono hb1.size, bwtrans hb1 hb (Nat.le_refl _)⟩
theorem stexts_any (x : Value) (l : List UInt8) (w : World) (hr : Rd w w.heap.size x (l.map bv)) (hl : l.length ≤ 1000000) : Calls Try.prog 55 #[x] w fun e w' => ∃ v r b m, e = .returned (.tuple #[v, r, .bool b]) ∧ Ow w' w.heap.size 9 v ((txs l).map sv) ∧ Ow w' w.heap.size 5 r ((m : List UInt8).map bv) ∧ Below w.heap.size w w' := by
 by_cases h : 4 ≤ l.length
 ·cases hn : takeTexts (numOf l) (l.drop 4) with
  | none =>
   have e : txs l = [] := by unfold txs; rw [if_pos h, hn]
   rw [e]
   refine (cutTexts_no x l _ w (Nat.le_refl _) hr h hn).mono ?_
   rintro e w' ⟨r, rfl, ho, hb⟩
   exact ⟨_, r, _, [], rfl, Ow.nil _ _ _, ho, hb⟩
  | some p =>
   obtain ⟨acc, m⟩ := p
   have e : txs l = acc := by unfold txs; rw [if_pos h, hn]
   rw [e]
   refine (cutTexts_own x l _ w (Nat.le_refl _) hr h (by omega) acc m hn).mono ?_
   rintro e w' ⟨v, r, rfl, hv, ho, hb⟩
   exact ⟨v, r, _, m, rfl, hv, ho, hb⟩
 ·have e : txs l = [] := by unfold txs; rw [if_neg h]
  rw [e]
  refine (cutTexts_short x l _ w hr (by omega)).mono ?_
  rintro e w' ⟨r, rfl, ho, hb⟩
  exact ⟨_, r, _, [], rfl, Ow.nil _ _ _, ho, hb⟩
theorem mtexts_any (B G lb : Nat) (l : List UInt8) (w : World) (h : LeftAt B G lb l w) (hl : l.length ≤ 1000000) :
  Calls Try.prog 54 #[.pointer (some ⟨lb, 0, none⟩)] w fun e w' => ∃ v, e = .returned v ∧ Ow w' w.heap.size 9 v ((txs l).map sv) ∧ Kp [lb] w w' := by
 obtain ⟨v, hh, hr⟩ := h.h
 have c := cell_of_row w lb 0 _ _ _ hh
 simp only [List.getElem?_toArray, List.getElem?_cons_zero] at c
 have HC := Lib.hid (stexts_any v l w hr.rd hl)
 have HH := Lib.hid hh
 have HL := Lib.hid h
 clear hr hh h
 go_enter Try.func54, Try.ntmps54
 go_wp2_with fail
 refine HC.out.mono ?_
 rintro e w2 ⟨v2, r, b, m, rfl, hv, ho, hb⟩
 obtain ⟨Ar, cr, rfl, -, -⟩ := ho.rd.shapeM
 have hh2 := (hb.block _ HL.out.lt).trans HH.out
 have c2 := cell_of_row w2 lb 0 _ _ _ hh2
 have f2 := frozen_of_row w2 lb 0 _ _ hh2
 simp only [List.getElem?_toArray, List.getElem?_cons_zero] at c2
 have HP := Lib.hid (HL.out.put hb ho)
 have HV := Lib.hid (Ow.putL (r := .slice Ar m.length cr) HL.out.lt hv)
 clear ho hb hh2 c hv
 go_wp2_with fail
 go_ret
 exact ⟨_, rfl, HV.out, HP.out.2⟩
theorem mparts_any (x : Value) (l : List UInt8) (w : World) (hr : Rd w w.heap.size x (l.map bv)) :
  Calls Try.prog 44 #[x] w fun e w' => e = .returned (.tuple #[.func (.func 51) #[] #[.pointer (some ⟨w.heap.size, 0, none⟩)], .func (.func 52) #[] #[.pointer (some ⟨w.heap.size, 0, none⟩)], .func (.func 54) #[] #[.pointer (some ⟨w.heap.size, 0, none⟩)]]) ∧ LeftAt w.heap.size (w.heap.size + 1) w.heap.size l w' ∧ Below w.heap.size w w' := by
 obtain ⟨A, cp, rfl, -, -⟩ := hr.shapeM
 have hb := bwalloc (bwrefl w) (.cells #[.slice A l.length cp] 29)
 have HL : Hid (LeftAt w.heap.size (w.heap.size + 1) w.heap.size l (w.alloc (.cells #[.slice A l.length cp] 29))) := Lib.hid ⟨⟨_, heap_alloc_new _ _, .inl ⟨hr.below hb, hb.size⟩⟩, Nat.le_refl _⟩
 have HB := Lib.hid hb
 clear hr hb
 go_enter Try.func44, Try.ntmps44
 go_wp2_with fail
 go_ret3
 exact ⟨rfl, HL.out, HB.out⟩
end Go.Proofs.Ytpmlfhgdhnofbaa.Ce
