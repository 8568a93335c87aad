/- The contracts of the reference functions of layer 13: newest, Visible, Clean, All, Sorts. The contracts of the reference functions of layer 13: Sorts, Few. A tree as plain lists: memory, and levels of tables; put, flushed, cleaned; the newest of merged lists. Plain. Layer 14's law: shelves and acts, plain and as values; the contracts of its own functions (right, few, some). -/
import Derived.Test.YtcpkhhbbjimdaaaGreatDoorMgPl
import Derived.Test.YtcpkhhbbjimdaaaGreatDoorCbA
import Derived.Test.YtcpkhhbbjimdaaaGreatDoorCsA
import Derived.Test.YtcpkhhbbjimdaaaGreatDoorCpo
import Derived.IntWalk
import Derived.Test.YtcpkhhbbjimdaaaGreatDoorStA
set_option maxHeartbeats 8000000
set_option maxRecDepth 100000
namespace Go.Proofs.YtcpkhhbbjimdaaaGreatDoor.Ce
open Go.RowKit
theorem isNewB_eq (L : List Cl) (t : Int) (c : Cl) : isNewB L t c = (nwB c.row c.col t L && decide (nwC c.row c.col t L = c)) := by
 unfold isNewB nwB nwC
 cases newest c.row c.col t L with
 | none => rfl
 | some d =>
  rw [Option.isSome_some, Bool.true_and, Option.getD_some, Bool.eq_iff_iff, beq_iff_eq, decide_eq_true_iff]
  exact ⟨fun h => Option.some.inj h, fun h => by rw [h]⟩
theorem rnw13_any (v : Value) (L : List Cl) (c : Cl) (t : Int) (w : World) (hv : RdL w [] v L) (hs : Srt L) (hL : L.length ≤ 1000000000) (hok : ∀ c ∈ L, c.ok) :
  Calls Tryz.prog 37 #[v, c.v, .int .i64 t] w fun e w' => e = .returned (.bool (isNewB L t c)) ∧ Below w.heap.size w w' := by
 have HR : Hid (∀ w', Below w.heap.size w w' → Calls Tryz.prog 22 #[v, .string c.row, .string c.col, .int .i64 t] w' fun e w2 => e = .returned (.tuple #[(nwC c.row c.col t L).v, .bool (nwB c.row c.col t L)]) ∧ Below w'.heap.size w' w2) := Lib.hid fun w' hb => rnewest_any v L c.row c.col t w' (hv.bel hb) hs hL hok
 have HE := Lib.hid (isNewB_eq L t c)
 clear hv hs hok
 generalize nwC c.row c.col t L = x at HR HE
 generalize nwB c.row c.col t L = b at HR HE
 go_enter Tryz.func37, Tryz.ntmps37
 go_wp2_with (refine boxC rfl (.tmp 1) c rfl rfl ?_)
 constructor
 intro w1 hI1 hb1 hz1
 have c0 := hI1.c0
 have c1 := hI1.c1
 have HI1 := Lib.hid hI1
 have HB1 := Lib.hid hb1
 clear hI1 hb1 hz1
 go_wp2_with fail
 refine (HR.out _ HB1.out).mono ?_
 rintro e w2 ⟨rfl, hb2⟩
 have HI2 := Lib.hid (HI1.out.up hb2)
 have HB2 := Lib.hid (bwstep HB1.out hb2)
 clear c0 c1 hb2
 go_wp2_with (refine allocC rfl rfl ?_)
 constructor
 intro w3 hI3 hb3 hz3
 have hne : w.heap.size ≠ w2.heap.size := by have := HI2.out.lt; omega
 go_wp2_with (refine storeC (c := x) rfl (.tmp 7) (.tmp 17) rfl rfl rfl hI3 ?_)
 constructor
 intro w4 hs4
 have HX4 := Lib.hid hs4.i
 have HI4 := Lib.hid (hs4.up (HI2.out.up hb3) hne)
 have HB4 := Lib.hid (bwstep HB2.out (hs4.bel hb3 (Nat.le_refl _)))
 clear hI3 hb3 hz3 hs4 HI2 HB2
 cases b
 ·have HF : Hid (isNewB L t c = false) := Lib.hid (by rw [HE.out]; rfl)
  go_wp2_with fail
  go_ret
  rw [HF.out]
  exact ⟨rfl, HB4.out⟩
 ·have HF : Hid (isNewB L t c = decide (x = c)) := Lib.hid (by rw [HE.out]; rfl)
  go_wp2_with (first
   | (refine loadC rfl (.tmp 7) rfl rfl HX4.out ?_)
   | (refine loadC rfl (.tmp 4) rfl rfl HI4.out ?_)
   | (refine eqC rfl (.tmp 21) (.tmp 22) _ rfl x c rfl rfl rfl ?_))
  go_ret
  rw [HF.out]
  exact ⟨rfl, HB4.out⟩
theorem filter_snoc {L : List Cl} {k : Nat} {f : Cl} (h : L[k]? = some f) (p : Cl → Bool) : (L.take (k + 1)).filter p = (L.take k).filter p ++ (if p f = true then [f] else []) := by
 obtain ⟨hl, rfl⟩ := List.getElem?_eq_some_iff.1 h
 rw [List.take_succ_eq_append_getElem hl, List.filter_append]
 congr 1
 cases hp : p L[k] <;> simp [hp]
theorem rvis_any (v : Value) (L : List Cl) (t : Int) (w : World) (hv : RdL w [] v L) (hs : Srt L) (hL : L.length ≤ 1000000000) (hok : ∀ c ∈ L, c.ok) :
  Calls Tryz.prog 24 #[v, .int .i64 t] w fun e w' => (∃ x, e = .returned x ∧ OwL w' w.heap.size x (visP t L)) ∧ Below w.heap.size w w' := by
 obtain ⟨A, c, rfl, hc, hm⟩ := hv.shape
 unfold maxLen at hm
 have HV := Lib.hid hv
 have HN : Hid (∀ f w', Below w.heap.size w w' → Calls Tryz.prog 37 #[.slice A L.length c, f.v, .int .i64 t] w' fun e w2 => e = .returned (.bool (isNewB L t f)) ∧ Below w'.heap.size w' w2) := Lib.hid fun f w' hb => rnw13_any _ L f t w' (hv.bel hb) hs hL hok
 clear hv hs hok
 go_enter Tryz.func24, Tryz.ntmps24
 go_wp2_with fail
 go_loopw [5, 6] (fun o i wr => ∃ k : Nat, k ≤ L.length ∧ i = .int .i64 (k : Int) ∧ Hid (OwL wr w.heap.size o ((L.take k).filter fun c => isNewB L t c && !c.gone)) ∧ Below w.heap.size w wr) (fun _ i _ => L.length - (intOf i).toNat)
 case atStart => exact ⟨0, by omega, rfl, Lib.hid (by simpa using OwL.nil _ _), Below.refl _ _⟩
 case round =>
  obtain ⟨k, hk, rfl, HO, hbw⟩ := hrel
  have HBW := Lib.hid hbw
  by_cases hlt : k < L.length
  ·obtain ⟨b, off, rfl, -, -⟩ := HV.out.open_ (by omega)
   have hh3 : (0 : Int) ≤ (k : Int) := by omega
   have hh4 : (k : Int) < (L.length : Int) := by omega
   have hfk : L[k]? = some (L[k]'hlt) := List.getElem?_eq_getElem _
   generalize L[k]'hlt = f at hfk
   have HF5 : Hid (∀ z, Below w.heap.size w z → FiveAt b (off + k * 5) f z) := Lib.hid fun z hz => ((HV.out.bel hz).at_ hfk).1
   have HS := Lib.hid (filter_snoc hfk fun c => isNewB L t c && !c.gone)
   have hnf := fun z hz => HN.out f z hz
   obtain ⟨c0, c1, c2, c3, c4⟩ := HF5.out _ hbw
   have hlen : ((L.take k).filter fun c => isNewB L t c && !c.gone).length ≤ 1000000000 := Nat.le_trans (List.length_filter_le _ _) (by simp; omega)
   generalize (L.take k).filter (fun c => isNewB L t c && !c.gone) = F at HO HS hlen
   clear hfk hbw
   generalize isNewB L t f = q at HS hnf
   have HN2 := Lib.hid hnf
   clear hnf
   obtain ⟨wo, hwo⟩ : ∃ wo, wo = wr := ⟨_, rfl⟩
   subst hwo
   go_wp2_with fail
   refine (HN2.out _ HBW.out).mono ?_
   rintro e w2 ⟨rfl, hb2⟩
   have HO2 := Lib.hid (HO.out.below hb2)
   have HB2 := Lib.hid (bwstep HBW.out hb2)
   clear c0 c1 c2 c3 c4 hb2 HN2
   obtain ⟨c0, c1, c2, c3, c4⟩ := HF5.out _ HB2.out
   cases hq : (q && !f.gone)
   ·have HE : Hid (((L.take (k + 1)).filter fun c => isNewB L t c && !c.gone) = F) := Lib.hid (by rw [HS.out, hq]; simp)
    clear HS
    cases q
    ·clear hq
     go_wp2_with fail
     go_roundw
     case rel => exact ⟨k + 1, by omega, by go_num, Lib.hid (by rw [HE.out]; exact HO2.out), HB2.out⟩
     case measure => simp [intOf]; omega
    ·have hg : f.gone = true := by simpa using hq
     clear hq
     rw [hg] at c4
     clear hg
     go_wp2_with fail
     go_roundw
     case rel => exact ⟨k + 1, by omega, by go_num, Lib.hid (by rw [HE.out]; exact HO2.out), HB2.out⟩
     case measure => simp [intOf]; omega
   ·have HE : Hid (((L.take (k + 1)).filter fun c => isNewB L t c && !c.gone) = F ++ [f]) := Lib.hid (by rw [HS.out, hq]; simp)
    clear HS
    obtain ⟨hq1, hg⟩ : q = true ∧ f.gone = false := by simpa using hq
    clear hq
    subst hq1
    have hx := RdL.one w2 [] f (by simp) 47
    have ho2 := HO2.out.below (bwalloc (bwrefl w2) (.cells #[.string f.row, .string f.col, .int .i64 f.at_, .string f.val, .bool f.gone] 47))
    have hb2 := bwalloc HB2.out (.cells #[.string f.row, .string f.col, .int .i64 f.at_, .string f.val, .bool f.gone] 47)
    have hs2 := hb2.size
    have hl2 : F.length + [f].length ≤ 2199023255552 := by simp; omega
    rw [hg] at c4 hx ho2 hb2 hs2
    clear hg
    go_wp2_with (at_builtin; refine wpList_appL rfl (.tmp 28) (.tmp 33) rfl rfl ho2 rfl hx hl2 hs2 ?_; intro v3 w3 ho3 hg3 _; have HO3 := Lib.hid ho3; have HB3 := Lib.hid (hb2.grown hg3 hs2 (fun q hq => (ho2.lt q hq).1)); clear ho3 hg3)
    go_roundw
    case rel => exact ⟨k + 1, by omega, by go_num, Lib.hid (by rw [HE.out]; exact HO3.out), HB3.out⟩
    case measure => simp [intOf]; omega
  ·obtain rfl : k = L.length := by omega
   rw [List.take_length] at HO
   go_wp2_with fail
   go_ret
   exact ⟨⟨_, rfl, HO.out⟩, HBW.out⟩
end Go.Proofs.YtcpkhhbbjimdaaaGreatDoor.Ce
namespace Go.Proofs.YtcpkhhbbjimdaaaGreatDoor.Ce
open Go.RowKit
end Go.Proofs.YtcpkhhbbjimdaaaGreatDoor.Ce
namespace Go.Proofs.YtcpkhhbbjimdaaaGreatDoor.Ce
open Go.RowKit
structure IsN (L : List Cl) (row col : ByteArray) (t : Int) (c : Cl) : Prop where
 mem : c ∈ L
 fit : fits row col t c
 top : ∀ d ∈ L, fits row col t d → d.at_ ≤ c.at_
theorem newest_isN {L : List Cl} (hs : Srt L) {row col : ByteArray} {t : Int} {c : Cl} : newest row col t L = some c ↔ IsN L row col t c := by
 constructor
 ·intro h
  obtain ⟨h1, h2⟩ := nws_some h
  have h3 : newest c.row c.col t L = some c := by rw [h2.1, h2.2.1]; exact h
  have h4 := (newest_iff hs).1 h3
  exact ⟨h1, h2, fun d hd hf => h4.top d hd (hf.1.trans h2.1.symm) (hf.2.1.trans h2.2.1.symm) hf.2.2⟩
 ·intro h
  have h3 := (newest_iff hs (c := c) (t := t)).2 ⟨h.mem, h.fit.2.2, fun d hd hr hc hle => h.top d hd ⟨hr.trans h.fit.1, hc.trans h.fit.2.1, hle⟩⟩
  rw [h.fit.1, h.fit.2.1] at h3
  exact h3
theorem tr_newest_none {L : List Cl} {row col : ByteArray} {t : Int} : newest row col t L = none ↔ ∀ d ∈ L, ¬ fits row col t d := by
 unfold newest
 rw [List.find?_eq_none]
 simp
def best : Option Cl → Option Cl → Option Cl
 | none, y => y
 | some c, none => some c
 | some c, some d => if c.at_ < d.at_ then some d else some c
theorem best_lt {c d : Cl} (h : c.at_ < d.at_) : best (some c) (some d) = some d := by simp [best, h]
theorem best_ge {c d : Cl} (h : ¬ c.at_ < d.at_) : best (some c) (some d) = some c := by simp [best, h]
theorem best_none (a : Option Cl) : best a none = a := by cases a <;> rfl
theorem fits_key {row col : ByteArray} {t : Int} {c d : Cl} (h : fits row col t c) (k : keq c d) : fits row col t d := ⟨k.1 ▸ h.1, k.2.1 ▸ h.2.1, k.2.2 ▸ h.2.2⟩
theorem newest_over {M acc : List Cl} (hM : Srt M) (ha : Srt acc) (row col : ByteArray) (t : Int) : newest row col t (over M acc) = best (newest row col t M) (newest row col t acc) := by
 have ho : Srt (over M acc) := srt_over ha
 have hm := fun x => mem_over (x := x) ha (srt_unl hM)
 cases h1 : newest row col t M with
 | none =>
  have n1 := tr_newest_none.1 h1
  cases h2 : newest row col t acc with
  | none =>
   have n2 := tr_newest_none.1 h2
   refine tr_newest_none.2 fun d hd => ?_
   rcases (hm d).1 hd with hd | ⟨hd, -⟩
   ·exact n1 d hd
   ·exact n2 d hd
  | some d =>
   have n2 := (newest_isN ha).1 h2
   refine (newest_isN ho).2 ⟨(hm d).2 (.inr ⟨n2.mem, fun c hc hk => n1 c hc (fits_key n2.fit hk)⟩), n2.fit, fun x hx hf => ?_⟩
   rcases (hm x).1 hx with hx | ⟨hx, -⟩
   ·exact absurd hf (n1 x hx)
   ·exact n2.top x hx hf
 | some c =>
  have n1 := (newest_isN hM).1 h1
  cases h2 : newest row col t acc with
  | none =>
   have n2 := tr_newest_none.1 h2
   refine (newest_isN ho).2 ⟨(hm c).2 (.inl n1.mem), n1.fit, fun x hx hf => ?_⟩
   rcases (hm x).1 hx with hx | ⟨hx, -⟩
   ·exact n1.top x hx hf
   ·exact absurd hf (n2 x hx)
  | some d =>
   have n2 := (newest_isN ha).1 h2
   by_cases hlt : c.at_ < d.at_
   ·rw [best_lt hlt]
    refine (newest_isN ho).2 ⟨(hm d).2 (.inr ⟨n2.mem, fun m hmM hk => ?_⟩), n2.fit, fun x hx hf => ?_⟩
    ·have := n1.top m hmM (fits_key n2.fit hk)
     have := hk.2.2
     omega
    ·rcases (hm x).1 hx with hx | ⟨hx, -⟩
     ·have := n1.top x hx hf; omega
     ·exact n2.top x hx hf
   ·rw [best_ge hlt]
    refine (newest_isN ho).2 ⟨(hm c).2 (.inl n1.mem), n1.fit, fun x hx hf => ?_⟩
    rcases (hm x).1 hx with hx | ⟨hx, -⟩
    ·exact n1.top x hx hf
    ·have := n2.top x hx hf; omega
theorem newest_all (row col : ByteArray) (t : Int) : ∀ {LL : List (List Cl)}, (∀ M ∈ LL, Srt M) → newest row col t (allP LL) = LL.foldr (fun M r => best (newest row col t M) r) none
 | [], _ => rfl
 | M :: LL, h => by
  rw [allP_cons, newest_over (h M (by simp)) (srt_all LL), newest_all row col t fun A hA => h A (by simp [hA])]
  rfl
theorem best_assoc (a b c : Option Cl) : best a (best b c) = best (best a b) c := by
 cases a with
 | none => rfl
 | some x => cases b with
  | none => rfl
  | some y => cases c with
   | none => rw [best_none, best_none]
   | some z =>
    by_cases h1 : y.at_ < z.at_
    ·by_cases h2 : x.at_ < y.at_
     ·rw [best_lt h1, best_lt h2, best_lt h1, best_lt (by omega)]
     ·rw [best_lt h1, best_ge h2]
    ·by_cases h2 : x.at_ < y.at_
     ·rw [best_ge h1, best_lt h2, best_ge h1]
     ·rw [best_ge h1, best_ge h2, best_ge (by omega)]
theorem asked_from (row col : ByteArray) (t : Int) : ∀ (X : List (List Cl)) (a : Option Cl), X.foldl (fun r M => best r (newest row col t M)) a = best a (X.foldr (fun M r => best (newest row col t M) r) none)
 | [], a => by rw [List.foldl_nil, List.foldr_nil, best_none]
 | M :: X, a => by rw [List.foldl_cons, asked_from row col t X, List.foldr_cons, best_assoc]
theorem newest_asked (row col : ByteArray) (t : Int) {LL : List (List Cl)} (h : ∀ M ∈ LL, Srt M) : newest row col t (allP LL) = LL.foldl (fun r M => best r (newest row col t M)) none := by
 rw [newest_all row col t h]
 rw [asked_from]
 rfl
structure Tr where
 mem : List Cl
 lv : List (List (List Cl))
def Tr.cells (t : Tr) : List Cl := allP (t.mem :: t.lv.flatten)
structure Tr.ok (t : Tr) : Prop where
 mem : Srt t.mem
 tab : ∀ T ∈ t.lv, ∀ M ∈ T, Srt M
 okm : ∀ c ∈ t.mem, c.ok
 okt : ∀ T ∈ t.lv, ∀ M ∈ T, ∀ c ∈ M, c.ok
theorem Tr.ok.srt {t : Tr} (h : t.ok) : ∀ M ∈ t.mem :: t.lv.flatten, Srt M := fun M hM => by
 rcases List.mem_cons.1 hM with rfl | hM
 ·exact h.mem
 ·obtain ⟨T, hT, hM⟩ := List.mem_flatten.1 hM
  exact h.tab T hT M hM
theorem Tr.ok.all {t : Tr} (h : t.ok) : ∀ M ∈ t.mem :: t.lv.flatten, ∀ c ∈ M, c.ok := fun M hM => by
 rcases List.mem_cons.1 hM with rfl | hM
 ·exact h.okm
 ·obtain ⟨T, hT, hM⟩ := List.mem_flatten.1 hM
  exact h.okt T hT M hM
theorem over_put1 {M acc : List Cl} (hM : Srt M) (ha : Srt acc) (c : Cl) : over (put1 c M) acc = put1 c (over M acc) := by
 refine srt_ext (srt_over ha) (srt_put1 (srt_over ha)) fun x => ?_
 rw [mem_over ha (srt_unl (srt_put1 hM)), mem_put1_iff (srt_over ha), mem_over ha (srt_unl hM), mem_put1_iff hM]
 constructor
 ·rintro ((rfl | ⟨h, hn⟩) | ⟨h, hn⟩)
  ·exact .inl rfl
  ·exact .inr ⟨.inl h, hn⟩
  ·refine .inr ⟨.inr ⟨h, fun d hd hk => ?_⟩, hn c (mem_put1_self c M)⟩
   by_cases hdc : keq d c
   ·exact hn c (mem_put1_self c M) (keq_trans hk hdc)
   ·exact hn d (mem_put1_old hd hdc) hk
 ·rintro (rfl | ⟨h | ⟨h, hn⟩, hc⟩)
  ·exact .inl (.inl rfl)
  ·exact .inl (.inr ⟨h, hc⟩)
  ·refine .inr ⟨h, fun d hd => ?_⟩
   rcases mem_put1 hd with rfl | hd
   ·exact hc
   ·exact hn d hd
def Tr.put (t : Tr) (c : Cl) : Tr := ⟨put1 c t.mem, t.lv⟩
theorem tput_cells {t : Tr} (h : t.ok) (c : Cl) : (t.put c).cells = put1 c t.cells := by
 unfold Tr.cells Tr.put
 rw [allP_cons, allP_cons, over_put1 h.mem (srt_all _)]
theorem tput_ok {t : Tr} (h : t.ok) {c : Cl} (hc : c.ok) : (t.put c).ok := ⟨srt_put1 h.mem, h.tab, ok_put1 hc h.okm, h.okt⟩
def casc (fan : Nat) : Nat → List (List (List Cl)) → List (List (List Cl))
 | 0, X => X
 | _ + 1, [] => []
 | _ + 1, [T] => if fan < T.length then [[], [allP T]] else [T]
 | n + 1, T :: U :: X => if fan < T.length then [] :: casc fan n ([allP (T ++ U)] :: X) else T :: casc fan n (U :: X)
theorem casc_all (fan : Nat) : ∀ (n : Nat) (X : List (List (List Cl))), (∀ T ∈ X, ∀ M ∈ T, Srt M) → (∀ T ∈ casc fan n X, ∀ M ∈ T, Srt M) ∧ allP (casc fan n X).flatten = allP X.flatten
 | 0, X, h => ⟨h, rfl⟩
 | _ + 1, [], h => ⟨h, rfl⟩
 | _ + 1, [T], h => by
  rw [casc]
  split
  ·refine ⟨fun A hA M hM => ?_, ?_⟩
   ·simp only [List.mem_cons, List.not_mem_nil, or_false] at hA
    rcases hA with rfl | rfl
    ·cases hM
    ·rw [List.mem_singleton.1 hM]
     exact srt_all T
   ·simp only [List.flatten_cons, List.flatten_nil, List.nil_append, List.append_nil]
    exact all_one (srt_all T)
  ·exact ⟨h, rfl⟩
 | n + 1, T :: U :: X, h => by
  have hT := h T (by simp)
  have hU := h U (by simp)
  have hTU : ∀ M ∈ T ++ U, Srt M := fun M hM => by
   rcases List.mem_append.1 hM with q | q
   ·exact hT M q
   ·exact hU M q
  rw [casc]
  split
  ·obtain ⟨h1, h2⟩ := casc_all fan n ([allP (T ++ U)] :: X) fun A hA M hM => by
    rcases List.mem_cons.1 hA with rfl | hA
    ·rw [List.mem_singleton.1 hM]; exact srt_all _
    ·exact h A (by simp [hA]) M hM
   refine ⟨fun A hA M hM => ?_, ?_⟩
   ·rcases List.mem_cons.1 hA with rfl | hA
    ·cases hM
    ·exact h1 A hA M hM
   ·rw [List.flatten_cons, List.nil_append, h2, List.flatten_cons, List.flatten_cons, List.flatten_cons, List.singleton_append, allP_cons, ← all_app _ hTU, List.append_assoc]
  ·obtain ⟨h1, h2⟩ := casc_all fan n (U :: X) fun A hA => h A (List.mem_cons_of_mem _ hA)
   refine ⟨fun A hA M hM => ?_, ?_⟩
   ·rcases List.mem_cons.1 hA with rfl | hA
    ·exact hT M hM
    ·exact h1 A hA M hM
   ·rw [List.flatten_cons, all_app _ hT, h2, ← all_app _ hT]
    rfl
theorem casc_ok (fan : Nat) : ∀ (n : Nat) (X : List (List (List Cl))), (∀ T ∈ X, ∀ M ∈ T, ∀ c ∈ M, c.ok) → ∀ T ∈ casc fan n X, ∀ M ∈ T, ∀ c ∈ M, c.ok
 | 0, X, h => h
 | _ + 1, [], h => h
 | _ + 1, [T], h => by
  rw [casc]
  split
  ·intro A hA M hM
   simp only [List.mem_cons, List.not_mem_nil, or_false] at hA
   rcases hA with rfl | rfl
   ·cases hM
   ·rw [List.mem_singleton.1 hM]
    exact ok_all (h T (by simp))
  ·exact h
 | n + 1, T :: U :: X, h => by
  rw [casc]
  split
  ·have h1 := casc_ok fan n ([allP (T ++ U)] :: X) fun A hA M hM => by
    rcases List.mem_cons.1 hA with rfl | hA
    ·rw [List.mem_singleton.1 hM]
     refine ok_all fun B hB => ?_
     rcases List.mem_append.1 hB with q | q
     ·exact h T (by simp) B q
     ·exact h U (by simp) B q
    ·exact h A (by simp [hA]) M hM
   intro A hA M hM
   rcases List.mem_cons.1 hA with rfl | hA
   ·cases hM
   ·exact h1 A hA M hM
  ·have h1 := casc_ok fan n (U :: X) fun A hA => h A (List.mem_cons_of_mem _ hA)
   intro A hA M hM
   rcases List.mem_cons.1 hA with rfl | hA
   ·exact h A (by simp) M hM
   ·exact h1 A hA M hM
def first0 (M : List Cl) (X : List (List (List Cl))) : List (List (List Cl)) := if M = [] then X else match X with | [] => [[M]] | T :: X => (M :: T) :: X
theorem first0_flat (M : List Cl) (X : List (List (List Cl))) : allP (first0 M X).flatten = allP (M :: X.flatten) := by
 unfold first0
 split
 ·next h => rw [h]; rfl
 ·cases X <;> rfl
def Tr.flush (fan : Nat) (t : Tr) : Tr := ⟨[], casc fan (first0 t.mem t.lv).length (first0 t.mem t.lv)⟩
theorem first0_srt {M : List Cl} {X : List (List (List Cl))} (hM : Srt M) (h : ∀ T ∈ X, ∀ A ∈ T, Srt A) : ∀ T ∈ first0 M X, ∀ A ∈ T, Srt A := by
 unfold first0
 split
 ·exact h
 ·intro T hT A hA
  cases X with
  | nil =>
   rw [List.mem_singleton.1 hT] at hA
   rw [List.mem_singleton.1 hA]
   exact hM
  | cons U X =>
   rcases List.mem_cons.1 hT with rfl | hT
   ·rcases List.mem_cons.1 hA with rfl | hA
    ·exact hM
    ·exact h U (by simp) A hA
   ·exact h T (by simp [hT]) A hA
theorem first0_ok {M : List Cl} {X : List (List (List Cl))} (hM : ∀ c ∈ M, c.ok) (h : ∀ T ∈ X, ∀ A ∈ T, ∀ c ∈ A, c.ok) : ∀ T ∈ first0 M X, ∀ A ∈ T, ∀ c ∈ A, c.ok := by
 unfold first0
 split
 ·exact h
 ·intro T hT A hA
  cases X with
  | nil =>
   rw [List.mem_singleton.1 hT] at hA
   rw [List.mem_singleton.1 hA]
   exact hM
  | cons U X =>
   rcases List.mem_cons.1 hT with rfl | hT
   ·rcases List.mem_cons.1 hA with rfl | hA
    ·exact hM
    ·exact h U (by simp) A hA
   ·exact h T (by simp [hT]) A hA
theorem flush_ok {t : Tr} (h : t.ok) (fan : Nat) : (t.flush fan).ok :=
 ⟨List.Pairwise.nil, (casc_all fan _ _ (first0_srt h.mem h.tab)).1, fun c hc => (by cases hc), casc_ok fan _ _ (first0_ok h.okm h.okt)⟩
theorem flush_cells {t : Tr} (h : t.ok) (fan : Nat) : (t.flush fan).cells = t.cells := by
 unfold Tr.cells Tr.flush
 rw [allP_cons]
 show allP _ = _
 rw [(casc_all fan _ _ (first0_srt h.mem h.tab)).2, first0_flat]
end Go.Proofs.YtcpkhhbbjimdaaaGreatDoor.Ce
namespace Go.Proofs.YtcpkhhbbjimdaaaGreatDoor.Ce
open Go.RowKit
structure Sf where
 mem : Int
 block : Int
 fan : Int
def Sf.cs (s : Sf) : Array Value := #[.int .i64 s.mem, .int .i64 s.block, .int .i64 s.fan]
abbrev sfD : St.Sp Sf := ⟨53, 0, 3, 24, Sf.cs, ⟨0, 0, 0⟩⟩
theorem sfOk : sfD.Ok Tryz.prog := ⟨⟨_, Tryz.underlying53, rfl⟩, by kernel_rfl, by decide, fun _ => rfl, fun x => by simp [Sf.cs, Value.oneCell']⟩
def Sf.v (s : Sf) : Value := .agg s.cs
structure Sf.right (s : Sf) : Prop where
 m1 : 1 ≤ s.mem
 m2 : s.mem ≤ 4096
 b1 : 1 ≤ s.block
 b2 : s.block ≤ 4096
 f1 : 1 ≤ s.fan
 f2 : s.fan ≤ 8
theorem Sf.right_iff {s : Sf} : s.right ↔ 1 ≤ s.mem ∧ s.mem ≤ 4096 ∧ 1 ≤ s.block ∧ s.block ≤ 4096 ∧ 1 ≤ s.fan ∧ s.fan ≤ 8 :=
 ⟨fun h => ⟨h.m1, h.m2, h.b1, h.b2, h.f1, h.f2⟩, fun ⟨a, b, c, d, e, f⟩ => ⟨a, b, c, d, e, f⟩⟩
instance decSfR (s : Sf) : Decidable s.right := decidable_of_iff _ Sf.right_iff.symm
structure Ac where
 do_ : Int
 c : Cl
def Ac.cs (a : Ac) : Array Value := #[.int .i64 a.do_, .string a.c.row, .string a.c.col, .int .i64 a.c.at_, .string a.c.val, .bool a.c.gone]
end Go.Proofs.YtcpkhhbbjimdaaaGreatDoor.Ce
