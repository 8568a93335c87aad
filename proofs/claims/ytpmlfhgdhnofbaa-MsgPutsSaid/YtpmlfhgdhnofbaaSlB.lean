/- A vote read from bytes: the contract of package slot's readVote. -/
import Derived.Test.YtpmlfhgdhnofbaaSlA
set_option maxHeartbeats 8000000
set_option maxRecDepth 100000
namespace Go.Proofs.Ytpmlfhgdhnofbaa.Ce
open Go.RowKit
def RdX (w : World) (B G : Nat) (v : Value) (xs : List Value) : Prop := (Rd w B v xs ∧ B ≤ w.heap.size) ∨ RdG w G v xs
theorem RdX.rd {w : World} {B G : Nat} {v : Value} {xs : List Value} (h : RdX w B G v xs) : Rd w w.heap.size v xs := h.elim (fun h => h.1.mono h.2) (·.rd)
theorem RdX.up {w w' : World} {B G : Nat} {v : Value} {xs : List Value} (h : RdX w B G v xs) (hb : Below w.heap.size w w') : RdX w' B G v xs :=
 h.elim (fun h => .inl ⟨h.1.below (hb.mono h.2), Nat.le_trans h.2 hb.size⟩) fun h => .inr (h.up hb)
theorem RdX.set {w w' : World} {B G g : Nat} {v : Value} {xs : List Value} (h : RdX w B G v xs) (ho : ∀ k, k ≠ g → w'.heap[k]? = w.heap[k]?) (hz : w'.heap.size = w.heap.size) (h1 : B ≤ g) (h2 : g < G) : RdX w' B G v xs :=
 h.elim (fun h => .inl ⟨h.1.keep fun p hp => by simp only [World.cell?, ho p.block (by omega)], by rw [hz]; exact h.2⟩) fun h => .inr (h.set (fun k hk => ho k (by omega)) hz)
def n4 (g : Nat → Int) : Array Value := #[.int .i64 (g 0), .int .i64 (g 1), .int .i64 (g 2), .int .i64 (g 3)]
abbrev n4D : St.Sp (Nat → Int) := ⟨89, 0, 4, 32, n4, fun _ => 0⟩
theorem n4Ok : n4D.Ok Try.prog := ⟨⟨_, Try.underlying89, rfl⟩, by kernel_rfl, by decide, fun _ => rfl, fun x => by simp [n4, Value.oneCell']⟩
theorem n4_at (g : Nat → Int) {k : Nat} (hk : k < 4) : (n4 g)[k]? = some (.int .i64 (g k)) := by
 have : k = 0 ∨ k = 1 ∨ k = 2 ∨ k = 3 := by omega
 rcases this with rfl | rfl | rfl | rfl <;> rfl
theorem n4_set (g : Nat → Int) {k : Nat} (hk : k < 4) (n : Int) : (n4 g).setIfInBounds k (.int .i64 n) = n4 (upd g k n) := by
 have : k = 0 ∨ k = 1 ∨ k = 2 ∨ k = 3 := by omega
 rcases this with rfl | rfl | rfl | rfl <;> simp [n4, upd]
def vN (c : Vt) : List Int := [c.slot, c.ballot, c.origin, if c.full = true then 1 else 0]
theorem vtB_drop (c : Vt) : (vtB c).drop 4 = numsB (vN c) ++ textB c.bytes := by
 have : vtB c = numB 2 ++ (numsB (vN c) ++ textB c.bytes) := by simp [vtB, numsB, vtN, vN]
 rw [this, List.drop_left' (numB_len _)]
theorem vN_nums {c : Vt} (h : c.Right) : ∀ n ∈ vN c, 0 ≤ n ∧ n ≤ 4294967295 := fun n hn => h.nums n (List.mem_cons_of_mem _ hn)
def VtRd (l : List UInt8) (k : Nat) (g : Nat → Int) (L : List UInt8) : Prop := ∀ c : Vt, c.Right → l = (vtB c).drop 4 → (∀ j, j < k → (vN c)[j]? = some (g j)) ∧ L = numsB ((vN c).drop k) ++ textB c.bytes
theorem VtRd.start (l : List UInt8) : VtRd l 0 (fun _ => 0) l := fun c _ hc => ⟨fun j hj => absurd hj (by omega), by rw [hc, vtB_drop]; rfl⟩
theorem VtRd.ok {l : List UInt8} {k : Nat} {g : Nat → Int} {L : List UInt8} (h : VtRd l k g L) (hk : k < 4) : VtRd l (k + 1) (upd g k (numOf L)) (L.drop 4) := by
 intro c hr hc
 obtain ⟨h1, rfl⟩ := h c hr hc
 have hl : k < (vN c).length := hk
 have hb := vN_nums hr _ (List.getElem_mem hl)
 rw [numsB_drop _ hl, List.append_assoc, Frm.numOf_numB _ (by omega), List.drop_left' (numB_len _)]
 refine ⟨fun j hj => ?_, rfl⟩
 unfold upd
 by_cases e : j = k
 ·subst e
  rw [if_pos rfl, List.getElem?_eq_getElem hl, Int.toNat_of_nonneg hb.1]
 ·rw [if_neg e]
  exact h1 j (by omega)
theorem VtRd.no {l : List UInt8} {k : Nat} {g : Nat → Int} {L : List UInt8} (h : VtRd l k g L) (hk : k < 4) (hn : L.length < 4) (g' : Nat → Int) (L' : List UInt8) : VtRd l (k + 1) g' L' := by
 intro c hr hc
 obtain ⟨h1, rfl⟩ := h c hr hc
 have hl : k < (vN c).length := hk
 rw [numsB_drop _ hl, List.append_assoc, List.length_append, numB_len] at hn
 omega
def mk4 (g : Nat → Int) (t : ByteArray) : Vt := ⟨g 0, g 1, g 2, g 3 == 1, t⟩
theorem VtRd.end_ {l : List UInt8} {k : Nat} {g : Nat → Int} {L : List UInt8} (h : VtRd l k g L) (hk : 4 ≤ k) (t : ByteArray) (ht : textOk L → t = ⟨(textOf L).toArray⟩) : ∀ c : Vt, c.Right → l = (vtB c).drop 4 → mk4 g t = c := by
 intro c hr hc
 obtain ⟨h0, rfl⟩ := h c hr hc
 rw [List.drop_of_length_le (show (vN c).length ≤ k from hk)] at ht
 have htx := hr.text
 have hok := textOk_textB c.bytes htx []
 have hof := textOf_textB c.bytes htx []
 rw [List.append_nil] at hok hof
 have ht' := ht hok
 simp only [numsB, List.flatMap_nil, List.nil_append] at ht'
 rw [hof] at ht'
 have a0 := h0 0 (by omega)
 have a1 := h0 1 (by omega)
 have a2 := h0 2 (by omega)
 have a3 := h0 3 (by omega)
 simp only [vN, List.getElem?_cons_zero, List.getElem?_cons_succ, Option.some.injEq] at a0 a1 a2 a3
 apply Vt.ext' <;> simp only [mk4]
 ·exact a0.symm
 ·exact a1.symm
 ·exact a2.symm
 ·rw [← a3]
  cases c.full <;> rfl
 ·exact ht'
theorem sread_any (x : Value) (l : List UInt8) (w : World) (hrx : Rd w w.heap.size x (l.map bv)) (hs : l.length ≤ 1000000) : Calls Try.prog 67 #[x] w fun e w' => (∃ c : Vt, e = .returned c.v ∧ ∀ c' : Vt, c'.Right → l = (vtB c').drop 4 → c = c') ∧ Below w.heap.size w w' := by
 have HR0 := Lib.hid hrx
 have HL : Hid (l.length ≤ 1000000) := Lib.hid hs
 have HR1 := Lib.hid (VtRd.start l)
 clear hrx hs
 go_enter Try.func67, Try.ntmps67
 go_wp2_with (refine St.alloc vtOk rfl rfl ?_)
 constructor
 intro w1 hI1 hb1 hz1
 have HI1 := Lib.hid hI1
 have HZ1 := Lib.hid hz1
 clear hI1 hz1
 go_wp2_with (refine St.alloc n4Ok rfl rfl ?_)
 constructor
 intro w2 hN2 hb2 hz2
 have HN2 := Lib.hid hN2
 have HI2 := Lib.hid (HI1.out.up hb2)
 have HZ2 := Lib.hid hz2
 have HB2 := Lib.hid (bwstep hb1 hb2)
 have HX2 : Hid (RdX w2 w.heap.size w2.heap.size x (l.map bv)) := Lib.hid (.inl ⟨HR0.out.below HB2.out, HB2.out.size⟩)
 have HS2 : Hid (w2.heap.size ≤ w2.heap.size) := Lib.hid (Nat.le_refl _)
 have h12 : Hid (w.heap.size < w1.heap.size) := Lib.hid (by have := HZ1.out; omega)
 have h23 : Hid (w1.heap.size < w2.heap.size) := Lib.hid (by have := HZ2.out; omega)
 clear hN2 hz2 hb1 hb2 HR0
 go_wp2_with fail
 go_loopw [0, 8] (fun v i wr => ∃ (k : Nat) (g : Nat → Int) (L : List UInt8), k ≤ 4 ∧ i = .int .i64 (k : Int) ∧ RdX wr w.heap.size w2.heap.size v (L.map bv) ∧ L.length ≤ 1000000 ∧ n4D.In w1.heap.size g wr ∧ vtD.In w.heap.size Vt.zero wr ∧ Below w.heap.size w wr ∧ w2.heap.size ≤ wr.heap.size ∧ VtRd l k g L) (fun _ i _ => 4 - (intOf i).toNat)
 case atStart => exact ⟨0, fun _ => 0, l, by omega, rfl, HX2.out, HL.out, HN2.out, HI2.out, HB2.out, HS2.out, HR1.out⟩
 case round =>
  clear HR1
  obtain ⟨k, g, L, hk, rfl, hr, hL, hN, hI, hB, hS, hq⟩ := hrel
  by_cases hlt : k < 4
  ·by_cases h4 : 4 ≤ L.length
   ·have HQ := Lib.hid (hq.ok hlt)
    generalize hnn : numOf L = n at HQ
    have hc := fun W hr => cutNum_ok u0 L wr.heap.size W hr h4 (by omega)
    rw [hnn] at hc
    have HR := Lib.hid hr
    have HN := Lib.hid hN
    have HI := Lib.hid hI
    have HB := Lib.hid hB
    have HS := Lib.hid hS
    have HL5 : Hid ((L.drop 4).length ≤ 1000000) := Lib.hid (by simp; omega)
    clear hr hN hI hB hq hnn h4 hL hS
    obtain ⟨wo, hwo⟩ : ∃ wo, wo = wr := ⟨_, rfl⟩
    subst hwo
    go_wp2_with fail
    refine (hc _ HR.out.rd).mono ?_
    rintro e w5 ⟨r, rfl, ho, hb5⟩
    have HO : Hid (RdX w5 w.heap.size w2.heap.size r ((L.drop 4).map bv)) := Lib.hid (.inr (RdG.of_ow ho HS.out))
    have HS5 := Lib.hid (Nat.le_trans HS.out hb5.size)
    have hN5 := HN.out.up hb5
    have HI5 := Lib.hid (HI.out.up hb5)
    have HB5 := Lib.hid (bwstep HB.out hb5)
    have hcell := hN5.at_ (n4_at g hlt)
    have hfz := hN5.fz k
    have HP := Lib.hid (St.Sp.Set.part hN5 (n4_set g hlt (n : Int)))
    clear ho hb5 hN5 hc
    go_wp2_with fail
    go_roundw
    case rel =>
     have e1 := h12.out
     have e2 := h23.out
     exact ⟨k + 1, upd g k (n : Int), (L.drop 4), by omega, by go_num, HO.out.set HP.out.o HP.out.z (by omega) (by omega), HL5.out, HP.out.i, HP.out.up HI5.out (by omega), HP.out.bel HB5.out (by omega), by rw [HP.out.z]; exact HS5.out, HQ.out⟩
    case measure => simp [intOf]; omega
   ·have HQ := Lib.hid (hq.no hlt (by omega) (upd g k 0) [])
    have hc := fun W hr => cutNum_no u0 L wr.heap.size W hr (by omega)
    have HR := Lib.hid hr
    have HN := Lib.hid hN
    have HI := Lib.hid hI
    have HB := Lib.hid hB
    have HS := Lib.hid hS
    have HL5 : Hid (([] : List UInt8).length ≤ 1000000) := Lib.hid (by simp)
    clear hr hN hI hB hq h4 hL hS
    obtain ⟨wo, hwo⟩ : ∃ wo, wo = wr := ⟨_, rfl⟩
    subst hwo
    go_wp2_with fail
    refine (hc _ HR.out.rd).mono ?_
    rintro e w5 ⟨r, rfl, ho, hb5⟩
    have HO : Hid (RdX w5 w.heap.size w2.heap.size r (([] : List UInt8).map bv)) := Lib.hid (.inr (RdG.of_ow ho HS.out))
    have HS5 := Lib.hid (Nat.le_trans HS.out hb5.size)
    have hN5 := HN.out.up hb5
    have HI5 := Lib.hid (HI.out.up hb5)
    have HB5 := Lib.hid (bwstep HB.out hb5)
    have hcell := hN5.at_ (n4_at g hlt)
    have hfz := hN5.fz k
    have HP := Lib.hid (St.Sp.Set.part hN5 (n4_set g hlt (0 : Int)))
    clear ho hb5 hN5 hc
    go_wp2_with fail
    go_roundw
    case rel =>
     have e1 := h12.out
     have e2 := h23.out
     exact ⟨k + 1, upd g k (0 : Int), ([] : List UInt8), by omega, by go_num, HO.out.set HP.out.o HP.out.z (by omega) (by omega), HL5.out, HP.out.i, HP.out.up HI5.out (by omega), HP.out.bel HB5.out (by omega), by rw [HP.out.z]; exact HS5.out, HQ.out⟩
    case measure => simp [intOf]; omega
  ·have HQ := Lib.hid (hq.end_ (by omega))
   have hTX : ∀ W, Below wr.heap.size wr W → Rd W W.heap.size u0 (L.map bv) → Calls Try.prog 53 #[u0] W fun e w' => ∃ t r b, e = .returned (.tuple #[.string t, r, .bool b]) ∧ (textOk L → t = ⟨(textOf L).toArray⟩) ∧ Below W.heap.size W w' := by
    intro W _ hr
    by_cases ht : textOk L
    ·refine (cutText_ok u0 L W.heap.size W hr ht (by omega)).mono ?_
     rintro e w5 ⟨r, rfl, -, hb5⟩
     exact ⟨_, r, true, rfl, fun _ => rfl, hb5⟩
    ·refine (cutText_no u0 L W.heap.size W hr ht).mono ?_
     rintro e w5 ⟨r, rfl, -, hb5⟩
     exact ⟨_, r, false, rfl, fun h => absurd h ht, hb5⟩
   have HR := Lib.hid hr
   have HN := Lib.hid hN
   have HI := Lib.hid hI
   have HB := Lib.hid hB
   have hk5 : 4 ≤ k := by omega
   clear hr hN hI hB hq hL hS hlt
   obtain ⟨wo, hwo⟩ : ∃ wo, wo = wr := ⟨_, rfl⟩
   subst hwo
   obtain ⟨p6, hp6⟩ : ∃ p6, p6 = u0 := ⟨_, rfl⟩
   subst hp6
   obtain ⟨km, hkm⟩ : ∃ km, km = k := ⟨_, rfl⟩
   subst hkm
   go_wp2_with fail
   refine (hTX _ (Below.refl _ _) HR.out.rd).mono ?_
   rintro e w5 ⟨t, r, b, rfl, ht, hb5⟩
   have hN := HN.out.up hb5
   have hI := HI.out.up hb5
   have HB5 := Lib.hid (bwstep HB.out hb5)
   have HQ5 := Lib.hid (HQ.out t ht)
   have a0 := hN.at_ (n4_at g (k := 0) (by omega))
   have a1 := hN.at_ (n4_at g (k := 1) (by omega))
   have a2 := hN.at_ (n4_at g (k := 2) (by omega))
   have a3 := hN.at_ (n4_at g (k := 3) (by omega))
   clear HQ ht hN hTX hb5 HR HN HI HB
   go_wp2_with (refine St.store vtOk (c := mk4 g t) rfl (.tmp 2) (.tmp 36) rfl rfl rfl hI ?_)
   constructor
   intro w6 hs6
   have HS6 := Lib.hid hs6
   clear hs6 hI a0 a1 a2 a3
   go_wp2_with fail
   refine bodyPost_ret (St.res1 vtOk Try.results67 rfl HS6.out.i) rfl ⟨⟨_, rfl, HQ5.out⟩, HS6.out.bel HB5.out (Nat.le_refl _)⟩
end Go.Proofs.Ytpmlfhgdhnofbaa.Ce
