/- Heaps as container/heap has them, over a function of places: what one step of down and of up does, that the first place is the least, that exchanges lose nothing. Plain. container/heap's down, over whatever value with methods. container/heap's Init and Pop, over whatever value with methods. container/heap's up and Push, over whatever value with methods. -/
import Derived.Test.YtcpkhhbbjimdaaaGreatDoorBase
set_option maxHeartbeats 8000000
set_option maxRecDepth 100000
namespace Go.Proofs.YtcpkhhbbjimdaaaGreatDoor.Hp
variable {α : Type}
structure Ord (le : α → α → Prop) : Prop where
 tot : ∀ a b, le a b ∨ le b a
 tr : ∀ {a b c}, le a b → le b c → le a c
theorem Ord.self {le : α → α → Prop} (h : Ord le) (a : α) : le a a := (h.tot a a).elim id id
theorem Ord.of_not {le : α → α → Prop} (h : Ord le) {a b : α} (hn : ¬ le b a) : le a b := (h.tot a b).resolve_right hn
def swp (a : Nat → α) (i j : Nat) : Nat → α := fun k => if k = i then a j else if k = j then a i else a k
theorem swp_i (a : Nat → α) (i j : Nat) : swp a i j i = a j := by simp [swp]
theorem swp_j (a : Nat → α) (i j : Nat) : swp a i j j = a i := by
 unfold swp
 by_cases h : j = i
 ·rw [if_pos h, h]
 ·rw [if_neg h, if_pos rfl]
theorem swp_ne {a : Nat → α} {i j k : Nat} (h1 : k ≠ i) (h2 : k ≠ j) : swp a i j k = a k := by unfold swp; rw [if_neg h1, if_neg h2]
def Heap (le : α → α → Prop) (a : Nat → α) (lo n : Nat) : Prop := ∀ c, 0 < c → c < n → lo ≤ (c - 1) / 2 → le (a ((c - 1) / 2)) (a c)
structure Down (le : α → α → Prop) (a : Nat → α) (lo n i : Nat) : Prop where
 rest : ∀ c, 0 < c → c < n → lo ≤ (c - 1) / 2 → (c - 1) / 2 ≠ i → le (a ((c - 1) / 2)) (a c)
 over : ∀ c, 0 < c → c < n → (c - 1) / 2 = i → 0 < i → lo ≤ (i - 1) / 2 → le (a ((i - 1) / 2)) (a c)
structure Up (le : α → α → Prop) (a : Nat → α) (n j : Nat) : Prop where
 rest : ∀ c, 0 < c → c < n → c ≠ j → le (a ((c - 1) / 2)) (a c)
 over : ∀ c, 0 < c → c < n → (c - 1) / 2 = j → 0 < j → le (a ((j - 1) / 2)) (a c)
section
variable {le : α → α → Prop} {a b : Nat → α} {lo n i j : Nat}
theorem Heap.none (le : α → α → Prop) (a : Nat → α) (n : Nat) : Heap le a (n / 2) n := fun c h1 h2 h3 => by omega
theorem Heap.first (h : Heap le a 0 n) (hab : ∀ k, 0 < k → k < n → b k = a k) : Down le b 0 n 0 :=
 ⟨fun c h1 h2 h3 h4 => by
  have := h c h1 h2 h3
  rwa [hab c h1 h2, hab ((c - 1) / 2) (by omega) (by omega)], fun c _ _ _ h4 => by omega⟩
theorem Heap.congr (h : Heap le a lo n) (hab : ∀ k, k < n → b k = a k) : Heap le b lo n := fun c h1 h2 h3 => by
 rw [hab c h2, hab _ (by omega)]
 exact h c h1 h2 h3
theorem Heap.less {m : Nat} (h : Heap le a lo n) (hm : m ≤ n) : Heap le a lo m := fun c h1 h2 h3 => h c h1 (by omega) h3
theorem Down.stop (h : Down le a lo n i) (hs : ∀ c, 0 < c → c < n → (c - 1) / 2 = i → le (a i) (a c)) : Heap le a lo n := fun c h1 h2 h3 => by
 by_cases e : (c - 1) / 2 = i
 ·rw [e]
  exact hs c h1 h2 e
 ·exact h.rest c h1 h2 h3 e
theorem Down.step (h : Down le a lo n i) (hlo : lo ≤ i) (h0 : 0 < j) (hp : (j - 1) / 2 = i) (hn : j < n) (hmin : ∀ c, 0 < c → c < n → (c - 1) / 2 = i → le (a j) (a c)) (hle : le (a j) (a i)) : Down le (swp a i j) lo n j := by
 refine ⟨fun c h1 h2 h3 h4 => ?_, fun c h1 h2 h3 _ _ => ?_⟩
 ·by_cases e : (c - 1) / 2 = i
  ·rw [e, swp_i]
   by_cases ej : c = j
   ·subst ej
    rw [swp_j]
    exact hle
   ·rw [swp_ne (by omega) ej]
    exact hmin c h1 h2 e
  ·rw [swp_ne e h4]
   by_cases ei : c = i
   ·subst ei
    rw [swp_i]
    exact h.over j h0 hn hp h1 h3
   ·rw [swp_ne ei (by omega)]
    exact h.rest c h1 h2 h3 e
 ·rw [hp, swp_i, swp_ne (by omega) (by omega), ← h3]
  exact h.rest c h1 h2 (by omega) (by omega)
theorem min_one {k : Nat} (hO : Ord le) (hk : k = 2 * i + 1) (hn : n ≤ k + 1) : ∀ c, 0 < c → c < n → (c - 1) / 2 = i → le (a k) (a c) := fun c h1 h2 h3 => by
 obtain rfl : c = k := by omega
 exact hO.self _
theorem min_left (hO : Ord le) (h : le (a (2 * i + 1)) (a (2 * i + 2))) : ∀ c, 0 < c → c < n → (c - 1) / 2 = i → le (a (2 * i + 1)) (a c) := fun c h1 h2 h3 => by
 rcases (by omega : c = 2 * i + 1 ∨ c = 2 * i + 2) with rfl | rfl
 ·exact hO.self _
 ·exact h
theorem min_right (hO : Ord le) (h : le (a (2 * i + 2)) (a (2 * i + 1))) : ∀ c, 0 < c → c < n → (c - 1) / 2 = i → le (a (2 * i + 2)) (a c) := fun c h1 h2 h3 => by
 rcases (by omega : c = 2 * i + 1 ∨ c = 2 * i + 2) with rfl | rfl
 ·exact h
 ·exact hO.self _
theorem stop_min {k : Nat} (hO : Ord le) (hmin : ∀ c, 0 < c → c < n → (c - 1) / 2 = i → le (a k) (a c)) (h : le (a i) (a k)) : ∀ c, 0 < c → c < n → (c - 1) / 2 = i → le (a i) (a c) := fun c h1 h2 h3 => hO.tr h (hmin c h1 h2 h3)
theorem Heap.push (h : Heap le a 0 n) (hab : ∀ k, k < n → b k = a k) : Up le b (n + 1) n :=
 ⟨fun c h1 h2 h3 => by
  rw [hab c (by omega), hab _ (by omega)]
  exact h c h1 (by omega) (Nat.zero_le _), fun c h1 h2 h3 _ => by omega⟩
theorem Up.stop (h : Up le a n j) (hs : j = 0 ∨ le (a ((j - 1) / 2)) (a j)) : Heap le a 0 n := fun c h1 h2 _ => by
 by_cases e : c = j
 ·subst e
  exact hs.resolve_left (by omega)
 ·exact h.rest c h1 h2 e
theorem Up.step (hO : Ord le) (h : Up le a n j) (h0 : 0 < j) (hn : j < n) (hle : le (a j) (a ((j - 1) / 2))) : Up le (swp a ((j - 1) / 2) j) n ((j - 1) / 2) := by
 obtain ⟨i, hi⟩ : ∃ i, i = (j - 1) / 2 := ⟨_, rfl⟩
 rw [← hi] at hle ⊢
 have hij : i ≠ j := by omega
 refine ⟨fun c h1 h2 h3 => ?_, fun c h1 h2 h3 h4 => ?_⟩
 ·by_cases ej : c = j
  ·subst ej
   rw [← hi, swp_i, swp_j]
   exact hle
  ·rw [swp_ne (k := c) h3 ej]
   by_cases ep : (c - 1) / 2 = i
   ·rw [ep, swp_i]
    have := h.rest c h1 h2 ej
    rw [ep] at this
    exact hO.tr hle this
   ·by_cases ep2 : (c - 1) / 2 = j
    ·rw [ep2, swp_j]
     have := h.over c h1 h2 ep2 h0
     rwa [← hi] at this
    ·rw [swp_ne ep ep2]
     exact h.rest c h1 h2 ej
 ·have hpi := h.rest i h4 (by omega) hij
  rw [swp_ne (k := (i - 1) / 2) (by omega) (by omega)]
  by_cases ej : c = j
  ·subst ej
   rw [swp_j]
   exact hpi
  ·rw [swp_ne (by omega) ej]
   have := h.rest c h1 h2 ej
   rw [h3] at this
   exact hO.tr hpi this
theorem Heap.top (hO : Ord le) (h : Heap le a 0 n) : ∀ c, c < n → le (a 0) (a c) := by
 intro c
 induction c using Nat.strongRecOn with
 | ind c ih =>
  intro hc
  rcases Nat.eq_zero_or_pos c with rfl | hp
  ·exact hO.self _
  ·exact hO.tr (ih ((c - 1) / 2) (by omega) (by omega)) (h c hp hc (Nat.zero_le _))
end
theorem swp_map (a : Nat → α) (i j k : Nat) : swp a i j k = a (swp id i j k) := by
 unfold swp
 split
 ·rfl
 ·split <;> rfl
theorem swp_perm (a : Nat → α) {n i j : Nat} (hi : i < n) (hj : j < n) : ((List.range n).map (swp a i j)).Perm ((List.range n).map a) := by
 have h1 : (List.range n).map (swp a i j) = ((List.range n).map (swp id i j)).map a := by
  rw [List.map_map]
  exact List.map_congr_left fun k _ => swp_map a i j k
 rw [h1]
 refine List.Perm.map a ?_
 have hinj : ∀ x y, swp id i j x = swp id i j y → x = y := by
  intro x y
  unfold swp
  simp only [id]
  repeat' split
  all_goals omega
 refine (List.perm_ext_iff_of_nodup ?_ List.nodup_range).2 fun x => ?_
 ·exact List.Pairwise.map (swp id i j) (fun x y h e => h (hinj x y e)) List.nodup_range
 ·rw [List.mem_map, List.mem_range]
  constructor
  ·rintro ⟨y, hy, rfl⟩
   rw [List.mem_range] at hy
   unfold swp
   simp only [id]
   repeat' split
   all_goals omega
  ·intro hx
   refine ⟨swp id i j x, List.mem_range.2 ?_, ?_⟩
   ·unfold swp
    simp only [id]
    repeat' split
    all_goals omega
   ·unfold swp
    simp only [id]
    repeat' split
    all_goals omega
end Go.Proofs.YtcpkhhbbjimdaaaGreatDoor.Hp
namespace Go.Proofs.YtcpkhhbbjimdaaaGreatDoor.Hp
open Go.RowKit
variable {α : Type}
def Meth (T : TypeId) (rv : Value) (name : String) (args : List Value) (w : World) (R : Ending → World → Prop) : Prop :=
 ∃ f r, (∀ args w, (callFunc f args).run Tryz.prog w = .ok (.enter f args) w) ∧ (method (Tryz.prog.types.size + 100) T rv name).run Tryz.prog w = .ok (f, r) w ∧ Calls Tryz.prog f (r :: args).toArray w R
structure Iface (St : (Nat → α) → Nat → World → Prop) (T : TypeId) (rv : Value) (lt : α → α → Bool) : Prop where
 len : ∀ a n w, St a n w → Meth T rv "Len" [] w fun e w' => e = .returned (.int .i64 (n : Int)) ∧ St a n w'
 less : ∀ a n w (i j : Nat), St a n w → i < n → j < n → Meth T rv "Less" [.int .i64 (i : Int), .int .i64 (j : Int)] w fun e w' => e = .returned (.bool (lt (a i) (a j))) ∧ St a n w'
 swap : ∀ a n w (i j : Nat), St a n w → i < n → j < n → Meth T rv "Swap" [.int .i64 (i : Int), .int .i64 (j : Int)] w fun e w' => (∃ v, e = .returned v) ∧ St (swp a i j) n w'
structure SameTo (n : Nat) (a b : Nat → α) : Prop where
 p : ((List.range n).map b).Perm ((List.range n).map a)
 o : ∀ k, n ≤ k → b k = a k
theorem SameTo.refl (n : Nat) (a : Nat → α) : SameTo n a a := ⟨List.Perm.refl _, fun _ _ => rfl⟩
theorem SameTo.swp {n i j : Nat} {a b : Nat → α} (h : SameTo n a b) (hi : i < n) (hj : j < n) : SameTo n a (Hp.swp b i j) :=
 ⟨(swp_perm b hi hj).trans h.p, fun k hk => by rw [swp_ne (by omega) (by omega)]; exact h.o k hk⟩
abbrev leB (lt : α → α → Bool) (x y : α) : Prop := lt y x = false
theorem down_any {St : (Nat → α) → Nat → World → Prop} {T : TypeId} {rv : Value} {lt : α → α → Bool} (I : Iface St T rv lt) (hO : Ord (leB lt)) (a : Nat → α) (m n lo i0 : Nat) (w : World) (h : St a m w) (hn : n ≤ m) (hd : Down (leB lt) a lo n i0) (hlo : lo ≤ i0) (hm : m ≤ 1000000000) (hi0 : i0 ≤ 1000000000) :
  Calls Tryz.prog 96 #[.iface T rv, .int .i64 (i0 : Int), .int .i64 (n : Int)] w fun e w' => ∃ b q, e = .returned (.bool q) ∧ St b m w' ∧ Heap (leB lt) b lo n ∧ SameTo n a b := by
 have HI := Lib.hid I
 have HH : Hid (St a m w ∧ Down (leB lt) a lo n i0 ∧ SameTo n a a) := Lib.hid ⟨h, hd, SameTo.refl _ _⟩
 clear h hd I
 go_enter Tryz.func96, Tryz.ntmps96
 go_wp2_with fail
 go_loopw [7] (fun i wr => ∃ (k : Nat) (b : Nat → α), i = .int .i64 (k : Int) ∧ lo ≤ k ∧ k ≤ 1000000000 ∧ Hid (St b m wr ∧ Down (leB lt) b lo n k ∧ SameTo n a b)) (fun i _ => n - (intOf i).toNat)
 case atStart => exact ⟨i0, a, rfl, hlo, hi0, HH⟩
 case round =>
  clear HH
  obtain ⟨k, b, rfl, hlk, hk, HS⟩ := hrel
  by_cases h1 : 2 * k + 1 < n
  ·have g1 : ¬ (n : Int) ≤ 2 * (k : Int) + 1 := by omega
   have HD := Lib.hid HS.out.2
   have HS1 := Lib.hid HS.out.1
   clear HS
   by_cases h2 : 2 * k + 2 < n
   ·have g2 : 2 * (k : Int) + 1 + 1 < (n : Int) := by omega
    obtain ⟨f1, r1, ef1, mf1, cf1⟩ := HI.out.less b m wr (2 * k + 1 + 1) (2 * k + 1) HS1.out (by omega) (by omega)
    rw [show ((2 * k + 1 + 1 : Nat) : Int) = 2 * (k : Int) + 1 + 1 by omega, show ((2 * k + 1 : Nat) : Int) = 2 * (k : Int) + 1 by omega] at cf1
    simp at mf1
    go_wp2_with fail
    refine cf1.mono ?_
    rintro e w2 ⟨rfl, hs2⟩
    have HS2 := Lib.hid hs2
    clear hs2 cf1 ef1 mf1 HS1
    cases hl : lt (b (2 * k + 1 + 1)) (b (2 * k + 1))
    ·have HM := Lib.hid (min_left (n := n) hO (a := b) (i := k) hl)
     clear hl
     obtain ⟨f2, r2, ef2, mf2, cf2⟩ := HI.out.less b m w2 (2 * k + 1) k HS2.out (by omega) (by omega)
     rw [show ((2 * k + 1 : Nat) : Int) = 2 * (k : Int) + 1 by omega] at cf2
     simp at mf2
     go_wp2_with fail
     refine cf2.mono ?_
     rintro e w3 ⟨rfl, hs3⟩
     have HS3 := Lib.hid hs3
     clear hs3 cf2 ef2 mf2
     cases hq : lt (b (2 * k + 1)) (b k)
     ·have hst := HD.out.1.stop (stop_min hO HM.out hq)
      have HST := Lib.hid hst
      clear hst hq
      go_wp2_with fail
      go_ret
      exact ⟨b, _, rfl, HS3.out, HST.out, HD.out.2⟩
     ·have hle : leB lt (b (2 * k + 1)) (b k) := hO.of_not (fun h => by rw [show lt (b (2 * k + 1)) (b k) = false from h] at hq; cases hq)
      have hdn := HD.out.1.step hlk (by omega) (by omega) (by omega) HM.out hle
      have HDN := Lib.hid (And.intro hdn (HD.out.2.swp (i := k) (j := 2 * k + 1) (by omega) (by omega)))
      obtain ⟨f4, r4, ef4, mf4, cf4⟩ := HI.out.swap b m w3 k (2 * k + 1) HS3.out (by omega) (by omega)
      rw [show ((2 * k + 1 : Nat) : Int) = 2 * (k : Int) + 1 by omega] at cf4
      simp at mf4
      clear hle hdn hq
      go_wp2_with fail
      refine cf4.mono ?_
      rintro e w4 ⟨⟨v4, rfl⟩, hs4⟩
      have HS4 := Lib.hid hs4
      clear hs4 cf4 ef4 mf4
      go_wp2_with fail
      go_roundw
      case rel => exact ⟨2 * k + 1, _, by go_num, by omega, by omega, Lib.hid ⟨HS4.out, HDN.out⟩⟩
      case measure => simp [intOf]; omega
    ·have HM := Lib.hid (min_right (n := n) hO (a := b) (i := k) (hO.of_not (fun h => by rw [show lt (b (2 * k + 1 + 1)) (b (2 * k + 1)) = false from h] at hl; cases hl)))
     clear hl
     obtain ⟨f2, r2, ef2, mf2, cf2⟩ := HI.out.less b m w2 (2 * k + 1 + 1) k HS2.out (by omega) (by omega)
     rw [show ((2 * k + 1 + 1 : Nat) : Int) = 2 * (k : Int) + 1 + 1 by omega] at cf2
     simp at mf2
     go_wp2_with fail
     refine cf2.mono ?_
     rintro e w3 ⟨rfl, hs3⟩
     have HS3 := Lib.hid hs3
     clear hs3 cf2 ef2 mf2
     cases hq : lt (b (2 * k + 1 + 1)) (b k)
     ·have hst := HD.out.1.stop (stop_min hO HM.out hq)
      have HST := Lib.hid hst
      clear hst hq
      go_wp2_with fail
      go_ret
      exact ⟨b, _, rfl, HS3.out, HST.out, HD.out.2⟩
     ·have hle : leB lt (b (2 * k + 1 + 1)) (b k) := hO.of_not (fun h => by rw [show lt (b (2 * k + 1 + 1)) (b k) = false from h] at hq; cases hq)
      have hdn := HD.out.1.step hlk (by omega) (by omega) (by omega) HM.out hle
      have HDN := Lib.hid (And.intro hdn (HD.out.2.swp (i := k) (j := 2 * k + 1 + 1) (by omega) (by omega)))
      obtain ⟨f4, r4, ef4, mf4, cf4⟩ := HI.out.swap b m w3 k (2 * k + 1 + 1) HS3.out (by omega) (by omega)
      rw [show ((2 * k + 1 + 1 : Nat) : Int) = 2 * (k : Int) + 1 + 1 by omega] at cf4
      simp at mf4
      clear hle hdn hq
      go_wp2_with fail
      refine cf4.mono ?_
      rintro e w4 ⟨⟨v4, rfl⟩, hs4⟩
      have HS4 := Lib.hid hs4
      clear hs4 cf4 ef4 mf4
      go_wp2_with fail
      go_roundw
      case rel => exact ⟨2 * k + 1 + 1, _, by go_num, by omega, by omega, Lib.hid ⟨HS4.out, HDN.out⟩⟩
      case measure => simp [intOf]; omega
   ·have g2 : ¬ 2 * (k : Int) + 1 + 1 < (n : Int) := by omega
    have HM := Lib.hid (min_one (a := b) (i := k) (n := n) (k := 2 * k + 1) hO rfl (by omega))
    obtain ⟨f2, r2, ef2, mf2, cf2⟩ := HI.out.less b m wr (2 * k + 1) k HS1.out (by omega) (by omega)
    rw [show ((2 * k + 1 : Nat) : Int) = 2 * (k : Int) + 1 by omega] at cf2
    simp at mf2
    go_wp2_with fail
    refine cf2.mono ?_
    rintro e w3 ⟨rfl, hs3⟩
    have HS3 := Lib.hid hs3
    clear hs3 cf2 ef2 mf2
    cases hq : lt (b (2 * k + 1)) (b k)
    ·have hst := HD.out.1.stop (stop_min hO HM.out hq)
     have HST := Lib.hid hst
     clear hst hq
     go_wp2_with fail
     go_ret
     exact ⟨b, _, rfl, HS3.out, HST.out, HD.out.2⟩
    ·have hle : leB lt (b (2 * k + 1)) (b k) := hO.of_not (fun h => by rw [show lt (b (2 * k + 1)) (b k) = false from h] at hq; cases hq)
     have hdn := HD.out.1.step hlk (by omega) (by omega) (by omega) HM.out hle
     have HDN := Lib.hid (And.intro hdn (HD.out.2.swp (i := k) (j := 2 * k + 1) (by omega) (by omega)))
     obtain ⟨f4, r4, ef4, mf4, cf4⟩ := HI.out.swap b m w3 k (2 * k + 1) HS3.out (by omega) (by omega)
     rw [show ((2 * k + 1 : Nat) : Int) = 2 * (k : Int) + 1 by omega] at cf4
     simp at mf4
     clear hle hdn hq
     go_wp2_with fail
     refine cf4.mono ?_
     rintro e w4 ⟨⟨v4, rfl⟩, hs4⟩
     have HS4 := Lib.hid hs4
     clear hs4 cf4 ef4 mf4
     go_wp2_with fail
     go_roundw
     case rel => exact ⟨2 * k + 1, _, by go_num, by omega, by omega, Lib.hid ⟨HS4.out, HDN.out⟩⟩
     case measure => simp [intOf]; omega
  ·have hst := HS.out.2.1.stop (fun c c1 c2 c3 => by omega)
   have HF := Lib.hid (And.intro HS.out.1 (And.intro hst HS.out.2.2))
   have g1 : (n : Int) ≤ 2 * (k : Int) + 1 := by omega
   clear hst HS
   go_wp2_with fail
   go_ret
   exact ⟨b, _, rfl, HF.out⟩
end Go.Proofs.YtcpkhhbbjimdaaaGreatDoor.Hp
namespace Go.Proofs.YtcpkhhbbjimdaaaGreatDoor.Hp
open Go.RowKit
variable {α : Type}
theorem SameTo.trans {n : Nat} {a b c : Nat → α} (h : SameTo n a b) (k : SameTo n b c) : SameTo n a c := ⟨k.p.trans h.p, fun j hj => (k.o j hj).trans (h.o j hj)⟩
structure IfacePop (St : (Nat → α) → Nat → World → Prop) (En : α → Value → World → Prop) (T : TypeId) (rv : Value) : Prop where
 pop : ∀ a n w, n ≤ 100000000 → St a (n + 1) w → Meth T rv "Pop" [] w fun e w' => ∃ v, e = .returned v ∧ En (a n) v w' ∧ St a n w'
theorem pop_any {St : (Nat → α) → Nat → World → Prop} {En : α → Value → World → Prop} {T : TypeId} {rv : Value} {lt : α → α → Bool} (I : Iface St T rv lt) (J : IfacePop St En T rv) (hO : Ord (leB lt)) (a : Nat → α) (n : Nat) (w : World) (h : St a (n + 1) w) (hh : Heap (leB lt) a 0 (n + 1)) (hm : n ≤ 100000000) :
  Calls Tryz.prog 78 #[.iface T rv] w fun e w' => ∃ b v, e = .returned v ∧ En (a 0) v w' ∧ St b n w' ∧ Heap (leB lt) b 0 n ∧ SameTo n (swp a 0 n) b := by
 have HI := Lib.hid I
 have HJ := Lib.hid J
 obtain ⟨f1, r1, ef1, mf1, cf1⟩ := HI.out.len a (n + 1) w h
 simp at mf1
 have hw : IntKind.i64.wrap (((n + 1 : Nat) : Int) - 1) = (n : Int) := by rw [IntKind.wrap_i64]; omega
 clear h I J
 go_enter Tryz.func78, Tryz.ntmps78
 go_wp2_with fail
 refine cf1.mono ?_
 rintro e w1 ⟨rfl, hs1⟩
 obtain ⟨f2, r2, ef2, mf2, cf2⟩ := HI.out.swap a (n + 1) w1 0 n hs1 (by omega) (by omega)
 simp at mf2
 clear hs1 cf1 ef1 mf1
 go_wp2_with fail
 refine cf2.mono ?_
 rintro e w2 ⟨⟨v2, rfl⟩, hs2⟩
 have hd := down_any HI.out hO (swp a 0 n) (n + 1) n 0 0 w2 hs2 (by omega) ((hh.less (by omega)).first (fun k h1 h2 => swp_ne (by omega) (by omega))) (Nat.le_refl _) (by omega) (by omega)
 clear hs2 cf2 ef2 mf2
 go_wp2_with fail
 refine hd.mono ?_
 rintro e w3 ⟨b, q, rfl, hs3, hh3, hp3⟩
 obtain ⟨f4, r4, ef4, mf4, cf4⟩ := HJ.out.pop b n w3 hm hs3
 simp at mf4
 have hbn : b n = a 0 := by rw [hp3.o n (Nat.le_refl _), swp_j]
 rw [hbn] at cf4
 have HP := Lib.hid (And.intro hh3 hp3)
 clear hs3 hh3 hp3 hd hbn
 go_wp2_with fail
 refine cf4.mono ?_
 rintro e w5 ⟨v5, rfl, hv5, hs5⟩
 have HV := Lib.hid (And.intro hv5 hs5)
 clear hv5 hs5 cf4 ef4 mf4
 go_wp2_with fail
 go_ret
 exact ⟨b, _, rfl, HV.out.1, HV.out.2, HP.out.1, HP.out.2⟩
end Go.Proofs.YtcpkhhbbjimdaaaGreatDoor.Hp
namespace Go.Proofs.YtcpkhhbbjimdaaaGreatDoor.Hp
open Go.RowKit
variable {α : Type}
theorem up_any {St : (Nat → α) → Nat → World → Prop} {T : TypeId} {rv : Value} {lt : α → α → Bool} (I : Iface St T rv lt) (hO : Ord (leB lt)) (a : Nat → α) (n j0 : Nat) (w : World) (h : St a n w) (hu : Up (leB lt) a n j0) (hj : j0 < n) (hm : n ≤ 1000000000) :
  Calls Tryz.prog 95 #[.iface T rv, .int .i64 (j0 : Int)] w fun e w' => ∃ b v, e = .returned v ∧ St b n w' ∧ Heap (leB lt) b 0 n ∧ SameTo n a b := by
 have HI := Lib.hid I
 have HS0 : Hid (St a n w ∧ Up (leB lt) a n j0 ∧ SameTo n a a) := Lib.hid ⟨h, hu, SameTo.refl _ _⟩
 clear h I hu
 go_enter Tryz.func95, Tryz.ntmps95
 go_wp2_with fail
 go_loopw [1] (fun i wr => ∃ (k : Nat) (b : Nat → α), i = .int .i64 (k : Int) ∧ k < n ∧ Hid (St b n wr ∧ Up (leB lt) b n k ∧ SameTo n a b)) (fun i _ => (intOf i).toNat)
 case atStart => exact ⟨j0, a, rfl, hj, HS0⟩
 case round =>
  clear HS0
  obtain ⟨k, b, rfl, hk, HS⟩ := hrel
  by_cases h0 : k = 0
  ·subst h0
   have hst := HS.out.2.1.stop (.inl rfl)
   have HF := Lib.hid (And.intro HS.out.1 (And.intro hst HS.out.2.2))
   have e0 : ((0 : Nat) : Int) = 0 := rfl
   rw [e0]
   clear hst HS
   go_wp2_with fail
   go_end0
   exact ⟨b, _, rfl, HF.out⟩
  ·obtain ⟨i, hi⟩ : ∃ i, i = (k - 1) / 2 := ⟨_, rfl⟩
   have hik : i < k := by omega
   have hq : ((k : Int) - 1) / 2 = (i : Int) := by omega
   have hq2 : Int.tdiv ((k : Int) - 1) 2 = (i : Int) := by rw [Int.tdiv_eq_ediv_of_nonneg (by omega)]; exact hq
   have hw : IntKind.i64.wrap ((k : Int) - 1) = (k : Int) - 1 := by rw [IntKind.wrap_i64]; omega
   have hne : ((i : Int) == (k : Int)) = false := by rw [beq_eq_false_iff_ne]; omega
   have hne2 : ¬ (i : Int) = (k : Int) := by omega
   obtain ⟨f1, r1, ef1, mf1, cf1⟩ := HI.out.less b n wr k i HS.out.1 hk (by omega)
   simp at mf1
   have HU := Lib.hid HS.out.2
   have HI2 := Lib.hid hi
   clear HS hi h0
   go_wp2_with fail
   refine cf1.mono ?_
   rintro e w2 ⟨rfl, hs2⟩
   have HS2 := Lib.hid hs2
   clear hs2 cf1 ef1 mf1
   cases hl : lt (b k) (b i)
   ·have hst := HU.out.1.stop (.inr (by rw [← HI2.out]; exact hl))
    have HST := Lib.hid hst
    clear hst hl
    go_wp2_with fail
    go_end0
    exact ⟨b, _, rfl, HS2.out, HST.out, HU.out.2⟩
   ·have hle : leB lt (b k) (b i) := hO.of_not (fun h => by rw [show lt (b k) (b i) = false from h] at hl; cases hl)
    have hup := HU.out.1.step hO (by omega) hk (by rw [← HI2.out]; exact hle)
    rw [← HI2.out] at hup
    have HUP := Lib.hid (And.intro hup (HU.out.2.swp (i := i) (j := k) (by omega) hk))
    obtain ⟨f4, r4, ef4, mf4, cf4⟩ := HI.out.swap b n w2 i k HS2.out (by omega) hk
    simp at mf4
    clear hle hup hl
    go_wp2_with fail
    refine cf4.mono ?_
    rintro e w4 ⟨⟨v4, rfl⟩, hs4⟩
    have HS4 := Lib.hid hs4
    clear hs4 cf4 ef4 mf4
    go_wp2_with fail
    go_roundw
    case rel => exact ⟨i, _, by go_num, by omega, Lib.hid ⟨HS4.out, HUP.out⟩⟩
    case measure => simp [intOf]; omega
structure IfacePush (St : (Nat → α) → Nat → World → Prop) (En : α → Value → World → Prop) (T : TypeId) (rv : Value) : Prop where
 push : ∀ a n w x v, n ≤ 100000000 → St a n w → En x v w → Meth T rv "Push" [v] w fun e w' => (∃ u, e = .returned u) ∧ St (fun k => if k = n then x else a k) (n + 1) w'
theorem push_any {St : (Nat → α) → Nat → World → Prop} {En : α → Value → World → Prop} {T : TypeId} {rv : Value} {lt : α → α → Bool} (I : Iface St T rv lt) (J : IfacePush St En T rv) (hO : Ord (leB lt)) (a : Nat → α) (n : Nat) (x : α) (v : Value) (w : World) (h : St a n w) (hx : En x v w) (hh : Heap (leB lt) a 0 n) (hm : n ≤ 100000000) :
  Calls Tryz.prog 77 #[.iface T rv, v] w fun e w' => ∃ b u, e = .returned u ∧ St b (n + 1) w' ∧ Heap (leB lt) b 0 (n + 1) ∧ SameTo (n + 1) (fun k => if k = n then x else a k) b := by
 have HI := Lib.hid I
 obtain ⟨f1, r1, ef1, mf1, cf1⟩ := J.push a n w x v hm h hx
 simp at mf1
 have hw : IntKind.i64.wrap (((n + 1 : Nat) : Int) - 1) = (n : Int) := by rw [IntKind.wrap_i64]; omega
 have HU : Hid (Up (leB lt) (fun k => if k = n then x else a k) (n + 1) n) := Lib.hid (hh.push fun k hk => if_neg (by omega))
 obtain ⟨c, hc⟩ : ∃ c : Nat → α, c = fun k => if k = n then x else a k := ⟨_, rfl⟩
 rw [← hc] at cf1 HU ⊢
 clear h I J hx hh hc
 go_enter Tryz.func77, Tryz.ntmps77
 go_wp2_with fail
 refine cf1.mono ?_
 rintro e w1 ⟨⟨u1, rfl⟩, hs1⟩
 obtain ⟨f2, r2, ef2, mf2, cf2⟩ := HI.out.len c (n + 1) w1 hs1
 simp at mf2
 clear hs1 cf1 ef1 mf1
 go_wp2_with fail
 refine cf2.mono ?_
 rintro e w2 ⟨rfl, hs2⟩
 have hup := up_any HI.out hO c (n + 1) n w2 hs2 HU.out (by omega) (by omega)
 clear hs2 cf2 ef2 mf2
 go_wp2_with fail
 refine hup.mono ?_
 rintro e w3 ⟨b, u3, rfl, hs3, hh3, hp3⟩
 have HP := Lib.hid (And.intro hs3 (And.intro hh3 hp3))
 clear hs3 hh3 hp3 hup
 go_wp2_with fail
 go_end0
 exact ⟨b, _, rfl, HP.out⟩
end Go.Proofs.YtcpkhhbbjimdaaaGreatDoor.Hp
