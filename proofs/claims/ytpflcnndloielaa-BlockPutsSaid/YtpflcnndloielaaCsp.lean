/- The contracts of cutFlag and split of package cell. -/
import Derived.Test.YtpflcnndloielaaCput
namespace Go.Proofs.Ytpflcnndloielaa.Ce
open Go.RowKit

/-! a text, a number, a byte at the beginning; nothing where there is none -/
noncomputable def ctOk (l : List UInt8) : Bool := @decide (textOk l) (Classical.propDecidable _)
noncomputable def ctS (l : List UInt8) : ByteArray := if ctOk l = true then ⟨(textOf l).toArray⟩ else ⟨#[]⟩
noncomputable def ctR (l : List UInt8) : List UInt8 := if ctOk l = true then textRest l else []
def cnN (l : List UInt8) : Nat := if 4 ≤ l.length then numOf l else 0
def cnR (l : List UInt8) : List UInt8 := if 4 ≤ l.length then l.drop 4 else []
def cfOk : List UInt8 → Bool
  | [] => false
  | f :: _ => decide (f.toNat ≤ 1)
def cfB : List UInt8 → Bool
  | [] => false
  | f :: _ => decide (f.toNat = 1)
def cfR : List UInt8 → List UInt8
  | [] => []
  | f :: m => if f.toNat ≤ 1 then m else []
theorem ctOk_iff {l : List UInt8} : ctOk l = true ↔ textOk l := by unfold ctOk; simp
theorem ctR_len (l : List UInt8) : (ctR l).length ≤ l.length := by
  unfold ctR textRest
  split
  · simp
  · simp
theorem cnR_len (l : List UInt8) : (cnR l).length ≤ l.length := by
  unfold cnR
  split
  · simp
  · simp
theorem cfR_len (l : List UInt8) : (cfR l).length ≤ l.length := by
  cases l with
  | nil => simp [cfR]
  | cons f m =>
    show (if f.toNat ≤ 1 then m else []).length ≤ m.length + 1
    split
    · simp
    · simp
theorem cutText_any (x : Value) (l : List UInt8) (B : Nat) (w : World) (hr : Rd w B x (l.map bv)) (hl : l.length ≤ 1000000000000) :
    Calls Try.prog 65 #[x] w fun e w' => (∃ r, e = .returned (.tuple #[.string (ctS l), r, .bool (ctOk l)]) ∧ Ow w' w.heap.size 5 r ((ctR l).map bv)) ∧ Below w.heap.size w w' := by
  by_cases h : textOk l
  · have h1 := ctOk_iff.2 h
    unfold ctS ctR
    rw [h1, if_pos rfl, if_pos rfl]
    exact (cutText_ok x l B w hr h hl).mono fun _ _ ⟨r, he, ho, hb⟩ => ⟨⟨r, he, ho⟩, hb⟩
  · have h1 : ctOk l = false := by cases hq : ctOk l with | true => exact absurd (ctOk_iff.1 hq) h | false => rfl
    unfold ctS ctR
    rw [h1, if_neg (by simp), if_neg (by simp)]
    exact (cutText_no x l B w hr h).mono fun _ _ ⟨r, he, ho, hb⟩ => ⟨⟨r, he, ho⟩, hb⟩
theorem cutNum_any (x : Value) (l : List UInt8) (B : Nat) (w : World) (hr : Rd w B x (l.map bv)) (hl : l.length ≤ 1000000000000) :
    Calls Try.prog 47 #[x] w fun e w' => (∃ r q, e = .returned (.tuple #[.int .i64 (cnN l : Int), r, .bool q]) ∧ Ow w' w.heap.size 5 r ((cnR l).map bv)) ∧ Below w.heap.size w w' := by
  by_cases h : 4 ≤ l.length
  · unfold cnN cnR
    rw [if_pos h, if_pos h]
    exact (cutNum_ok x l B w hr h hl).mono fun _ _ ⟨r, he, ho, hb⟩ => ⟨⟨r, _, he, ho⟩, hb⟩
  · unfold cnN cnR
    rw [if_neg h, if_neg h]
    exact (cutNum_no x l B w hr (by omega)).mono fun _ _ ⟨r, he, ho, hb⟩ => ⟨⟨r, _, he, ho⟩, hb⟩
set_option maxHeartbeats 1000000 in
theorem cutFlag_any (x : Value) (l : List UInt8) (B : Nat) (w : World) (hr : Rd w B x (l.map bv)) :
    Calls Try.prog 66 #[x] w fun e w' => (∃ r, e = .returned (.tuple #[.bool (cfB l), r, .bool (cfOk l)]) ∧ Rd w' B r ((cfR l).map bv)) ∧ Below w.heap.size w w' := by
  cases l with
  | nil =>
    obtain ⟨A, c, rfl, hc, hm⟩ := hr.shapeM
    clear hr
    go_enter Try.func66, Try.ntmps66
    go_wp2_with fail
    go_ret3
    exact ⟨⟨_, rfl, Rd.nil _ _⟩, Below.refl _ _⟩
  | cons f m =>
    obtain ⟨A, c, rfl, hc, hm⟩ := hr.shapeM
    obtain ⟨b, off, rfl, hb, hcell⟩ := hr.cellM (by simp)
    have c0 := hcell 0 (by simp)
    simp only [List.getElem_cons_zero, Nat.add_zero] at c0
    unfold bv at c0
    unfold maxLen at hm
    simp only [List.length_cons] at hc hr ⊢
    have hf := f.toNat_lt
    have t0 : ((m.length : Int) + 1 == 0) = false := by simp; omega
    by_cases h1 : (f.toNat : Int) ≤ 1
    · have t1 : decide (1 < (f.toNat : Int)) = false := by simp; omega
      have e1 : cfB (f :: m) = ((f.toNat : Int) == 1) := by
        unfold cfB
        rw [Bool.eq_iff_iff]
        simp
        omega
      have e2 : cfOk (f :: m) = true := by unfold cfOk; simp; omega
      have e3 : cfR (f :: m) = m := by show (if f.toNat ≤ 1 then m else []) = m; rw [if_pos (by omega)]
      rw [e1, e2, e3]
      clear e1 e2 e3 hcell
      by_cases hk : c = 1
      · have hr2 : Rd w B (.slice (some ⟨b, off, none⟩) 0 0) (m.map bv) := by
          have h0 : m = [] := List.eq_nil_of_length_eq_zero (by omega)
          subst h0
          have := hr.mono (Nat.le_refl B)
          exact ⟨_, _, rfl, Nat.le_refl _, by simp [maxLen], fun h => absurd h (by simp)⟩
        have HR := Lib.hid hr2
        have hml : m.length = 0 := by omega
        clear hr hr2
        subst hk
        go_enter Try.func66, Try.ntmps66
        go_wp2_with fail
        go_quiet (fail)
        go_wp2_with fail
        go_ret3
        exact ⟨⟨_, rfl, HR.out.below (bwN' _ _)⟩, bwN _⟩
      · have hr2 := hr.fromC (lo := 1) (by omega) hk
        rw [← List.map_drop, List.drop_succ_cons, List.drop_zero, Nat.add_sub_cancel] at hr2
        have HR := Lib.hid hr2
        clear hr hr2
        go_enter Try.func66, Try.ntmps66
        go_wp2_with fail
        go_quiet (fail)
        go_wp2_with fail
        go_ret3
        exact ⟨⟨_, rfl, HR.out.below (bwN' _ _)⟩, bwN _⟩
    · have e1 : cfB (f :: m) = false := by unfold cfB; simp; omega
      have e2 : cfOk (f :: m) = false := by unfold cfOk; simp; omega
      have e3 : cfR (f :: m) = [] := by show (if f.toNat ≤ 1 then m else []) = []; rw [if_neg (by omega)]
      rw [e1, e2, e3]
      clear e1 e2 e3 hcell hr
      go_enter Try.func66, Try.ntmps66
      go_wp2_with fail
      go_ret3
      exact ⟨⟨_, rfl, Rd.nil _ _⟩, Below.refl _ _⟩

theorem SetC.ow {g B e : Nat} {c : Cl} {w w' : World} {v : Value} {xs : List Value} (h : SetC g c w w') (ho : Ow w B e v xs) (hg : g < B) : Ow w' B e v xs := by
  obtain ⟨h1, h2⟩ := ho
  refine ⟨h1, ?_⟩
  rcases h2 with h2 | ⟨k, cap, cur, hv, hk, hh, r⟩
  · exact .inl h2
  · exact .inr ⟨k, cap, cur, hv, hk, by rw [h.o k (by omega)]; exact hh, r⟩
/-! split -/
noncomputable def sp1 (l : List UInt8) : List UInt8 := ctR l
noncomputable def sp2 (l : List UInt8) : List UInt8 := ctR (sp1 l)
noncomputable def sp3 (l : List UInt8) : List UInt8 := cnR (sp2 l)
noncomputable def sp4 (l : List UInt8) : List UInt8 := cfR (sp3 l)
noncomputable def spR (l : List UInt8) : List UInt8 := ctR (sp4 l)
noncomputable def spC (l : List UInt8) : Cl := ⟨ctS l, ctS (sp1 l), (cnN (sp2 l) : Int), ctS (sp4 l), cfB (sp3 l)⟩
noncomputable def spOk (l : List UInt8) : Bool := ctOk (sp4 l)
theorem sp_len (l : List UInt8) : (sp1 l).length ≤ l.length ∧ (sp2 l).length ≤ l.length ∧ (sp3 l).length ≤ l.length ∧ (sp4 l).length ≤ l.length ∧ (spR l).length ≤ l.length := by
  have h1 := ctR_len l
  have h2 := ctR_len (sp1 l)
  have h3 := cnR_len (sp2 l)
  have h4 := cfR_len (sp3 l)
  have h5 := ctR_len (sp4 l)
  unfold spR
  unfold sp4 at *
  unfold sp3 at *
  unfold sp2 at *
  unfold sp1 at *
  omega
set_option maxHeartbeats 2000000 in
set_option maxRecDepth 100000 in
theorem split_any (x : Value) (l : List UInt8) (B : Nat) (w : World) (hr : Rd w B x (l.map bv)) (hB : B ≤ w.heap.size) (hl : l.length ≤ 1000000000) :
    Calls Try.prog 63 #[x] w fun e w' => (∃ r, e = .returned (.tuple #[(spC l).v, r, .bool (spOk l)]) ∧ Rd w' w'.heap.size r ((spR l).map bv)) ∧ Below w.heap.size w w' := by
  obtain ⟨l1, l2, l3, l4, l5⟩ := sp_len l
  have k1 := fun x B w hr => cutText_any x l B w hr (by omega)
  have k2 := fun x B w hr => cutText_any x (sp1 l) B w hr (by omega)
  have k3 := fun x B w hr => cutNum_any x (sp2 l) B w hr (by omega)
  have k4 := fun x B w hr => cutFlag_any x (sp3 l) B w hr
  have k5 := fun x B w hr => cutText_any x (sp4 l) B w hr (by omega)
  have HK : Hid ((spC l) = ⟨ctS l, ctS (sp1 l), (cnN (sp2 l) : Int), ctS (sp4 l), cfB (sp3 l)⟩) := Lib.hid rfl
  rw [show ctR l = sp1 l from rfl] at k1
  rw [show ctR (sp1 l) = sp2 l from rfl] at k2
  rw [show cnR (sp2 l) = sp3 l from rfl] at k3
  rw [show cfR (sp3 l) = sp4 l from rfl] at k4
  rw [show ctR (sp4 l) = spR l from rfl, show ctOk (sp4 l) = spOk l from rfl] at k5
  generalize spR l = m5 at *
  generalize spOk l = q5 at *
  generalize ctS (sp4 l) = s5 at *
  generalize cfB (sp3 l) = g4 at *
  generalize cfOk (sp3 l) = q4 at *
  generalize cnN (sp2 l) = n3 at *
  generalize ctS (sp1 l) = s2 at *
  generalize ctOk (sp1 l) = q2 at *
  generalize ctS l = s1 at *
  generalize ctOk l = q1 at *
  generalize sp4 l = m4 at *
  generalize sp3 l = m3 at *
  generalize sp2 l = m2 at *
  generalize sp1 l = m1 at *
  generalize spC l = cc at *
  obtain rfl := HK.out
  clear HK l1 l2 l3 l4 l5
  go_enter Try.func63, Try.ntmps63
  go_wp2_with (refine allocC rfl rfl ?_)
  constructor
  intro w0 hI hb0 hz0
  have hr := hr.below (hb0.mono hB)
  have hB0 : B ≤ w0.heap.size := by have := hb0.size; omega
  clear hz0
  go_wp2_with fail
  refine (k1 _ _ _ hr).mono ?_
  rintro e w1 ⟨⟨r1, rfl, h1⟩, hb1⟩
  have hI := hI.up hb1
  have hb0 := bwstep hb0 hb1
  go_wp2_with fail
  refine (k2 _ _ _ h1.rd).mono ?_
  rintro e w2 ⟨⟨r2, rfl, h2⟩, hb2⟩
  have hI := hI.up hb2
  have hb0 := bwstep hb0 hb2
  clear h1
  go_wp2_with fail
  refine (k3 _ _ _ h2.rd).mono ?_
  rintro e w3 ⟨⟨r3, q3, rfl, h3⟩, hb3⟩
  have hI := hI.up hb3
  have hb0 := bwstep hb0 hb3
  clear h2
  go_wp2_with fail
  refine (k4 _ _ _ h3.rd).mono ?_
  rintro e w4 ⟨⟨r4, rfl, h4⟩, hb4⟩
  have hI := hI.up hb4
  have hb0 := bwstep hb0 hb4
  clear h3
  go_wp2_with fail
  have hlt := hI.lt
  refine (k5 _ _ _ h4).mono ?_
  rintro e w5 ⟨⟨r5, rfl, h5⟩, hb5⟩
  have hI := hI.up hb5
  have hb0 := bwstep hb0 hb5
  clear hb1 hb2 hb3 hb4 hb5
  go_wp2_with (refine storeC (c := ⟨s1, s2, (n3 : Int), s5, g4⟩) rfl (.tmp 2) (.tmp 50) rfl rfl rfl hI ?_)
  constructor
  intro w6 hs
  have HS := Lib.hid hs
  clear hs
  go_wp2_with fail
  have hb6 : Below w.heap.size w w6 := hb0.trans HS.out.b
  exact bodyPost_ret (res3 Try.results63 rfl HS.out.i) rfl ⟨⟨_, rfl, (HS.out.ow h5 hlt).rd⟩, hb6⟩
end Go.Proofs.Ytpflcnndloielaa.Ce
