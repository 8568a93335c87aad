/- A cell's bytes; the contracts of flag and Put of package cell. The contracts of cutFlag and split of package cell. What stands at the beginning of bytes: a cell, or none. Plain. The contract of Cut of package cell. -/
import Derived.Test.YtcpkhhbbjimdaaaGreatDoorClA
import Derived.Test.YtcpkhhbbjimdaaaGreatDoorLow
import Derived.Test.YtcpkhhbbjimdaaaGreatDoorFrmA
import Derived.Deep.RegionWith
set_option maxHeartbeats 8000000
set_option maxRecDepth 100000
namespace Go.Proofs.YtcpkhhbbjimdaaaGreatDoor.Ce
open Go.RowKit
def flagB (g : Bool) : List UInt8 := [if g then 1 else 0]
def cellB (c : Cl) : List UInt8 := textB c.row ++ (textB c.col ++ (numB c.at_.toNat ++ (flagB c.gone ++ textB c.val)))
theorem cellB_len (c : Cl) : (cellB c).length = 17 + c.row.size + c.col.size + c.val.size := by
 unfold cellB
 simp only [List.length_append, textB_len, numB_len, flagB, List.length_singleton]
 omega
theorem build5 {w : World} {a b c d f : Value} {x y z u s : List UInt8} (e : Nat) (ha : Rd w w.heap.size a (x.map bv)) (hb : Rd w w.heap.size b (y.map bv)) (hc : Rd w w.heap.size c (z.map bv)) (hd : Rd w w.heap.size d (u.map bv)) (hf : Rd w w.heap.size f (s.map bv)) :
  RdM (w.alloc (.cells #[a, b, c, d, f] e)) (w.alloc (.cells #[a, b, c, d, f] e)).heap.size (.slice (some ⟨w.heap.size, 0, none⟩) 5 5) 5 (gl [x, y, z, u, s]) := by
 have hal := bwalloc (bwrefl w) (.cells #[a, b, c, d, f] e)
 refine ⟨fun i => [a, b, c, d, f].getD i undef, Rd.newW w e #[a, b, c, d, f] rfl (by simp [maxLen]) rfl, fun j hj => ?_⟩
 match j, hj with
 | 0, _ => exact ha.up hal
 | 1, _ => exact hb.up hal
 | 2, _ => exact hc.up hal
 | 3, _ => exact hd.up hal
 | 4, _ => exact hf.up hal
theorem flatG5 (x y z u s : List UInt8) : flatG (gl [x, y, z, u, s]) 5 = x ++ (y ++ (z ++ (u ++ s))) := by
 show (((([] ++ x) ++ y) ++ z) ++ u) ++ s = _
 simp
theorem concat5 {w : World} {a b c d f : Value} {x y z u s : List UInt8} (e : Nat) (ha : Rd w w.heap.size a (x.map bv)) (hb : Rd w w.heap.size b (y.map bv)) (hc : Rd w w.heap.size c (z.map bv)) (hd : Rd w w.heap.size d (u.map bv)) (hf : Rd w w.heap.size f (s.map bv))
  (hp : 0 < (x ++ (y ++ (z ++ (u ++ s)))).length) (hm : (x ++ (y ++ (z ++ (u ++ s)))).length ≤ 1000000) :
  Calls Tryz.prog 108 #[.slice (some ⟨w.heap.size, 0, none⟩) 5 5] (w.alloc (.cells #[a, b, c, d, f] e)) fun e' w' => (∃ v, e' = .returned v ∧ Ow w' (w.alloc (.cells #[a, b, c, d, f] e)).heap.size 5 v ((x ++ (y ++ (z ++ (u ++ s)))).map bv)) ∧ Below (w.alloc (.cells #[a, b, c, d, f] e)).heap.size (w.alloc (.cells #[a, b, c, d, f] e)) w' := by
 have := concatG_any _ 5 _ _ (build5 e ha hb hc hd hf) (by omega) (by rw [flatG5]; exact hp) (by rw [flatG5]; exact hm)
 rw [flatG5] at this
 exact this
theorem flag_any (g : Bool) (w : World) : Calls Tryz.prog 109 #[.bool g] w fun e w' => (∃ v, e = .returned v ∧ Ow w' w.heap.size 5 v ((flagB g).map bv)) ∧ Below w.heap.size w w' := by
 have h1 : Ow (w.alloc (.cells #[.int .u8 1] 5)) w.heap.size 5 (.slice (some ⟨w.heap.size, 0, none⟩) 1 1) ((flagB true).map bv) := Ow.new w #[.int .u8 1] rfl (by simp [maxLen]) rfl (Nat.le_refl _)
 have h0 : Ow (w.alloc (.cells #[.int .u8 0] 5)) w.heap.size 5 (.slice (some ⟨w.heap.size, 0, none⟩) 1 1) ((flagB false).map bv) := Ow.new w #[.int .u8 0] rfl (by simp [maxLen]) rfl (Nat.le_refl _)
 cases g
 ·go_enter Tryz.func109, Tryz.ntmps109
  go_wp2
  go_ret
  exact ⟨⟨_, rfl, h0⟩, bwalloc (Below.refl _ _) _⟩
 ·go_enter Tryz.func109, Tryz.ntmps109
  go_wp2
  go_ret
  exact ⟨⟨_, rfl, h1⟩, bwalloc (Below.refl _ _) _⟩
def AllC (g : Nat) (c : Cl) (w1 w' : World) : Prop := w'.cell? ⟨g, 0, none⟩ = some (.string c.row) ∧ w'.cell? ⟨g, 1, none⟩ = some (.string c.col) ∧ w'.cell? ⟨g, 2, none⟩ = some (.int .i64 c.at_) ∧ w'.cell? ⟨g, 3, none⟩ = some (.string c.val) ∧ w'.cell? ⟨g, 4, none⟩ = some (.bool c.gone) ∧ Below w1.heap.size w1 w'
theorem AllC.of {g : Nat} {c : Cl} {w1 w' : World} (h : InC g c w1) (hb : Below w1.heap.size w1 w') : AllC g c w1 w' := let p := h.up hb; ⟨p.c0, p.c1, p.c2, p.c3, p.c4, hb⟩
theorem num_int (n : Int) (w : World) (h0 : 0 ≤ n) (h1 : n ≤ 4294967295) : Calls Tryz.prog 67 #[.int .i64 n] w fun e w' => ∃ v, e = .returned v ∧ Ow w' w.heap.size 5 v ((numB n.toNat).map bv) ∧ Below w.heap.size w w' := by
 have := num_ok n.toNat w (by omega)
 rw [Int.toNat_of_nonneg h0] at this
 exact this
theorem put_ok (c : Cl) (w : World) (h : c.ok) : Calls Tryz.prog 100 #[c.v] w fun e w' => (∃ x, e = .returned x ∧ Ow w' w.heap.size 5 x ((cellB c).map bv)) ∧ Below w.heap.size w w' := by
 have l1 : c.row.size ≤ 4294967295 := by have := h.r2; omega
 have l2 : c.col.size ≤ 4294967295 := by have := h.c2; omega
 have l3 : c.val.size ≤ 4294967295 := by have := h.v; omega
 have HL : Hid (0 < (cellB c).length ∧ (cellB c).length ≤ 1000000) := Lib.hid (by rw [cellB_len]; have := h.r2; have := h.c2; have := h.v; omega)
 have hr := fun w => right_any c w
 rw [decide_eq_true h] at hr
 go_enter Tryz.func100, Tryz.ntmps100
 go_wp2_with (refine boxC rfl (.tmp 0) c rfl rfl ?_)
 constructor
 intro w1 hI1 hb1 hz1
 go_wp2_with (refine loadC rfl (.tmp 1) rfl rfl hI1 ?_)
 refine (hr _).mono ?_
 rintro e w2 ⟨rfl, hb2⟩
 have HB := Lib.hid (hb1.trans (hb2.mono hb1.size))
 have HI := Lib.hid (hI1.up hb2)
 clear hI1 hb1 hb2 hr hz1
 go_wp2_with fail
 have HT := Lib.hid (AllC.of HI.out ((Below.refl w2.heap.size w2).drew))
 have HU : Hid (∀ a b : World, AllC w.heap.size c w2 a → Below a.heap.size a b → AllC w.heap.size c w2 b) := Lib.hid fun a b hS hb => AllC.of HI.out (bwstep hS.2.2.2.2.2 hb)
 go_region_held3 (fun w' => w'.cell? ⟨w.heap.size, 0, none⟩ = some (.string c.row) ∧ w'.cell? ⟨w.heap.size, 1, none⟩ = some (.string c.col) ∧ w'.cell? ⟨w.heap.size, 2, none⟩ = some (.int .i64 c.at_) ∧ w'.cell? ⟨w.heap.size, 3, none⟩ = some (.string c.val) ∧ w'.cell? ⟨w.heap.size, 4, none⟩ = some (.bool c.gone) ∧ Below w2.heap.size w2 w') (first | exact HT.out | assumption | exact HU.out _ _ (by assumption) (by assumption) | exact HU.out _ _ (by assumption) (bwalloc (Below.refl _ _) _))
  (first
   | (go_at_call 68; (with_reducible refine (text_ok c.row _ l1).mono ?_); rintro e wa ⟨va, rfl, oa, ba⟩; obtain ⟨A1, c1, rfl, -, -⟩ := oa.rd.shapeM; have ra := oa.rd; clear oa)
   | (go_at_call 68; (with_reducible refine (text_ok c.col _ l2).mono ?_); rintro e wb ⟨vb, rfl, ob, bb⟩; obtain ⟨A2, c2, rfl, -, -⟩ := ob.rd.shapeM; have rb := ob.rd; clear ob; have ra := ra.up bb)
   | (go_at_call 67; refine (num_int c.at_ _ h.a1 h.a2).mono ?_; rintro e wc ⟨vc, rfl, oc, bc⟩; obtain ⟨A3, c3, rfl, -, -⟩ := oc.rd.shapeM; have rc := oc.rd; clear oc; have ra := ra.up bc; have rb := rb.up bc)
   | (go_at_call 109; refine (flag_any _ _).mono ?_; rintro e wd ⟨⟨vd, rfl, od⟩, bd⟩; obtain ⟨A4, c4, rfl, -, -⟩ := od.rd.shapeM; have rd := od.rd; clear od; have ra := ra.up bd; have rb := rb.up bd; have rc := rc.up bd)
   | (go_at_call 68; (with_reducible refine (text_ok c.val _ l3).mono ?_); rintro e we ⟨ve, rfl, oe, be⟩; obtain ⟨A5, c5, rfl, -, -⟩ := oe.rd.shapeM; have re := oe.rd; clear oe; have ra := ra.up be; have rb := rb.up be; have rc := rc.up be; have rd := rd.up be)
   | (go_at_call 108; refine (concat5 _ ra rb rc rd re HL.out.1 HL.out.2).mono ?_; rintro e wz ⟨⟨z, rfl, hz⟩, hbz⟩; have HZ := Lib.hid hz; clear hz))
 have hc := bwstep (bwstep (bwstep (bwstep (bwstep HB.out ((Below.refl w2.heap.size w2).drew)) ba) bb) bc) bd
 have hc := bwstep hc be
 have hBz := bwstep (bwalloc hc _) hbz
 have hs5 := (bwalloc hc (.cells #[.slice A1 (textB c.row).length c1, .slice A2 (textB c.col).length c2, .slice A3 (numB c.at_.toNat).length c3, .slice A4 (flagB c.gone).length c4, .slice A5 (textB c.val).length c5] 84)).size
 go_wp2_with fail
 go_ret
 exact ⟨⟨_, rfl, HZ.out.mono hs5⟩, hBz⟩
end Go.Proofs.YtcpkhhbbjimdaaaGreatDoor.Ce
namespace Go.Proofs.YtcpkhhbbjimdaaaGreatDoor.Ce
open Go.RowKit
noncomputable def ctOk (l : List UInt8) : Bool := @decide (textOk l) (Classical.propDecidable _)
noncomputable def ctS (l : List UInt8) : ByteArray := if ctOk l = true then ⟨(textOf l).toArray⟩ else ⟨#[]⟩
noncomputable def ctR (l : List UInt8) : List UInt8 := if ctOk l = true then textRest l else []
def cnN (l : List UInt8) : Nat := if 4 ≤ l.length then numOf l else 0
def cnR (l : List UInt8) : List UInt8 := if 4 ≤ l.length then l.drop 4 else []
def cfOk : List UInt8 → Bool
 | [] => false
 | f :: _ => decide (f.toNat ≤ 1)
def cfB : List UInt8 → Bool
 | [] => false
 | f :: _ => decide (f.toNat = 1)
def cfR : List UInt8 → List UInt8
 | [] => []
 | f :: m => if f.toNat ≤ 1 then m else []
theorem ctOk_iff {l : List UInt8} : ctOk l = true ↔ textOk l := by unfold ctOk; simp
theorem ctR_len (l : List UInt8) : (ctR l).length ≤ l.length := by
 unfold ctR textRest
 split
 ·simp
 ·simp
theorem cnR_len (l : List UInt8) : (cnR l).length ≤ l.length := by
 unfold cnR
 split
 ·simp
 ·simp
theorem cfR_len (l : List UInt8) : (cfR l).length ≤ l.length := by
 cases l with
 | nil => simp [cfR]
 | cons f m =>
  show (if f.toNat ≤ 1 then m else []).length ≤ m.length + 1
  split
  ·simp
  ·simp
theorem cutText_any (x : Value) (l : List UInt8) (B : Nat) (w : World) (hr : Rd w B x (l.map bv)) (hl : l.length ≤ 1000000000000) :
  Calls Tryz.prog 118 #[x] w fun e w' => (∃ r, e = .returned (.tuple #[.string (ctS l), r, .bool (ctOk l)]) ∧ Ow w' w.heap.size 5 r ((ctR l).map bv)) ∧ Below w.heap.size w w' := by
 by_cases h : textOk l
 ·have h1 := ctOk_iff.2 h
  unfold ctS ctR
  rw [h1, if_pos rfl, if_pos rfl]
  exact (cutText_ok x l B w hr h hl).mono fun _ _ ⟨r, he, ho, hb⟩ => ⟨⟨r, he, ho⟩, hb⟩
 ·have h1 : ctOk l = false := by cases hq : ctOk l with | true => exact absurd (ctOk_iff.1 hq) h | false => rfl
  unfold ctS ctR
  rw [h1, if_neg (by simp), if_neg (by simp)]
  exact (cutText_no x l B w hr h).mono fun _ _ ⟨r, he, ho, hb⟩ => ⟨⟨r, he, ho⟩, hb⟩
theorem cutNum_any (x : Value) (l : List UInt8) (B : Nat) (w : World) (hr : Rd w B x (l.map bv)) (hl : l.length ≤ 1000000000000) :
  Calls Tryz.prog 130 #[x] w fun e w' => (∃ r q, e = .returned (.tuple #[.int .i64 (cnN l : Int), r, .bool q]) ∧ Ow w' w.heap.size 5 r ((cnR l).map bv)) ∧ Below w.heap.size w w' := by
 by_cases h : 4 ≤ l.length
 ·unfold cnN cnR
  rw [if_pos h, if_pos h]
  exact (cutNum_ok x l B w hr h hl).mono fun _ _ ⟨r, he, ho, hb⟩ => ⟨⟨r, _, he, ho⟩, hb⟩
 ·unfold cnN cnR
  rw [if_neg h, if_neg h]
  exact (cutNum_no x l B w hr (by omega)).mono fun _ _ ⟨r, he, ho, hb⟩ => ⟨⟨r, _, he, ho⟩, hb⟩
theorem cutFlag_any (x : Value) (l : List UInt8) (B : Nat) (w : World) (hr : Rd w B x (l.map bv)) :
  Calls Tryz.prog 149 #[x] w fun e w' => (∃ r, e = .returned (.tuple #[.bool (cfB l), r, .bool (cfOk l)]) ∧ Rd w' B r ((cfR l).map bv)) ∧ Below w.heap.size w w' := by
 cases l with
 | nil =>
  obtain ⟨A, c, rfl, hc, hm⟩ := hr.shapeM
  clear hr
  go_enter Tryz.func149, Tryz.ntmps149
  go_wp2_with fail
  go_ret3
  exact ⟨⟨_, rfl, Rd.nil _ _⟩, Below.refl _ _⟩
 | cons f m =>
  obtain ⟨A, c, rfl, hc, hm⟩ := hr.shapeM
  obtain ⟨b, off, rfl, hb, hcell⟩ := hr.cellM (by simp)
  have c0 := hcell 0 (by simp)
  simp only [List.getElem_cons_zero, Nat.add_zero] at c0
  unfold bv at c0
  unfold maxLen at hm
  simp only [List.length_cons] at hc hr ⊢
  have hf := f.toNat_lt
  have t0 : ((m.length : Int) + 1 == 0) = false := by simp; omega
  by_cases h1 : (f.toNat : Int) ≤ 1
  ·have t1 : decide (1 < (f.toNat : Int)) = false := by simp; omega
   have e1 : cfB (f :: m) = ((f.toNat : Int) == 1) := by
    unfold cfB
    rw [Bool.eq_iff_iff]
    simp
    omega
   have e2 : cfOk (f :: m) = true := by unfold cfOk; simp; omega
   have e3 : cfR (f :: m) = m := by show (if f.toNat ≤ 1 then m else []) = m; rw [if_pos (by omega)]
   rw [e1, e2, e3]
   clear e1 e2 e3 hcell
   by_cases hk : c = 1
   ·have hr2 : Rd w B (.slice (some ⟨b, off, none⟩) 0 0) (m.map bv) := by
     have h0 : m = [] := List.eq_nil_of_length_eq_zero (by omega)
     subst h0
     have := hr.mono (Nat.le_refl B)
     exact ⟨_, _, rfl, Nat.le_refl _, by simp [maxLen], fun h => absurd h (by simp)⟩
    have HR := Lib.hid hr2
    have hml : m.length = 0 := by omega
    clear hr hr2
    subst hk
    go_enter Tryz.func149, Tryz.ntmps149
    go_wp2_with fail
    go_quiet (fail)
    go_wp2_with fail
    go_ret3
    exact ⟨⟨_, rfl, HR.out.below (bwN' _ _)⟩, bwN _⟩
   ·have hr2 := hr.fromC (lo := 1) (by omega) hk
    rw [← List.map_drop, List.drop_succ_cons, List.drop_zero, Nat.add_sub_cancel] at hr2
    have HR := Lib.hid hr2
    clear hr hr2
    go_enter Tryz.func149, Tryz.ntmps149
    go_wp2_with fail
    go_quiet (fail)
    go_wp2_with fail
    go_ret3
    exact ⟨⟨_, rfl, HR.out.below (bwN' _ _)⟩, bwN _⟩
  ·have e1 : cfB (f :: m) = false := by unfold cfB; simp; omega
   have e2 : cfOk (f :: m) = false := by unfold cfOk; simp; omega
   have e3 : cfR (f :: m) = [] := by show (if f.toNat ≤ 1 then m else []) = []; rw [if_neg (by omega)]
   rw [e1, e2, e3]
   clear e1 e2 e3 hcell hr
   go_enter Tryz.func149, Tryz.ntmps149
   go_wp2_with fail
   go_ret3
   exact ⟨⟨_, rfl, Rd.nil _ _⟩, Below.refl _ _⟩
theorem SetC.ow {g B e : Nat} {c : Cl} {w w' : World} {v : Value} {xs : List Value} (h : SetC g c w w') (ho : Ow w B e v xs) (hg : g < B) : Ow w' B e v xs := by
 obtain ⟨h1, h2⟩ := ho
 refine ⟨h1, ?_⟩
 rcases h2 with h2 | ⟨k, cap, cur, hv, hk, hh, r⟩
 ·exact .inl h2
 ·exact .inr ⟨k, cap, cur, hv, hk, by rw [h.o k (by omega)]; exact hh, r⟩
noncomputable def sp1 (l : List UInt8) : List UInt8 := ctR l
noncomputable def sp2 (l : List UInt8) : List UInt8 := ctR (sp1 l)
noncomputable def sp3 (l : List UInt8) : List UInt8 := cnR (sp2 l)
noncomputable def sp4 (l : List UInt8) : List UInt8 := cfR (sp3 l)
noncomputable def spR (l : List UInt8) : List UInt8 := ctR (sp4 l)
noncomputable def spC (l : List UInt8) : Cl := ⟨ctS l, ctS (sp1 l), (cnN (sp2 l) : Int), ctS (sp4 l), cfB (sp3 l)⟩
noncomputable def spOk (l : List UInt8) : Bool := ctOk (sp4 l)
theorem sp_len (l : List UInt8) : (sp1 l).length ≤ l.length ∧ (sp2 l).length ≤ l.length ∧ (sp3 l).length ≤ l.length ∧ (sp4 l).length ≤ l.length ∧ (spR l).length ≤ l.length := by
 have h1 := ctR_len l
 have h2 := ctR_len (sp1 l)
 have h3 := cnR_len (sp2 l)
 have h4 := cfR_len (sp3 l)
 have h5 := ctR_len (sp4 l)
 unfold spR
 unfold sp4 at *
 unfold sp3 at *
 unfold sp2 at *
 unfold sp1 at *
 omega
theorem split_any (x : Value) (l : List UInt8) (B : Nat) (w : World) (hr : Rd w B x (l.map bv)) (hB : B ≤ w.heap.size) (hl : l.length ≤ 1000000000) :
  Calls Tryz.prog 145 #[x] w fun e w' => (∃ r, e = .returned (.tuple #[(spC l).v, r, .bool (spOk l)]) ∧ Rd w' w'.heap.size r ((spR l).map bv)) ∧ Below w.heap.size w w' := by
 obtain ⟨l1, l2, l3, l4, l5⟩ := sp_len l
 have k1 := fun x B w hr => cutText_any x l B w hr (by omega)
 have k2 := fun x B w hr => cutText_any x (sp1 l) B w hr (by omega)
 have k3 := fun x B w hr => cutNum_any x (sp2 l) B w hr (by omega)
 have k4 := fun x B w hr => cutFlag_any x (sp3 l) B w hr
 have k5 := fun x B w hr => cutText_any x (sp4 l) B w hr (by omega)
 have HK : Hid ((spC l) = ⟨ctS l, ctS (sp1 l), (cnN (sp2 l) : Int), ctS (sp4 l), cfB (sp3 l)⟩) := Lib.hid rfl
 rw [show ctR l = sp1 l from rfl] at k1
 rw [show ctR (sp1 l) = sp2 l from rfl] at k2
 rw [show cnR (sp2 l) = sp3 l from rfl] at k3
 rw [show cfR (sp3 l) = sp4 l from rfl] at k4
 rw [show ctR (sp4 l) = spR l from rfl, show ctOk (sp4 l) = spOk l from rfl] at k5
 generalize spR l = m5 at *
 generalize spOk l = q5 at *
 generalize ctS (sp4 l) = s5 at *
 generalize cfB (sp3 l) = g4 at *
 generalize cfOk (sp3 l) = q4 at *
 generalize cnN (sp2 l) = n3 at *
 generalize ctS (sp1 l) = s2 at *
 generalize ctOk (sp1 l) = q2 at *
 generalize ctS l = s1 at *
 generalize ctOk l = q1 at *
 generalize sp4 l = m4 at *
 generalize sp3 l = m3 at *
 generalize sp2 l = m2 at *
 generalize sp1 l = m1 at *
 generalize spC l = cc at *
 obtain rfl := HK.out
 clear HK l1 l2 l3 l4 l5
 go_enter Tryz.func145, Tryz.ntmps145
 go_wp2_with (refine allocC rfl rfl ?_)
 constructor
 intro w0 hI hb0 hz0
 have hr := hr.below (hb0.mono hB)
 have hB0 : B ≤ w0.heap.size := by have := hb0.size; omega
 clear hz0
 go_wp2_with fail
 refine (k1 _ _ _ hr).mono ?_
 rintro e w1 ⟨⟨r1, rfl, h1⟩, hb1⟩
 have hI := hI.up hb1
 have hb0 := bwstep hb0 hb1
 go_wp2_with fail
 refine (k2 _ _ _ h1.rd).mono ?_
 rintro e w2 ⟨⟨r2, rfl, h2⟩, hb2⟩
 have hI := hI.up hb2
 have hb0 := bwstep hb0 hb2
 clear h1
 go_wp2_with fail
 refine (k3 _ _ _ h2.rd).mono ?_
 rintro e w3 ⟨⟨r3, q3, rfl, h3⟩, hb3⟩
 have hI := hI.up hb3
 have hb0 := bwstep hb0 hb3
 clear h2
 go_wp2_with fail
 refine (k4 _ _ _ h3.rd).mono ?_
 rintro e w4 ⟨⟨r4, rfl, h4⟩, hb4⟩
 have hI := hI.up hb4
 have hb0 := bwstep hb0 hb4
 clear h3
 go_wp2_with fail
 have hlt := hI.lt
 refine (k5 _ _ _ h4).mono ?_
 rintro e w5 ⟨⟨r5, rfl, h5⟩, hb5⟩
 have hI := hI.up hb5
 have hb0 := bwstep hb0 hb5
 clear hb1 hb2 hb3 hb4 hb5
 go_wp2_with (refine storeC (c := ⟨s1, s2, (n3 : Int), s5, g4⟩) rfl (.tmp 2) (.tmp 50) rfl rfl rfl hI ?_)
 constructor
 intro w6 hs
 have HS := Lib.hid hs
 clear hs
 go_wp2_with fail
 have hb6 : Below w.heap.size w w6 := hb0.trans HS.out.b
 exact bodyPost_ret (res3 Tryz.results145 rfl HS.out.i) rfl ⟨⟨_, rfl, (HS.out.ow h5 hlt).rd⟩, hb6⟩
end Go.Proofs.YtcpkhhbbjimdaaaGreatDoor.Ce
namespace Go.Proofs.YtcpkhhbbjimdaaaGreatDoor.Ce
open Go.RowKit
theorem ct_inv {l : List UInt8} (h : ctOk l = true) : l = textB (ctS l) ++ ctR l := by
 have ht := ctOk_iff.1 h
 obtain ⟨h4, hn⟩ := ht
 unfold ctS ctR
 rw [if_pos h, if_pos h]
 have hlen : (textOf l).length = numOf l := by unfold textOf; simp; omega
 have hsz : (⟨(textOf l).toArray⟩ : ByteArray).size = numOf l := by rw [← hlen]; rfl
 unfold textB
 rw [hsz]
 have e4 : numB (numOf l) = l.take 4 := by
  have e : numOf l = numOf (l.take 4) := by
   unfold numOf
   simp only [List.getD_eq_getElem?_getD, List.getElem?_take]
   simp
  rw [e]
  exact Frm.numB_numOf _ (by simp; omega)
 rw [e4, List.append_assoc]
 show l = l.take 4 ++ (textOf l ++ textRest l)
 unfold textOf textRest
 rw [List.take_append_drop, List.take_append_drop]
theorem ct_of (s : ByteArray) (hs : s.size ≤ 4294967295) (m : List UInt8) : ctOk (textB s ++ m) = true ∧ ctS (textB s ++ m) = s ∧ ctR (textB s ++ m) = m := by
 have h := textOk_textB s hs m
 have h1 := ctOk_iff.2 h
 refine ⟨h1, ?_, ?_⟩
 ·unfold ctS
  rw [if_pos h1, textOf_textB s hs m]
 ·unfold ctR
  rw [if_pos h1, textRest_textB s hs m]
theorem ctOk_nil : ctOk [] = false := by
 cases h : ctOk [] with
 | false => rfl
 | true =>
  have := (ctOk_iff.1 h).1
  simp at this
theorem ctR_ne {l : List UInt8} (h : ctR l ≠ []) : ctOk l = true := by
 cases hq : ctOk l with
 | true => rfl
 | false =>
  exfalso
  apply h
  unfold ctR
  rw [hq]
  simp
theorem cn_inv {l : List UInt8} (h : cnR l ≠ []) : l = numB (cnN l) ++ cnR l ∧ cnN l ≤ 4294967295 := by
 by_cases h4 : 4 ≤ l.length
 ·unfold cnN cnR
  rw [if_pos h4, if_pos h4]
  have hlt := numOf_lt l
  refine ⟨?_, by omega⟩
  have e : numOf l = numOf (l.take 4) := by
   unfold numOf
   simp only [List.getD_eq_getElem?_getD, List.getElem?_take]
   simp
  rw [e, Frm.numB_numOf _ (by simp; omega), List.take_append_drop]
 ·exfalso
  apply h
  unfold cnR
  rw [if_neg h4]
theorem cf_inv {l : List UInt8} (h : cfR l ≠ [] ∨ cfOk l = true) : l = flagB (cfB l) ++ cfR l := by
 cases l with
 | nil =>
  rcases h with h | h
  ·exact absurd rfl h
  ·cases h
 | cons f m =>
  have hf : f.toNat ≤ 1 := by
   rcases h with h | h
   ·by_cases hf : f.toNat ≤ 1
    ·exact hf
    ·exfalso
     apply h
     show (if f.toNat ≤ 1 then m else []) = []
     rw [if_neg hf]
   ·simpa [cfOk] using h
  have e3 : cfR (f :: m) = m := by show (if f.toNat ≤ 1 then m else []) = m; rw [if_pos hf]
  rw [e3]
  show f :: m = [if decide (f.toNat = 1) = true then 1 else 0] ++ m
  by_cases h1 : f.toNat = 1
  ·rw [decide_eq_true h1, if_pos rfl]
   have : f = 1 := UInt8.toNat_inj.1 (by rw [h1]; rfl)
   rw [this]; rfl
  ·rw [decide_eq_false h1, if_neg (by simp)]
   have : f = 0 := UInt8.toNat_inj.1 (by rw [show f.toNat = 0 by omega]; rfl)
   rw [this]; rfl
theorem split_inv {l : List UInt8} (h : spOk l = true) : l = cellB (spC l) ++ spR l := by
 have h4 : ctOk (sp4 l) = true := h
 have n4 : sp4 l ≠ [] := fun e => by rw [e, ctOk_nil] at h4; cases h4
 have f3 := cf_inv (l := sp3 l) (.inl n4)
 have n3 : sp3 l ≠ [] := fun e => n4 (by unfold sp4; rw [e]; rfl)
 obtain ⟨f2, b2⟩ := cn_inv (l := sp2 l) n3
 have n2 : sp2 l ≠ [] := fun e => by
  apply n3
  unfold sp3 cnR
  rw [e]; rfl
 have h1 : ctOk (sp1 l) = true := ctR_ne n2
 have n1 : sp1 l ≠ [] := fun e => by rw [e, ctOk_nil] at h1; cases h1
 have h0 : ctOk l = true := ctR_ne n1
 have e0 := ct_inv h0
 have e1 := ct_inv h1
 have e4 := ct_inv h4
 unfold cellB
 show l = textB (ctS l) ++ (textB (ctS (sp1 l)) ++ (numB (cnN (sp2 l) : Int).toNat ++ (flagB (cfB (sp3 l)) ++ textB (ctS (sp4 l))))) ++ spR l
 rw [Int.toNat_natCast]
 simp only [List.append_assoc]
 have a4 : textB (ctS (sp4 l)) ++ spR l = sp4 l := e4.symm
 have a3 : flagB (cfB (sp3 l)) ++ sp4 l = sp3 l := f3.symm
 have a2 : numB (cnN (sp2 l)) ++ sp3 l = sp2 l := f2.symm
 have a1 : textB (ctS (sp1 l)) ++ sp2 l = sp1 l := e1.symm
 rw [a4, a3, a2, a1]
 exact e0
theorem cn_of (n : Nat) (h : n ≤ 4294967295) (m : List UInt8) : cnN (numB n ++ m) = n ∧ cnR (numB n ++ m) = m := by
 have h4 : 4 ≤ (numB n ++ m).length := by rw [List.length_append, numB_len]; omega
 unfold cnN cnR
 rw [if_pos h4, if_pos h4]
 exact ⟨numOf_numB n h m, rfl⟩
theorem cf_of (g : Bool) (m : List UInt8) : cfB (flagB g ++ m) = g ∧ cfR (flagB g ++ m) = m ∧ cfOk (flagB g ++ m) = true := by
 cases g
 ·exact ⟨rfl, rfl, rfl⟩
 ·exact ⟨rfl, rfl, rfl⟩
theorem split_of {c : Cl} (h : c.ok) (m : List UInt8) : spOk (cellB c ++ m) = true ∧ spC (cellB c ++ m) = c ∧ spR (cellB c ++ m) = m := by
 have l1 : c.row.size ≤ 4294967295 := by have := h.r2; omega
 have l2 : c.col.size ≤ 4294967295 := by have := h.c2; omega
 have l3 : c.val.size ≤ 4294967295 := by have := h.v; omega
 have l4 : c.at_.toNat ≤ 4294967295 := by have := h.a2; omega
 have e : cellB c ++ m = textB c.row ++ (textB c.col ++ (numB c.at_.toNat ++ (flagB c.gone ++ (textB c.val ++ m)))) := by unfold cellB; simp
 obtain ⟨a1, a2, a3⟩ := ct_of c.row l1 (textB c.col ++ (numB c.at_.toNat ++ (flagB c.gone ++ (textB c.val ++ m))))
 obtain ⟨b1, b2, b3⟩ := ct_of c.col l2 (numB c.at_.toNat ++ (flagB c.gone ++ (textB c.val ++ m)))
 obtain ⟨c1, c2⟩ := cn_of c.at_.toNat l4 (flagB c.gone ++ (textB c.val ++ m))
 obtain ⟨d1, d2, d3⟩ := cf_of c.gone (textB c.val ++ m)
 obtain ⟨e1, e2, e3⟩ := ct_of c.val l3 m
 rw [e]
 unfold spOk spC spR sp4 sp3 sp2 sp1
 rw [a3, b3, c2, d2, a2, b2, c1, d1, e2, e3]
 refine ⟨e1, ?_, rfl⟩
 rw [Int.toNat_of_nonneg h.a1]
def Stands (l : List UInt8) (c : Cl) (m : List UInt8) : Prop := c.ok ∧ l = cellB c ++ m
theorem Stands.one {l m m' : List UInt8} {c c' : Cl} (h : Stands l c m) (k : Stands l c' m') : c = c' ∧ m = m' := by
 obtain ⟨h1, h2⟩ := h
 obtain ⟨k1, k2⟩ := k
 obtain ⟨-, a, b⟩ := split_of h1 m
 obtain ⟨-, a', b'⟩ := split_of k1 m'
 rw [← h2] at a b
 rw [← k2] at a' b'
 exact ⟨a.symm.trans a', b.symm.trans b'⟩
theorem stands_iff {l : List UInt8} : (∃ c m, Stands l c m) ↔ spOk l = true ∧ (spC l).ok := by
 constructor
 ·rintro ⟨c, m, h, rfl⟩
  obtain ⟨h1, h2, -⟩ := split_of h m
  exact ⟨h1, by rw [h2]; exact h⟩
 ·rintro ⟨h1, h2⟩
  exact ⟨_, _, h2, split_inv h1⟩
theorem cellB_le {c : Cl} (h : c.ok) : (cellB c).length ≤ 401 := by
 rw [cellB_len]
 have := h.r2
 have := h.c2
 have := h.v
 omega
theorem stands_head {l m : List UInt8} {c : Cl} (h : Stands l c m) : Stands (l.take 401) c (m.take (401 - (cellB c).length)) := by
 obtain ⟨h1, rfl⟩ := h
 have := cellB_le h1
 refine ⟨h1, ?_⟩
 rw [List.take_append, List.take_of_length_le (by omega)]
theorem head_stands {l m : List UInt8} {c : Cl} (h : Stands (l.take 401) c m) : Stands l c (m ++ l.drop 401) := by
 obtain ⟨h1, h2⟩ := h
 refine ⟨h1, ?_⟩
 rw [← List.append_assoc, ← h2, List.take_append_drop]
theorem head_ok {l m : List UInt8} {c : Cl} (h : Stands l c m) : spOk (l.take 401) = true ∧ spC (l.take 401) = c ∧ (l.take 401).length - (spR (l.take 401)).length = (cellB c).length ∧ (spR (l.take 401)).length ≤ (l.take 401).length ∧ l.drop (cellB c).length = m := by
 have hs := stands_head h
 obtain ⟨h1, h2, h3⟩ := split_of hs.1 (m.take (401 - (cellB c).length))
 rw [← hs.2] at h1 h2 h3
 refine ⟨h1, h2, ?_, ?_, ?_⟩
 ·rw [h3]
  have := congrArg List.length hs.2
  rw [List.length_append] at this
  omega
 ·exact (sp_len _).2.2.2.2
 ·rw [h.2, List.drop_left]
theorem head_no {l : List UInt8} (h : ¬ ∃ c m, Stands l c m) (h1 : spOk (l.take 401) = true) : ¬ (spC (l.take 401)).ok := fun h2 => by
 obtain ⟨c, m, hs⟩ := stands_iff.2 ⟨h1, h2⟩
 exact h ⟨c, _, head_stands hs⟩
end Go.Proofs.YtcpkhhbbjimdaaaGreatDoor.Ce
namespace Go.Proofs.YtcpkhhbbjimdaaaGreatDoor.Ce
open Go.RowKit
section
variable {ops : Array Oper} {o : Oper} {a : Act} {w : World} {K0 : Act → World → Prop} {Q : Exit → Act → World → Prop} {g : Nat} {c c0 : Cl}
end
structure CutS (w : World) (g k : Nat) (d c : Cl) (w' : World) : Prop where
 ig : InC g d w'
 ik : InC k c w'
 ne : k ≠ g
 ge : w.heap.size ≤ g
 bel : Below w.heap.size w w'
theorem CutS.up {w : World} {g k : Nat} {d c : Cl} {a b : World} (h : CutS w g k d c a) (hb : Below a.heap.size a b) : CutS w g k d c b := ⟨h.ig.up hb, h.ik.up hb, h.ne, h.ge, bwstep h.bel hb⟩
theorem CutS.set {w : World} {g k : Nat} {d c e : Cl} {a b : World} (h : CutS w g k d c a) (hs : SetC g e a b) : CutS w g k e c b := ⟨hs.i, hs.up h.ik h.ne, h.ne, h.ge, hs.bel h.bel h.ge⟩
theorem chain5 {g : Nat} {d c : Cl} {a : World} (h : InC g d a) : SetC g c a (((((a.setCell ⟨g, 0, none⟩ (.string c.row)).setCell ⟨g, 1, none⟩ (.string c.col)).setCell ⟨g, 2, none⟩ (.int .i64 c.at_)).setCell ⟨g, 3, none⟩ (.string c.val)).setCell ⟨g, 4, none⟩ (.bool c.gone)) := by
 refine ⟨⟨?_⟩, ?_, by simp, fun k hk => ?_⟩
 ·have h0 := heap_setCell_same a g 0 _ _ (.string c.row) h.h
  have h1 := heap_setCell_same _ g 1 _ _ (.string c.col) h0
  have h2 := heap_setCell_same _ g 2 _ _ (.int .i64 c.at_) h1
  have h3 := heap_setCell_same _ g 3 _ _ (.string c.val) h2
  have h4 := heap_setCell_same _ g 4 _ _ (.bool c.gone) h3
  rw [h4]
  rfl
 ·exact (((((Below.refl _ _).setCell (by simp) _).setCell (by simp) _).setCell (by simp) _).setCell (by simp) _).setCell (by simp) _
 ·rw [heap_setCell_other _ _ _ _ (by simpa using hk), heap_setCell_other _ _ _ _ (by simpa using hk), heap_setCell_other _ _ _ _ (by simpa using hk), heap_setCell_other _ _ _ _ (by simpa using hk), heap_setCell_other _ _ _ _ (by simpa using hk)]
def Zfro (g : Nat) (a : World) : Prop := a.frozen? ⟨g, 0, none⟩ = false ∧ a.frozen? ⟨g, 1, none⟩ = false ∧ a.frozen? ⟨g, 2, none⟩ = false ∧ a.frozen? ⟨g, 3, none⟩ = false ∧ a.frozen? ⟨g, 4, none⟩ = false
theorem InC.fro {g : Nat} {d : Cl} {a : World} (h : InC g d a) : Zfro g a := ⟨frozen_of_row _ _ _ _ _ h.h, frozen_of_row _ _ _ _ _ h.h, frozen_of_row _ _ _ _ _ h.h, frozen_of_row _ _ _ _ _ h.h, frozen_of_row _ _ _ _ _ h.h⟩
def Five (g : Nat) (c : Cl) (a : World) : Prop := a.cell? ⟨g, 0, none⟩ = some (.string c.row) ∧ a.cell? ⟨g, 1, none⟩ = some (.string c.col) ∧ a.cell? ⟨g, 2, none⟩ = some (.int .i64 c.at_) ∧ a.cell? ⟨g, 3, none⟩ = some (.string c.val) ∧ a.cell? ⟨g, 4, none⟩ = some (.bool c.gone)
theorem InC.five {g : Nat} {d : Cl} {a : World} (h : InC g d a) : Five g d a := ⟨h.c0, h.c1, h.c2, h.c3, h.c4⟩
theorem cut_ok (x : Value) (l m : List UInt8) (c : Cl) (B : Nat) (w : World) (hr : Rd w B x (l.map bv)) (hB : B ≤ w.heap.size) (hl : l.length ≤ 1000000000) (hs : Stands l c m) :
  Calls Tryz.prog 132 #[x] w fun e w' => (∃ r, e = .returned (.tuple #[c.v, r, .bool true]) ∧ Ow w' w.heap.size 5 r (m.map bv)) ∧ Below w.heap.size w w' := by
 obtain ⟨h1, h2, h3, h4, h5⟩ := head_ok hs
 obtain ⟨A, cp, rfl, hc, hm⟩ := hr.shapeM
 unfold maxLen at hm
 have HOK := Lib.hid hs.1
 obtain ⟨k, hk⟩ : ∃ k, k = min l.length 401 := ⟨_, rfl⟩
 have hkl : (l.take 401).length = k := by rw [List.length_take]; omega
 have hk1 : k ≤ l.length := by omega
 have hk2 : min (l.length : Int) 401 = (k : Int) := by omega
 have htk : l.take 401 = l.take k := by
  rw [hk]
  by_cases h : l.length ≤ 401
  ·rw [List.take_of_length_le h, Nat.min_eq_left h, List.take_length]
  ·rw [Nat.min_eq_right (by omega)]
 have hrh := hr.cutTo (hi := k) hk1
 rw [← List.map_take, ← htk] at hrh
 have hsp := fun w hr hB => split_any (.slice A k cp) (l.take 401) B w hr hB (by rw [hkl]; omega)
 rw [h1, h2] at hsp
 have hu1 : (spR (l.take 401)).length ≤ k := by omega
 have hu2 : (k : Int) - ((spR (l.take 401)).length : Int) = ((cellB c).length : Int) := by omega
 have hu3 : (cellB c).length ≤ l.length := by omega
 have hu4 : (cellB c).length ≤ cp := by omega
 have hrt : ∀ C : Nat, C = cp - (cellB c).length → ∃ v2, v2 = Value.slice (if cp = (cellB c).length then A else A.map (·.add (cellB c).length)) (l.length - (cellB c).length) C ∧ Rd w B v2 (m.map bv) := fun C hC => by
  subst hC
  have := hr.cutFrom (lo := (cellB c).length) hu3
  rw [← List.map_drop, h5, Nat.mul_one] at this
  exact ⟨_, rfl, this⟩
 have HRT := Lib.hid hrt
 clear hrt h1 h2 h3 h4 hkl htk hk
 generalize l.take 401 = hd at *
 have HM : Hid (l.length - (cellB c).length = m.length) := Lib.hid (by rw [← h5]; simp)
 have HML : Hid (m.length ≤ 1000000000000) := Lib.hid (by rw [← HM.out]; omega)
 clear h5
 generalize (cellB c).length = n at *
 go_enter Tryz.func132, Tryz.ntmps132
 go_wp2_with (refine allocC rfl rfl ?_)
 constructor
 intro w0 hI0 hb0 hz0
 have hrh := hrh.below (hb0.mono hB)
 have hB0 : B ≤ w0.heap.size := by omega
 have HB0 := Lib.hid hb0
 clear hz0 hb0
 go_wp2_with fail
 refine (hsp _ hrh hB0).mono ?_
 rintro e w1 ⟨⟨r1, rfl, hr1⟩, hb1⟩
 have hI1 := hI0.up hb1
 have HB1 := Lib.hid (bwstep HB0.out hb1)
 obtain ⟨A1, c1, rfl, -, hm1⟩ := hr1.shapeM
 clear hr1 hb1 hI0 hrh hsp
 go_wp2_with (refine allocC rfl rfl ?_)
 constructor
 intro w2 hI2 hb2 hz2
 have hlt := hI1.lt
 have hI1 := hI1.up hb2
 have hne : w1.heap.size ≠ w.heap.size := by omega
 have HB2 := Lib.hid (bwstep HB1.out hb2)
 have hr2 := fun w => right_any c w
 rw [decide_eq_true HOK.out] at hr2
 clear hb2 hz2
 go_wp2_with (refine storeC (c := c) rfl (.tmp 6) (.tmp 18) rfl rfl rfl hI2 ?_)
 constructor
 intro w3 hs3
 have HC3 := Lib.hid (CutS.mk (hs3.up hI1 hne.symm) hs3.i hne (Nat.le_refl _) (hs3.bel HB2.out HB1.out.size))
 clear hs3 hI1 hI2
 go_wp2_with (refine loadC rfl (.tmp 6) rfl rfl HC3.out.ik ?_)
 refine (hr2 _).mono ?_
 rintro e w4 ⟨rfl, hb4⟩
 have HC4 := Lib.hid (HC3.out.up hb4)
 clear hb4 HC3 hr2
 go_wp2_with fail
 have hn0 : (0 : Int) ≤ (n : Int) := by omega
 have hn1 : (n : Int) ≤ (l.length : Int) := by omega
 have hn2 : (l.length : Int) ≤ (cp : Int) := by omega
 obtain ⟨v2, hv2, hrv⟩ := HRT.out _ rfl
 have HRV : Hid (Rd w4.drew w4.drew.heap.size v2 (m.map bv)) := Lib.hid ((hrv.below ((HC4.out.bel.mono hB).drew)).mono (Nat.le_trans hB (HC4.out.bel.drew).size))
 have HC5 := Lib.hid (HC4.out.up (Below.refl _ _).drew)
 clear hr hrv HRT hu1 hu2 HC4
 obtain ⟨p0, p1, p2, p3, p4⟩ := HC5.out.ik.five
 obtain ⟨q0, q1, q2, q3, q4⟩ := HC5.out.ig.five
 obtain ⟨f0, f1, f2, f3, f4⟩ := HC5.out.ig.fro
 by_cases hcp : cp = n
 ·subst hcp
  have hlc : l.length = cp := by omega
  have hv3 : v2 = .slice A 0 0 := by rw [hv2, if_pos rfl, Nat.sub_self, hlc, Nat.sub_self]
  clear hv2
  subst hv3
  rw [hlc] at *
  go_region_with
   (go_at_call 144; refine (bclone_any _ m _ _ HRV.out (Nat.le_refl _) HML.out).mono ?_; rintro e wx ⟨x, rfl, hx, hbx⟩; have HC6 := Lib.hid (HC5.out.up hbx); have HX := Lib.hid hx; obtain ⟨p0, p1, p2, p3, p4⟩ := HC6.out.ik.five; obtain ⟨q0, q1, q2, q3, q4⟩ := HC6.out.ig.five; obtain ⟨f0, f1, f2, f3, f4⟩ := HC6.out.ig.fro; clear hx hbx)
  all_goals
   have hs9 := chain5 (c := c) HC6.out.ig
   generalize ((((wx.setCell ⟨w.heap.size, 0, none⟩ (.string c.row)).setCell ⟨w.heap.size, 1, none⟩ (.string c.col)).setCell ⟨w.heap.size, 2, none⟩ (.int .i64 c.at_)).setCell ⟨w.heap.size, 3, none⟩ (.string c.val)).setCell ⟨w.heap.size, 4, none⟩ (.bool c.gone) = w9 at *
   have HS9 := Lib.hid hs9
   clear hs9
   go_wp2_with fail
   exact bodyPost_ret (res3 Tryz.results132 rfl HS9.out.i) rfl ⟨⟨_, rfl, (HS9.out.ow HX.out HC5.out.ig.lt).mono HC5.out.bel.size⟩, HS9.out.bel HC6.out.bel (Nat.le_refl _)⟩
 ·have hv3 : v2 = .slice (A.map fun x => x.add n) (l.length - n) (cp - n) := by rw [hv2, if_neg hcp]
  clear hv2
  subst hv3
  go_region_with
   (go_at_call 144; refine (bclone_any _ m _ _ HRV.out (Nat.le_refl _) HML.out).mono ?_; rintro e wx ⟨x, rfl, hx, hbx⟩; have HC6 := Lib.hid (HC5.out.up hbx); have HX := Lib.hid hx; obtain ⟨p0, p1, p2, p3, p4⟩ := HC6.out.ik.five; obtain ⟨q0, q1, q2, q3, q4⟩ := HC6.out.ig.five; obtain ⟨f0, f1, f2, f3, f4⟩ := HC6.out.ig.fro; clear hx hbx)
  all_goals
   have hs9 := chain5 (c := c) HC6.out.ig
   generalize ((((wx.setCell ⟨w.heap.size, 0, none⟩ (.string c.row)).setCell ⟨w.heap.size, 1, none⟩ (.string c.col)).setCell ⟨w.heap.size, 2, none⟩ (.int .i64 c.at_)).setCell ⟨w.heap.size, 3, none⟩ (.string c.val)).setCell ⟨w.heap.size, 4, none⟩ (.bool c.gone) = w9 at *
   have HS9 := Lib.hid hs9
   clear hs9
   go_wp2_with fail
   exact bodyPost_ret (res3 Tryz.results132 rfl HS9.out.i) rfl ⟨⟨_, rfl, (HS9.out.ow HX.out HC5.out.ig.lt).mono HC5.out.bel.size⟩, HS9.out.bel HC6.out.bel (Nat.le_refl _)⟩
theorem cut_no (x : Value) (l : List UInt8) (B : Nat) (w : World) (hr : Rd w B x (l.map bv)) (hB : B ≤ w.heap.size) (hl : l.length ≤ 1000000000) (hs : ¬ ∃ c m, Stands l c m) :
  Calls Tryz.prog 132 #[x] w fun e w' => e = .returned (.tuple #[Cl.zero.v, .slice none 0 0, .bool false]) ∧ Below w.heap.size w w' := by
 obtain ⟨A, cp, rfl, hc, hm⟩ := hr.shapeM
 unfold maxLen at hm
 obtain ⟨k, hk⟩ : ∃ k, k = min l.length 401 := ⟨_, rfl⟩
 have hkl : (l.take 401).length = k := by rw [List.length_take]; omega
 have hk1 : k ≤ l.length := by omega
 have hk2 : min (l.length : Int) 401 = (k : Int) := by omega
 have htk : l.take 401 = l.take k := by
  rw [hk]
  by_cases h : l.length ≤ 401
  ·rw [List.take_of_length_le h, Nat.min_eq_left h, List.take_length]
  ·rw [Nat.min_eq_right (by omega)]
 have hrh := hr.cutTo (hi := k) hk1
 rw [← List.map_take, ← htk] at hrh
 have hno := fun h1 => head_no hs h1
 have hsp := fun w hr hB => split_any (.slice A k cp) (l.take 401) B w hr hB (by rw [hkl]; omega)
 clear hs hkl htk hk hr
 generalize l.take 401 = hd at *
 generalize spC hd = c at *
 generalize spR hd = rr at *
 cases hq : spOk hd
 ·rw [hq] at hsp
  clear hno hq
  go_enter Tryz.func132, Tryz.ntmps132
  go_wp2_with (refine allocC rfl rfl ?_)
  constructor
  intro w0 hI0 hb0 hz0
  have hrh := hrh.below (hb0.mono hB)
  have hB0 : B ≤ w0.heap.size := by omega
  have HB0 := Lib.hid hb0
  clear hz0 hb0
  go_wp2_with fail
  refine (hsp _ hrh hB0).mono ?_
  rintro e w1 ⟨⟨r1, rfl, hr1⟩, hb1⟩
  have hI1 := hI0.up hb1
  have HB1 := Lib.hid (bwstep HB0.out hb1)
  obtain ⟨A1, c1, rfl, -, hm1⟩ := hr1.shapeM
  clear hr1 hb1 hI0 hrh hsp
  go_wp2_with (refine allocC rfl rfl ?_)
  constructor
  intro w2 hI2 hb2 hz2
  have hlt := hI1.lt
  have hI1 := hI1.up hb2
  have hne : w1.heap.size ≠ w.heap.size := by omega
  have HB2 := Lib.hid (bwstep HB1.out hb2)
  clear hb2 hz2
  go_wp2_with (refine storeC (c := c) rfl (.tmp 6) (.tmp 18) rfl rfl rfl hI2 ?_)
  constructor
  intro w3 hs3
  have HC3 := Lib.hid (CutS.mk (hs3.up hI1 hne.symm) hs3.i hne (Nat.le_refl _) (hs3.bel HB2.out HB1.out.size))
  clear hs3 hI1 hI2
  go_wp2_with (refine storeC (c := Cl.zero) rfl (.tmp 2) (.tmp 28) rfl rfl rfl HC3.out.ig ?_)
  constructor
  intro w4 hs4
  have HS4 := Lib.hid hs4
  clear hs4
  go_wp2_with fail
  exact bodyPost_ret (res3 Tryz.results132 rfl HS4.out.i) rfl ⟨rfl, HS4.out.bel HC3.out.bel (Nat.le_refl _)⟩
 ·have hno := hno hq
  have hr2 := fun w => right_any c w
  rw [hq] at hsp
  rw [decide_eq_false hno] at hr2
  clear hno hq
  go_enter Tryz.func132, Tryz.ntmps132
  go_wp2_with (refine allocC rfl rfl ?_)
  constructor
  intro w0 hI0 hb0 hz0
  have hrh := hrh.below (hb0.mono hB)
  have hB0 : B ≤ w0.heap.size := by omega
  have HB0 := Lib.hid hb0
  clear hz0 hb0
  go_wp2_with fail
  refine (hsp _ hrh hB0).mono ?_
  rintro e w1 ⟨⟨r1, rfl, hr1⟩, hb1⟩
  have hI1 := hI0.up hb1
  have HB1 := Lib.hid (bwstep HB0.out hb1)
  obtain ⟨A1, c1, rfl, -, hm1⟩ := hr1.shapeM
  clear hr1 hb1 hI0 hrh hsp
  go_wp2_with (refine allocC rfl rfl ?_)
  constructor
  intro w2 hI2 hb2 hz2
  have hlt := hI1.lt
  have hI1 := hI1.up hb2
  have hne : w1.heap.size ≠ w.heap.size := by omega
  have HB2 := Lib.hid (bwstep HB1.out hb2)
  clear hb2 hz2
  go_wp2_with (refine storeC (c := c) rfl (.tmp 6) (.tmp 18) rfl rfl rfl hI2 ?_)
  constructor
  intro w3 hs3
  have HC3 := Lib.hid (CutS.mk (hs3.up hI1 hne.symm) hs3.i hne (Nat.le_refl _) (hs3.bel HB2.out HB1.out.size))
  clear hs3 hI1 hI2
  go_wp2_with (refine loadC rfl (.tmp 6) rfl rfl HC3.out.ik ?_)
  refine (hr2 _).mono ?_
  rintro e w4 ⟨rfl, hb4⟩
  have HC4 := Lib.hid (HC3.out.up hb4)
  clear hb4 HC3 hr2
  go_wp2_with (refine storeC (c := Cl.zero) rfl (.tmp 2) (.tmp 28) rfl rfl rfl HC4.out.ig ?_)
  constructor
  intro w5 hs4
  have HS4 := Lib.hid hs4
  clear hs4
  go_wp2_with fail
  exact bodyPost_ret (res3 Tryz.results132 rfl HS4.out.i) rfl ⟨rfl, HS4.out.bel HC4.out.bel (Nat.le_refl _)⟩
end Go.Proofs.YtcpkhhbbjimdaaaGreatDoor.Ce
