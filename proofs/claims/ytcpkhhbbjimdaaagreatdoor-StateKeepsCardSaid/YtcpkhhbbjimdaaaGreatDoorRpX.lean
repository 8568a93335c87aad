/- Replies and the reference's states of layer 16, plain and as values. The contract of the reference's Same of layer 8, at whatever two slices of cells. The contracts of the reference's Same and put of layer 16. The contract of slices.Equal of cells. The contract of state's Same. -/
import Derived.Test.YtcpkhhbbjimdaaaGreatDoorCmX
import Derived.Test.YtcpkhhbbjimdaaaGreatDoorCbA
import Derived.Test.YtcpkhhbbjimdaaaGreatDoorCsA
import Derived.Test.YtcpkhhbbjimdaaaGreatDoorMgPl
import Derived.Test.YtcpkhhbbjimdaaaGreatDoorClA
import Derived.IntWalk
import Derived.Test.YtcpkhhbbjimdaaaGreatDoorCpo
set_option maxHeartbeats 8000000
set_option maxRecDepth 100000
namespace Go.Proofs.YtcpkhhbbjimdaaaGreatDoor.Ce
open Go.RowKit
structure Rp where
 e : Int
 did : Bool
 value : ByteArray
 cells : List Cl
def Rp.zero : Rp := ⟨0, false, ⟨#[]⟩, []⟩
def Rp.err : Rp := ⟨1, false, ⟨#[]⟩, []⟩
theorem Rp.ext' {a b : Rp} (h0 : a.e = b.e) (h1 : a.did = b.did) (h2 : a.value = b.value) (h3 : a.cells = b.cells) : a = b := by
 cases a; cases b; simp_all
structure Rv where
 e : Int
 did : Bool
 value : ByteArray
 a : Option Addr
 n : Nat
 c : Nat
def Rv.cs (r : Rv) : Array Value := #[.int .i64 r.e, .bool r.did, .string r.value, .slice r.a r.n r.c]
abbrev rpD : St.Sp Rv := ⟨31, 0, 4, 56, Rv.cs, ⟨0, false, ⟨#[]⟩, none, 0, 0⟩⟩
theorem rpOk : rpD.Ok Tryz.prog := ⟨⟨_, Tryz.underlying31, rfl⟩, by kernel_rfl, by decide, fun _ => rfl, fun x => by simp [Rv.cs, Value.oneCell']⟩
def Rv.v (r : Rv) : Value := .agg r.cs
structure RpIs (w : World) (S : List Nat) (r : Rv) (R : Rp) : Prop where
 e : r.e = R.e
 did : r.did = R.did
 value : r.value = R.value
 cells : RdL w S (.slice r.a r.n r.c) R.cells
theorem RpIs.bel {w w' : World} {S : List Nat} {r : Rv} {R : Rp} (h : RpIs w S r R) (hb : Below w.heap.size w w') : RpIs w' S r R := ⟨h.e, h.did, h.value, h.cells.bel hb⟩
theorem RpIs.zero (w : World) (S : List Nat) : RpIs w S rpD.z Rp.zero := ⟨rfl, rfl, rfl, RdL.nil w S⟩
structure RvAt (g : Nat) (r : Rv) (w : World) : Prop where
 c0 : w.cell? ⟨g, 0, none⟩ = some (.int .i64 r.e)
 c1 : w.cell? ⟨g, 1, none⟩ = some (.bool r.did)
 c2 : w.cell? ⟨g, 2, none⟩ = some (.string r.value)
 c3 : w.cell? ⟨g, 3, none⟩ = some (.slice r.a r.n r.c)
theorem RvAt.of {g : Nat} {r : Rv} {w : World} (h : rpD.In g r w) : RvAt g r w := ⟨h.at_ rfl, h.at_ rfl, h.at_ rfl, h.at_ rfl⟩
end Go.Proofs.YtcpkhhbbjimdaaaGreatDoor.Ce
namespace Go.Proofs.YtcpkhhbbjimdaaaGreatDoor.Ce
open Go.RowKit
theorem take_eq_next {L M : List Cl} {k : Nat} {f g : Cl} (hf : L[k]? = some f) (hg : M[k]? = some g) (h : L.take k = M.take k) (e : f = g) : L.take (k + 1) = M.take (k + 1) := by
 obtain ⟨h1, rfl⟩ := List.getElem?_eq_some_iff.1 hf
 obtain ⟨h2, rfl⟩ := List.getElem?_eq_some_iff.1 hg
 rw [List.take_succ_eq_append_getElem h1, List.take_succ_eq_append_getElem h2, h, e]
theorem ne_of_at {L M : List Cl} {k : Nat} {f g : Cl} (hf : L[k]? = some f) (hg : M[k]? = some g) (e : f ≠ g) : L ≠ M := fun h => e (by rw [h, hg] at hf; exact (Option.some.inj hf).symm)
theorem rsameL_any (v u : Value) (L M : List Cl) (w : World) (hv : RdL w [] v L) (hu : RdL w [] u M) (hl : L.length ≤ 1000000000) :
  Calls Tryz.prog 15 #[v, u] w fun e w' => e = .returned (.bool (decide (L = M))) ∧ Below w.heap.size w w' := by
 obtain ⟨A, cp, rfl, hc, hm⟩ := hv.shape
 obtain ⟨A', cp', rfl, hc', hm'⟩ := hu.shape
 unfold maxLen at hm hm'
 have HV := Lib.hid hv
 have HV' := Lib.hid hu
 clear hv hu
 by_cases hlen : L.length = M.length
 ·have HLEN := Lib.hid hlen
  have hln : ((L.length : Int) != (M.length : Int)) = false := by simp [hlen]
  clear hlen
  go_enter Tryz.func15, Tryz.ntmps15
  go_wp2_with fail
  go_loopw [5] (fun i wr => ∃ k : Nat, k ≤ L.length ∧ i = .int .i64 (k : Int) ∧ Hid (L.take k = M.take k) ∧ Below w.heap.size w wr) (fun i _ => L.length - (intOf i).toNat)
  case atStart => exact ⟨0, by omega, rfl, Lib.hid (by simp), Below.refl _ _⟩
  case round =>
   obtain ⟨k, hk, rfl, HE, hbw⟩ := hrel
   have HBW := Lib.hid hbw
   by_cases hlt : k < L.length
   ·have hlt' : k < M.length := by have := HLEN.out; omega
    obtain ⟨b, off, rfl, -, -⟩ := HV.out.open_ (by omega)
    obtain ⟨b', off', rfl, -, -⟩ := HV'.out.open_ (by omega)
    have hh3 : (0 : Int) ≤ (k : Int) := by omega
    have hh4 : (k : Int) < (L.length : Int) := by omega
    have hh5 : (k : Int) < (M.length : Int) := by omega
    have hfk : L[k]? = some (L[k]'hlt) := List.getElem?_eq_getElem _
    have hgk : M[k]? = some (M[k]'hlt') := List.getElem?_eq_getElem _
    generalize L[k]'hlt = f at hfk
    generalize M[k]'hlt' = g at hgk
    obtain ⟨h5, hbl⟩ := (HV.out.bel hbw).at_ hfk
    obtain ⟨h5', hbl'⟩ := (HV'.out.bel hbw).at_ hgk
    have HQ : Hid (∀ z, Below wr.heap.size wr z → (z.cell? ⟨b, off + k * 5, none⟩ = some (.string f.row) ∧ z.cell? ⟨b, off + k * 5 + 1, none⟩ = some (.string f.col) ∧ z.cell? ⟨b, off + k * 5 + 2, none⟩ = some (.int .i64 f.at_) ∧ z.cell? ⟨b, off + k * 5 + 3, none⟩ = some (.string f.val) ∧ z.cell? ⟨b, off + k * 5 + 4, none⟩ = some (.bool f.gone) ∧ z.cell? ⟨b', off' + k * 5, none⟩ = some (.string g.row) ∧ z.cell? ⟨b', off' + k * 5 + 1, none⟩ = some (.string g.col) ∧ z.cell? ⟨b', off' + k * 5 + 2, none⟩ = some (.int .i64 g.at_) ∧ z.cell? ⟨b', off' + k * 5 + 3, none⟩ = some (.string g.val) ∧ z.cell? ⟨b', off' + k * 5 + 4, none⟩ = some (.bool g.gone) ∧ Below wr.heap.size wr z)) := Lib.hid fun z hz => by
     obtain ⟨a0, a1, a2, a3, a4⟩ := h5.up hbl hz
     obtain ⟨c0, c1, c2, c3, c4⟩ := h5'.up hbl' hz
     exact ⟨a0, a1, a2, a3, a4, c0, c1, c2, c3, c4, hz⟩
    have HT := Lib.hid (HQ.out _ (Below.refl wr.heap.size wr).drew)
    have HNX : Hid (f = g → L.take (k + 1) = M.take (k + 1)) := Lib.hid fun e => take_eq_next hfk hgk HE.out e
    have HNE : Hid (f ≠ g → decide (L = M) = false) := Lib.hid fun e => decide_eq_false (ne_of_at hfk hgk e)
    clear hfk hgk h5 hbl h5' hbl' hbw hlt hlt'
    by_cases e : f = g
    ·subst e
     go_wp2_with fail
     go_region_held3 (fun z => z.cell? ⟨b, off + k * 5, none⟩ = some (.string f.row) ∧ z.cell? ⟨b, off + k * 5 + 1, none⟩ = some (.string f.col) ∧ z.cell? ⟨b, off + k * 5 + 2, none⟩ = some (.int .i64 f.at_) ∧ z.cell? ⟨b, off + k * 5 + 3, none⟩ = some (.string f.val) ∧ z.cell? ⟨b, off + k * 5 + 4, none⟩ = some (.bool f.gone) ∧ z.cell? ⟨b', off' + k * 5, none⟩ = some (.string f.row) ∧ z.cell? ⟨b', off' + k * 5 + 1, none⟩ = some (.string f.col) ∧ z.cell? ⟨b', off' + k * 5 + 2, none⟩ = some (.int .i64 f.at_) ∧ z.cell? ⟨b', off' + k * 5 + 3, none⟩ = some (.string f.val) ∧ z.cell? ⟨b', off' + k * 5 + 4, none⟩ = some (.bool f.gone) ∧ Below wr.heap.size wr z) (first | exact HT.out | assumption | exact HQ.out _ (by assumption))
      (first | (refine wp_neC (.tmp 20) (.tmp 24) _ rfl f f rfl rfl (b := false) (by simp) ?_))
     go_wp2_with fail
     go_roundw
     case rel => exact ⟨k + 1, by omega, by go_num, Lib.hid (HNX.out (by trivial)), bwstep HBW.out (Below.refl _ _).drew⟩
     case measure => simp [intOf]; omega
    ·have HD := Lib.hid (HNE.out e)
     by_cases e0 : f.row = g.row
     ·by_cases e1 : f.col = g.col
      ·by_cases e2 : f.at_ = g.at_
       ·by_cases e3 : f.val = g.val
        ·by_cases e4 : f.gone = g.gone
         ·exact absurd (Cl.ext' e0 e1 e2 e3 e4) e
         ·have s0 := str_eq e0
          have s1 := str_eq e1
          have s2 : (f.at_ == g.at_) = true := beq_iff_eq.2 e2
          have s3 := str_eq e3
          have s4 : (f.gone == g.gone) = false := beq_eq_false_iff_ne.2 e4
          clear e0 e1 e2 e3 e4 e
          go_wp2_with fail
          go_region_held3 (fun z => z.cell? ⟨b, off + k * 5, none⟩ = some (.string f.row) ∧ z.cell? ⟨b, off + k * 5 + 1, none⟩ = some (.string f.col) ∧ z.cell? ⟨b, off + k * 5 + 2, none⟩ = some (.int .i64 f.at_) ∧ z.cell? ⟨b, off + k * 5 + 3, none⟩ = some (.string f.val) ∧ z.cell? ⟨b, off + k * 5 + 4, none⟩ = some (.bool f.gone) ∧ z.cell? ⟨b', off' + k * 5, none⟩ = some (.string g.row) ∧ z.cell? ⟨b', off' + k * 5 + 1, none⟩ = some (.string g.col) ∧ z.cell? ⟨b', off' + k * 5 + 2, none⟩ = some (.int .i64 g.at_) ∧ z.cell? ⟨b', off' + k * 5 + 3, none⟩ = some (.string g.val) ∧ z.cell? ⟨b', off' + k * 5 + 4, none⟩ = some (.bool g.gone) ∧ Below wr.heap.size wr z) (first | exact HT.out | assumption | exact HQ.out _ (by assumption))
           (fail)
          go_wp2_with fail
          go_ret
          exact ⟨ret1 (vb HD.out.symm), bwstep HBW.out (Below.refl _ _).drew⟩
        ·have s0 := str_eq e0
         have s1 := str_eq e1
         have s2 : (f.at_ == g.at_) = true := beq_iff_eq.2 e2
         have s3 := str_ne e3
         clear e0 e1 e2 e3 e
         go_wp2_with fail
         go_region_held3 (fun z => z.cell? ⟨b, off + k * 5, none⟩ = some (.string f.row) ∧ z.cell? ⟨b, off + k * 5 + 1, none⟩ = some (.string f.col) ∧ z.cell? ⟨b, off + k * 5 + 2, none⟩ = some (.int .i64 f.at_) ∧ z.cell? ⟨b, off + k * 5 + 3, none⟩ = some (.string f.val) ∧ z.cell? ⟨b, off + k * 5 + 4, none⟩ = some (.bool f.gone) ∧ z.cell? ⟨b', off' + k * 5, none⟩ = some (.string g.row) ∧ z.cell? ⟨b', off' + k * 5 + 1, none⟩ = some (.string g.col) ∧ z.cell? ⟨b', off' + k * 5 + 2, none⟩ = some (.int .i64 g.at_) ∧ z.cell? ⟨b', off' + k * 5 + 3, none⟩ = some (.string g.val) ∧ z.cell? ⟨b', off' + k * 5 + 4, none⟩ = some (.bool g.gone) ∧ Below wr.heap.size wr z) (first | exact HT.out | assumption | exact HQ.out _ (by assumption))
          (fail)
         go_wp2_with fail
         go_ret
         exact ⟨ret1 (vb HD.out.symm), bwstep HBW.out (Below.refl _ _).drew⟩
       ·have s0 := str_eq e0
        have s1 := str_eq e1
        have s2 : (f.at_ == g.at_) = false := beq_eq_false_iff_ne.2 e2
        clear e0 e1 e2 e
        go_wp2_with fail
        go_region_held3 (fun z => z.cell? ⟨b, off + k * 5, none⟩ = some (.string f.row) ∧ z.cell? ⟨b, off + k * 5 + 1, none⟩ = some (.string f.col) ∧ z.cell? ⟨b, off + k * 5 + 2, none⟩ = some (.int .i64 f.at_) ∧ z.cell? ⟨b, off + k * 5 + 3, none⟩ = some (.string f.val) ∧ z.cell? ⟨b, off + k * 5 + 4, none⟩ = some (.bool f.gone) ∧ z.cell? ⟨b', off' + k * 5, none⟩ = some (.string g.row) ∧ z.cell? ⟨b', off' + k * 5 + 1, none⟩ = some (.string g.col) ∧ z.cell? ⟨b', off' + k * 5 + 2, none⟩ = some (.int .i64 g.at_) ∧ z.cell? ⟨b', off' + k * 5 + 3, none⟩ = some (.string g.val) ∧ z.cell? ⟨b', off' + k * 5 + 4, none⟩ = some (.bool g.gone) ∧ Below wr.heap.size wr z) (first | exact HT.out | assumption | exact HQ.out _ (by assumption))
         (fail)
        go_wp2_with fail
        go_ret
        exact ⟨ret1 (vb HD.out.symm), bwstep HBW.out (Below.refl _ _).drew⟩
      ·have s0 := str_eq e0
       have s1 := str_ne e1
       clear e0 e1 e
       go_wp2_with fail
       go_region_held3 (fun z => z.cell? ⟨b, off + k * 5, none⟩ = some (.string f.row) ∧ z.cell? ⟨b, off + k * 5 + 1, none⟩ = some (.string f.col) ∧ z.cell? ⟨b, off + k * 5 + 2, none⟩ = some (.int .i64 f.at_) ∧ z.cell? ⟨b, off + k * 5 + 3, none⟩ = some (.string f.val) ∧ z.cell? ⟨b, off + k * 5 + 4, none⟩ = some (.bool f.gone) ∧ z.cell? ⟨b', off' + k * 5, none⟩ = some (.string g.row) ∧ z.cell? ⟨b', off' + k * 5 + 1, none⟩ = some (.string g.col) ∧ z.cell? ⟨b', off' + k * 5 + 2, none⟩ = some (.int .i64 g.at_) ∧ z.cell? ⟨b', off' + k * 5 + 3, none⟩ = some (.string g.val) ∧ z.cell? ⟨b', off' + k * 5 + 4, none⟩ = some (.bool g.gone) ∧ Below wr.heap.size wr z) (first | exact HT.out | assumption | exact HQ.out _ (by assumption))
        (fail)
       go_wp2_with fail
       go_ret
       exact ⟨ret1 (vb HD.out.symm), bwstep HBW.out (Below.refl _ _).drew⟩
     ·have s0 := str_ne e0
      clear e0 e
      go_wp2_with fail
      go_region_held3 (fun z => z.cell? ⟨b, off + k * 5, none⟩ = some (.string f.row) ∧ z.cell? ⟨b, off + k * 5 + 1, none⟩ = some (.string f.col) ∧ z.cell? ⟨b, off + k * 5 + 2, none⟩ = some (.int .i64 f.at_) ∧ z.cell? ⟨b, off + k * 5 + 3, none⟩ = some (.string f.val) ∧ z.cell? ⟨b, off + k * 5 + 4, none⟩ = some (.bool f.gone) ∧ z.cell? ⟨b', off' + k * 5, none⟩ = some (.string g.row) ∧ z.cell? ⟨b', off' + k * 5 + 1, none⟩ = some (.string g.col) ∧ z.cell? ⟨b', off' + k * 5 + 2, none⟩ = some (.int .i64 g.at_) ∧ z.cell? ⟨b', off' + k * 5 + 3, none⟩ = some (.string g.val) ∧ z.cell? ⟨b', off' + k * 5 + 4, none⟩ = some (.bool g.gone) ∧ Below wr.heap.size wr z) (first | exact HT.out | assumption | exact HQ.out _ (by assumption))
       (fail)
      go_wp2_with fail
      go_ret
      exact ⟨ret1 (vb HD.out.symm), bwstep HBW.out (Below.refl _ _).drew⟩
   ·obtain rfl : k = L.length := by omega
    have hd : decide (L = M) = true := decide_eq_true (by
     have := HE.out
     rw [List.take_length, HLEN.out, List.take_length] at this
     exact this)
    have HD := Lib.hid hd
    clear HE hlt hd
    go_wp2_with fail
    go_ret
    exact ⟨ret1 (vb HD.out.symm), hbw⟩
 ·have hd : decide (L = M) = false := decide_eq_false fun h => hlen (by rw [h])
  have hln : ((L.length : Int) != (M.length : Int)) = true := by simp; omega
  rw [hd]
  clear hd hlen
  go_enter Tryz.func15, Tryz.ntmps15
  go_wp2_with fail
  go_ret
  exact ⟨rfl, Below.refl _ _⟩
end Go.Proofs.YtcpkhhbbjimdaaaGreatDoor.Ce
namespace Go.Proofs.YtcpkhhbbjimdaaaGreatDoor.Ce
open Go.RowKit
noncomputable instance : DecidableEq Rp := fun _ _ => Classical.propDecidable _
theorem rsame16_any (a b : Rv) (A B : Rp) (w : World) (ha : RpIs w [] a A) (hb : RpIs w [] b B) (hl : A.cells.length ≤ 1000000000) :
  Calls Tryz.prog 13 #[a.v, b.v] w fun e w' => e = .returned (.bool (decide (A = B))) ∧ Below w.heap.size w w' := by
 have HA := Lib.hid ha
 have HB := Lib.hid hb
 have hs := fun w h1 h2 => rsameL_any (.slice a.a a.n a.c) (.slice b.a b.n b.c) A.cells B.cells w h1 h2 hl
 have hcase : (a.e ≠ b.e) ∨ (a.e = b.e ∧ a.did ≠ b.did) ∨ (a.e = b.e ∧ a.did = b.did ∧ a.value ≠ b.value) ∨ (a.e = b.e ∧ a.did = b.did ∧ a.value = b.value) := by
  by_cases h0 : a.e = b.e
  ·by_cases h1 : a.did = b.did
   ·by_cases h2 : a.value = b.value
    ·exact .inr (.inr (.inr ⟨h0, h1, h2⟩))
    ·exact .inr (.inr (.inl ⟨h0, h1, h2⟩))
   ·exact .inr (.inl ⟨h0, h1⟩)
  ·exact .inl h0
 have hne : a.e ≠ b.e ∨ a.did ≠ b.did ∨ a.value ≠ b.value → decide (A = B) = false := fun h => decide_eq_false fun e => by
  subst e
  have e0 := ha.e.trans hb.e.symm
  have e1 := ha.did.trans hb.did.symm
  have e2 := ha.value.trans hb.value.symm
  rcases h with h | h | h
  ·exact h e0
  ·exact h e1
  ·exact h e2
 rcases hcase with h0 | ⟨h0, h1⟩ | ⟨h0, h1, h2⟩ | ⟨h0, h1, h2⟩
 ·have HD := Lib.hid (hne (.inl h0))
  have s0 : (a.e == b.e) = false := beq_eq_false_iff_ne.2 h0
  clear hs ha hb hne h0
  go_enter Tryz.func13, Tryz.ntmps13
  go_wp2_with (refine St.box rpD rfl (.tmp 0) a rfl rfl ?_)
  constructor
  intro w1 hI1 hw1 hz1
  clear hz1
  go_wp2_with (refine St.box rpD rfl (.tmp 1) b rfl rfl ?_)
  constructor
  intro w2 hJ2 hb2 hz2
  have c := RvAt.of (hI1.up hb2)
  have c0 := c.c0
  have d0 := (RvAt.of hJ2).c0
  have hw2 := bwstep hw1 hb2
  clear hz2 hI1 hw1 hb2 hJ2 c
  go_wp2_with fail
  go_ret
  exact ⟨ret1 (vb HD.out.symm), hw2⟩
 ·have HD := Lib.hid (hne (.inr (.inl h1)))
  have s0 : (a.e == b.e) = true := beq_iff_eq.2 h0
  have s1 : (a.did == b.did) = false := beq_eq_false_iff_ne.2 h1
  clear hs ha hb hne h0 h1
  go_enter Tryz.func13, Tryz.ntmps13
  go_wp2_with (refine St.box rpD rfl (.tmp 0) a rfl rfl ?_)
  constructor
  intro w1 hI1 hw1 hz1
  clear hz1
  go_wp2_with (refine St.box rpD rfl (.tmp 1) b rfl rfl ?_)
  constructor
  intro w2 hJ2 hb2 hz2
  obtain ⟨c0, c1, c2, c3⟩ := RvAt.of (hI1.up hb2)
  obtain ⟨d0, d1, d2, d3⟩ := RvAt.of hJ2
  have hw2 := bwstep hw1 hb2
  clear hz2 hI1 hw1 hb2 hJ2
  go_wp2_with fail
  go_ret
  exact ⟨ret1 (vb HD.out.symm), hw2⟩
 ·have HD := Lib.hid (hne (.inr (.inr h2)))
  have s0 : (a.e == b.e) = true := beq_iff_eq.2 h0
  have s1 : (a.did == b.did) = true := beq_iff_eq.2 h1
  have s2 := str_ne h2
  clear hs ha hb hne h0 h1 h2
  go_enter Tryz.func13, Tryz.ntmps13
  go_wp2_with (refine St.box rpD rfl (.tmp 0) a rfl rfl ?_)
  constructor
  intro w1 hI1 hw1 hz1
  clear hz1
  go_wp2_with (refine St.box rpD rfl (.tmp 1) b rfl rfl ?_)
  constructor
  intro w2 hJ2 hb2 hz2
  obtain ⟨c0, c1, c2, c3⟩ := RvAt.of (hI1.up hb2)
  obtain ⟨d0, d1, d2, d3⟩ := RvAt.of hJ2
  have hw2 := bwstep hw1 hb2
  clear hz2 hI1 hw1 hb2 hJ2
  go_wp2_with fail
  go_ret
  exact ⟨ret1 (vb HD.out.symm), hw2⟩
 ·have HD : Hid (decide (A.cells = B.cells) = decide (A = B)) := Lib.hid (decide_eq_decide.2 ⟨fun e => Rp.ext' (ha.e.symm.trans (h0.trans hb.e)) (ha.did.symm.trans (h1.trans hb.did)) (ha.value.symm.trans (h2.trans hb.value)) e, fun e => by rw [e]⟩)
  have s0 : (a.e == b.e) = true := beq_iff_eq.2 h0
  have s1 : (a.did == b.did) = true := beq_iff_eq.2 h1
  have s2 := str_eq h2
  clear ha hb hne h0 h1 h2
  go_enter Tryz.func13, Tryz.ntmps13
  go_wp2_with (refine St.box rpD rfl (.tmp 0) a rfl rfl ?_)
  constructor
  intro w1 hI1 hw1 hz1
  clear hz1
  go_wp2_with (refine St.box rpD rfl (.tmp 1) b rfl rfl ?_)
  constructor
  intro w2 hJ2 hb2 hz2
  obtain ⟨c0, c1, c2, c3⟩ := RvAt.of (hI1.up hb2)
  obtain ⟨d0, d1, d2, d3⟩ := RvAt.of hJ2
  have hw2 := bwstep hw1 hb2
  clear hz2 hI1 hw1 hb2 hJ2
  go_wp2_with fail
  refine (hs _ (HA.out.cells.bel hw2) (HB.out.cells.bel hw2)).mono ?_
  rintro e w3 ⟨rfl, hb3⟩
  have hw3 := bwstep hw2 hb3
  clear hw2 hb3 hs c0 c1 c2 c3 d0 d1 d2 d3
  go_wp2_with fail
  go_ret
  exact ⟨ret1 (vb HD.out), hw3⟩
def roomB (L : List Cl) (c : Cl) : Bool := decide ((put1 c L).length ≤ 400)
def putL (L : List Cl) (c : Cl) : List Cl := if roomB L c = true then put1 c L else L
def putE16 (L : List Cl) (c : Cl) : Int := if roomB L c = true then 0 else 4
theorem rput16_any (v : Value) (L : List Cl) (f : Cl) (w : World) (S : List Nat) (hS : ∀ k ∈ S, k < w.heap.size) (hv : RdL w S v L) (hf : f.ok) (hok : ∀ c ∈ L, c.ok) (hL : L.length ≤ 1000000) :
  Calls Tryz.prog 23 #[v, f.v] w fun e w' => (∃ A n c, e = .returned (.tuple #[.slice A n c, .int .i64 (putE16 L f)]) ∧ RdL w' S (.slice A n c) (putL L f)) ∧ Below w.heap.size w w' := by
 have hp := fun w h => rput1_any v L f w h hf hok hL
 obtain ⟨A, cp, rfl, hc, hm⟩ := hv.shape
 have HV := Lib.hid hv
 clear hv hok hf
 by_cases hr : (put1 f L).length ≤ 400
 ·have e1 : putL L f = put1 f L := if_pos (decide_eq_true hr)
  have e2 : putE16 L f = 0 := if_pos (decide_eq_true hr)
  rw [e1, e2]
  clear e1 e2
  have hri : ¬ (400 : Int) < (put1 f L).length := by omega
  go_enter Tryz.func23, Tryz.ntmps23
  go_wp2_with (refine St.box ⟨47, 0, 5, 64, Cl.cs, Cl.zero⟩ rfl (.tmp 1) f rfl rfl ?_)
  constructor
  intro w1 hI1 hw1 hz1
  have hI1' : InC w.heap.size f w1 := ⟨hI1.h⟩
  clear hz1 hI1
  go_wp2_with (refine loadC rfl (.tmp 3) rfl rfl hI1' ?_)
  refine (hp _ ((HV.out.bel hw1).up (Kp.refl _ _) (fun _ h => by cases h))).mono ?_
  rintro e w2 ⟨⟨x, rfl, hx⟩, hb2⟩
  have hxr := hx.rd (S := S) (fun k h => Nat.lt_of_lt_of_le (hS k h) hw1.size)
  obtain ⟨Ax, cx, rfl, -, -⟩ := hxr.shape
  have HX := Lib.hid hxr
  have hw2 := bwstep hw1 hb2
  clear hI1' hw1 hb2 hp hx hxr
  go_wp2_with fail
  go_ret2
  exact ⟨⟨_, _, _, rfl, HX.out⟩, hw2⟩
 ·have e1 : putL L f = L := if_neg (by simpa [roomB] using hr)
  have e2 : putE16 L f = 4 := if_neg (by simpa [roomB] using hr)
  rw [e1, e2]
  clear e1 e2
  have hri : (400 : Int) < (put1 f L).length := by omega
  go_enter Tryz.func23, Tryz.ntmps23
  go_wp2_with (refine St.box ⟨47, 0, 5, 64, Cl.cs, Cl.zero⟩ rfl (.tmp 1) f rfl rfl ?_)
  constructor
  intro w1 hI1 hw1 hz1
  have hI1' : InC w.heap.size f w1 := ⟨hI1.h⟩
  clear hz1 hI1
  go_wp2_with (refine loadC rfl (.tmp 3) rfl rfl hI1' ?_)
  refine (hp _ ((HV.out.bel hw1).up (Kp.refl _ _) (fun _ h => by cases h))).mono ?_
  rintro e w2 ⟨⟨x, rfl, hx⟩, hb2⟩
  have hxr := hx.rd (S := S) (fun k h => Nat.lt_of_lt_of_le (hS k h) hw1.size)
  obtain ⟨Ax, cx, rfl, -, -⟩ := hxr.shape
  have hw2 := bwstep hw1 hb2
  have HX := Lib.hid (HV.out.bel hw2)
  clear hI1' hw1 hb2 hp hx hxr
  go_wp2_with fail
  go_ret2
  exact ⟨⟨_, _, _, rfl, HX.out⟩, hw2⟩
end Go.Proofs.YtcpkhhbbjimdaaaGreatDoor.Ce
namespace Go.Proofs.YtcpkhhbbjimdaaaGreatDoor.Ce
open Go.RowKit
theorem equalL_any (v u : Value) (L M : List Cl) (w : World) (hv : RdL w [] v L) (hu : RdL w [] u M) (hl : L.length ≤ 1000000000) :
  Calls Tryz.prog 30 #[v, u] w fun e w' => e = .returned (.bool (decide (L = M))) ∧ Below w.heap.size w w' := by
 obtain ⟨A, cp, rfl, hc, hm⟩ := hv.shape
 obtain ⟨A', cp', rfl, hc', hm'⟩ := hu.shape
 unfold maxLen at hm hm'
 have HV := Lib.hid hv
 have HV' := Lib.hid hu
 clear hv hu
 by_cases hlen : L.length = M.length
 ·have HLEN := Lib.hid hlen
  have hln : ((L.length : Int) != (M.length : Int)) = false := by simp [hlen]
  clear hlen
  go_enter Tryz.func30, Tryz.ntmps30
  go_wp2_with fail
  go_loopw [13] (fun i wr => ∃ k : Nat, k ≤ L.length ∧ i = .int .i64 (k : Int) ∧ Hid (L.take k = M.take k) ∧ Below w.heap.size w wr) (fun i _ => L.length - (intOf i).toNat)
  case atStart => exact ⟨0, by omega, rfl, Lib.hid (by simp), Below.refl _ _⟩
  case round =>
   obtain ⟨k, hk, rfl, HE, hbw⟩ := hrel
   have HBW := Lib.hid hbw
   by_cases hlt : k < L.length
   ·have hlt' : k < M.length := by have := HLEN.out; omega
    obtain ⟨b, off, rfl, -, -⟩ := HV.out.open_ (by omega)
    obtain ⟨b', off', rfl, -, -⟩ := HV'.out.open_ (by omega)
    have hh3 : (0 : Int) ≤ (k : Int) := by omega
    have hh4 : (k : Int) < (L.length : Int) := by omega
    have hh5 : (k : Int) < (M.length : Int) := by omega
    have hfk : L[k]? = some (L[k]'hlt) := List.getElem?_eq_getElem _
    have hgk : M[k]? = some (M[k]'hlt') := List.getElem?_eq_getElem _
    generalize L[k]'hlt = f at hfk
    generalize M[k]'hlt' = g at hgk
    obtain ⟨h5, hbl⟩ := (HV.out.bel hbw).at_ hfk
    obtain ⟨h5', hbl'⟩ := (HV'.out.bel hbw).at_ hgk
    have HQ : Hid (∀ z, Below wr.heap.size wr z → (z.cell? ⟨b, off + k * 5, none⟩ = some (.string f.row) ∧ z.cell? ⟨b, off + k * 5 + 1, none⟩ = some (.string f.col) ∧ z.cell? ⟨b, off + k * 5 + 2, none⟩ = some (.int .i64 f.at_) ∧ z.cell? ⟨b, off + k * 5 + 3, none⟩ = some (.string f.val) ∧ z.cell? ⟨b, off + k * 5 + 4, none⟩ = some (.bool f.gone) ∧ z.cell? ⟨b', off' + k * 5, none⟩ = some (.string g.row) ∧ z.cell? ⟨b', off' + k * 5 + 1, none⟩ = some (.string g.col) ∧ z.cell? ⟨b', off' + k * 5 + 2, none⟩ = some (.int .i64 g.at_) ∧ z.cell? ⟨b', off' + k * 5 + 3, none⟩ = some (.string g.val) ∧ z.cell? ⟨b', off' + k * 5 + 4, none⟩ = some (.bool g.gone) ∧ Below wr.heap.size wr z)) := Lib.hid fun z hz => by
     obtain ⟨a0, a1, a2, a3, a4⟩ := h5.up hbl hz
     obtain ⟨c0, c1, c2, c3, c4⟩ := h5'.up hbl' hz
     exact ⟨a0, a1, a2, a3, a4, c0, c1, c2, c3, c4, hz⟩
    have HT := Lib.hid (HQ.out _ (Below.refl wr.heap.size wr).drew)
    have HNX : Hid (f = g → L.take (k + 1) = M.take (k + 1)) := Lib.hid fun e => take_eq_next hfk hgk HE.out e
    have HNE : Hid (f ≠ g → decide (L = M) = false) := Lib.hid fun e => decide_eq_false (ne_of_at hfk hgk e)
    clear hfk hgk h5 hbl h5' hbl' hbw hlt hlt'
    by_cases e : f = g
    ·subst e
     go_wp2_with fail
     go_region_held3 (fun z => z.cell? ⟨b, off + k * 5, none⟩ = some (.string f.row) ∧ z.cell? ⟨b, off + k * 5 + 1, none⟩ = some (.string f.col) ∧ z.cell? ⟨b, off + k * 5 + 2, none⟩ = some (.int .i64 f.at_) ∧ z.cell? ⟨b, off + k * 5 + 3, none⟩ = some (.string f.val) ∧ z.cell? ⟨b, off + k * 5 + 4, none⟩ = some (.bool f.gone) ∧ z.cell? ⟨b', off' + k * 5, none⟩ = some (.string f.row) ∧ z.cell? ⟨b', off' + k * 5 + 1, none⟩ = some (.string f.col) ∧ z.cell? ⟨b', off' + k * 5 + 2, none⟩ = some (.int .i64 f.at_) ∧ z.cell? ⟨b', off' + k * 5 + 3, none⟩ = some (.string f.val) ∧ z.cell? ⟨b', off' + k * 5 + 4, none⟩ = some (.bool f.gone) ∧ Below wr.heap.size wr z) (first | exact HT.out | assumption | exact HQ.out _ (by assumption))
      (first | (refine wp_neC (.tmp 19) (.tmp 23) _ rfl f f rfl rfl (b := false) (by simp) ?_))
     go_wp2_with fail
     go_roundw
     case rel => exact ⟨k + 1, by omega, by go_num, Lib.hid (HNX.out (by trivial)), bwstep HBW.out (Below.refl _ _).drew⟩
     case measure => simp [intOf]; omega
    ·have HD := Lib.hid (HNE.out e)
     by_cases e0 : f.row = g.row
     ·by_cases e1 : f.col = g.col
      ·by_cases e2 : f.at_ = g.at_
       ·by_cases e3 : f.val = g.val
        ·by_cases e4 : f.gone = g.gone
         ·exact absurd (Cl.ext' e0 e1 e2 e3 e4) e
         ·have s0 := str_eq e0
          have s1 := str_eq e1
          have s2 : (f.at_ == g.at_) = true := beq_iff_eq.2 e2
          have s3 := str_eq e3
          have s4 : (f.gone == g.gone) = false := beq_eq_false_iff_ne.2 e4
          clear e0 e1 e2 e3 e4 e
          go_wp2_with fail
          go_region_held3 (fun z => z.cell? ⟨b, off + k * 5, none⟩ = some (.string f.row) ∧ z.cell? ⟨b, off + k * 5 + 1, none⟩ = some (.string f.col) ∧ z.cell? ⟨b, off + k * 5 + 2, none⟩ = some (.int .i64 f.at_) ∧ z.cell? ⟨b, off + k * 5 + 3, none⟩ = some (.string f.val) ∧ z.cell? ⟨b, off + k * 5 + 4, none⟩ = some (.bool f.gone) ∧ z.cell? ⟨b', off' + k * 5, none⟩ = some (.string g.row) ∧ z.cell? ⟨b', off' + k * 5 + 1, none⟩ = some (.string g.col) ∧ z.cell? ⟨b', off' + k * 5 + 2, none⟩ = some (.int .i64 g.at_) ∧ z.cell? ⟨b', off' + k * 5 + 3, none⟩ = some (.string g.val) ∧ z.cell? ⟨b', off' + k * 5 + 4, none⟩ = some (.bool g.gone) ∧ Below wr.heap.size wr z) (first | exact HT.out | assumption | exact HQ.out _ (by assumption))
           (fail)
          go_wp2_with fail
          go_ret
          exact ⟨ret1 (vb HD.out.symm), bwstep HBW.out (Below.refl _ _).drew⟩
        ·have s0 := str_eq e0
         have s1 := str_eq e1
         have s2 : (f.at_ == g.at_) = true := beq_iff_eq.2 e2
         have s3 := str_ne e3
         clear e0 e1 e2 e3 e
         go_wp2_with fail
         go_region_held3 (fun z => z.cell? ⟨b, off + k * 5, none⟩ = some (.string f.row) ∧ z.cell? ⟨b, off + k * 5 + 1, none⟩ = some (.string f.col) ∧ z.cell? ⟨b, off + k * 5 + 2, none⟩ = some (.int .i64 f.at_) ∧ z.cell? ⟨b, off + k * 5 + 3, none⟩ = some (.string f.val) ∧ z.cell? ⟨b, off + k * 5 + 4, none⟩ = some (.bool f.gone) ∧ z.cell? ⟨b', off' + k * 5, none⟩ = some (.string g.row) ∧ z.cell? ⟨b', off' + k * 5 + 1, none⟩ = some (.string g.col) ∧ z.cell? ⟨b', off' + k * 5 + 2, none⟩ = some (.int .i64 g.at_) ∧ z.cell? ⟨b', off' + k * 5 + 3, none⟩ = some (.string g.val) ∧ z.cell? ⟨b', off' + k * 5 + 4, none⟩ = some (.bool g.gone) ∧ Below wr.heap.size wr z) (first | exact HT.out | assumption | exact HQ.out _ (by assumption))
          (fail)
         go_wp2_with fail
         go_ret
         exact ⟨ret1 (vb HD.out.symm), bwstep HBW.out (Below.refl _ _).drew⟩
       ·have s0 := str_eq e0
        have s1 := str_eq e1
        have s2 : (f.at_ == g.at_) = false := beq_eq_false_iff_ne.2 e2
        clear e0 e1 e2 e
        go_wp2_with fail
        go_region_held3 (fun z => z.cell? ⟨b, off + k * 5, none⟩ = some (.string f.row) ∧ z.cell? ⟨b, off + k * 5 + 1, none⟩ = some (.string f.col) ∧ z.cell? ⟨b, off + k * 5 + 2, none⟩ = some (.int .i64 f.at_) ∧ z.cell? ⟨b, off + k * 5 + 3, none⟩ = some (.string f.val) ∧ z.cell? ⟨b, off + k * 5 + 4, none⟩ = some (.bool f.gone) ∧ z.cell? ⟨b', off' + k * 5, none⟩ = some (.string g.row) ∧ z.cell? ⟨b', off' + k * 5 + 1, none⟩ = some (.string g.col) ∧ z.cell? ⟨b', off' + k * 5 + 2, none⟩ = some (.int .i64 g.at_) ∧ z.cell? ⟨b', off' + k * 5 + 3, none⟩ = some (.string g.val) ∧ z.cell? ⟨b', off' + k * 5 + 4, none⟩ = some (.bool g.gone) ∧ Below wr.heap.size wr z) (first | exact HT.out | assumption | exact HQ.out _ (by assumption))
         (fail)
        go_wp2_with fail
        go_ret
        exact ⟨ret1 (vb HD.out.symm), bwstep HBW.out (Below.refl _ _).drew⟩
      ·have s0 := str_eq e0
       have s1 := str_ne e1
       clear e0 e1 e
       go_wp2_with fail
       go_region_held3 (fun z => z.cell? ⟨b, off + k * 5, none⟩ = some (.string f.row) ∧ z.cell? ⟨b, off + k * 5 + 1, none⟩ = some (.string f.col) ∧ z.cell? ⟨b, off + k * 5 + 2, none⟩ = some (.int .i64 f.at_) ∧ z.cell? ⟨b, off + k * 5 + 3, none⟩ = some (.string f.val) ∧ z.cell? ⟨b, off + k * 5 + 4, none⟩ = some (.bool f.gone) ∧ z.cell? ⟨b', off' + k * 5, none⟩ = some (.string g.row) ∧ z.cell? ⟨b', off' + k * 5 + 1, none⟩ = some (.string g.col) ∧ z.cell? ⟨b', off' + k * 5 + 2, none⟩ = some (.int .i64 g.at_) ∧ z.cell? ⟨b', off' + k * 5 + 3, none⟩ = some (.string g.val) ∧ z.cell? ⟨b', off' + k * 5 + 4, none⟩ = some (.bool g.gone) ∧ Below wr.heap.size wr z) (first | exact HT.out | assumption | exact HQ.out _ (by assumption))
        (fail)
       go_wp2_with fail
       go_ret
       exact ⟨ret1 (vb HD.out.symm), bwstep HBW.out (Below.refl _ _).drew⟩
     ·have s0 := str_ne e0
      clear e0 e
      go_wp2_with fail
      go_region_held3 (fun z => z.cell? ⟨b, off + k * 5, none⟩ = some (.string f.row) ∧ z.cell? ⟨b, off + k * 5 + 1, none⟩ = some (.string f.col) ∧ z.cell? ⟨b, off + k * 5 + 2, none⟩ = some (.int .i64 f.at_) ∧ z.cell? ⟨b, off + k * 5 + 3, none⟩ = some (.string f.val) ∧ z.cell? ⟨b, off + k * 5 + 4, none⟩ = some (.bool f.gone) ∧ z.cell? ⟨b', off' + k * 5, none⟩ = some (.string g.row) ∧ z.cell? ⟨b', off' + k * 5 + 1, none⟩ = some (.string g.col) ∧ z.cell? ⟨b', off' + k * 5 + 2, none⟩ = some (.int .i64 g.at_) ∧ z.cell? ⟨b', off' + k * 5 + 3, none⟩ = some (.string g.val) ∧ z.cell? ⟨b', off' + k * 5 + 4, none⟩ = some (.bool g.gone) ∧ Below wr.heap.size wr z) (first | exact HT.out | assumption | exact HQ.out _ (by assumption))
       (fail)
      go_wp2_with fail
      go_ret
      exact ⟨ret1 (vb HD.out.symm), bwstep HBW.out (Below.refl _ _).drew⟩
   ·obtain rfl : k = L.length := by omega
    have hd : decide (L = M) = true := decide_eq_true (by
     have := HE.out
     rw [List.take_length, HLEN.out, List.take_length] at this
     exact this)
    have HD := Lib.hid hd
    clear HE hlt hd
    go_wp2_with fail
    go_ret
    exact ⟨ret1 (vb HD.out.symm), hbw⟩
 ·have hd : decide (L = M) = false := decide_eq_false fun h => hlen (by rw [h])
  have hln : ((L.length : Int) != (M.length : Int)) = true := by simp; omega
  rw [hd]
  clear hd hlen
  go_enter Tryz.func30, Tryz.ntmps30
  go_wp2_with fail
  go_ret
  exact ⟨rfl, Below.refl _ _⟩
end Go.Proofs.YtcpkhhbbjimdaaaGreatDoor.Ce
namespace Go.Proofs.YtcpkhhbbjimdaaaGreatDoor.Ce
open Go.RowKit
theorem ssame_any (a b : Rv) (A B : Rp) (w : World) (ha : RpIs w [] a A) (hb : RpIs w [] b B) (hl : A.cells.length ≤ 1000000000) :
  Calls Tryz.prog 18 #[a.v, b.v] w fun e w' => e = .returned (.bool (decide (A = B))) ∧ Below w.heap.size w w' := by
 have HA := Lib.hid ha
 have HB := Lib.hid hb
 have hs := fun w h1 h2 => equalL_any (.slice a.a a.n a.c) (.slice b.a b.n b.c) A.cells B.cells w h1 h2 hl
 have hcase : (a.e ≠ b.e) ∨ (a.e = b.e ∧ a.did ≠ b.did) ∨ (a.e = b.e ∧ a.did = b.did ∧ a.value ≠ b.value) ∨ (a.e = b.e ∧ a.did = b.did ∧ a.value = b.value) := by
  by_cases h0 : a.e = b.e
  ·by_cases h1 : a.did = b.did
   ·by_cases h2 : a.value = b.value
    ·exact .inr (.inr (.inr ⟨h0, h1, h2⟩))
    ·exact .inr (.inr (.inl ⟨h0, h1, h2⟩))
   ·exact .inr (.inl ⟨h0, h1⟩)
  ·exact .inl h0
 have hne : a.e ≠ b.e ∨ a.did ≠ b.did ∨ a.value ≠ b.value → decide (A = B) = false := fun h => decide_eq_false fun e => by
  subst e
  have e0 := ha.e.trans hb.e.symm
  have e1 := ha.did.trans hb.did.symm
  have e2 := ha.value.trans hb.value.symm
  rcases h with h | h | h
  ·exact h e0
  ·exact h e1
  ·exact h e2
 rcases hcase with h0 | ⟨h0, h1⟩ | ⟨h0, h1, h2⟩ | ⟨h0, h1, h2⟩
 ·have HD := Lib.hid (hne (.inl h0))
  have s0 : (a.e == b.e) = false := beq_eq_false_iff_ne.2 h0
  clear hs ha hb hne h0
  go_enter Tryz.func18, Tryz.ntmps18
  go_wp2_with (refine St.box rpD rfl (.tmp 0) a rfl rfl ?_)
  constructor
  intro w1 hI1 hw1 hz1
  clear hz1
  go_wp2_with (refine St.box rpD rfl (.tmp 1) b rfl rfl ?_)
  constructor
  intro w2 hJ2 hb2 hz2
  have c := RvAt.of (hI1.up hb2)
  have c0 := c.c0
  have d0 := (RvAt.of hJ2).c0
  have hw2 := bwstep hw1 hb2
  clear hz2 hI1 hw1 hb2 hJ2 c
  go_wp2_with fail
  go_ret
  exact ⟨ret1 (vb HD.out.symm), hw2⟩
 ·have HD := Lib.hid (hne (.inr (.inl h1)))
  have s0 : (a.e == b.e) = true := beq_iff_eq.2 h0
  have s1 : (a.did == b.did) = false := beq_eq_false_iff_ne.2 h1
  clear hs ha hb hne h0 h1
  go_enter Tryz.func18, Tryz.ntmps18
  go_wp2_with (refine St.box rpD rfl (.tmp 0) a rfl rfl ?_)
  constructor
  intro w1 hI1 hw1 hz1
  clear hz1
  go_wp2_with (refine St.box rpD rfl (.tmp 1) b rfl rfl ?_)
  constructor
  intro w2 hJ2 hb2 hz2
  obtain ⟨c0, c1, c2, c3⟩ := RvAt.of (hI1.up hb2)
  obtain ⟨d0, d1, d2, d3⟩ := RvAt.of hJ2
  have hw2 := bwstep hw1 hb2
  clear hz2 hI1 hw1 hb2 hJ2
  go_wp2_with fail
  go_ret
  exact ⟨ret1 (vb HD.out.symm), hw2⟩
 ·have HD := Lib.hid (hne (.inr (.inr h2)))
  have s0 : (a.e == b.e) = true := beq_iff_eq.2 h0
  have s1 : (a.did == b.did) = true := beq_iff_eq.2 h1
  have s2 := str_ne h2
  clear hs ha hb hne h0 h1 h2
  go_enter Tryz.func18, Tryz.ntmps18
  go_wp2_with (refine St.box rpD rfl (.tmp 0) a rfl rfl ?_)
  constructor
  intro w1 hI1 hw1 hz1
  clear hz1
  go_wp2_with (refine St.box rpD rfl (.tmp 1) b rfl rfl ?_)
  constructor
  intro w2 hJ2 hb2 hz2
  obtain ⟨c0, c1, c2, c3⟩ := RvAt.of (hI1.up hb2)
  obtain ⟨d0, d1, d2, d3⟩ := RvAt.of hJ2
  have hw2 := bwstep hw1 hb2
  clear hz2 hI1 hw1 hb2 hJ2
  go_wp2_with fail
  go_ret
  exact ⟨ret1 (vb HD.out.symm), hw2⟩
 ·have HD : Hid (decide (A.cells = B.cells) = decide (A = B)) := Lib.hid (decide_eq_decide.2 ⟨fun e => Rp.ext' (ha.e.symm.trans (h0.trans hb.e)) (ha.did.symm.trans (h1.trans hb.did)) (ha.value.symm.trans (h2.trans hb.value)) e, fun e => by rw [e]⟩)
  have s0 : (a.e == b.e) = true := beq_iff_eq.2 h0
  have s1 : (a.did == b.did) = true := beq_iff_eq.2 h1
  have s2 := str_eq h2
  clear ha hb hne h0 h1 h2
  go_enter Tryz.func18, Tryz.ntmps18
  go_wp2_with (refine St.box rpD rfl (.tmp 0) a rfl rfl ?_)
  constructor
  intro w1 hI1 hw1 hz1
  clear hz1
  go_wp2_with (refine St.box rpD rfl (.tmp 1) b rfl rfl ?_)
  constructor
  intro w2 hJ2 hb2 hz2
  obtain ⟨c0, c1, c2, c3⟩ := RvAt.of (hI1.up hb2)
  obtain ⟨d0, d1, d2, d3⟩ := RvAt.of hJ2
  have hw2 := bwstep hw1 hb2
  clear hz2 hI1 hw1 hb2 hJ2
  go_wp2_with fail
  refine (hs _ (HA.out.cells.bel hw2) (HB.out.cells.bel hw2)).mono ?_
  rintro e w3 ⟨rfl, hb3⟩
  have hw3 := bwstep hw2 hb3
  clear hw2 hb3 hs c0 c1 c2 c3 d0 d1 d2 d3
  go_wp2_with fail
  go_ret
  exact ⟨ret1 (vb HD.out), hw3⟩
end Go.Proofs.YtcpkhhbbjimdaaaGreatDoor.Ce
