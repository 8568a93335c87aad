/- Slices of slices of bytes: read ('RdM'), and owned with all their rows ('OwM'). Of no function in particular. A slice of slices of bytes that is built by appends, its last row by appends too. Of no function in particular. The contract of slices.Grow of nothing. The contract of slices.Concat: rows of whatever lengths behind one another. The contract of bytes.Clone. Plain lemmas on sums of 32 bits: a stp is linear and loses nothing; what a turned bit, a turned run, a sum behind its bytes does to a sum. Of no function in particular. The contracts of package check. The contract of the reference function of layer 2, and awake. The contracts of package wire. The contracts of package wire, going on: lists of texts. The contracts of package wire, going on: cutting. The contracts of package wire, going on: lists of texts that are cut off. The contracts of the reference function Same and of bytes.Equal. The contracts of the reference functions of layer 1. The contracts of the reference functions of layer 1, going on. Plain lemmas: what is put is cut off as it was. -/
import Derived.Test.YtpmlfhgdhnofbaaBase
import Derived.Laws.CopyRow
import Derived.Laws.IdiomCopy
import Derived.Lib.AppendZeros
import Derived.Lib.SliceRun
import Derived.Lib.SlBytesConst
set_option maxHeartbeats 8000000
set_option maxRecDepth 100000
namespace Go.Proofs.Ytpmlfhgdhnofbaa
open Go.RowKit
open Mx (rw rw_len rw_get rw_congr)
def RdM (w : World) (B : Nat) (v : Value) (n : Nat) (g : Nat → List UInt8) : Prop :=
 ∃ vs : Nat → Value, Rd w B v ((List.range n).map vs) ∧ ∀ j, j < n → Rd w B (vs j) ((g j).map bv)
section
variable {w w' : World} {B B' n : Nat} {v : Value} {g g' : Nat → List UInt8}
theorem RdM.below (h : RdM w B v n g) (hb : Below B w w') : RdM w' B v n g := by
 obtain ⟨vs, h1, h2⟩ := h
 exact ⟨vs, h1.below hb, fun j hj => (h2 j hj).below hb⟩
theorem RdM.mono (h : RdM w B v n g) (hB : B ≤ B') : RdM w B' v n g := by
 obtain ⟨vs, h1, h2⟩ := h
 exact ⟨vs, h1.mono hB, fun j hj => (h2 j hj).mono hB⟩
theorem RdM.up (h : RdM w w.heap.size v n g) (hb : Below w.heap.size w w') : RdM w' w'.heap.size v n g := (h.below hb).mono hb.size
theorem RdM.congr (h : RdM w B v n g) (e : ∀ j, j < n → g j = g' j) : RdM w B v n g' := by
 obtain ⟨vs, h1, h2⟩ := h
 exact ⟨vs, h1, fun j hj => by rw [← e j hj]; exact h2 j hj⟩
theorem RdM.nil (w : World) (B : Nat) (g : Nat → List UInt8) : RdM w B (.slice none 0 0) 0 g := ⟨fun _ => .slice none 0 0, Rd.nil _ _, fun j hj => by omega⟩
theorem RdM.shape (h : RdM w B v n g) : ∃ A c, v = .slice A n c ∧ n ≤ c ∧ c ≤ maxLen := by
 obtain ⟨vs, h1, _⟩ := h
 obtain ⟨A, c, e, h2, h3⟩ := h1.shapeM
 rw [List.length_range] at e h2
 exact ⟨A, c, e, h2, h3⟩
theorem RdM.open_ {A : Option Addr} {m c : Nat} (h : RdM w B (.slice A m c) n g) (hp : 0 < n) : ∃ b off, A = some ⟨b, off, none⟩ ∧ b < B := by
 obtain ⟨vs, h1, _⟩ := h
 obtain ⟨b, off, e, hb, _⟩ := h1.cellM (by rw [List.length_range]; exact hp)
 exact ⟨b, off, e, hb⟩
theorem RdM.row {b off m c j : Nat} (h : RdM w B (.slice (some ⟨b, off, none⟩) m c) n g) (hj : j < n) :
  ∃ A' c', w.cell? ⟨b, off + j, none⟩ = some (.slice A' (g j).length c') ∧ (g j).length ≤ c' ∧ c' ≤ maxLen ∧ Rd w B (.slice A' (g j).length c') ((g j).map bv) := by
 obtain ⟨vs, h1, h2⟩ := h
 obtain ⟨b', off', e, _, hc⟩ := h1.cellM (by rw [List.length_range]; omega)
 have hcj := hc j (by rw [List.length_range]; exact hj)
 simp only [Option.some.injEq, Addr.mk.injEq, and_true] at e
 obtain ⟨rfl, rfl⟩ := e
 rw [List.getElem_range] at hcj
 have hr := h2 j hj
 obtain ⟨A', c', e', h3, h4⟩ := hr.shapeM
 rw [e'] at hcj hr
 exact ⟨A', c', hcj, h3, h4, hr⟩
end
structure OwM (w : World) (B : Nat) (v : Value) (vs : Nat → Value) (n : Nat) (g : Nat → List UInt8) : Prop where
 out : Ow w B 29 v ((List.range n).map vs)
 row : ∀ j, j < n → Ow w B 5 (vs j) ((g j).map bv)
 ap : ∀ i j, i < n → j < n → i ≠ j → Apart (vs i) (vs j)
 apo : ∀ j, j < n → Apart v (vs j)
section
variable {w w' : World} {B n : Nat} {v : Value} {vs : Nat → Value} {g g' : Nat → List UInt8}
theorem OwM.rd (h : OwM w B v vs n g) : RdM w w.heap.size v n g := ⟨vs, h.out.rd, fun j hj => (h.row j hj).rd⟩
theorem OwM.congr (h : OwM w B v vs n g) (e : ∀ j, j < n → g j = g' j) : OwM w B v vs n g' := ⟨h.out, fun j hj => by rw [← e j hj]; exact h.row j hj, h.ap, h.apo⟩
theorem OwM.below (h : OwM w B v vs n g) (hb : Below w.heap.size w w') : OwM w' B v vs n g := ⟨h.out.below hb, fun j hj => (h.row j hj).below hb, h.ap, h.apo⟩
theorem OwM.mono {B' : Nat} (h : OwM w B v vs n g) (hB : B' ≤ B) : OwM w B' v vs n g := ⟨h.out.mono hB, fun j hj => (h.row j hj).mono hB, h.ap, h.apo⟩
theorem OwM.nil (w : World) (B : Nat) (g : Nat → List UInt8) : OwM w B (.slice none 0 0) (fun _ => .slice none 0 0) 0 g := ⟨Ow.nil _ _ _, fun j hj => by omega, fun i j hi => by omega, fun j hj => by omega⟩
theorem OwM.setRow {j : Nat} {l : List UInt8} (h : OwM w B v vs n g) (hj : j < n) (hg : w.grownBy w' (vs j).ownBlock) (ho : Ow w' B 5 (vs j) (l.map bv)) :
  OwM w' B v vs n (fun i => if i = j then l else g i) := by
 refine ⟨h.out.kept hg (h.apo j hj), fun i hi => ?_, h.ap, h.apo⟩
 by_cases e : i = j
 ·subst e; rw [if_pos rfl]; exact ho
 ·rw [if_neg e]; exact (h.row i hi).kept hg (h.ap i j hi hj e)
theorem OwM.grown {w0 : World} {B0 j : Nat} (h : OwM w B v vs n g) (hj : j < n) (hg : w.grownBy w' (vs j).ownBlock) (hb : Below B0 w0 w) (hB : B0 ≤ B) (hw : B0 ≤ w.heap.size) : Below B0 w0 w' :=
 hb.grown hg hw fun k hk => Nat.le_trans hB ((h.row j hj).ge k hk)
end
end Go.Proofs.Ytpmlfhgdhnofbaa
namespace Go.Proofs.Ytpmlfhgdhnofbaa
open Go.RowKit
open Mx (rw rw_len rw_get rw_congr)
structure Bld (w1 wr : World) (v : Value) (vs : Nat → Value) (n : Nat) (g : Nat → List UInt8) (u : Value) (l : List UInt8) : Prop where
 om : OwM wr w1.heap.size v vs n g
 ro : Ow wr w1.heap.size 5 u (l.map bv)
 ar : ∀ j, j < n → Apart u (vs j)
 ao : Apart u v
 bel : Below w1.heap.size w1 wr
section
variable {w1 wr w' : World} {v u : Value} {vs : Nat → Value} {n : Nat} {g : Nat → List UInt8} {l : List UInt8}
theorem Bld.start (w1 : World) (g : Nat → List UInt8) : Bld w1 w1 (.slice none 0 0) (fun _ => .slice none 0 0) 0 g (.slice none 0 0) [] :=
 ⟨OwM.nil _ _ _, Ow.nilB _ _ _, fun j hj => by omega, Apart.nil _, Below.refl _ _⟩
theorem Bld.up (h : Bld w1 wr v vs n g u l) (hb : Below wr.heap.size wr w') : Bld w1 w' v vs n g u l := ⟨h.om.below hb, h.ro.below hb, h.ar, h.ao, bwstep h.bel hb⟩
theorem Bld.of {w2 : World} (h : OwM wr w1.heap.size v vs n g) (hb : Below w1.heap.size w1 wr) (hu : Ow w2 wr.heap.size 5 u (l.map bv)) (hb2 : Below wr.heap.size wr w2) : Bld w1 w2 v vs n g u l :=
 ⟨h.below hb2, hu.mono hb.size, fun j hj k hk e => by
  have h1 := hu.ge k hk
  have h2 := ((h.row j hj).lt k e).2
  omega, fun k hk e => by
  have h1 := hu.ge k hk
  have h2 := (h.out.lt k e).2
  omega, bwstep hb hb2⟩
theorem OwM.kept {B : Nat} {row : Option Nat} (h : OwM wr B v vs n g) (hg : wr.grownBy w' row) (ho : ∀ k, v.ownBlock = some k → row ≠ some k) (hr : ∀ j, j < n → ∀ k, (vs j).ownBlock = some k → row ≠ some k) : OwM w' B v vs n g :=
 ⟨h.out.kept hg ho, fun j hj => (h.row j hj).kept hg (hr j hj), h.ap, h.apo⟩
end
end Go.Proofs.Ytpmlfhgdhnofbaa
namespace Go.Proofs.Ytpmlfhgdhnofbaa
open Go.RowKit
theorem zeroCells_size (z : Array Value) (n : Nat) (h : z.size = 1) : (Builtin.zeroCells z n).size = n := by
 simp [Builtin.zeroCells, h]
theorem grow_any (n : Nat) (w : World) (hn : 0 < n) (hn2 : n ≤ 1000000) :
  Calls Try.prog 46 #[.slice none 0 0, .int .i64 (n : Int)] w fun e w' => (∃ v, e = .returned v ∧ Ow w' w.heap.size 5 v (([] : List UInt8).map bv)) ∧ Below w.heap.size w w' := by
 obtain ⟨i, hi, hi0, hi1, hi2⟩ := info_parts bytesT.info
 have hrun := fun ty => Lib.run_append_nil_zeros (P := Try.prog) w 29 3 ty 5 i (.int .u8 0) .i64 .i64 Try.underlying29 Try.underlying3 hi hi0 n hn (by omega) (by omega) (by rw [hi2]; omega)
 have hcap := grownCap_ge w n 0 5
 have hcm := grownCap_le_maxLen w n 0 5 (by simp [maxLen]; omega)
 generalize grownCap w n 0 5 = c at *
 have h0 : ¬ (n : Int) < 0 := by omega
 have h1 : (0 : Int) < (n : Int) := by omega
 have hcm' := hcm
 unfold maxLen at hcm'
 have hout : Ow (w.drew.alloc (.cells (Builtin.zeroCells (Value.int .u8 0).cells n ++ Builtin.zeroCells (Value.int .u8 0).cells (c - n)) 5)) w.heap.size 5 (.slice (some ⟨w.heap.size, 0, none⟩) 0 c) (([] : List UInt8).map bv) := by
  refine ⟨by simp, .inr ⟨w.heap.size, c, _, rfl, Nat.le_refl _, heap_alloc_new w.drew _, Nat.zero_le _, hcm, ?_, by simp⟩⟩
  rw [Array.size_append, zeroCells_size _ _ rfl, zeroCells_size _ _ rfl]
  omega
 have hb : Below w.heap.size w (w.drew.alloc (.cells (Builtin.zeroCells (Value.int .u8 0).cells n ++ Builtin.zeroCells (Value.int .u8 0).cells (c - n)) 5)) := ((Below.refl _ _).drew).alloc (Nat.le_refl _) _
 generalize hw1 : w.drew.alloc (.cells (Builtin.zeroCells (Value.int .u8 0).cells n ++ Builtin.zeroCells (Value.int .u8 0).cells (c - n)) 5) = w1 at *
 clear hi hi0 hi1 hi2
 go_enter Try.func46, Try.ntmps46
 go_wp2_with (at_builtin; refine Lib.wpList_append_run w rfl (.tmp 20) (.tmp 21) 29 3 rfl (.slice none 0 0) (.int .i64 (n : Int)) rfl rfl _ _ (hrun _) ?_)
 go_ret
 exact ⟨⟨_, rfl, hout⟩, hb⟩
end Go.Proofs.Ytpmlfhgdhnofbaa
namespace Go.Proofs.Ytpmlfhgdhnofbaa
open Go.RowKit
def flatG (g : Nat → List UInt8) : Nat → List UInt8
 | 0 => []
 | k + 1 => flatG g k ++ g k
theorem flatG_succ (g : Nat → List UInt8) (k : Nat) : flatG g (k + 1) = flatG g k ++ g k := rfl
theorem flatG_le (g : Nat → List UInt8) {j k : Nat} (h : j ≤ k) : (flatG g j).length ≤ (flatG g k).length := by
 induction k with
 | zero =>
      obtain rfl : j = 0 := by omega
      exact Nat.le_refl _
 | succ k ih =>
  by_cases e : j = k + 1
  ·subst e; exact Nat.le_refl _
  ·have := ih (by omega)
   rw [flatG_succ, List.length_append]
   omega
theorem concatG_any (v : Value) (k : Nat) (g : Nat → List UInt8) (w : World) (hr : RdM w w.heap.size v k g) (hk : 0 < k) (hp : 0 < (flatG g k).length) (hm : (flatG g k).length ≤ 1000000) :
  Calls Try.prog 34 #[v] w fun e w' => (∃ x, e = .returned x ∧ Ow w' w.heap.size 5 x ((flatG g k).map bv)) ∧ Below w.heap.size w w' := by
 obtain ⟨A, c, rfl, hc, hcm⟩ := hr.shape
 obtain ⟨b, off, rfl, hb⟩ := hr.open_ hk
 unfold maxLen at hcm
 go_enter Try.func34, Try.ntmps34
 go_wp2_with fail
 go_loopw [3, 5, 11] (fun p _ i wr => ∃ j q : Nat, j ≤ k ∧ i = .int .i64 (j : Int) ∧ p = .int .i64 (q : Int) ∧ Hid (q = (flatG g j).length) ∧ wr = w) (fun _ _ i _ => k - (intOf i).toNat)
 case atStart => exact ⟨0, 0, by omega, rfl, rfl, Lib.hid rfl, rfl⟩
 case round =>
  obtain ⟨j, q, hj, rfl, rfl, HQ, rfl⟩ := hrel
  by_cases hlt : j < k
  ·obtain ⟨A1, c1, hcell1, h1c, h1m, hr1⟩ := hr.row hlt
   have HL := Lib.hid (show (flatG g (j + 1)).length = q + (g j).length by rw [flatG_succ, List.length_append, HQ.out])
   have hqm : q + (g j).length ≤ 1000000 := by
    have := flatG_le g (show j + 1 ≤ k by omega)
    rw [HL.out] at this
    omega
   have h0 : ¬ (q : Int) + ((g j).length : Int) < 0 := by omega
   clear hr1
   go_wp2_with fail
   go_roundw
   case rel => exact ⟨j + 1, q + (g j).length, by omega, by go_num, by go_num, Lib.hid HL.out.symm, by first | rfl | trivial⟩
   case measure => simp [intOf]; omega
  ·obtain rfl : j = k := by omega
   have hq0 : 0 < q := by rw [HQ.out]; exact hp
   have hq1 : q ≤ 1000000 := by rw [HQ.out]; exact hm
   clear hlt hj
   go_wp2_with fail
   refine (grow_any q _ hq0 hq1).mono ?_
   rintro e w1 ⟨⟨u, rfl, ho⟩, hb1⟩
   go_wp2_with fail
   go_loopw [6, 8, 27] (fun p _ i w2 => ∃ i' : Nat, i' ≤ j ∧ i = .int .i64 (i' : Int) ∧ Ow w2 wr.heap.size 5 p ((flatG g i').map bv) ∧ Below wr.heap.size wr w2) (fun _ _ i _ => j - (intOf i).toNat)
   case atStart => exact ⟨0, by omega, rfl, ho, hb1⟩
   case round =>
    clear ho hb1
    obtain ⟨i, hi, rfl, ho, hbw⟩ := hrel
    by_cases hlt : i < j
    ·obtain ⟨A1, c1, hcell1, h1c, h1m, hr1⟩ := (hr.up hbw).row hlt
     have hl : (flatG g i).length + (g i).length ≤ 140737488355328 := by
      have := flatG_le g (show i + 1 ≤ j by omega)
      rw [flatG_succ, List.length_append] at this
      omega
     have hsz := hbw.size
     go_wp2_with (at_builtin; refine wpList_appB bytesT rfl (.tmp 31) (.tmp 32) rfl rfl ho rfl hr1 hl hsz ?_; intro v' w' ho3 hg h3; have HB := Lib.hid (hbw.grown hg hsz ho.ge); have HO := Lib.hid ho3; clear ho3 hg h3 hr1 ho hbw)
     go_roundw
     case rel => exact ⟨i + 1, by omega, by go_num, by rw [flatG_succ]; exact HO.out, HB.out⟩
     case measure => simp [intOf]; omega
    ·obtain rfl : i = j := by omega
     go_wp2_with fail
     go_ret
     exact ⟨⟨_, rfl, ho⟩, hbw⟩
end Go.Proofs.Ytpmlfhgdhnofbaa
namespace Go.Proofs.Ytpmlfhgdhnofbaa
open Go.RowKit
theorem bclone_any (v : Value) (l : List UInt8) (w : World) (B : Nat) (hr : Rd w B v (l.map bv)) (hB : B ≤ w.heap.size) (hl : l.length ≤ 1000000000000) :
  Calls Try.prog 43 #[v] w fun e w' => ∃ x, e = .returned x ∧ Ow w' w.heap.size 5 x (l.map bv) ∧ Below w.heap.size w w' := by
 obtain ⟨A, c, rfl, hc, hm⟩ := hr.shapeM
 have qT : ∀ (w : World) (a : Option Addr) (n c n' c' : Nat), (binOp .eql 29 (.slice a n c) (.slice none n' c')).run Try.prog w = .ok (.bool a.isNone) w := fun w a n c n' c' => Lib.run_eql_slice_nil w _ _ a n c n' c' Try.underlying29
 cases A with
 | none =>
  have h0 : l = [] := by
   rcases Nat.eq_zero_or_pos l.length with h | h
   ·exact List.eq_nil_of_length_eq_zero h
   ·obtain ⟨b, off, e, -⟩ := hr.cellM h
    cases e
  subst h0
  go_enter Try.func43, Try.ntmps43
  go_wp2_with fail
  go_ret
  exact ⟨_, rfl, Ow.nilB _ _ _, bwrefl _⟩
 | some a =>
  have hr1 := (hr.mono hB).up (bwalloc (bwrefl w) (.cells #[] 5))
  have hl1 : ([] : List UInt8).length + l.length ≤ 140737488355328 := by simp; omega
  go_enter Try.func43, Try.ntmps43
  go_wp2_with (at_builtin; refine wpList_appB bytesT rfl (.tmp 5) (.tmp 6) rfl rfl (Ow.empty _ (Nat.le_refl _) _) rfl hr1 hl1 (by simp) ?_; intro v2 w2 ho2 hg2 _; have hB2 := Ow.emptyG hg2)
  go_ret
  exact ⟨_, rfl, ho2, hB2⟩
end Go.Proofs.Ytpmlfhgdhnofbaa
namespace Go.Proofs.Ytpmlfhgdhnofbaa.Crc
abbrev W := BitVec 32
def poly : W := 2197175160#32
def stp (w : W) : W := (w >>> 1) ^^^ (if w.getLsbD 0 then poly else 0#32)
def steps : Nat → W → W
 | 0, w => w
 | n + 1, w => steps n (stp w)
def bw (c : UInt8) : W := BitVec.ofNat 32 c.toNat
def eat (w : W) (c : UInt8) : W := steps 8 (w ^^^ bw c)
def eats (w : W) (l : List UInt8) : W := l.foldl eat w
def ones : W := 4294967295#32
def sum (l : List UInt8) : W := eats ones l ^^^ ones
theorem eats_cons (w : W) (c : UInt8) (l : List UInt8) : eats w (c :: l) = eats (eat w c) l := rfl
theorem eats_app (w : W) (a b : List UInt8) : eats w (a ++ b) = eats (eats w a) b := by unfold eats; rw [List.foldl_append]
theorem eats_snoc (w : W) (l : List UInt8) (k : Nat) (h : k < l.length) : eats w (l.take (k + 1)) = eat (eats w (l.take k)) l[k] := by
 rw [List.take_succ_eq_append_getElem h, eats_app]; rfl
theorem stp_bit (w : W) (i : Nat) : (stp w).getLsbD i = (w.getLsbD (1 + i) ^^ (w.getLsbD 0 && poly.getLsbD i)) := by
 unfold stp
 rw [BitVec.getLsbD_xor, BitVec.getLsbD_ushiftRight]
 cases w.getLsbD 0 <;> simp
theorem stp_xor (a b : W) : stp (a ^^^ b) = stp a ^^^ stp b := by
 apply BitVec.eq_of_getLsbD_eq
 intro i hi
 rw [BitVec.getLsbD_xor, stp_bit, stp_bit, stp_bit, BitVec.getLsbD_xor, BitVec.getLsbD_xor]
 cases a.getLsbD 0 <;> cases b.getLsbD 0 <;> cases a.getLsbD (1 + i) <;> cases b.getLsbD (1 + i) <;> cases poly.getLsbD i <;> rfl
theorem stp_ne (w : W) (h : w ≠ 0#32) : stp w ≠ 0#32 := by
 intro hs
 apply h
 have hb : ∀ i, (w.getLsbD (1 + i) ^^ (w.getLsbD 0 && poly.getLsbD i)) = false := by intro i; rw [← stp_bit, hs]; simp
 have h31 := hb 31
 have hp : poly.getLsbD 31 = true := by decide
 rw [hp, BitVec.getLsbD_of_ge w (1 + 31) (by omega)] at h31
 have h0 : w.getLsbD 0 = false := by cases hw : w.getLsbD 0 with
  | false => rfl
  | true => rw [hw] at h31; cases h31
 apply BitVec.eq_of_getLsbD_eq
 intro i hi
 rw [BitVec.getLsbD_zero]
 cases i with
 | zero => exact h0
 | succ i =>
  have := hb i
  rw [h0, Nat.add_comm] at this
  simpa using this
theorem steps_succ (n : Nat) (w : W) : steps (n + 1) w = stp (steps n w) := by
 induction n generalizing w with
 | zero => rfl
 | succ n ih => show steps (n + 1) (stp w) = _; rw [ih]; rfl
theorem steps_add (m n : Nat) (w : W) : steps (m + n) w = steps n (steps m w) := by
 induction n with
 | zero => rfl
 | succ n ih => rw [← Nat.add_assoc, steps_succ, steps_succ, ih]
theorem steps_xor (n : Nat) (a b : W) : steps n (a ^^^ b) = steps n a ^^^ steps n b := by
 induction n generalizing a b with
 | zero => rfl
 | succ n ih => show steps n (stp (a ^^^ b)) = _; rw [stp_xor, ih]; rfl
theorem steps_ne (n : Nat) (w : W) (h : w ≠ 0#32) : steps n w ≠ 0#32 := by
 induction n generalizing w with
 | zero => exact h
 | succ n ih => exact ih _ (stp_ne _ h)
theorem bw_xor (a b : UInt8) : bw (a ^^^ b) = bw a ^^^ bw b := by
 unfold bw
 apply BitVec.eq_of_toNat_eq
 simp
theorem eat_xorw (w v : W) (c : UInt8) : eat (w ^^^ v) c = eat w c ^^^ steps 8 v := by
 unfold eat
 rw [← steps_xor]
 congr 1
 rw [BitVec.xor_assoc, BitVec.xor_assoc, BitVec.xor_comm v]
theorem eats_xorw (w v : W) (l : List UInt8) : eats (w ^^^ v) l = eats w l ^^^ steps (8 * l.length) v := by
 induction l generalizing w v with
 | nil => rfl
 | cons c l ih =>
  rw [eats_cons, eats_cons, eat_xorw, ih, List.length_cons, ← steps_add]
  congr 2
  omega
theorem xor_self_ne (a b : W) (h : b ≠ 0#32) : a ^^^ b ≠ a := by
 intro e
 apply h
 have : a ^^^ (a ^^^ b) = a ^^^ a := by rw [e]
 rw [← BitVec.xor_assoc, BitVec.xor_self] at this
 simpa using this
end Go.Proofs.Ytpmlfhgdhnofbaa.Crc
namespace Go.Proofs.Ytpmlfhgdhnofbaa
open Go.RowKit Crc
def vw (w : W) : Nat := w.toNat
theorem vw_lt (w : W) : vw w < 4294967296 := w.isLt
theorem vw_inj {a b : W} (h : vw a = vw b) : a = b := BitVec.eq_of_toNat_eq h
theorem ofInt_vw (a : W) : BitVec.ofInt 32 (vw a : Int) = a := by
 rw [BitVec.ofInt_natCast]
 unfold vw
 simp
theorem wrap_vw (a : W) : IntKind.u32.wrap (a.toNat : Int) = (vw a : Int) := by
 have := vw_lt a
 rw [IntKind.wrap_u32]
 unfold vw at this ⊢
 omega
theorem xor_vw (a b : W) : bits .xor .u32 (vw a : Int) (vw b : Int) = (vw (a ^^^ b) : Int) := by
 show IntKind.u32.wrap ((BitVec.ofInt 32 (vw a : Int) ^^^ BitVec.ofInt 32 (vw b : Int)).toNat : Int) = _
 rw [ofInt_vw, ofInt_vw, wrap_vw]
theorem and_vw (a b : W) : bits .and .u32 (vw a : Int) (vw b : Int) = (vw (a &&& b) : Int) := by
 show IntKind.u32.wrap ((BitVec.ofInt 32 (vw a : Int) &&& BitVec.ofInt 32 (vw b : Int)).toNat : Int) = _
 rw [ofInt_vw, ofInt_vw, wrap_vw]
theorem bit0 (a : W) : a.getLsbD 0 = decide (vw a % 2 = 1) := by
 unfold vw
 rw [BitVec.getLsbD, Nat.testBit_zero]
theorem vw_half (a : W) : vw (a >>> 1) = vw a / 2 := by unfold vw; rw [BitVec.toNat_ushiftRight, Nat.shiftRight_eq_div_pow]
theorem vw_low (a : W) : vw (a &&& 1#32) = vw a % 2 := by
 unfold vw
 rw [BitVec.toNat_and, show (1#32).toNat = 1 from rfl, Nat.and_one_is_mod]
theorem and1_vw (a : W) : bits .and .u32 (vw a : Int) 1 = ((vw a % 2 : Nat) : Int) := by
 have := and_vw a 1#32
 rw [vw_low] at this
 exact this
theorem stp_odd (a : W) (h : vw a % 2 = 1) : (vw (stp a) : Int) = bits .xor .u32 ((vw a : Int) / 2) 2197175160 := by
 have e : stp a = (a >>> 1) ^^^ poly := by unfold stp; rw [bit0, h]; rfl
 have := xor_vw (a >>> 1) poly
 rw [vw_half] at this
 rw [e, ← this]
 rfl
theorem stp_even (a : W) (h : vw a % 2 = 0) : (vw (stp a) : Int) = (vw a : Int) / 2 := by
 have e : stp a = (a >>> 1) := by unfold stp; rw [bit0, h]; simp
 rw [e, vw_half]
 rfl
theorem and1_odd (a : W) (h : (bits .and .u32 (vw a : Int) 1 == 1) = true) : vw a % 2 = 1 := by
 rw [and1_vw, beq_iff_eq] at h
 omega
theorem and1_even (a : W) (h : (bits .and .u32 (vw a : Int) 1 == 1) = false) : vw a % 2 = 0 := by
 rw [and1_vw, beq_eq_false_iff_ne] at h
 omega
theorem eight_any (x : W) (w : World) : Calls Try.prog 68 #[.int .u32 (vw x : Int)] w fun e w' => e = .returned (.int .u32 (vw (steps 8 x) : Int)) ∧ w = w' := by
 go_enter Try.func68, Try.ntmps68
 go_wp2_with fail
 go_loop [0, 4] (fun a i => ∃ k : Nat, k ≤ 8 ∧ i = .int .i64 k ∧ a = .int .u32 (vw (steps k x) : Int)) (fun _ i => 8 - (intOf i).toNat)
 case atStart => exact ⟨0, by omega, rfl, rfl⟩
 case round =>
  obtain ⟨k, hk, rfl, rfl⟩ := hrel
  have HS := Lib.hid (steps_succ k x)
  have hy := vw_lt (steps k x)
  by_cases hlt : k < 8
  ·generalize steps k x = y at HS hy ⊢
   go_wp2_with fail
   ·rename_i _ hodd
    go_round
    case rel => exact ⟨k + 1, by omega, by go_num, vi (by rw [HS.out, stp_odd y (and1_odd y hodd)])⟩
    case measure => simp [intOf]; omega
   ·rename_i _ hev
    go_round
    case rel => exact ⟨k + 1, by omega, by go_num, vi (by rw [HS.out, stp_even y (and1_even y hev)])⟩
    case measure => simp [intOf]; omega
  ·obtain rfl : k = 8 := by omega
   go_wp2_with fail
   go_ret
   exact ⟨rfl, rfl⟩
theorem bw_vw (c : UInt8) : (vw (bw c) : Int) = (c.toNat : Int) := by
 have := c.toNat_lt
 unfold vw bw
 rw [BitVec.toNat_ofNat]
 omega
theorem eat_vw (y : W) (c : UInt8) : bits .xor .u32 (vw y : Int) (c.toNat : Int) = (vw (y ^^^ bw c) : Int) := by
 rw [← bw_vw, xor_vw]
theorem eat_vwm (y : W) (c : UInt8) : bits .xor .u32 (vw y : Int) ((c.toNat : Int) % 4294967296) = (vw (y ^^^ bw c) : Int) := by
 have := c.toNat_lt
 rw [← eat_vw]
 congr 1
 omega
theorem ones_vw : (vw ones : Int) = 4294967295 := rfl
theorem xor_ones (y : W) : bits .xor .u32 (vw y : Int) 4294967295 = (vw (y ^^^ ones) : Int) := by
 rw [← ones_vw, xor_vw]
theorem more_any (s : W) (v : Value) (l : List UInt8) (w : World) (B : Nat) (hr : Rd w B v (l.map bv)) (hl : l.length ≤ 140737488355328) :
  Calls Try.prog 57 #[.int .u32 (vw s : Int), v] w fun e w' => e = .returned (.int .u32 (vw (eats (s ^^^ ones) l ^^^ ones) : Int)) ∧ w = w' := by
 obtain ⟨A, c, rfl, hc, hm⟩ := hr.shapeM
 have hs := vw_lt s
 go_enter Try.func57, Try.ntmps57
 go_wp2_with fail
 go_loop [6, 13] (fun a i => ∃ k : Nat, k ≤ l.length ∧ i = .int .i64 k ∧ a = .int .u32 (vw (eats (s ^^^ ones) (l.take k)) : Int)) (fun _ i => l.length - (intOf i).toNat)
 case atStart => exact ⟨0, Nat.zero_le _, rfl, vi (xor_ones s)⟩
 case round =>
  obtain ⟨k, hk, rfl, rfl⟩ := hrel
  have hy := vw_lt (eats (s ^^^ ones) (l.take k))
  by_cases hlt : k < l.length
  ·have HS := Lib.hid (eats_snoc (s ^^^ ones) l k hlt)
   obtain ⟨b, off, rfl, hb, hcell⟩ := hr.cellM (by omega)
   have hck := hcell k hlt
   simp only [bv] at hck
   clear hcell
   generalize eats (s ^^^ ones) (l.take k) = y at HS hy ⊢
   have HE := Lib.hid (eat_vwm y l[k])
   go_wp2_with fail
   rw [HE.out]
   refine (eight_any _ _).mono ?_
   rintro e w' ⟨rfl, rfl⟩
   go_wp2_with fail
   go_round
   case rel => exact ⟨k + 1, by omega, by go_num, vi (by rw [HS.out]; rfl)⟩
   case measure => simp [intOf]; omega
  ·have HT := Lib.hid (List.take_of_length_le (by omega : l.length ≤ k))
   go_wp2_with fail
   go_ret
   exact ⟨ret1 (vi (by rw [HT.out, xor_ones])), rfl⟩
theorem zero_vw : (vw (0#32) : Int) = 0 := rfl
theorem zero_ones : 0#32 ^^^ ones = ones := by decide
theorem sum_any (v : Value) (l : List UInt8) (w : World) (B : Nat) (hr : Rd w B v (l.map bv)) (hl : l.length ≤ 140737488355328) :
  Calls Try.prog 47 #[v] w fun e w' => e = .returned (.int .u32 (vw (sum l) : Int)) ∧ w = w' := by
 go_enter Try.func47, Try.ntmps47
 go_wp2_with fail
 rw [← zero_vw]
 refine (more_any _ _ l _ _ hr hl).mono ?_
 rintro e w' ⟨rfl, rfl⟩
 go_wp2_with fail
 go_ret
 exact ⟨ret1 (vi (by first | rfl | (rw [zero_ones]; rfl))), rfl⟩
end Go.Proofs.Ytpmlfhgdhnofbaa
namespace Go.Proofs.Ytpmlfhgdhnofbaa
open Go.RowKit Crc
theorem rem_odd (a : W) (h : ((vw a : Int) % 2 == 1) = true) : vw a % 2 = 1 := by
 rw [beq_iff_eq] at h
 omega
theorem rem_even (a : W) (h : ((vw a : Int) % 2 == 1) = false) : vw a % 2 = 0 := by
 rw [beq_eq_false_iff_ne] at h
 omega
theorem sub_vw (y : W) : 4294967295 - (vw y : Int) = (vw (y ^^^ ones) : Int) := by
 have e : y ^^^ ones = ~~~y := by
  have : ones = BitVec.allOnes 32 := rfl
  rw [this, BitVec.xor_allOnes]
 have := vw_lt y
 rw [e]
 unfold vw at this ⊢
 rw [BitVec.toNat_not]
 omega
theorem rsum_any (v : Value) (l : List UInt8) (w : World) (B : Nat) (hr : Rd w B v (l.map bv)) (hl : l.length ≤ 140737488355328) :
  Calls Try.prog 41 #[v] w fun e w' => e = .returned (.int .u32 (vw (sum l) : Int)) ∧ w = w' := by
 obtain ⟨A, c, rfl, hc, hm⟩ := hr.shapeM
 go_enter Try.func41, Try.ntmps41
 go_wp2_with fail
 go_loop [3, 4] (fun a i => ∃ k : Nat, k ≤ l.length ∧ i = .int .i64 k ∧ a = .int .u32 (vw (eats ones (l.take k)) : Int)) (fun _ i => l.length - (intOf i).toNat)
 case atStart => exact ⟨0, Nat.zero_le _, rfl, rfl⟩
 case round =>
  obtain ⟨k, hk, rfl, rfl⟩ := hrel
  have hy := vw_lt (eats ones (l.take k))
  by_cases hlt : k < l.length
  ·have HS := Lib.hid (eats_snoc ones l k hlt)
   obtain ⟨b, off, rfl, hb, hcell⟩ := hr.cellM (by omega)
   have hck := hcell k hlt
   simp only [bv] at hck
   clear hcell
   generalize eats ones (l.take k) = y at HS hy ⊢
   have HE := Lib.hid (eat_vwm y l[k])
   generalize hx : y ^^^ bw l[k] = x at HE
   have HX := Lib.hid hx
   clear hx
   go_wp2_with fail
   rw [HE.out]
   go_loop [3, 5] (fun a i => ∃ j : Nat, j ≤ 8 ∧ i = .int .i64 j ∧ a = .int .u32 (vw (steps j x) : Int)) (fun _ i => 8 - (intOf i).toNat)
   case atStart => exact ⟨0, by omega, rfl, rfl⟩
   case round =>
    obtain ⟨j, hj, rfl, rfl⟩ := hrel
    have HT := Lib.hid (steps_succ j x)
    have hz := vw_lt (steps j x)
    by_cases hltj : j < 8
    ·generalize steps j x = z at HT hz ⊢
     go_wp2_with fail
     ·rename_i _ hodd
      go_round
      case rel => exact ⟨j + 1, by omega, by go_num, vi (by rw [HT.out, stp_odd z (rem_odd z hodd)])⟩
      case measure => simp [intOf]; omega
     ·rename_i _ hev
      go_round
      case rel => exact ⟨j + 1, by omega, by go_num, vi (by rw [HT.out, stp_even z (rem_even z hev)])⟩
      case measure => simp [intOf]; omega
    ·obtain rfl : j = 8 := by omega
     go_wp2_with fail
     go_round
     case rel => exact ⟨k + 1, by omega, by go_num, vi (by rw [HS.out, ← HX.out]; rfl)⟩
     case measure => simp [intOf]; omega
  ·have HT := Lib.hid (List.take_of_length_le (by omega : l.length ≤ k))
   go_wp2_with fail
   go_ret
   exact ⟨ret1 (vi (by rw [HT.out, sub_vw]; rfl)), rfl⟩
end Go.Proofs.Ytpmlfhgdhnofbaa
namespace Go.Proofs.Ytpmlfhgdhnofbaa
open Go.RowKit
def numB (n : Nat) : List UInt8 := [UInt8.ofNat (n / 16777216), UInt8.ofNat (n / 65536), UInt8.ofNat (n / 256), UInt8.ofNat n]
theorem numB_len (n : Nat) : (numB n).length = 4 := rfl
theorem bv_num (n : Nat) (h : n ≤ 4294967295) : (numB n).map bv = [.int .u8 ((n:Int) / 16777216), .int .u8 ((n:Int) / 65536 % 256), .int .u8 ((n:Int) / 256 % 256), .int .u8 ((n:Int) % 256)] := by
 simp [numB, bv]; omega
def textB (s : ByteArray) : List UInt8 := numB s.size ++ s.data.toList
theorem textB_len (s : ByteArray) : (textB s).length = 4 + s.size := by
 unfold textB
 rw [List.length_append]; rfl
theorem num_ok (n : Nat) (w : World) (h2 : n ≤ 4294967295) :
  Calls Try.prog 33 #[.int .i64 (n : Int)] w fun e w' => ∃ v, e = .returned v ∧ Ow w' w.heap.size 5 v ((numB n).map bv) ∧ Below w.heap.size w w' := by
 go_enter Try.func33, Try.ntmps33
 go_wp2
 go_ret
 exact ⟨_, rfl, Ow.new _ _ rfl (by simp [maxLen]) (by rw [bv_num n h2]) (Nat.le_refl _), (Below.refl _ _).alloc (Nat.le_refl _) _⟩
theorem text_ok (s : ByteArray) (w : World) (h2 : s.size ≤ 4294967295) :
  Calls Try.prog 37 #[.string s] w fun e w' => ∃ v, e = .returned v ∧ Ow w' w.heap.size 5 v ((textB s).map bv) ∧ Below w.heap.size w w' := by
 go_enter Try.func37, Try.ntmps37
 go_wp2_with fail
 refine (num_ok _ _ h2).mono ?_
 rintro e w1 ⟨v, rfl, ho, hb⟩
 go_wp2_with (at_builtin; refine wpList_appS bytesT Try.underlying9 rfl _ _ rfl rfl ho rfl (by simp [numB_len]; omega) hb.size ?_; intro v' w' hown' hg)
 go_ret
 exact ⟨v', rfl, hown', hb.grown hg hb.size ho.ge⟩
end Go.Proofs.Ytpmlfhgdhnofbaa
namespace Go.Proofs.Ytpmlfhgdhnofbaa
open Go.RowKit
def allB (l : List ByteArray) : List UInt8 := l.flatMap textB
def textsB (l : List ByteArray) : List UInt8 := numB l.length ++ allB l
theorem allB_snoc (l : List ByteArray) (k : Nat) (h : k < l.length) : allB (l.take (k + 1)) = allB (l.take k) ++ textB l[k] := by
 unfold allB
 rw [List.take_succ_eq_append_getElem h, List.flatMap_append]
 simp
theorem allB_take_le (l : List ByteArray) (k : Nat) : (allB (l.take k)).length ≤ (allB l).length := by
 have : allB l = allB (l.take k) ++ allB (l.drop k) := by
  unfold allB
  rw [← List.flatMap_append, List.take_append_drop]
 rw [this]; simp
theorem texts_ok (x : Value) (l : List ByteArray) (w : World) (hr : Rd w w.heap.size x (l.map sv)) (h1 : l.length ≤ 4294967295) (h2 : ∀ s ∈ l, s.size ≤ 4294967295) (h3 : (allB l).length ≤ 1000000000000) :
  Calls Try.prog 38 #[x] w fun e w' => ∃ v, e = .returned v ∧ Ow w' w.heap.size 5 v ((textsB l).map bv) ∧ Below w.heap.size w w' := by
 obtain ⟨A, c, rfl, hc, hm⟩ := hr.shapeM
 have hlm : l.length ≤ 9223372036854775807 := by omega
 go_enter Try.func38, Try.ntmps38
 go_wp2_with fail
 refine (num_ok _ _ h1).mono ?_
 rintro e w1 ⟨v, rfl, ho, hb⟩
 go_wp2_with fail
 go_loopw [3, 11] (fun b i wr => ∃ k : Nat, k ≤ l.length ∧ i = .int .i64 k ∧ Ow wr w.heap.size 5 b ((numB l.length ++ allB (l.take k)).map bv) ∧ Below w.heap.size w wr) (fun _ i _ => l.length - (intOf i).toNat)
 case atStart => exact ⟨0, Nat.zero_le _, rfl, by simpa [allB] using ho, hb⟩
 case round =>
  obtain ⟨k, hk, rfl, hok, hbk⟩ := hrel
  by_cases hlt : k < l.length
  ·obtain ⟨b, off, rfl, hbb, hcell⟩ := (hr.below hbk).cellM (by omega)
   have hck := hcell k hlt
   simp only [sv] at hck
   clear hcell
   go_wp2_with fail
   refine (text_ok _ _ (h2 _ (List.getElem_mem hlt))).mono ?_
   rintro e w2 ⟨u, rfl, hu, hb2⟩
   have hsn := Lib.hid (allB_snoc l k hlt)
   have hle := allB_take_le l (k + 1)
   have hsz : (numB l.length ++ allB (l.take k)).length + (textB l[k]).length ≤ 140737488355328 := by
    rw [hsn.out] at hle; simp [numB_len] at hle ⊢; omega
   clear hle
   go_wp2_with (at_builtin; refine wpList_appB bytesT rfl _ _ rfl rfl (hok.below hb2) rfl hu.rd hsz (Nat.le_trans hbk.size hb2.size) ?_; intro v' w' hown' hg _)
   go_roundw
   case rel =>
    refine ⟨k + 1, by omega, by go_num, ?_, ?_⟩
    ·rw [hsn.out, ← List.append_assoc]; exact hown'
    ·exact (hbk.trans (hb2.mono hbk.size)).grown hg (Nat.le_trans hbk.size hb2.size) hok.ge
   case measure => simp [intOf]; omega
  ·go_wp2_with fail
   go_ret
   have : k = l.length := by omega
   subst this
   exact ⟨_, rfl, by simpa [textsB] using hok, hbk⟩
end Go.Proofs.Ytpmlfhgdhnofbaa
namespace Go.Proofs.Ytpmlfhgdhnofbaa
open Go.RowKit
def numOf (l : List UInt8) : Nat := 16777216 * (l.getD 0 0).toNat + 65536 * (l.getD 1 0).toNat + 256 * (l.getD 2 0).toNat + (l.getD 3 0).toNat
theorem splitNum_no (x : Value) (l : List UInt8) (B : Nat) (w : World) (hr : Rd w B x (l.map bv)) (h : l.length < 4) :
  Calls Try.prog 61 #[x] w fun e w' => e = .returned (.tuple #[.int .i64 0, .slice none 0 0, .bool false]) ∧ w = w' := by
 obtain ⟨A, c, rfl, hc, hm⟩ := hr.shapeM
 go_enter Try.func61, Try.ntmps61
 go_wp2
 go_ret3
 exact ⟨rfl, rfl⟩
theorem numOf4 (l : List UInt8) (h : 4 ≤ l.length) : numOf l = 16777216 * l[0].toNat + 65536 * l[1].toNat + 256 * l[2].toNat + l[3].toNat := by
 unfold numOf
 simp [List.getD, List.getElem?_eq_getElem (show 0 < l.length by omega), List.getElem?_eq_getElem (show 1 < l.length by omega), List.getElem?_eq_getElem (show 2 < l.length by omega), List.getElem?_eq_getElem (show 3 < l.length by omega)]
theorem splitNum_ok (x : Value) (l : List UInt8) (B : Nat) (w : World) (hr : Rd w B x (l.map bv)) (h : 4 ≤ l.length) :
  Calls Try.prog 61 #[x] w fun e w' => ∃ r, e = .returned (.tuple #[.int .i64 (numOf l), r, .bool true]) ∧ Rd w' B r ((l.drop 4).map bv) ∧ Below w.heap.size w w' := by
 obtain ⟨A, c, rfl, hc, hm⟩ := hr.shapeM
 obtain ⟨b, off, rfl, hb, hcell⟩ := hr.cellM (by omega)
 have c0 := hcell 0 (by omega)
 have c1 := hcell 1 (by omega)
 have c2 := hcell 2 (by omega)
 have c3 := hcell 3 (by omega)
 simp only [bv, Nat.add_zero] at c0 c1 c2 c3
 have d0 := UInt8.toNat_lt l[0]
 have d1 := UInt8.toNat_lt l[1]
 have d2 := UInt8.toNat_lt l[2]
 have d3 := UInt8.toNat_lt l[3]
 clear hcell
 have hcut := hr.cutFrom (lo := 4) (by omega)
 rw [← List.map_drop] at hcut
 have HC := Lib.hid hcut
 clear hcut hr
 have hm' : c ≤ 9223372036854775807 := hm
 by_cases hc4 : c = 4
 all_goals
  go_enter Try.func61, Try.ntmps61
  go_wp2
  go_quiet (fail)
  go_wp2
  go_quiet (fail)
  go_wp2
  go_ret3
  refine ⟨_, ret3 (vi ?_) rfl rfl, ?_, below_drewN (bwN _) _⟩
  ·rw [numOf4 l h]; exact or4 _ _ _ _ d0 d1 d2 d3
  ·have h2 := HC.out
   simp only [hc4, if_true, if_false] at h2
   exact h2.below (below_drewN (below_drewN (Below.refl _ _) _) _)
def textOk (l : List UInt8) : Prop := 4 ≤ l.length ∧ numOf l ≤ l.length - 4
instance (l : List UInt8) : Decidable (textOk l) := by unfold textOk; infer_instance
def textOf (l : List UInt8) : List UInt8 := (l.drop 4).take (numOf l)
def textRest (l : List UInt8) : List UInt8 := (l.drop 4).drop (numOf l)
theorem numOf_lt (l : List UInt8) : numOf l < 4294967296 := by
 unfold numOf
 have d0 := UInt8.toNat_lt (l.getD 0 0)
 have d1 := UInt8.toNat_lt (l.getD 1 0)
 have d2 := UInt8.toNat_lt (l.getD 2 0)
 have d3 := UInt8.toNat_lt (l.getD 3 0)
 omega
theorem splitText_no (x : Value) (l : List UInt8) (B : Nat) (w : World) (hr : Rd w B x (l.map bv)) (h : ¬ textOk l) :
  Calls Try.prog 63 #[x] w fun e w' => e = .returned (.tuple #[.string ⟨#[]⟩, .slice none 0 0, .bool false]) ∧ Below w.heap.size w w' := by
 by_cases h4 : 4 ≤ l.length
 ·have hn : l.length - 4 < numOf l := by
   unfold textOk at h; omega
  have hlt := numOf_lt l
  go_enter Try.func63, Try.ntmps63
  go_wp2_with fail
  refine (splitNum_ok _ _ B _ hr h4).mono ?_
  rintro e w1 ⟨r, rfl, hr1, hb⟩
  obtain ⟨A, c, rfl, hc, hm⟩ := hr1.shapeM
  go_wp2_with fail
  go_ret3
  exact ⟨rfl, hb⟩
 ·go_enter Try.func63, Try.ntmps63
  go_wp2_with fail
  refine (splitNum_no _ _ B _ hr (by omega)).mono ?_
  rintro e w1 ⟨rfl, rfl⟩
  go_wp2_with fail
  go_ret3
  exact ⟨rfl, Below.refl _ _⟩
theorem splitText_ok (x : Value) (l : List UInt8) (B : Nat) (w : World) (hr : Rd w B x (l.map bv)) (h : textOk l) :
  Calls Try.prog 63 #[x] w fun e w' => ∃ r, e = .returned (.tuple #[.string ⟨(textOf l).toArray⟩, r, .bool true]) ∧ Rd w' B r ((textRest l).map bv) ∧ Below w.heap.size w w' := by
 obtain ⟨h4, hn⟩ := h
 go_enter Try.func63, Try.ntmps63
 go_wp2_with fail
 refine (splitNum_ok _ _ B _ hr h4).mono ?_
 rintro e w1 ⟨r, rfl, hr1, hb⟩
 obtain ⟨A, c, rfl, hc, hm⟩ := hr1.shapeM
 have hm' : c ≤ 9223372036854775807 := hm
 rw [List.length_drop] at hr1 hc ⊢
 have hlt := numOf_lt l
 have hcl : numOf l ≤ c := by omega
 have H1 := hr1.cutTo (hi := numOf l) hn
 have HR := Lib.hid hr1
 rw [← List.map_take] at H1
 clear hr1
 have hcv := fun k => run_str (P := Try.prog) (w := w1.drewN k) Try.underlying29 Try.underlying5 Try.underlying9 (l := textOf l) (D := B) (H1.below (below_drewN (Below.refl _ _) k))
 clear H1
 by_cases hcc : c = numOf l
 ·subst hcc
  go_wp2
  go_quiet (fail)
  go_wp2
  go_ret3
  exact ⟨_, rfl, by unfold textRest; rw [List.map_drop]; exact (HR.out.fromEnd hn).below (bwN' _ _), below_drewN hb _⟩
 ·go_wp2
  go_quiet (fail)
  go_wp2
  go_ret3
  exact ⟨_, rfl, by unfold textRest; rw [List.map_drop]; exact (HR.out.from_ hn hcc).below (bwN' _ _), below_drewN hb _⟩
theorem own_int (n : Int) (ok : Bool) (x : Value) (l : List UInt8) (B : Nat) (w : World) (hr : Rd w B x (l.map bv)) (hl : l.length ≤ 1000000000000) :
  Calls Try.prog 60 #[.int .i64 n, x, .bool ok] w fun e w' => ∃ r, e = .returned (.tuple #[.int .i64 n, r, .bool ok]) ∧ Ow w' w.heap.size 5 r (l.map bv) ∧ Below w.heap.size w w' := by
 go_enter Try.func60, Try.ntmps60
 go_wp2_with (at_builtin; refine wpList_appB bytesT rfl _ _ rfl rfl (Ow.nilB w w.heap.size 5) rfl hr (by simp; omega) (Nat.le_refl _) ?_; intro v' w' hown' hg _)
 go_ret3
 exact ⟨v', rfl, hown', (Below.refl _ _).grown hg (Nat.le_refl _) (fun k hk => by cases hk)⟩
theorem own_str (s : ByteArray) (ok : Bool) (x : Value) (l : List UInt8) (B : Nat) (w : World) (hr : Rd w B x (l.map bv)) (hl : l.length ≤ 1000000000000) :
  Calls Try.prog 62 #[.string s, x, .bool ok] w fun e w' => ∃ r, e = .returned (.tuple #[.string s, r, .bool ok]) ∧ Ow w' w.heap.size 5 r (l.map bv) ∧ Below w.heap.size w w' := by
 go_enter Try.func62, Try.ntmps62
 go_wp2_with (at_builtin; refine wpList_appB bytesT rfl _ _ rfl rfl (Ow.nilB w w.heap.size 5) rfl hr (by simp; omega) (Nat.le_refl _) ?_; intro v' w' hown' hg _)
 go_ret3
 exact ⟨v', rfl, hown', (Below.refl _ _).grown hg (Nat.le_refl _) (fun k hk => by cases hk)⟩
theorem own_strs (A : Option Addr) (n c : Nat) (ok : Bool) (x : Value) (l : List UInt8) (B : Nat) (w : World) (hr : Rd w B x (l.map bv)) (hl : l.length ≤ 1000000000000) :
  Calls Try.prog 64 #[.slice A n c, x, .bool ok] w fun e w' => ∃ r, e = .returned (.tuple #[.slice A n c, r, .bool ok]) ∧ Ow w' w.heap.size 5 r (l.map bv) ∧ Below w.heap.size w w' := by
 go_enter Try.func64, Try.ntmps64
 go_wp2_with (at_builtin; refine wpList_appB bytesT rfl _ _ rfl rfl (Ow.nilB w w.heap.size 5) rfl hr (by simp; omega) (Nat.le_refl _) ?_; intro v' w' hown' hg _)
 go_ret3
 exact ⟨v', rfl, hown', (Below.refl _ _).grown hg (Nat.le_refl _) (fun k hk => by cases hk)⟩
end Go.Proofs.Ytpmlfhgdhnofbaa
namespace Go.Proofs.Ytpmlfhgdhnofbaa
open Go.RowKit
theorem textT : ET Try.prog 49 9 (.string ⟨#[]⟩) 16 := ⟨Try.underlying49, by kernel_rfl⟩
def takeTexts : Nat → List UInt8 → Option (List ByteArray × List UInt8)
 | 0, b => some ([], b)
 | k + 1, b => match takeTexts k b with
  | none => none
  | some (acc, m) => if textOk m then some (acc ++ [⟨(textOf m).toArray⟩], textRest m) else none
theorem takeTexts_none {k j : Nat} {b : List UInt8} (h : takeTexts k b = none) (hkj : k ≤ j) : takeTexts j b = none := by
 induction j with
 | zero =>
      have : k = 0 := by omega
      subst this; exact h
 | succ j ih =>
  by_cases hk : k = j + 1
  ·subst hk; exact h
  ·simp only [takeTexts, ih (by omega)]
theorem takeTexts_len {k : Nat} {b m : List UInt8} {acc : List ByteArray} (h : takeTexts k b = some (acc, m)) : acc.length = k ∧ m.length + 4 * k ≤ b.length := by
 induction k generalizing acc m with
 | zero => simp only [takeTexts, Option.some.injEq, Prod.mk.injEq] at h; obtain ⟨rfl, rfl⟩ := h; simp
 | succ k ih =>
  simp only [takeTexts] at h
  split at h
  ·cases h
  ·rename_i acc' m' he
   obtain ⟨h1, h2⟩ := ih he
   split at h
   ·rename_i hok
    simp only [Option.some.injEq, Prod.mk.injEq] at h
    obtain ⟨rfl, rfl⟩ := h
    have := hok.1
    refine ⟨by simp [h1], ?_⟩
    simp only [textRest, List.length_drop]
    omega
   ·cases h
theorem takeTexts_succ {k : Nat} {b m : List UInt8} {acc : List ByteArray} (h : takeTexts k b = some (acc, m)) : takeTexts (k + 1) b = if textOk m then some (acc ++ [⟨(textOf m).toArray⟩], textRest m) else none := by
 simp only [takeTexts, h]
theorem splitTexts_short (x : Value) (l : List UInt8) (B : Nat) (w : World) (hr : Rd w B x (l.map bv)) (h : l.length < 4) :
  Calls Try.prog 65 #[x] w fun e w' => e = .returned (.tuple #[.slice none 0 0, .slice none 0 0, .bool false]) ∧ w = w' := by
 go_enter Try.func65, Try.ntmps65
 go_wp2_with fail
 refine (splitNum_no _ _ B _ hr (by omega)).mono ?_
 rintro e w1 ⟨rfl, rfl⟩
 go_wp2_with fail
 go_ret3
 exact ⟨rfl, rfl⟩
def TextsEnd (w : World) (B : Nat) (l : List UInt8) (e : Ending) (w' : World) : Prop :=
 match takeTexts (numOf l) (l.drop 4) with
 | none => e = .returned (.tuple #[.slice none 0 0, .slice none 0 0, .bool false]) ∧ Below w.heap.size w w'
 | some (acc, m) => ∃ v r, e = .returned (.tuple #[v, r, .bool true]) ∧ Ow w' w.heap.size 9 v (acc.map sv) ∧ Rd w' B r (m.map bv) ∧ Below w.heap.size w w'
theorem splitTexts_any (x : Value) (l : List UInt8) (B : Nat) (w : World) (hB : B ≤ w.heap.size) (hr : Rd w B x (l.map bv)) (h : 4 ≤ l.length) :
  Calls Try.prog 65 #[x] w (TextsEnd w B l) := by
 have hn := numOf_lt l
 go_enter Try.func65, Try.ntmps65
 go_wp2_with fail
 refine (splitNum_ok _ _ B _ hr h).mono ?_
 rintro e w1 ⟨r, rfl, hr1, hb⟩
 go_wp2_with fail
 go_loopw [6, 8, 19] (fun r v i wr => ∃ (k : Nat) (acc : List ByteArray) (m : List UInt8), k ≤ numOf l ∧ i = .int .i64 k ∧ takeTexts k (l.drop 4) = some (acc, m) ∧ Ow wr w.heap.size 9 v (acc.map sv) ∧ Rd wr B r (m.map bv) ∧ Below w.heap.size w wr) (fun _ _ i _ => numOf l - (intOf i).toNat)
 case atStart => exact ⟨0, [], _, Nat.zero_le _, rfl, rfl, Ow.nil _ _ _, hr1, hb⟩
 case round =>
  obtain ⟨k, acc, m, hk, rfl, htk, hok, hrk, hbk⟩ := hrel
  have HT := Lib.hid htk
  clear htk
  by_cases hlt : k < numOf l
  ·by_cases hm : textOk m
   ·go_wp2_with fail
    refine (splitText_ok _ _ B _ hrk hm).mono ?_
    rintro e w2 ⟨r2, rfl, hr2, hb2⟩
    have hlen := (takeTexts_len HT.out).1
    have hs2 := Nat.le_trans hbk.size hb2.size
    have hsz : ((acc.map sv).length + [sv ⟨(textOf m).toArray⟩].length) * 16 ≤ 140737488355328 := by simp; omega
    have hsz2 : (acc.map sv).length + [sv ⟨(textOf m).toArray⟩].length ≤ maxLen := by simp [maxLen]; omega
    have HL := Lib.hid hlen
    clear hlen
    go_wp2_with (at_builtin; refine wpList_app textT rfl rfl _ _ rfl rfl ((hok.below hb2).below ((Below.refl _ _).alloc (Nat.le_refl _) _)) rfl (Rd.new _ _ _ rfl (by simp [maxLen]) rfl) (one_sv [⟨(textOf m).toArray⟩]) hsz2 hsz (by simp; omega) ?_; intro v' w' hown' hg _)
    go_roundw
    case rel =>
     refine ⟨k + 1, acc ++ [⟨(textOf m).toArray⟩], textRest m, by omega, by go_num, ?_, ?_, ?_, ?_⟩
     ·rw [takeTexts_succ HT.out, if_pos hm]
     ·rw [List.map_append]; exact hown'
     ·exact ((hr2.below ((Below.refl _ _).alloc (Nat.le_trans hB hs2) _)).below ((bwgrown hg hok.ge (by simp; omega)).mono hB))
     ·exact ((hbk.trans (hb2.mono hbk.size)).alloc hs2 _).trans (bwgrown hg hok.ge (by simp; omega))
    case measure => simp [intOf]; omega
   ·go_wp2_with fail
    refine (splitText_no _ _ B _ hrk hm).mono ?_
    rintro e w2 ⟨rfl, hb2⟩
    go_wp2_with fail
    go_ret3
    unfold TextsEnd
    rw [takeTexts_none (j := numOf l) (by rw [takeTexts_succ HT.out, if_neg hm]) (by omega)]
    exact ⟨rfl, hbk.trans (hb2.mono hbk.size)⟩
  ·go_wp2_with fail
   go_ret3
   have : k = numOf l := by omega
   subst this
   unfold TextsEnd
   rw [HT.out]
   exact ⟨_, _, rfl, hok, hrk, hbk⟩
theorem cutNum_no (x : Value) (l : List UInt8) (B : Nat) (w : World) (hr : Rd w B x (l.map bv)) (h : l.length < 4) :
  Calls Try.prog 50 #[x] w fun e w' => ∃ r, e = .returned (.tuple #[.int .i64 0, r, .bool false]) ∧ Ow w' w.heap.size 5 r (([] : List UInt8).map bv) ∧ Below w.heap.size w w' := by
 go_enter Try.func50, Try.ntmps50
 go_wp2_with fail
 refine (splitNum_no _ _ B _ hr h).mono ?_
 rintro e w1 ⟨rfl, rfl⟩
 go_wp2_with fail
 refine (own_int 0 false _ [] w.heap.size _ (Rd.nil _ _) (by simp)).mono ?_
 rintro e w2 ⟨r, rfl, ho, hb⟩
 go_wp2_with fail
 go_ret3
 exact ⟨r, rfl, ho, hb⟩
theorem cutNum_ok (x : Value) (l : List UInt8) (B : Nat) (w : World) (hr : Rd w B x (l.map bv)) (h : 4 ≤ l.length) (hl : l.length ≤ 1000000000000) :
  Calls Try.prog 50 #[x] w fun e w' => ∃ r, e = .returned (.tuple #[.int .i64 (numOf l), r, .bool true]) ∧ Ow w' w.heap.size 5 r ((l.drop 4).map bv) ∧ Below w.heap.size w w' := by
 go_enter Try.func50, Try.ntmps50
 go_wp2_with fail
 refine (splitNum_ok _ _ B _ hr h).mono ?_
 rintro e w1 ⟨r1, rfl, hr1, hb1⟩
 go_wp2_with fail
 refine (own_int _ true _ _ B _ hr1 (by simp; omega)).mono ?_
 rintro e w2 ⟨r, rfl, ho, hb⟩
 go_wp2_with fail
 go_ret3
 exact ⟨r, rfl, ho.mono hb1.size, bwtrans hb1 hb (Nat.le_refl _)⟩
theorem cutText_no (x : Value) (l : List UInt8) (B : Nat) (w : World) (hr : Rd w B x (l.map bv)) (h : ¬ textOk l) :
  Calls Try.prog 53 #[x] w fun e w' => ∃ r, e = .returned (.tuple #[.string ⟨#[]⟩, r, .bool false]) ∧ Ow w' w.heap.size 5 r (([] : List UInt8).map bv) ∧ Below w.heap.size w w' := by
 go_enter Try.func53, Try.ntmps53
 go_wp2_with fail
 refine (splitText_no _ _ B _ hr h).mono ?_
 rintro e w1 ⟨rfl, hb1⟩
 go_wp2_with fail
 refine (own_str _ false _ [] w1.heap.size _ (Rd.nil _ _) (by simp)).mono ?_
 rintro e w2 ⟨r, rfl, ho, hb⟩
 go_wp2_with fail
 go_ret3
 exact ⟨r, rfl, ho.mono hb1.size, bwtrans hb1 hb (Nat.le_refl _)⟩
theorem cutText_ok (x : Value) (l : List UInt8) (B : Nat) (w : World) (hr : Rd w B x (l.map bv)) (h : textOk l) (hl : l.length ≤ 1000000000000) :
  Calls Try.prog 53 #[x] w fun e w' => ∃ r, e = .returned (.tuple #[.string ⟨(textOf l).toArray⟩, r, .bool true]) ∧ Ow w' w.heap.size 5 r ((textRest l).map bv) ∧ Below w.heap.size w w' := by
 go_enter Try.func53, Try.ntmps53
 go_wp2_with fail
 refine (splitText_ok _ _ B _ hr h).mono ?_
 rintro e w1 ⟨r1, rfl, hr1, hb1⟩
 go_wp2_with fail
 refine (own_str _ true _ _ B _ hr1 (by simp [textRest]; omega)).mono ?_
 rintro e w2 ⟨r, rfl, ho, hb⟩
 go_wp2_with fail
 go_ret3
 exact ⟨r, rfl, ho.mono hb1.size, bwtrans hb1 hb (Nat.le_refl _)⟩
theorem cutTexts_short (x : Value) (l : List UInt8) (B : Nat) (w : World) (hr : Rd w B x (l.map bv)) (h : l.length < 4) :
  Calls Try.prog 55 #[x] w fun e w' => ∃ r, e = .returned (.tuple #[.slice none 0 0, r, .bool false]) ∧ Ow w' w.heap.size 5 r (([] : List UInt8).map bv) ∧ Below w.heap.size w w' := by
 go_enter Try.func55, Try.ntmps55
 go_wp2_with fail
 refine (splitTexts_short _ _ B _ hr h).mono ?_
 rintro e w1 ⟨rfl, rfl⟩
 go_wp2_with fail
 refine (own_strs _ _ _ false _ [] w.heap.size _ (Rd.nil _ _) (by simp)).mono ?_
 rintro e w2 ⟨r, rfl, ho, hb⟩
 go_wp2_with fail
 go_ret3
 exact ⟨r, rfl, ho, hb⟩
theorem cutTexts_no (x : Value) (l : List UInt8) (B : Nat) (w : World) (hB : B ≤ w.heap.size) (hr : Rd w B x (l.map bv)) (h : 4 ≤ l.length) (hn : takeTexts (numOf l) (l.drop 4) = none) :
  Calls Try.prog 55 #[x] w fun e w' => ∃ r, e = .returned (.tuple #[.slice none 0 0, r, .bool false]) ∧ Ow w' w.heap.size 5 r (([] : List UInt8).map bv) ∧ Below w.heap.size w w' := by
 have HN := Lib.hid hn
 clear hn
 go_enter Try.func55, Try.ntmps55
 go_wp2_with fail
 refine (splitTexts_any _ _ B _ hB hr h).mono ?_
 intro e w1 he
 unfold TextsEnd at he
 rw [HN.out] at he
 obtain ⟨rfl, hb1⟩ := he
 go_wp2_with fail
 refine (own_strs _ _ _ false _ [] w1.heap.size _ (Rd.nil _ _) (by simp)).mono ?_
 rintro e w2 ⟨r, rfl, ho, hb⟩
 go_wp2_with fail
 go_ret3
 exact ⟨r, rfl, ho.mono hb1.size, bwtrans hb1 hb (Nat.le_refl _)⟩
end Go.Proofs.Ytpmlfhgdhnofbaa
namespace Go.Proofs.Ytpmlfhgdhnofbaa
open Go.RowKit
def sameB (a b : List UInt8) : Bool := decide (a = b)
theorem sameB_self (l : List UInt8) : sameB l l = true := by simp [sameB]
theorem rsame_any (x y : Value) (a b : List UInt8) (B D : Nat) (w : World) (hx : Rd w B x (a.map bv)) (hy : Rd w D y (b.map bv)) :
  Calls Try.prog 14 #[x, y] w fun e w' => e = .returned (.bool (sameB a b)) ∧ w = w' := by
 have c1 := run_str (P := Try.prog) (w := w) Try.underlying29 Try.underlying5 Try.underlying9 hx
 have c2 := run_str (P := Try.prog) (w := w) Try.underlying29 Try.underlying5 Try.underlying9 hy
 go_enter Try.func14, Try.ntmps14
 go_wp2
 go_ret
 refine ⟨ret1 (vb ?_), rfl⟩
 unfold sameB
 by_cases h : a = b <;> simp [h]
theorem equal_any (x y : Value) (a b : List UInt8) (B D : Nat) (w : World) (hx : Rd w B x (a.map bv)) (hy : Rd w D y (b.map bv)) :
  Calls Try.prog 32 #[x, y] w fun e w' => e = .returned (.bool (sameB a b)) ∧ w' = w := by
 have c1 := run_str (P := Try.prog) (w := w) Try.underlying29 Try.underlying5 Try.underlying9 hx
 have c2 := run_str (P := Try.prog) (w := w) Try.underlying29 Try.underlying5 Try.underlying9 hy
 go_enter Try.func32, Try.ntmps32
 go_wp2
 go_ret
 refine ⟨ret1 (vb ?_), rfl⟩
 unfold sameB
 by_cases h : a = b <;> simp [h]
theorem rsame_bel (x y : Value) (a b : List UInt8) (B D : Nat) (w : World) (hx : Rd w B x (a.map bv)) (hy : Rd w D y (b.map bv)) :
  Calls Try.prog 14 #[x, y] w fun e w' => e = .returned (.bool (sameB a b)) ∧ Below w.heap.size w w' :=
 (rsame_any x y a b B D w hx hy).mono fun _ _ ⟨h1, h2⟩ => ⟨h1, h2 ▸ Below.refl _ _⟩
end Go.Proofs.Ytpmlfhgdhnofbaa
namespace Go.Proofs.Ytpmlfhgdhnofbaa
open Go.RowKit
theorem rnum_ok (n : Nat) (w : World) (h2 : n ≤ 4294967295) :
  Calls Try.prog 25 #[.int .i64 (n : Int)] w fun e w' => ∃ v, e = .returned v ∧ Ow w' w.heap.size 5 v ((numB n).map bv) ∧ Below w.heap.size w w' := by
 go_enter Try.func25, Try.ntmps25
 go_wp2
 go_ret
 exact ⟨_, rfl, Ow.new _ _ rfl (by simp [maxLen]) (by rw [bv_num n h2]) (Nat.le_refl _), (Below.refl _ _).alloc (Nat.le_refl _) _⟩
theorem rtext_ok (s : ByteArray) (w : World) (h2 : s.size ≤ 4294967295) :
  Calls Try.prog 27 #[.string s] w fun e w' => ∃ v, e = .returned v ∧ Ow w' w.heap.size 5 v ((textB s).map bv) ∧ Below w.heap.size w w' := by
 go_enter Try.func27, Try.ntmps27
 go_wp2_with fail
 refine (rnum_ok _ _ h2).mono ?_
 rintro e w1 ⟨v, rfl, ho, hb⟩
 obtain ⟨x, w2, hcv, hx, hb2, _⟩ := run_bytes (P := Try.prog) w1 s Try.underlying9 Try.underlying29 Try.underlying5 (by simp [maxLen]; omega)
 go_wp2_with (at_builtin; refine wpList_appB bytesT rfl _ _ rfl rfl (ho.below hb2) rfl hx (by simp [numB_len]; have : s.data.size = s.size := rfl; omega) (Nat.le_trans hb.size hb2.size) ?_; intro v' w' hown' hg _)
 go_ret
 exact ⟨v', rfl, hown', (hb.trans (hb2.mono hb.size)).grown hg (Nat.le_trans hb.size hb2.size) ho.ge⟩
theorem rtexts_ok (x : Value) (l : List ByteArray) (w : World) (hr : Rd w w.heap.size x (l.map sv)) (h1 : l.length ≤ 4294967295) (h2 : ∀ s ∈ l, s.size ≤ 4294967295) (h3 : (allB l).length ≤ 1000000000000) :
  Calls Try.prog 29 #[x] w fun e w' => ∃ v, e = .returned v ∧ Ow w' w.heap.size 5 v ((textsB l).map bv) ∧ Below w.heap.size w w' := by
 obtain ⟨A, c, rfl, hc, hm⟩ := hr.shapeM
 have hlm : l.length ≤ 9223372036854775807 := by omega
 go_enter Try.func29, Try.ntmps29
 go_wp2_with fail
 refine (rnum_ok _ _ h1).mono ?_
 rintro e w1 ⟨v, rfl, ho, hb⟩
 go_wp2_with fail
 go_loopw [3, 4] (fun b i wr => ∃ k : Nat, k ≤ l.length ∧ i = .int .i64 k ∧ Ow wr w.heap.size 5 b ((numB l.length ++ allB (l.take k)).map bv) ∧ Below w.heap.size w wr) (fun _ i _ => l.length - (intOf i).toNat)
 case atStart => exact ⟨0, Nat.zero_le _, rfl, by simpa [allB] using ho, hb⟩
 case round =>
  obtain ⟨k, hk, rfl, hok, hbk⟩ := hrel
  by_cases hlt : k < l.length
  ·obtain ⟨b, off, rfl, hbb, hcell⟩ := (hr.below hbk).cellM (by omega)
   have hck := hcell k hlt
   simp only [sv] at hck
   clear hcell
   go_wp2_with fail
   refine (rtext_ok _ _ (h2 _ (List.getElem_mem hlt))).mono ?_
   rintro e w2 ⟨u, rfl, hu, hb2⟩
   have hsn := Lib.hid (allB_snoc l k hlt)
   have hle := allB_take_le l (k + 1)
   have hsz : (numB l.length ++ allB (l.take k)).length + (textB l[k]).length ≤ 140737488355328 := by
    rw [hsn.out] at hle; simp [numB_len] at hle ⊢; omega
   clear hle
   go_wp2_with (at_builtin; refine wpList_appB bytesT rfl _ _ rfl rfl (hok.below hb2) rfl hu.rd hsz (Nat.le_trans hbk.size hb2.size) ?_; intro v' w' hown' hg _)
   go_roundw
   case rel =>
    refine ⟨k + 1, by omega, by go_num, ?_, ?_⟩
    ·rw [hsn.out, ← List.append_assoc]; exact hown'
    ·exact (hbk.trans (hb2.mono hbk.size)).grown hg (Nat.le_trans hbk.size hb2.size) hok.ge
   case measure => simp [intOf]; omega
  ·go_wp2_with fail
   go_ret
   have : k = l.length := by omega
   subst this
   exact ⟨_, rfl, by simpa [textsB] using hok, hbk⟩
def textSize (l : List UInt8) : Nat := if textOk l then 4 + numOf l else 0
def textThere (l : List UInt8) : ByteArray := if textOk l then ⟨(textOf l).toArray⟩ else ⟨#[]⟩
end Go.Proofs.Ytpmlfhgdhnofbaa
namespace Go.Proofs.Ytpmlfhgdhnofbaa
open Go.RowKit
def sumS (l : List ByteArray) : Nat := (l.map ByteArray.size).sum
end Go.Proofs.Ytpmlfhgdhnofbaa
namespace Go.Proofs.Ytpmlfhgdhnofbaa
open Go.RowKit
theorem numOf_numB (n : Nat) (h : n ≤ 4294967295) (more : List UInt8) : numOf (numB n ++ more) = n := by
 unfold numOf numB
 simp
 omega
theorem drop4 (n : Nat) (more : List UInt8) : (numB n ++ more).drop 4 = more := rfl
theorem textOk_textB (s : ByteArray) (h : s.size ≤ 4294967295) (more : List UInt8) : textOk (textB s ++ more) := by
 unfold textOk textB
 rw [List.append_assoc, numOf_numB _ h]
 simp [numB_len]
theorem textOf_textB (s : ByteArray) (h : s.size ≤ 4294967295) (more : List UInt8) : textOf (textB s ++ more) = s.data.toList := by
 unfold textOf textB
 rw [List.append_assoc, numOf_numB _ h, drop4]
 have : s.data.toList.length = s.size := rfl
 rw [← this]
 exact List.take_left
theorem textRest_textB (s : ByteArray) (h : s.size ≤ 4294967295) (more : List UInt8) : textRest (textB s ++ more) = more := by
 unfold textRest textB
 rw [List.append_assoc, numOf_numB _ h, drop4]
 have : s.data.toList.length = s.size := rfl
 rw [← this]
 exact List.drop_left
theorem allB_cons (s : ByteArray) (l : List ByteArray) : allB (s :: l) = textB s ++ allB l := rfl
theorem takeTexts_allB (l : List ByteArray) (h : ∀ s ∈ l, s.size ≤ 4294967295) (more : List UInt8) (k : Nat) (hk : k ≤ l.length) :
  takeTexts k (allB l ++ more) = some (l.take k, allB (l.drop k) ++ more) := by
 induction k with
 | zero => rfl
 | succ k ih =>
  have hlt : k < l.length := by omega
  have hs := h _ (List.getElem_mem hlt)
  rw [takeTexts_succ (ih (by omega)), List.drop_eq_getElem_cons hlt, allB_cons, List.append_assoc, if_pos (textOk_textB _ hs _), textOf_textB _ hs, textRest_textB _ hs,
   List.take_succ_eq_append_getElem hlt]
theorem takeTexts_textsB (l : List ByteArray) (h0 : l.length ≤ 4294967295) (h : ∀ s ∈ l, s.size ≤ 4294967295) (more : List UInt8) :
  takeTexts (numOf (textsB l ++ more)) ((textsB l ++ more).drop 4) = some (l, more) := by
 unfold textsB
 rw [List.append_assoc, numOf_numB _ h0, drop4, takeTexts_allB l h more _ (Nat.le_refl _)]
 simp [allB]
theorem textsB_len (l : List ByteArray) : (textsB l).length = 4 + (allB l).length := by
 unfold textsB
 rw [List.length_append]; rfl
theorem allB_len (l : List ByteArray) : (allB l).length = 4 * l.length + sumS l := by
 induction l with
 | nil => rfl
 | cons s l ih =>
  rw [allB_cons, List.length_append, ih, textB_len]
  simp [sumS]
  omega
theorem textRest_len (l : List UInt8) : (textRest l).length ≤ l.length := by
 unfold textRest
 rw [List.length_drop, List.length_drop]
 omega
def ab : ByteArray := ⟨#[97, 98]⟩
end Go.Proofs.Ytpmlfhgdhnofbaa
