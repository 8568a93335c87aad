/- Slices of slices of bytes: read ('RdM'), and owned with all their rows ('OwM'). Of no function in particular. A slice of slices of bytes that is built by appends, its last row by appends too. Of no function in particular. The contract of slices.Grow of nothing. The contract of slices.Concat: rows of whatever lengths behind one another. The contract of bytes.Clone. Plain lemmas on sums of 32 bits: a stp is linear and loses nothing; what a turned bit, a turned run, a sum behind its bytes does to a sum. Of no function in particular. The contracts of package check. The contract of the reference function of layer 2, and awake. The contracts of package wire. The contracts of package wire, going on: lists of texts. The contracts of package wire, going on: cutting. The contracts of package wire, going on: lists of texts that are cut off. The contracts of the reference function Same and of bytes.Equal. The contracts of the reference functions of layer 1. The contracts of the reference functions of layer 1, going on. Plain lemmas: what is put is cut off as it was. -/
import Derived.Test.YtofhnomljfbckaaBase
import Derived.Laws.CopyRow
import Derived.Laws.IdiomCopy
import Derived.Lib.AppendZeros
import Derived.Lib.SliceRun
import Derived.Lib.SlBytesConst
set_option maxHeartbeats 8000000
set_option maxRecDepth 100000
namespace Go.Proofs.Ytofhnomljfbckaa
open Go.RowKit
open Mx (rw rw_len rw_get rw_congr)
def RdM (w : World) (B : Nat) (v : Value) (n : Nat) (g : Nat → List UInt8) : Prop :=
 ∃ vs : Nat → Value, Rd w B v ((List.range n).map vs) ∧ ∀ j, j < n → Rd w B (vs j) ((g j).map bv)
section
variable {w w' : World} {B B' n : Nat} {v : Value} {g g' : Nat → List UInt8}
theorem RdM.below (h : RdM w B v n g) (hb : Below B w w') : RdM w' B v n g := by
 obtain ⟨vs, h1, h2⟩ := h
 exact ⟨vs, h1.below hb, fun j hj => (h2 j hj).below hb⟩
theorem RdM.mono (h : RdM w B v n g) (hB : B ≤ B') : RdM w B' v n g := by
 obtain ⟨vs, h1, h2⟩ := h
 exact ⟨vs, h1.mono hB, fun j hj => (h2 j hj).mono hB⟩
theorem RdM.up (h : RdM w w.heap.size v n g) (hb : Below w.heap.size w w') : RdM w' w'.heap.size v n g := (h.below hb).mono hb.size
theorem RdM.congr (h : RdM w B v n g) (e : ∀ j, j < n → g j = g' j) : RdM w B v n g' := by
 obtain ⟨vs, h1, h2⟩ := h
 exact ⟨vs, h1, fun j hj => by rw [← e j hj]; exact h2 j hj⟩
theorem RdM.nil (w : World) (B : Nat) (g : Nat → List UInt8) : RdM w B (.slice none 0 0) 0 g := ⟨fun _ => .slice none 0 0, Rd.nil _ _, fun j hj => by omega⟩
theorem RdM.shape (h : RdM w B v n g) : ∃ A c, v = .slice A n c ∧ n ≤ c ∧ c ≤ maxLen := by
 obtain ⟨vs, h1, _⟩ := h
 obtain ⟨A, c, e, h2, h3⟩ := h1.shapeM
 rw [List.length_range] at e h2
 exact ⟨A, c, e, h2, h3⟩
theorem RdM.open_ {A : Option Addr} {m c : Nat} (h : RdM w B (.slice A m c) n g) (hp : 0 < n) : ∃ b off, A = some ⟨b, off, none⟩ ∧ b < B := by
 obtain ⟨vs, h1, _⟩ := h
 obtain ⟨b, off, e, hb, _⟩ := h1.cellM (by rw [List.length_range]; exact hp)
 exact ⟨b, off, e, hb⟩
theorem RdM.row {b off m c j : Nat} (h : RdM w B (.slice (some ⟨b, off, none⟩) m c) n g) (hj : j < n) :
  ∃ A' c', w.cell? ⟨b, off + j, none⟩ = some (.slice A' (g j).length c') ∧ (g j).length ≤ c' ∧ c' ≤ maxLen ∧ Rd w B (.slice A' (g j).length c') ((g j).map bv) := by
 obtain ⟨vs, h1, h2⟩ := h
 obtain ⟨b', off', e, _, hc⟩ := h1.cellM (by rw [List.length_range]; omega)
 have hcj := hc j (by rw [List.length_range]; exact hj)
 simp only [Option.some.injEq, Addr.mk.injEq, and_true] at e
 obtain ⟨rfl, rfl⟩ := e
 rw [List.getElem_range] at hcj
 have hr := h2 j hj
 obtain ⟨A', c', e', h3, h4⟩ := hr.shapeM
 rw [e'] at hcj hr
 exact ⟨A', c', hcj, h3, h4, hr⟩
end
structure OwM (w : World) (B : Nat) (v : Value) (vs : Nat → Value) (n : Nat) (g : Nat → List UInt8) : Prop where
 out : Ow w B 25 v ((List.range n).map vs)
 row : ∀ j, j < n → Ow w B 5 (vs j) ((g j).map bv)
 ap : ∀ i j, i < n → j < n → i ≠ j → Apart (vs i) (vs j)
 apo : ∀ j, j < n → Apart v (vs j)
section
variable {w w' : World} {B n : Nat} {v : Value} {vs : Nat → Value} {g g' : Nat → List UInt8}
theorem OwM.rd (h : OwM w B v vs n g) : RdM w w.heap.size v n g := ⟨vs, h.out.rd, fun j hj => (h.row j hj).rd⟩
theorem OwM.congr (h : OwM w B v vs n g) (e : ∀ j, j < n → g j = g' j) : OwM w B v vs n g' := ⟨h.out, fun j hj => by rw [← e j hj]; exact h.row j hj, h.ap, h.apo⟩
theorem OwM.below (h : OwM w B v vs n g) (hb : Below w.heap.size w w') : OwM w' B v vs n g := ⟨h.out.below hb, fun j hj => (h.row j hj).below hb, h.ap, h.apo⟩
theorem OwM.mono {B' : Nat} (h : OwM w B v vs n g) (hB : B' ≤ B) : OwM w B' v vs n g := ⟨h.out.mono hB, fun j hj => (h.row j hj).mono hB, h.ap, h.apo⟩
theorem OwM.nil (w : World) (B : Nat) (g : Nat → List UInt8) : OwM w B (.slice none 0 0) (fun _ => .slice none 0 0) 0 g := ⟨Ow.nil _ _ _, fun j hj => by omega, fun i j hi => by omega, fun j hj => by omega⟩
theorem OwM.setRow {j : Nat} {l : List UInt8} (h : OwM w B v vs n g) (hj : j < n) (hg : w.grownBy w' (vs j).ownBlock) (ho : Ow w' B 5 (vs j) (l.map bv)) :
  OwM w' B v vs n (fun i => if i = j then l else g i) := by
 refine ⟨h.out.kept hg (h.apo j hj), fun i hi => ?_, h.ap, h.apo⟩
 by_cases e : i = j
 ·subst e; rw [if_pos rfl]; exact ho
 ·rw [if_neg e]; exact (h.row i hi).kept hg (h.ap i j hi hj e)
theorem OwM.grown {w0 : World} {B0 j : Nat} (h : OwM w B v vs n g) (hj : j < n) (hg : w.grownBy w' (vs j).ownBlock) (hb : Below B0 w0 w) (hB : B0 ≤ B) (hw : B0 ≤ w.heap.size) : Below B0 w0 w' :=
 hb.grown hg hw fun k hk => Nat.le_trans hB ((h.row j hj).ge k hk)
theorem grownBy_setCell (w : World) (g k : Nat) (u : Value) : w.grownBy (w.setCell ⟨g, k, none⟩ u) (some g) :=
 ⟨rfl, rfl, rfl, by simp [World.setCell], fun i _ hne => Below.heap_setCell _ _ _ _ (fun e => hne (by rw [e]))⟩
end
end Go.Proofs.Ytofhnomljfbckaa
namespace Go.Proofs.Ytofhnomljfbckaa
open Go.RowKit
open Mx (rw rw_len rw_get rw_congr)
structure Bld (w1 wr : World) (v : Value) (vs : Nat → Value) (n : Nat) (g : Nat → List UInt8) (u : Value) (l : List UInt8) : Prop where
 om : OwM wr w1.heap.size v vs n g
 ro : Ow wr w1.heap.size 5 u (l.map bv)
 ar : ∀ j, j < n → Apart u (vs j)
 ao : Apart u v
 bel : Below w1.heap.size w1 wr
section
variable {w1 wr w' : World} {v u : Value} {vs : Nat → Value} {n : Nat} {g : Nat → List UInt8} {l : List UInt8}
theorem Bld.start (w1 : World) (g : Nat → List UInt8) : Bld w1 w1 (.slice none 0 0) (fun _ => .slice none 0 0) 0 g (.slice none 0 0) [] :=
 ⟨OwM.nil _ _ _, Ow.nilB _ _ _, fun j hj => by omega, Apart.nil _, Below.refl _ _⟩
theorem Bld.up (h : Bld w1 wr v vs n g u l) (hb : Below wr.heap.size wr w') : Bld w1 w' v vs n g u l := ⟨h.om.below hb, h.ro.below hb, h.ar, h.ao, bwstep h.bel hb⟩
theorem Bld.of {w2 : World} (h : OwM wr w1.heap.size v vs n g) (hb : Below w1.heap.size w1 wr) (hu : Ow w2 wr.heap.size 5 u (l.map bv)) (hb2 : Below wr.heap.size wr w2) : Bld w1 w2 v vs n g u l :=
 ⟨h.below hb2, hu.mono hb.size, fun j hj k hk e => by
  have h1 := hu.ge k hk
  have h2 := ((h.row j hj).lt k e).2
  omega, fun k hk e => by
  have h1 := hu.ge k hk
  have h2 := (h.out.lt k e).2
  omega, bwstep hb hb2⟩
theorem OwM.kept {B : Nat} {row : Option Nat} (h : OwM wr B v vs n g) (hg : wr.grownBy w' row) (ho : ∀ k, v.ownBlock = some k → row ≠ some k) (hr : ∀ j, j < n → ∀ k, (vs j).ownBlock = some k → row ≠ some k) : OwM w' B v vs n g :=
 ⟨h.out.kept hg ho, fun j hj => (h.row j hj).kept hg (hr j hj), h.ap, h.apo⟩
end
end Go.Proofs.Ytofhnomljfbckaa
namespace Go.Proofs.Ytofhnomljfbckaa
open Go.RowKit
end Go.Proofs.Ytofhnomljfbckaa
namespace Go.Proofs.Ytofhnomljfbckaa
open Go.RowKit
end Go.Proofs.Ytofhnomljfbckaa
namespace Go.Proofs.Ytofhnomljfbckaa
open Go.RowKit
end Go.Proofs.Ytofhnomljfbckaa
namespace Go.Proofs.Ytofhnomljfbckaa.Crc
abbrev W := BitVec 32
def poly : W := 2197175160#32
def stp (w : W) : W := (w >>> 1) ^^^ (if w.getLsbD 0 then poly else 0#32)
def steps : Nat → W → W
 | 0, w => w
 | n + 1, w => steps n (stp w)
def bw (c : UInt8) : W := BitVec.ofNat 32 c.toNat
def eat (w : W) (c : UInt8) : W := steps 8 (w ^^^ bw c)
def eats (w : W) (l : List UInt8) : W := l.foldl eat w
def ones : W := 4294967295#32
def sum (l : List UInt8) : W := eats ones l ^^^ ones
end Go.Proofs.Ytofhnomljfbckaa.Crc
namespace Go.Proofs.Ytofhnomljfbckaa
open Go.RowKit Crc
def vw (w : W) : Nat := w.toNat
end Go.Proofs.Ytofhnomljfbckaa
namespace Go.Proofs.Ytofhnomljfbckaa
open Go.RowKit Crc
end Go.Proofs.Ytofhnomljfbckaa
namespace Go.Proofs.Ytofhnomljfbckaa
open Go.RowKit
def numB (n : Nat) : List UInt8 := [UInt8.ofNat (n / 16777216), UInt8.ofNat (n / 65536), UInt8.ofNat (n / 256), UInt8.ofNat n]
theorem numB_len (n : Nat) : (numB n).length = 4 := rfl
theorem bv_num (n : Nat) (h : n ≤ 4294967295) : (numB n).map bv = [.int .u8 ((n:Int) / 16777216), .int .u8 ((n:Int) / 65536 % 256), .int .u8 ((n:Int) / 256 % 256), .int .u8 ((n:Int) % 256)] := by
 simp [numB, bv]; omega
def textB (s : ByteArray) : List UInt8 := numB s.size ++ s.data.toList
theorem textB_len (s : ByteArray) : (textB s).length = 4 + s.size := by
 unfold textB
 rw [List.length_append]; rfl
theorem num_ok (n : Nat) (w : World) (h2 : n ≤ 4294967295) :
  Calls Try.prog 30 #[.int .i64 (n : Int)] w fun e w' => ∃ v, e = .returned v ∧ Ow w' w.heap.size 5 v ((numB n).map bv) ∧ Below w.heap.size w w' := by
 go_enter Try.func30, Try.ntmps30
 go_wp2
 go_ret
 exact ⟨_, rfl, Ow.new _ _ rfl (by simp [maxLen]) (by rw [bv_num n h2]) (Nat.le_refl _), (Below.refl _ _).alloc (Nat.le_refl _) _⟩
theorem text_ok (s : ByteArray) (w : World) (h2 : s.size ≤ 4294967295) :
  Calls Try.prog 21 #[.string s] w fun e w' => ∃ v, e = .returned v ∧ Ow w' w.heap.size 5 v ((textB s).map bv) ∧ Below w.heap.size w w' := by
 go_enter Try.func21, Try.ntmps21
 go_wp2_with fail
 refine (num_ok _ _ h2).mono ?_
 rintro e w1 ⟨v, rfl, ho, hb⟩
 go_wp2_with (at_builtin; refine wpList_appS bytesT Try.underlying9 rfl _ _ rfl rfl ho rfl (by simp [numB_len]; omega) hb.size ?_; intro v' w' hown' hg)
 go_ret
 exact ⟨v', rfl, hown', hb.grown hg hb.size ho.ge⟩
end Go.Proofs.Ytofhnomljfbckaa
namespace Go.Proofs.Ytofhnomljfbckaa
open Go.RowKit
def allB (l : List ByteArray) : List UInt8 := l.flatMap textB
end Go.Proofs.Ytofhnomljfbckaa
namespace Go.Proofs.Ytofhnomljfbckaa
open Go.RowKit
def numOf (l : List UInt8) : Nat := 16777216 * (l.getD 0 0).toNat + 65536 * (l.getD 1 0).toNat + 256 * (l.getD 2 0).toNat + (l.getD 3 0).toNat
theorem splitNum_no (x : Value) (l : List UInt8) (B : Nat) (w : World) (hr : Rd w B x (l.map bv)) (h : l.length < 4) :
  Calls Try.prog 32 #[x] w fun e w' => e = .returned (.tuple #[.int .i64 0, .slice none 0 0, .bool false]) ∧ w = w' := by
 obtain ⟨A, c, rfl, hc, hm⟩ := hr.shapeM
 go_enter Try.func32, Try.ntmps32
 go_wp2
 go_ret3
 exact ⟨rfl, rfl⟩
theorem numOf4 (l : List UInt8) (h : 4 ≤ l.length) : numOf l = 16777216 * l[0].toNat + 65536 * l[1].toNat + 256 * l[2].toNat + l[3].toNat := by
 unfold numOf
 simp [List.getD, List.getElem?_eq_getElem (show 0 < l.length by omega), List.getElem?_eq_getElem (show 1 < l.length by omega), List.getElem?_eq_getElem (show 2 < l.length by omega), List.getElem?_eq_getElem (show 3 < l.length by omega)]
theorem splitNum_ok (x : Value) (l : List UInt8) (B : Nat) (w : World) (hr : Rd w B x (l.map bv)) (h : 4 ≤ l.length) :
  Calls Try.prog 32 #[x] w fun e w' => ∃ r, e = .returned (.tuple #[.int .i64 (numOf l), r, .bool true]) ∧ Rd w' B r ((l.drop 4).map bv) ∧ Below w.heap.size w w' := by
 obtain ⟨A, c, rfl, hc, hm⟩ := hr.shapeM
 obtain ⟨b, off, rfl, hb, hcell⟩ := hr.cellM (by omega)
 have c0 := hcell 0 (by omega)
 have c1 := hcell 1 (by omega)
 have c2 := hcell 2 (by omega)
 have c3 := hcell 3 (by omega)
 simp only [bv, Nat.add_zero] at c0 c1 c2 c3
 have d0 := UInt8.toNat_lt l[0]
 have d1 := UInt8.toNat_lt l[1]
 have d2 := UInt8.toNat_lt l[2]
 have d3 := UInt8.toNat_lt l[3]
 clear hcell
 have hcut := hr.cutFrom (lo := 4) (by omega)
 rw [← List.map_drop] at hcut
 have HC := Lib.hid hcut
 clear hcut hr
 have hm' : c ≤ 9223372036854775807 := hm
 by_cases hc4 : c = 4
 all_goals
  go_enter Try.func32, Try.ntmps32
  go_wp2
  go_quiet (fail)
  go_wp2
  go_quiet (fail)
  go_wp2
  go_ret3
  refine ⟨_, ret3 (vi ?_) rfl rfl, ?_, below_drewN (bwN _) _⟩
  ·rw [numOf4 l h]; exact or4 _ _ _ _ d0 d1 d2 d3
  ·have h2 := HC.out
   simp only [hc4, if_true, if_false] at h2
   exact h2.below (below_drewN (below_drewN (Below.refl _ _) _) _)
def textOk (l : List UInt8) : Prop := 4 ≤ l.length ∧ numOf l ≤ l.length - 4
instance (l : List UInt8) : Decidable (textOk l) := by unfold textOk; infer_instance
def textOf (l : List UInt8) : List UInt8 := (l.drop 4).take (numOf l)
def textRest (l : List UInt8) : List UInt8 := (l.drop 4).drop (numOf l)
theorem numOf_lt (l : List UInt8) : numOf l < 4294967296 := by
 unfold numOf
 have d0 := UInt8.toNat_lt (l.getD 0 0)
 have d1 := UInt8.toNat_lt (l.getD 1 0)
 have d2 := UInt8.toNat_lt (l.getD 2 0)
 have d3 := UInt8.toNat_lt (l.getD 3 0)
 omega
theorem splitText_no (x : Value) (l : List UInt8) (B : Nat) (w : World) (hr : Rd w B x (l.map bv)) (h : ¬ textOk l) :
  Calls Try.prog 35 #[x] w fun e w' => e = .returned (.tuple #[.string ⟨#[]⟩, .slice none 0 0, .bool false]) ∧ Below w.heap.size w w' := by
 by_cases h4 : 4 ≤ l.length
 ·have hn : l.length - 4 < numOf l := by
   unfold textOk at h; omega
  have hlt := numOf_lt l
  go_enter Try.func35, Try.ntmps35
  go_wp2_with fail
  refine (splitNum_ok _ _ B _ hr h4).mono ?_
  rintro e w1 ⟨r, rfl, hr1, hb⟩
  obtain ⟨A, c, rfl, hc, hm⟩ := hr1.shapeM
  go_wp2_with fail
  go_ret3
  exact ⟨rfl, hb⟩
 ·go_enter Try.func35, Try.ntmps35
  go_wp2_with fail
  refine (splitNum_no _ _ B _ hr (by omega)).mono ?_
  rintro e w1 ⟨rfl, rfl⟩
  go_wp2_with fail
  go_ret3
  exact ⟨rfl, Below.refl _ _⟩
theorem splitText_ok (x : Value) (l : List UInt8) (B : Nat) (w : World) (hr : Rd w B x (l.map bv)) (h : textOk l) :
  Calls Try.prog 35 #[x] w fun e w' => ∃ r, e = .returned (.tuple #[.string ⟨(textOf l).toArray⟩, r, .bool true]) ∧ Rd w' B r ((textRest l).map bv) ∧ Below w.heap.size w w' := by
 obtain ⟨h4, hn⟩ := h
 go_enter Try.func35, Try.ntmps35
 go_wp2_with fail
 refine (splitNum_ok _ _ B _ hr h4).mono ?_
 rintro e w1 ⟨r, rfl, hr1, hb⟩
 obtain ⟨A, c, rfl, hc, hm⟩ := hr1.shapeM
 have hm' : c ≤ 9223372036854775807 := hm
 rw [List.length_drop] at hr1 hc ⊢
 have hlt := numOf_lt l
 have hcl : numOf l ≤ c := by omega
 have H1 := hr1.cutTo (hi := numOf l) hn
 have HR := Lib.hid hr1
 rw [← List.map_take] at H1
 clear hr1
 have hcv := fun k => run_str (P := Try.prog) (w := w1.drewN k) Try.underlying25 Try.underlying5 Try.underlying9 (l := textOf l) (D := B) (H1.below (below_drewN (Below.refl _ _) k))
 clear H1
 by_cases hcc : c = numOf l
 ·subst hcc
  go_wp2
  go_quiet (fail)
  go_wp2
  go_ret3
  exact ⟨_, rfl, by unfold textRest; rw [List.map_drop]; exact (HR.out.fromEnd hn).below (bwN' _ _), below_drewN hb _⟩
 ·go_wp2
  go_quiet (fail)
  go_wp2
  go_ret3
  exact ⟨_, rfl, by unfold textRest; rw [List.map_drop]; exact (HR.out.from_ hn hcc).below (bwN' _ _), below_drewN hb _⟩
theorem own_int (n : Int) (ok : Bool) (x : Value) (l : List UInt8) (B : Nat) (w : World) (hr : Rd w B x (l.map bv)) (hl : l.length ≤ 1000000000000) :
  Calls Try.prog 31 #[.int .i64 n, x, .bool ok] w fun e w' => ∃ r, e = .returned (.tuple #[.int .i64 n, r, .bool ok]) ∧ Ow w' w.heap.size 5 r (l.map bv) ∧ Below w.heap.size w w' := by
 go_enter Try.func31, Try.ntmps31
 go_wp2_with (at_builtin; refine wpList_appB bytesT rfl _ _ rfl rfl (Ow.nilB w w.heap.size 5) rfl hr (by simp; omega) (Nat.le_refl _) ?_; intro v' w' hown' hg _)
 go_ret3
 exact ⟨v', rfl, hown', (Below.refl _ _).grown hg (Nat.le_refl _) (fun k hk => by cases hk)⟩
theorem own_str (s : ByteArray) (ok : Bool) (x : Value) (l : List UInt8) (B : Nat) (w : World) (hr : Rd w B x (l.map bv)) (hl : l.length ≤ 1000000000000) :
  Calls Try.prog 34 #[.string s, x, .bool ok] w fun e w' => ∃ r, e = .returned (.tuple #[.string s, r, .bool ok]) ∧ Ow w' w.heap.size 5 r (l.map bv) ∧ Below w.heap.size w w' := by
 go_enter Try.func34, Try.ntmps34
 go_wp2_with (at_builtin; refine wpList_appB bytesT rfl _ _ rfl rfl (Ow.nilB w w.heap.size 5) rfl hr (by simp; omega) (Nat.le_refl _) ?_; intro v' w' hown' hg _)
 go_ret3
 exact ⟨v', rfl, hown', (Below.refl _ _).grown hg (Nat.le_refl _) (fun k hk => by cases hk)⟩
end Go.Proofs.Ytofhnomljfbckaa
namespace Go.Proofs.Ytofhnomljfbckaa
open Go.RowKit
theorem cutNum_no (x : Value) (l : List UInt8) (B : Nat) (w : World) (hr : Rd w B x (l.map bv)) (h : l.length < 4) :
  Calls Try.prog 25 #[x] w fun e w' => ∃ r, e = .returned (.tuple #[.int .i64 0, r, .bool false]) ∧ Ow w' w.heap.size 5 r (([] : List UInt8).map bv) ∧ Below w.heap.size w w' := by
 go_enter Try.func25, Try.ntmps25
 go_wp2_with fail
 refine (splitNum_no _ _ B _ hr h).mono ?_
 rintro e w1 ⟨rfl, rfl⟩
 go_wp2_with fail
 refine (own_int 0 false _ [] w.heap.size _ (Rd.nil _ _) (by simp)).mono ?_
 rintro e w2 ⟨r, rfl, ho, hb⟩
 go_wp2_with fail
 go_ret3
 exact ⟨r, rfl, ho, hb⟩
theorem cutNum_ok (x : Value) (l : List UInt8) (B : Nat) (w : World) (hr : Rd w B x (l.map bv)) (h : 4 ≤ l.length) (hl : l.length ≤ 1000000000000) :
  Calls Try.prog 25 #[x] w fun e w' => ∃ r, e = .returned (.tuple #[.int .i64 (numOf l), r, .bool true]) ∧ Ow w' w.heap.size 5 r ((l.drop 4).map bv) ∧ Below w.heap.size w w' := by
 go_enter Try.func25, Try.ntmps25
 go_wp2_with fail
 refine (splitNum_ok _ _ B _ hr h).mono ?_
 rintro e w1 ⟨r1, rfl, hr1, hb1⟩
 go_wp2_with fail
 refine (own_int _ true _ _ B _ hr1 (by simp; omega)).mono ?_
 rintro e w2 ⟨r, rfl, ho, hb⟩
 go_wp2_with fail
 go_ret3
 exact ⟨r, rfl, ho.mono hb1.size, bwtrans hb1 hb (Nat.le_refl _)⟩
theorem cutText_no (x : Value) (l : List UInt8) (B : Nat) (w : World) (hr : Rd w B x (l.map bv)) (h : ¬ textOk l) :
  Calls Try.prog 33 #[x] w fun e w' => ∃ r, e = .returned (.tuple #[.string ⟨#[]⟩, r, .bool false]) ∧ Ow w' w.heap.size 5 r (([] : List UInt8).map bv) ∧ Below w.heap.size w w' := by
 go_enter Try.func33, Try.ntmps33
 go_wp2_with fail
 refine (splitText_no _ _ B _ hr h).mono ?_
 rintro e w1 ⟨rfl, hb1⟩
 go_wp2_with fail
 refine (own_str _ false _ [] w1.heap.size _ (Rd.nil _ _) (by simp)).mono ?_
 rintro e w2 ⟨r, rfl, ho, hb⟩
 go_wp2_with fail
 go_ret3
 exact ⟨r, rfl, ho.mono hb1.size, bwtrans hb1 hb (Nat.le_refl _)⟩
theorem cutText_ok (x : Value) (l : List UInt8) (B : Nat) (w : World) (hr : Rd w B x (l.map bv)) (h : textOk l) (hl : l.length ≤ 1000000000000) :
  Calls Try.prog 33 #[x] w fun e w' => ∃ r, e = .returned (.tuple #[.string ⟨(textOf l).toArray⟩, r, .bool true]) ∧ Ow w' w.heap.size 5 r ((textRest l).map bv) ∧ Below w.heap.size w w' := by
 go_enter Try.func33, Try.ntmps33
 go_wp2_with fail
 refine (splitText_ok _ _ B _ hr h).mono ?_
 rintro e w1 ⟨r1, rfl, hr1, hb1⟩
 go_wp2_with fail
 refine (own_str _ true _ _ B _ hr1 (by simp [textRest]; omega)).mono ?_
 rintro e w2 ⟨r, rfl, ho, hb⟩
 go_wp2_with fail
 go_ret3
 exact ⟨r, rfl, ho.mono hb1.size, bwtrans hb1 hb (Nat.le_refl _)⟩
end Go.Proofs.Ytofhnomljfbckaa
namespace Go.Proofs.Ytofhnomljfbckaa
open Go.RowKit
def sameB (a b : List UInt8) : Bool := decide (a = b)
theorem sameB_self (l : List UInt8) : sameB l l = true := by simp [sameB]
theorem rsame_any (x y : Value) (a b : List UInt8) (B D : Nat) (w : World) (hx : Rd w B x (a.map bv)) (hy : Rd w D y (b.map bv)) :
  Calls Try.prog 10 #[x, y] w fun e w' => e = .returned (.bool (sameB a b)) ∧ w = w' := by
 have c1 := run_str (P := Try.prog) (w := w) Try.underlying25 Try.underlying5 Try.underlying9 hx
 have c2 := run_str (P := Try.prog) (w := w) Try.underlying25 Try.underlying5 Try.underlying9 hy
 go_enter Try.func10, Try.ntmps10
 go_wp2
 go_ret
 refine ⟨ret1 (vb ?_), rfl⟩
 unfold sameB
 by_cases h : a = b <;> simp [h]
theorem equal_any (x y : Value) (a b : List UInt8) (B D : Nat) (w : World) (hx : Rd w B x (a.map bv)) (hy : Rd w D y (b.map bv)) :
  Calls Try.prog 26 #[x, y] w fun e w' => e = .returned (.bool (sameB a b)) ∧ w' = w := by
 have c1 := run_str (P := Try.prog) (w := w) Try.underlying25 Try.underlying5 Try.underlying9 hx
 have c2 := run_str (P := Try.prog) (w := w) Try.underlying25 Try.underlying5 Try.underlying9 hy
 go_enter Try.func26, Try.ntmps26
 go_wp2
 go_ret
 refine ⟨ret1 (vb ?_), rfl⟩
 unfold sameB
 by_cases h : a = b <;> simp [h]
theorem rsame_bel (x y : Value) (a b : List UInt8) (B D : Nat) (w : World) (hx : Rd w B x (a.map bv)) (hy : Rd w D y (b.map bv)) :
  Calls Try.prog 10 #[x, y] w fun e w' => e = .returned (.bool (sameB a b)) ∧ Below w.heap.size w w' :=
 (rsame_any x y a b B D w hx hy).mono fun _ _ ⟨h1, h2⟩ => ⟨h1, h2 ▸ Below.refl _ _⟩
end Go.Proofs.Ytofhnomljfbckaa
namespace Go.Proofs.Ytofhnomljfbckaa
open Go.RowKit
theorem rnum_ok (n : Nat) (w : World) (h2 : n ≤ 4294967295) :
  Calls Try.prog 23 #[.int .i64 (n : Int)] w fun e w' => ∃ v, e = .returned v ∧ Ow w' w.heap.size 5 v ((numB n).map bv) ∧ Below w.heap.size w w' := by
 go_enter Try.func23, Try.ntmps23
 go_wp2
 go_ret
 exact ⟨_, rfl, Ow.new _ _ rfl (by simp [maxLen]) (by rw [bv_num n h2]) (Nat.le_refl _), (Below.refl _ _).alloc (Nat.le_refl _) _⟩
theorem rtext_ok (s : ByteArray) (w : World) (h2 : s.size ≤ 4294967295) :
  Calls Try.prog 24 #[.string s] w fun e w' => ∃ v, e = .returned v ∧ Ow w' w.heap.size 5 v ((textB s).map bv) ∧ Below w.heap.size w w' := by
 go_enter Try.func24, Try.ntmps24
 go_wp2_with fail
 refine (rnum_ok _ _ h2).mono ?_
 rintro e w1 ⟨v, rfl, ho, hb⟩
 obtain ⟨x, w2, hcv, hx, hb2, _⟩ := run_bytes (P := Try.prog) w1 s Try.underlying9 Try.underlying25 Try.underlying5 (by simp [maxLen]; omega)
 go_wp2_with (at_builtin; refine wpList_appB bytesT rfl _ _ rfl rfl (ho.below hb2) rfl hx (by simp [numB_len]; have : s.data.size = s.size := rfl; omega) (Nat.le_trans hb.size hb2.size) ?_; intro v' w' hown' hg _)
 go_ret
 exact ⟨v', rfl, hown', (hb.trans (hb2.mono hb.size)).grown hg (Nat.le_trans hb.size hb2.size) ho.ge⟩
theorem rat_no (x : Value) (l : List UInt8) (at_ B : Nat) (w : World) (hr : Rd w B x (l.map bv)) (h : l.length < at_ + 4) (hat : at_ ≤ 1000000000000) :
  Calls Try.prog 28 #[x, .int .i64 (at_ : Int)] w fun e w' => e = .returned (.int .i64 (-1)) ∧ w = w' := by
 obtain ⟨A, c, rfl, hc, hm⟩ := hr.shapeM
 go_enter Try.func28, Try.ntmps28
 go_wp2
 go_ret
 exact ⟨rfl, rfl⟩
theorem numOf_drop (l : List UInt8) (k : Nat) (h : k + 4 ≤ l.length) : (numOf (l.drop k) : Int) = 16777216 * (l[k].toNat : Int) + 65536 * (l[k + 1].toNat : Int) + 256 * (l[k + 2].toNat : Int) + (l[k + 3].toNat : Int) := by
 rw [numOf4 _ (by simp; omega)]
 simp
theorem rat_okN (x : Value) (l : List UInt8) (at_ B : Nat) (w : World) (hr : Rd w B x (l.map bv)) (h : at_ + 4 ≤ l.length) (hat : l.length ≤ 1000000000000) :
  Calls Try.prog 28 #[x, .int .i64 (at_ : Int)] w fun e w' => e = .returned (.int .i64 (numOf (l.drop at_))) ∧ ∃ m, w' = w.drewN m := by
 obtain ⟨A, c, rfl, hc, hm⟩ := hr.shapeM
 obtain ⟨b, off, rfl, hb, hcell⟩ := hr.cellM (by omega)
 have c0 := hcell at_ (by omega)
 have c1 := hcell (at_ + 1) (by omega)
 have c2 := hcell (at_ + 2) (by omega)
 have c3 := hcell (at_ + 3) (by omega)
 simp only [bv] at c0 c1 c2 c3
 have d0 := UInt8.toNat_lt l[at_]
 have d1 := UInt8.toNat_lt l[at_ + 1]
 have d2 := UInt8.toNat_lt l[at_ + 2]
 have d3 := UInt8.toNat_lt l[at_ + 3]
 have hl1 : (at_ : Int) + 1 < l.length := by omega
 have hl2 : (at_ : Int) + 2 < l.length := by omega
 have hl3 : (at_ : Int) + 3 < l.length := by omega
 have hl0 : (at_ : Int) < l.length := by omega
 clear hcell hr
 have hnd := Lib.hid (numOf_drop l at_ h)
 go_enter Try.func28, Try.ntmps28
 go_wp2
 go_quiet (fail)
 go_wp2
 go_ret
 exact ⟨ret1 (vi hnd.out.symm), _, rfl⟩
theorem rat_ok (x : Value) (l : List UInt8) (at_ B : Nat) (w : World) (hr : Rd w B x (l.map bv)) (h : at_ + 4 ≤ l.length) (hat : l.length ≤ 1000000000000) :
  Calls Try.prog 28 #[x, .int .i64 (at_ : Int)] w fun e w' => e = .returned (.int .i64 (numOf (l.drop at_))) ∧ Below w.heap.size w w' :=
 Calls.bel (rat_okN x l at_ B w hr h hat)
def textSize (l : List UInt8) : Nat := if textOk l then 4 + numOf l else 0
def textThere (l : List UInt8) : ByteArray := if textOk l then ⟨(textOf l).toArray⟩ else ⟨#[]⟩
theorem rtextAt_any (x : Value) (l : List UInt8) (at_ B : Nat) (w : World) (hB : B ≤ w.heap.size) (hr : Rd w B x (l.map bv)) (hat : at_ ≤ 1000000000000) (hl : l.length ≤ 1000000000000) :
  Calls Try.prog 29 #[x, .int .i64 (at_ : Int)] w fun e w' => e = .returned (.tuple #[.string (textThere (l.drop at_)), .int .i64 (textSize (l.drop at_))]) ∧ Below w.heap.size w w' := by
 obtain ⟨A, c, rfl, hc, hm⟩ := hr.shapeM
 have hm' : c ≤ 9223372036854775807 := hm
 by_cases h4 : at_ + 4 ≤ l.length
 ·have hn := numOf_lt (l.drop at_)
  by_cases ht : at_ + 4 + numOf (l.drop at_) ≤ l.length
  ·have hok : textOk (l.drop at_) := by constructor <;> simp <;> omega
   have e1 : textThere (l.drop at_) = ⟨(textOf (l.drop at_)).toArray⟩ := by unfold textThere; rw [if_pos hok]
   have e2 : textSize (l.drop at_) = 4 + numOf (l.drop at_) := by unfold textSize; rw [if_pos hok]
   rw [e1, e2]
   clear e1 e2
   have htx : ((l.take (at_ + 4 + numOf (l.drop at_))).drop (at_ + 4)).map bv = (textOf (l.drop at_)).map bv := by
    unfold textOf
    rw [List.drop_drop, List.drop_take]
    congr 2
    omega
   rw [List.map_drop, List.map_take] at htx
   obtain ⟨b, off, rfl, -, -⟩ := hr.cellM (by omega)
   by_cases hcc : c = at_ + 4
   ·subst hcc
    have hn0 : numOf (l.drop at_) = 0 := by omega
    have hcut := hr.midEnd (lo := at_ + 4) (hi := at_ + 4 + numOf (l.drop at_)) (by omega) ht
    rw [htx] at hcut
    have HC := Lib.hid hcut
    clear hcut htx
    go_enter Try.func29, Try.ntmps29
    go_wp2_with fail
    refine (rat_ok _ _ at_ B _ hr h4 hl).mono ?_
    rintro e w1 ⟨rfl, hb⟩
    rw [hn0]
    have HN := Lib.hid hn0
    clear hn0
    have hcv := run_strS (P := Try.prog) (w := w1) Try.underlying25 Try.underlying5 Try.underlying9 (HC.out.below (hb.mono hB))
    go_wp2_with fail
    go_ret2
    exact ⟨ret2 rfl (vi (by rw [HN.out]; rfl)), hb⟩
   ·have hcut := hr.midC (lo := at_ + 4) (hi := at_ + 4 + numOf (l.drop at_)) (by omega) ht hcc
    rw [htx] at hcut
    have HC := Lib.hid hcut
    clear hcut htx
    go_enter Try.func29, Try.ntmps29
    go_wp2_with fail
    refine (rat_ok _ _ at_ B _ hr h4 hl).mono ?_
    rintro e w1 ⟨rfl, hb⟩
    generalize hgn : numOf (l.drop at_) = n at *
    have HG := Lib.hid hgn
    clear hgn
    have hcv := run_strS (P := Try.prog) (w := w1) Try.underlying25 Try.underlying5 Try.underlying9 (HC.out.below (hb.mono hB))
    go_wp2_with fail
    go_ret2
    exact ⟨ret2 rfl (vi (by rw [HG.out]; omega)), hb⟩
  ·have hok : ¬ textOk (l.drop at_) := by unfold textOk; simp; omega
   have e1 : textThere (l.drop at_) = ⟨#[]⟩ := by unfold textThere; rw [if_neg hok]
   have e2 : textSize (l.drop at_) = 0 := by unfold textSize; rw [if_neg hok]
   rw [e1, e2]
   clear e1 e2
   go_enter Try.func29, Try.ntmps29
   go_wp2_with fail
   refine (rat_ok _ _ at_ B _ hr h4 hl).mono ?_
   rintro e w1 ⟨rfl, hb⟩
   generalize numOf (l.drop at_) = n at *
   go_wp2_with fail
   go_ret2
   exact ⟨rfl, hb⟩
 ·have hok : ¬ textOk (l.drop at_) := by unfold textOk; simp; omega
  have e1 : textThere (l.drop at_) = ⟨#[]⟩ := by unfold textThere; rw [if_neg hok]
  have e2 : textSize (l.drop at_) = 0 := by unfold textSize; rw [if_neg hok]
  rw [e1, e2]
  clear e1 e2
  go_enter Try.func29, Try.ntmps29
  go_wp2_with fail
  refine (rat_no _ _ at_ B _ hr (by omega) hat).mono ?_
  rintro e w1 ⟨rfl, rfl⟩
  go_wp2_with fail
  go_ret2
  exact ⟨rfl, Below.refl _ _⟩
end Go.Proofs.Ytofhnomljfbckaa
namespace Go.Proofs.Ytofhnomljfbckaa
open Go.RowKit
end Go.Proofs.Ytofhnomljfbckaa
namespace Go.Proofs.Ytofhnomljfbckaa
open Go.RowKit
theorem numOf_numB (n : Nat) (h : n ≤ 4294967295) (more : List UInt8) : numOf (numB n ++ more) = n := by
 unfold numOf numB
 simp
 omega
theorem drop4 (n : Nat) (more : List UInt8) : (numB n ++ more).drop 4 = more := rfl
theorem textOk_textB (s : ByteArray) (h : s.size ≤ 4294967295) (more : List UInt8) : textOk (textB s ++ more) := by
 unfold textOk textB
 rw [List.append_assoc, numOf_numB _ h]
 simp [numB_len]
theorem textOf_textB (s : ByteArray) (h : s.size ≤ 4294967295) (more : List UInt8) : textOf (textB s ++ more) = s.data.toList := by
 unfold textOf textB
 rw [List.append_assoc, numOf_numB _ h, drop4]
 have : s.data.toList.length = s.size := rfl
 rw [← this]
 exact List.take_left
theorem textRest_textB (s : ByteArray) (h : s.size ≤ 4294967295) (more : List UInt8) : textRest (textB s ++ more) = more := by
 unfold textRest textB
 rw [List.append_assoc, numOf_numB _ h, drop4]
 have : s.data.toList.length = s.size := rfl
 rw [← this]
 exact List.drop_left
theorem allB_cons (s : ByteArray) (l : List ByteArray) : allB (s :: l) = textB s ++ allB l := rfl
def ab : ByteArray := ⟨#[97, 98]⟩
end Go.Proofs.Ytofhnomljfbckaa
