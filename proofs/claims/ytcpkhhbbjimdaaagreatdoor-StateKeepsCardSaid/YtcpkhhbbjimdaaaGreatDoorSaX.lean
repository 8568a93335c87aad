/- A state as the program holds it: the tree at its block's beginning, behind it each client's number and reply. What is done for a command of each kind: the map of function values, made and looked up. What is done for a command of each kind. -/
import Derived.Test.YtcpkhhbbjimdaaaGreatDoorTreF
import Derived.Test.YtcpkhhbbjimdaaaGreatDoorTreB
import Derived.Test.YtcpkhhbbjimdaaaGreatDoorApX
import Derived.Test.YtcpkhhbbjimdaaaGreatDoorCmY
import Derived.Test.YtcpkhhbbjimdaaaGreatDoorCsA
import Derived.Test.YtcpkhhbbjimdaaaGreatDoorBase
import Derived.MapKept
import Derived.WideMake
import Derived.Deep.Cut
import Derived.Deep.RegionHeld3
set_option maxHeartbeats 8000000
set_option maxRecDepth 100000
namespace Go.Proofs.YtcpkhhbbjimdaaaGreatDoor.Ce
open Go.RowKit
def tl17 (seq : Nat → Int) (rep : Nat → Rv) : List Value := [.int .i64 (seq 0), .int .i64 (rep 0).e, .bool (rep 0).did, .string (rep 0).value, .slice (rep 0).a (rep 0).n (rep 0).c, .int .i64 (seq 1), .int .i64 (rep 1).e, .bool (rep 1).did, .string (rep 1).value, .slice (rep 1).a (rep 1).n (rep 1).c, .int .i64 (seq 2), .int .i64 (rep 2).e, .bool (rep 2).did, .string (rep 2).value, .slice (rep 2).a (rep 2).n (rep 2).c, .int .i64 (seq 3), .int .i64 (rep 3).e, .bool (rep 3).did, .string (rep 3).value, .slice (rep 3).a (rep 3).n (rep 3).c, .int .i64 (seq 4), .int .i64 (rep 4).e, .bool (rep 4).did, .string (rep 4).value, .slice (rep 4).a (rep 4).n (rep 4).c, .int .i64 (seq 5), .int .i64 (rep 5).e, .bool (rep 5).did, .string (rep 5).value, .slice (rep 5).a (rep 5).n (rep 5).c, .int .i64 (seq 6), .int .i64 (rep 6).e, .bool (rep 6).did, .string (rep 6).value, .slice (rep 6).a (rep 6).n (rep 6).c, .int .i64 (seq 7), .int .i64 (rep 7).e, .bool (rep 7).did, .string (rep 7).value, .slice (rep 7).a (rep 7).n (rep 7).c, .int .i64 (seq 8), .int .i64 (rep 8).e, .bool (rep 8).did, .string (rep 8).value, .slice (rep 8).a (rep 8).n (rep 8).c, .int .i64 (seq 9), .int .i64 (rep 9).e, .bool (rep 9).did, .string (rep 9).value, .slice (rep 9).a (rep 9).n (rep 9).c, .int .i64 (seq 10), .int .i64 (rep 10).e, .bool (rep 10).did, .string (rep 10).value, .slice (rep 10).a (rep 10).n (rep 10).c, .int .i64 (seq 11), .int .i64 (rep 11).e, .bool (rep 11).did, .string (rep 11).value, .slice (rep 11).a (rep 11).n (rep 11).c, .int .i64 (seq 12), .int .i64 (rep 12).e, .bool (rep 12).did, .string (rep 12).value, .slice (rep 12).a (rep 12).n (rep 12).c, .int .i64 (seq 13), .int .i64 (rep 13).e, .bool (rep 13).did, .string (rep 13).value, .slice (rep 13).a (rep 13).n (rep 13).c, .int .i64 (seq 14), .int .i64 (rep 14).e, .bool (rep 14).did, .string (rep 14).value, .slice (rep 14).a (rep 14).n (rep 14).c, .int .i64 (seq 15), .int .i64 (rep 15).e, .bool (rep 15).did, .string (rep 15).value, .slice (rep 15).a (rep 15).n (rep 15).c, .int .i64 (seq 16), .int .i64 (rep 16).e, .bool (rep 16).did, .string (rep 16).value, .slice (rep 16).a (rep 16).n (rep 16).c]
abbrev stH (seq : Nat → Int) (rep : Nat → Rv) : Hos := ⟨63, tl17 seq rep⟩
section
variable {seq : Nat → Int} {rep : Nat → Rv} {i : Nat}
theorem tl_seq (hi : i < 17) : (tl17 seq rep)[i * 5]? = some (.int .i64 (seq i)) := by
 have h : i = 0 ∨ i = 1 ∨ i = 2 ∨ i = 3 ∨ i = 4 ∨ i = 5 ∨ i = 6 ∨ i = 7 ∨ i = 8 ∨ i = 9 ∨ i = 10 ∨ i = 11 ∨ i = 12 ∨ i = 13 ∨ i = 14 ∨ i = 15 ∨ i = 16 := by omega
 rcases h with rfl | rfl | rfl | rfl | rfl | rfl | rfl | rfl | rfl | rfl | rfl | rfl | rfl | rfl | rfl | rfl | rfl <;> rfl
theorem tl_rep (hi : i < 17) : (tl17 seq rep)[i * 5 + 1]? = some (.int .i64 (rep i).e) ∧ (tl17 seq rep)[i * 5 + 2]? = some (.bool (rep i).did) ∧ (tl17 seq rep)[i * 5 + 3]? = some (.string (rep i).value) ∧ (tl17 seq rep)[i * 5 + 4]? = some (.slice (rep i).a (rep i).n (rep i).c) := by
 have h : i = 0 ∨ i = 1 ∨ i = 2 ∨ i = 3 ∨ i = 4 ∨ i = 5 ∨ i = 6 ∨ i = 7 ∨ i = 8 ∨ i = 9 ∨ i = 10 ∨ i = 11 ∨ i = 12 ∨ i = 13 ∨ i = 14 ∨ i = 15 ∨ i = 16 := by omega
 rcases h with rfl | rfl | rfl | rfl | rfl | rfl | rfl | rfl | rfl | rfl | rfl | rfl | rfl | rfl | rfl | rfl | rfl <;> exact ⟨rfl, rfl, rfl, rfl⟩
theorem tl_setSeq (m k f : Int) (lv : Value) (n : Int) (v : Value) (z : Int) (hi : i < 17) (x : Int) : (Rst.row ⟨m, k, f, lv, n, stH seq rep⟩ v z).setIfInBounds (7 + i * 5) (.int .i64 x) = Rst.row ⟨m, k, f, lv, n, stH (upd seq i x) rep⟩ v z := by
 have h : i = 0 ∨ i = 1 ∨ i = 2 ∨ i = 3 ∨ i = 4 ∨ i = 5 ∨ i = 6 ∨ i = 7 ∨ i = 8 ∨ i = 9 ∨ i = 10 ∨ i = 11 ∨ i = 12 ∨ i = 13 ∨ i = 14 ∨ i = 15 ∨ i = 16 := by omega
 rcases h with rfl | rfl | rfl | rfl | rfl | rfl | rfl | rfl | rfl | rfl | rfl | rfl | rfl | rfl | rfl | rfl | rfl <;> rfl
theorem tl_setRep (m k f : Int) (lv : Value) (n : Int) (v : Value) (z : Int) (hi : i < 17) (r : Rv) : St.cpd (Rst.row ⟨m, k, f, lv, n, stH seq rep⟩ v z) (7 + i * 5 + 1) r.cs.toList = Rst.row ⟨m, k, f, lv, n, stH seq (upd rep i r)⟩ v z := by
 have h : i = 0 ∨ i = 1 ∨ i = 2 ∨ i = 3 ∨ i = 4 ∨ i = 5 ∨ i = 6 ∨ i = 7 ∨ i = 8 ∨ i = 9 ∨ i = 10 ∨ i = 11 ∨ i = 12 ∨ i = 13 ∨ i = 14 ∨ i = 15 ∨ i = 16 := by omega
 rcases h with rfl | rfl | rfl | rfl | rfl | rfl | rfl | rfl | rfl | rfl | rfl | rfl | rfl | rfl | rfl | rfl | rfl <;> rfl
theorem tl_row (r : Rst) (v : Value) (z : Int) (k : Nat) : (r.row v z)[7 + k]? = r.h.tl[k]? := by
 rw [Nat.add_comm]
 simp [Rst.row]
end
section
variable {w w' : World} {S : List Nat} {b : Nat} {s : Sf} {L : List Cl} {X : List (List (List Cl))} {n : Int} {v lv : Value} {seq : Nat → Int} {rep : Nat → Rv} {i : Nat}
theorem TrS.seqC (h : TrS (stH seq rep) w S b s L X n v lv) (hi : i < 17) : w.cell? ⟨b, 7 + i * 5, none⟩ = some (.int .i64 (seq i)) := (cell_of_row _ _ _ _ _ _ h.m.h).trans ((tl_row _ _ _ _).trans (tl_seq hi))
theorem TrS.repC (h : TrS (stH seq rep) w S b s L X n v lv) (hi : i < 17) : w.cell? ⟨b, 7 + i * 5 + 1, none⟩ = some (.int .i64 (rep i).e) ∧ w.cell? ⟨b, 7 + i * 5 + 2, none⟩ = some (.bool (rep i).did) ∧ w.cell? ⟨b, 7 + i * 5 + 3, none⟩ = some (.string (rep i).value) ∧ w.cell? ⟨b, 7 + i * 5 + 4, none⟩ = some (.slice (rep i).a (rep i).n (rep i).c) := by
 obtain ⟨h1, h2, h3, h4⟩ := tl_rep (seq := seq) (rep := rep) hi
 refine ⟨?_, ?_, ?_, ?_⟩
 ·rw [Nat.add_assoc]; exact (cell_of_row _ _ _ _ _ _ h.m.h).trans ((tl_row _ _ _ _).trans h1)
 ·rw [Nat.add_assoc]; exact (cell_of_row _ _ _ _ _ _ h.m.h).trans ((tl_row _ _ _ _).trans h2)
 ·rw [Nat.add_assoc]; exact (cell_of_row _ _ _ _ _ _ h.m.h).trans ((tl_row _ _ _ _).trans h3)
 ·rw [Nat.add_assoc]; exact (cell_of_row _ _ _ _ _ _ h.m.h).trans ((tl_row _ _ _ _).trans h4)
theorem TrS.repAll (h : TrS (stH seq rep) w S b s L X n v lv) (hi : i < 17) : ∀ (k : Nat) (u : Value), (rpD.f (rep i))[k]? = some u → w.cell? ((⟨b, 7 + i * 5 + 1, none⟩ : Addr).add k) = some u := fun k u hu => by
 obtain ⟨h1, h2, h3, h4⟩ := h.repC hi
 rw [Addr.add_lit]
 match k, hu with
 | 0, hu => exact h1.trans hu
 | 1, hu => exact h2.trans hu
 | 2, hu => exact h3.trans hu
 | 3, hu => exact h4.trans hu
 | k + 4, hu => simp [Rv.cs] at hu
theorem TrS.turn {H H' : Hos} (h : TrS H w S b s L X n v lv) (hk : Kp [b] w w') (hr : w'.heap[b]? = some (.cells (Rst.row ⟨s.mem, s.block, s.fan, lv, n, H'⟩ v (szs L)) H'.T (0, 0))) : TrS H' w' S b s L X n v lv := by
 obtain ⟨us, ho, hl⟩ := h.o
 have hbS := h.bS
 refine ⟨⟨hr, h.m.own.keepN hk fun k hv hm => h.m.ne (by rw [hv, List.mem_singleton.1 hm]), h.m.ne⟩, ⟨us, ow_keepN ho hk fun k hv hm => h.nb (by rw [hv, List.mem_singleton.1 hm]), hl.keep hk (fun k hm => .inl (by rw [List.mem_singleton.1 hm]; exact hbS)) fun k hm => .inl hm⟩, h.nb, h.ap, h.sub, fun k hm => Nat.lt_of_lt_of_le (h.slt k hm) hk.size⟩
end
section
variable {w w' : World} {S M : List Nat} {b : Nat} {s : Sf} {t : Tr} {seq : Nat → Int} {rep : Nat → Rv} {i : Nat}
theorem TreeAt.bM {H : Hos} (h : TreeAt H w S M b s t) : b ∈ M := by
 obtain ⟨⟨v, lv, h1, rfl⟩, -⟩ := h
 exact mem_ownT.2 (.inl rfl)
theorem TreeAt.bS {H : Hos} (h : TreeAt H w S M b s t) : b ∈ S := by
 obtain ⟨⟨v, lv, h1, rfl⟩, -⟩ := h
 exact h1.bS
theorem TreeAt.blt {H : Hos} (h : TreeAt H w S M b s t) : b < w.heap.size := (tree_sub h b h.bM).2
theorem TreeAt.seqC (h : TreeAt (stH seq rep) w S M b s t) (hi : i < 17) : w.cell? ⟨b, 7 + i * 5, none⟩ = some (.int .i64 (seq i)) := by
 obtain ⟨⟨v, lv, h1, -⟩, -⟩ := h
 exact h1.seqC hi
theorem TreeAt.repAll (h : TreeAt (stH seq rep) w S M b s t) (hi : i < 17) : ∀ (k : Nat) (u : Value), (rpD.f (rep i))[k]? = some u → w.cell? ((⟨b, 7 + i * 5 + 1, none⟩ : Addr).add k) = some u := by
 obtain ⟨⟨v, lv, h1, -⟩, -⟩ := h
 exact h1.repAll hi
theorem TreeAt.fz {H : Hos} (h : TreeAt H w S M b s t) (k : Nat) : w.frozen? ⟨b, k, none⟩ = false := by
 obtain ⟨⟨v, lv, h1, -⟩, -⟩ := h
 exact h1.fz k
theorem TreeAt.setSeq (h : TreeAt (stH seq rep) w S M b s t) (hi : i < 17) (x : Int) : TreeAt (stH (upd seq i x) rep) (w.setCell ⟨b, 7 + i * 5, none⟩ (.int .i64 x)) S M b s t ∧ Kp [b] w (w.setCell ⟨b, 7 + i * 5, none⟩ (.int .i64 x)) := by
 obtain ⟨⟨v, lv, h1, h2⟩, hf⟩ := h
 have hk : Kp [b] w (w.setCell ⟨b, 7 + i * 5, none⟩ (.int .i64 x)) := Kp.set w (S := [b]) (p := ⟨b, 7 + i * 5, none⟩) (by simp) _
 refine ⟨⟨⟨v, lv, h1.turn hk ?_, h2⟩, hf⟩, hk⟩
 rw [heap_setCell_same w b _ _ _ (.int .i64 x) h1.m.h, tl_setSeq _ _ _ _ _ _ _ hi]
theorem TreeAt.openRep (h : TreeAt (stH seq rep) w S M b s t) (hi : i < 17) : ∃ cur, w.heap[b]? = some (.cells cur 63 (0, 0)) ∧ 7 + i * 5 + 1 + 4 ≤ cur.size ∧ ∀ (r : Rv) (w' : World), St.Turned 63 b (St.cpd cur (7 + i * 5 + 1) (rpD.f r).toList) w w' → TreeAt (stH seq (upd rep i r)) w' S M b s t ∧ Kp [b] w w' := by
 obtain ⟨⟨v, lv, h1, h2⟩, hf⟩ := h
 refine ⟨_, h1.m.h, ?_, fun r w' ht => ?_⟩
 ·show 7 + i * 5 + 1 + 4 ≤ 92
  omega
 ·have hk : Kp [b] w w' := Kp.grown (S := [b]) ht.grown fun k e => by injection e with e; simp [e]
  refine ⟨⟨⟨v, lv, h1.turn hk ?_, h2⟩, hf⟩, hk⟩
  rw [ht.i]
  exact congrArg (fun c => some (Obj.cells c 63 (0, 0))) (tl_setRep _ _ _ _ _ _ _ hi r)
end
structure RpOw (w : World) (B : Nat) (r : Rv) (R : Rp) : Prop where
 e : r.e = R.e
 did : r.did = R.did
 value : r.value = R.value
 cells : OwL w B (.slice r.a r.n r.c) R.cells
theorem RpOw.is {w : World} {B : Nat} {r : Rv} {R : Rp} (h : RpOw w B r R) {S : List Nat} (hS : ∀ k ∈ S, k < B) : RpIs w S r R := ⟨h.e, h.did, h.value, h.cells.rd hS⟩
theorem RpOw.up {w w' : World} {B : Nat} {r : Rv} {R : Rp} (h : RpOw w B r R) (hb : Below w.heap.size w w') : RpOw w' B r R := ⟨h.e, h.did, h.value, h.cells.below hb⟩
theorem RpOw.mono {w : World} {B B' : Nat} {r : Rv} {R : Rp} (h : RpOw w B r R) (hb : B' ≤ B) : RpOw w B' r R := ⟨h.e, h.did, h.value, h.cells.mono hb⟩
theorem own_set {g n k : Nat} {A : Option Addr} {r : Rv} {w : World} (h : rpD.In g r w) : rpD.Set g ⟨r.e, r.did, r.value, A, n, k⟩ w (w.setCell ⟨g, 3, none⟩ (.slice A n k)) :=
 St.Sp.Set.part (D := rpD) (x := r) (y := (⟨r.e, r.did, r.value, A, n, k⟩ : Rv)) (i := 3) h (by simp [Rv.cs])
theorem rv_c3 {g : Nat} {r : Rv} {w : World} (h : rpD.In g r w) : w.cell? ⟨g, 3, none⟩ = some (.slice r.a r.n r.c) := h.at_ rfl
theorem own_any (r : Rv) (R : Rp) (w : World) (h : RpIs w [] r R) (hl : R.cells.length ≤ 1000000) :
  Calls Tryz.prog 27 #[r.v] w fun e w' => (∃ r', e = .returned r'.v ∧ RpOw w' w.heap.size r' R) ∧ Below w.heap.size w w' := by
 have HC := Lib.hid h.cells
 have HE := Lib.hid h.e
 have HD := Lib.hid h.did
 have HV := Lib.hid h.value
 clear h
 go_enter Tryz.func27, Tryz.ntmps27
 go_wp2_with (refine St.box rpD rfl (.tmp 0) r rfl rfl ?_)
 constructor
 intro w1 hI1 hb1 hz1
 clear hz1
 go_wp2_with (refine St.alloc rpOk rfl rfl ?_)
 constructor
 intro w2 hJ2 hb2 hz2
 clear hz2
 have HI2 := Lib.hid (hI1.up hb2)
 have HJ2 := Lib.hid hJ2
 have HL := Lib.hid hI1.lt
 have HB2 := Lib.hid (bwstep hb1 hb2)
 have c3 := rv_c3 HI2.out
 have f3 := HI2.out.fz 3
 have hrd := HC.out.bel HB2.out
 have hnl := OwL.nil w2 w2.heap.size
 clear hI1 hb1 hb2 hJ2
 go_wp2_with (first
  | (at_builtin; refine wpList_appL rfl (.const (.slice none 0 0)) (.tmp 4) rfl rfl hnl rfl hrd (by simp; omega) (Nat.le_refl _) ?_; intro v3 w3 ho3 hg3 _; rw [List.nil_append] at ho3; obtain ⟨A3, k3, rfl, -, -⟩ := (ho3.rd (S := []) (fun _ h => by cases h)).shape; have hb3 := (Below.refl w2.heap.size w2).grown hg3 (Nat.le_refl _) (fun k hk => (hnl.lt k hk).1); have HI3 := Lib.hid (HI2.out.up hb3); have HJ3 := Lib.hid (HJ2.out.up hb3); have c3 := rv_c3 HI3.out; have f3 := HI3.out.fz 3; have hS := own_set (A := A3) (n := R.cells.length) (k := k3) HI3.out; have hI4 := hS.i; have HJ4 := Lib.hid (hS.up HJ3.out (Nat.ne_of_gt HL.out)); have HS := Lib.hid hS; clear hS; have HO3 := Lib.hid ho3; have HB3 := Lib.hid (bwstep HB2.out hb3); clear ho3 hb3 hg3 hrd)
  | (refine St.store rpOk (c := ⟨r.e, r.did, r.value, A3, R.cells.length, k3⟩) rfl (.tmp 2) (.tmp 7) rfl rfl rfl HJ4.out ?_)
  | (refine St.load rpOk (c := ⟨r.e, r.did, r.value, A3, R.cells.length, k3⟩) rfl (.tmp 1) rfl rfl hI4 ?_))
 constructor
 intro w5 hs5
 have HB4 := Lib.hid (HS.out.bel HB3.out (Nat.le_refl _))
 have HB5 := Lib.hid (hs5.bel HB4.out (Nat.le_of_lt HL.out))
 have HO5 : Hid (OwL w5 w.heap.size (.slice A3 R.cells.length k3) R.cells) := Lib.hid (((HO3.out.keepN (Kp.set w3 (S := [w.heap.size]) (p := ⟨w.heap.size, 3, none⟩) (by simp) _) fun k hk hm => ?_).keepN (St.Sp.Set.kp hs5 (S := [w1.heap.size]) (by simp)) fun k hk hm => ?_).mono HB2.out.size)
 ·go_wp2_with fail
  exact bodyPost_ret (St.res1 rpOk Tryz.results27 rfl hs5.i) rfl ⟨⟨⟨r.e, r.did, r.value, A3, R.cells.length, k3⟩, rfl, HE.out, HD.out, HV.out, HO5.out⟩, HB5.out⟩
 ·have := (HO3.out.lt k hk).1
  rw [List.mem_singleton.1 hm] at this
  have := HI2.out.lt
  omega
 ·have := (HO3.out.lt k hk).1
  rw [List.mem_singleton.1 hm] at this
  have := HJ2.out.lt
  omega
end Go.Proofs.YtcpkhhbbjimdaaaGreatDoor.Ce
namespace Go.Proofs.YtcpkhhbbjimdaaaGreatDoor.Ce
open Go.RowKit
def deedV (f : FuncId) : Value := .agg #[.func (.func f) #[] #[]]
def deedE (k : Nat) (f : FuncId) : MapEntry := { key := .int .i64 ((k + 1 : Nat) : Int), val := deedV f, born := k }
def deedsA : Array MapEntry := #[deedE 0 39, deedE 1 40, deedE 2 41, deedE 3 42, deedE 4 43]
structure DeedM (w0 w : World) (n : Nat) : Prop where
 h : w.heap[w0.heap.size]? = some (.map (deedsA.take n) n)
 b : Below w0.heap.size w0 w
 z : w.heap.size = w0.heap.size + 1
theorem deed_none (n : Nat) (hn : n < 5) : Instr.findNow (.int .i64) (.int .i64 ((n + 1 : Nat) : Int)) (deedsA.take n).toList 0 = some none := by
 match n, hn with
 | 0, _ => rfl
 | 1, _ => rfl
 | 2, _ => rfl
 | 3, _ => rfl
 | 4, _ => rfl
theorem deed_push (n : Nat) (hn : n < 5) {f : FuncId} (hf : deedsA[n]? = some (deedE n f)) : (deedsA.take n).push (deedE n f) = deedsA.take (n + 1) := by
 match n, hn with
 | 0, _ => injection hf with hf; rw [← hf]; rfl
 | 1, _ => injection hf with hf; rw [← hf]; rfl
 | 2, _ => injection hf with hf; rw [← hf]; rfl
 | 3, _ => injection hf with hf; rw [← hf]; rfl
 | 4, _ => injection hf with hf; rw [← hf]; rfl
theorem wpList_deed {w0 w : World} {ops : Array Oper} {rest : List Oper} {o : Oper} {a : Act} {Q : Exit → Act → World → Prop} (n : Nat) (f : FuncId) (h : DeedM w0 w n) (hn : n < 5) (hf : deedsA[n]? = some (deedE n f)) (hgd : o.guard = none) (m k v : Operand)
  (ho : o.op = .insert 76 m k v) (hm : a.eval m = .map (some w0.heap.size)) (hk : a.eval k = .int .i64 ((n + 1 : Nat) : Int)) (hv : a.eval v = deedV f)
  (hh : ∀ w', DeedM w0 w' (n + 1) → wpList Tryz.prog ops Q rest (a.put o.dst undef) w') : wpList Tryz.prog ops Q (o :: rest) a w := by
 refine wpList_plain hgd fun K hK => ?_
 have hc : (Instr.checkKey false 10000 3 (.int .i64 ((n + 1 : Nat) : Int))).run Tryz.prog w = .ok () w := MapKept.run_checkKey (k := .int .i64 ((n + 1 : Nat) : Int)) Tryz.underlying3 (by simp [MapKept.IsKey]) false 9999
 unfold Oper.wp execOp
 simp only [ho, hm, hk, hv, Sem.run_bind, Sem.run_pure, Instr.mapUpdate, run_underlying Tryz.underlying76, MapKept.run_getObj_map h.h, hc, MapKept.run_findKey Tryz.underlying3 (deed_none n hn), MapKept.run_setObj_map _ h.h, Result.andThen_ok]
 refine hK _ _ (hh _ ⟨?_, ?_, ?_⟩)
 ·rw [← deed_push n hn hf]
  exact (MapKept.heap_set h.h).1
 ·refine h.b.trans ⟨rfl, rfl, rfl, by simp, fun k hk => (MapKept.heap_set h.h).2 k (by omega)⟩
 ·simp [h.z]
theorem deeds_any (w : World) : Calls Tryz.prog 28 #[] w fun e w' => e = .returned (.map (some w.heap.size)) ∧ w'.heap[w.heap.size]? = some (.map deedsA 5) ∧ Below w.heap.size w w' ∧ w'.heap.size = w.heap.size + 1 := by
 have hmm := @run_makeMap Tryz.prog
 have H0 : Hid (DeedM w (w.alloc (.map #[] 0)) 0) := Lib.hid ⟨heap_alloc_new _ _, bwalloc (bwrefl w) _, by simp⟩
 go_enter Tryz.func28, Tryz.ntmps28
 go_wp2_with (first
  | (refine wpList_deed 0 _ H0.out (by omega) rfl rfl (.tmp 1) _ (.tmp 2) rfl rfl rfl rfl ?_; intro w1 h1; have H1 := Lib.hid h1; clear h1)
  | (refine wpList_deed 1 _ H1.out (by omega) rfl rfl (.tmp 1) _ (.tmp 3) rfl rfl rfl rfl ?_; intro w2 h2; have H2 := Lib.hid h2; clear h2)
  | (refine wpList_deed 2 _ H2.out (by omega) rfl rfl (.tmp 1) _ (.tmp 4) rfl rfl rfl rfl ?_; intro w3 h3; have H3 := Lib.hid h3; clear h3)
  | (refine wpList_deed 3 _ H3.out (by omega) rfl rfl (.tmp 1) _ (.tmp 5) rfl rfl rfl rfl ?_; intro w4 h4; have H4 := Lib.hid h4; clear h4)
  | (refine wpList_deed 4 _ H4.out (by omega) rfl rfl (.tmp 1) _ (.tmp 6) rfl rfl rfl rfl ?_; intro w5 h5; have H5 := Lib.hid h5; clear h5))
 go_ret
 exact ⟨rfl, H5.out.h, H5.out.b, H5.out.z⟩
theorem deed_find {n : Nat} (hn : n < 5) {f : FuncId} (hf : deedsA[n]? = some (deedE n f)) : Instr.findNow (.int .i64) (.int .i64 ((n + 1 : Nat) : Int)) deedsA.toList 0 = some (some (n, deedV f)) := by
 have e : ∀ k g, deedsA[n]? = some (deedE k g) → deedV g = deedV f := fun k g h => by
  rw [h] at hf
  injection hf with hf
  exact congrArg MapEntry.val hf
 match n, hn with
 | 0, _ => rw [← e 0 _ rfl]; rfl
 | 1, _ => rw [← e 1 _ rfl]; rfl
 | 2, _ => rw [← e 2 _ rfl]; rfl
 | 3, _ => rw [← e 3 _ rfl]; rfl
 | 4, _ => rw [← e 4 _ rfl]; rfl
theorem run_deed {w : World} {b : Nat} (h : w.heap[b]? = some (.map deedsA 5)) {n : Nat} (hn : n < 5) {f : FuncId} (hf : deedsA[n]? = some (deedE n f)) :
  (Instr.lookup 76 (.map (some b)) (.int .i64 ((n + 1 : Nat) : Int)) false).run Tryz.prog w = .ok (deedV f) w := by
 have hc : (Instr.checkKey (Array.isEmpty deedsA) 10000 3 (.int .i64 ((n + 1 : Nat) : Int))).run Tryz.prog w = .ok () w := MapKept.run_checkKey (k := .int .i64 ((n + 1 : Nat) : Int)) Tryz.underlying3 (by simp [MapKept.IsKey]) _ 9999
 simp only [Instr.lookup, Sem.run_bind, Sem.run_pure, Result.andThen_ok, run_underlying Tryz.underlying76, MapKept.run_getObj_map h, hc, MapKept.run_findKey Tryz.underlying3 (deed_find hn hf)]
 rfl
end Go.Proofs.YtcpkhhbbjimdaaaGreatDoor.Ce
namespace Go.Proofs.YtcpkhhbbjimdaaaGreatDoor.Ce
open Go.RowKit
variable {H : Hos}
abbrev shf : Sf := ⟨200, 100, 3⟩
def Cm.gone (c : Cm) : Cl := ⟨c.row, c.col, c.at_, ⟨#[]⟩, true⟩
theorem TreeAt.up {w w' : World} {S M : List Nat} {b : Nat} {s : Sf} {t : Tr} (h : TreeAt H w S M b s t) (hb : Below w.heap.size w w') : TreeAt H w' S M b s t :=
 tree_keep h (Kp.of_below hb []) (by simp) (fun _ h => .inl h) (fun k hk => (tree_sub h k hk).1) fun k hk => Nat.lt_of_lt_of_le (tree_slt h k hk) hb.size
theorem TreeAt.more {w w' : World} {S M : List Nat} {b : Nat} {s : Sf} {t : Tr} (h : TreeAt H w S M b s t) (hb : Below w.heap.size w w') (N : List Nat) (hN : ∀ k ∈ N, w.heap.size ≤ k ∧ k < w'.heap.size) : TreeAt H w' (N ++ S) M b s t := by
 refine tree_keep h (Kp.of_below hb []) (by simp) (fun k hk => ?_) (fun k hk => by simp [(tree_sub h k hk).1]) fun k hk => ?_
 ·rcases List.mem_append.1 hk with q | q
  ·exact .inr (hN k q).1
  ·exact .inl q
 ·rcases List.mem_append.1 hk with q | q
  ·exact (hN k q).2
  ·exact Nat.lt_of_lt_of_le (tree_slt h k q) hb.size
theorem TreeAt.done {w wc w3 w4 : World} {N S M M' : List Nat} {b : Nat} {s : Sf} {t : Tr} (hb : Below w.heap.size w wc) (hN : ∀ k ∈ N, w.heap.size ≤ k ∧ k < wc.heap.size) (hlt : ∀ k ∈ M, k < w.heap.size) (hA : TreeAt H w3 (M' ++ (N ++ S)) M' b s t) (hK : Kp M wc w3) (hM : ∀ k ∈ M', k ∈ M ∨ wc.heap.size ≤ k) (hs : Kp N w3 w4) :
  TreeAt H w4 (M' ++ S) M' b s t ∧ Kp M w w4 ∧ ∀ k ∈ M', k ∈ M ∨ w.heap.size ≤ k := by
 refine ⟨tree_keep hA hs (fun k hk => .inl ⟨by simp [hk], fun hm => ?_⟩) (fun k hk => .inl ?_) (fun k hk => by simp [hk]) (fun k hk => Nat.lt_of_lt_of_le (tree_slt hA k ?_) hs.size), ((Kp.of_below hb M).trans hK fun k hk => .inl hk).trans hs fun k hk => .inr (hN k hk).1, fun k hk => (hM k hk).imp id fun h => Nat.le_trans hb.size h⟩
 ·rcases hM k hm with q | q
  ·have := hlt k q; have := (hN k hk).1; omega
  ·have := (hN k hk).2; omega
 ·rcases List.mem_append.1 hk with q | q <;> simp [q]
 ·rcases List.mem_append.1 hk with q | q <;> simp [q]
def PutEndS (H : Hos) (w : World) (S M : List Nat) (b : Nat) (r : Rv) (t : Tr) (e : Ending) (w' : World) : Prop :=
 ∃ M', e = .returned r.v ∧ TreeAt H w' (M' ++ S) M' b shf t ∧ Kp M w w' ∧ ∀ k ∈ M', k ∈ M ∨ w.heap.size ≤ k
theorem sput_of {c : Cm} {g4 g3 : Nat} {z : World} (h : cmD.In g3 c z) (q : ∃ r0, rpD.In g4 r0 z) : cmD.In g3 c z ∧ z.cell? ⟨g3, 3, none⟩ = some (.string c.row) ∧ z.cell? ⟨g3, 4, none⟩ = some (.string c.col) ∧ z.cell? ⟨g3, 6, none⟩ = some (.int .i64 c.at_) ∧ z.cell? ⟨g3, 7, none⟩ = some (.string c.value) ∧ (∃ r0, rpD.In g4 r0 z) :=
 have a := CmAt.of h
 ⟨h, a.c3, a.c4, a.c6, a.c7, q⟩
theorem sput_any {w : World} {S M : List Nat} {b : Nat} {t : Tr} {K : List Cl} (c : Cm) (h : TreeAt H w S M b shf t) (hg : GoodT shf t K) (hf : c.cell.ok → FitsK (c.cell :: K)) :
  Calls Tryz.prog 39 #[.pointer (some ⟨b, 0, none⟩), c.v] w (PutEndS H w S M b ⟨t.code c.cell, false, ⟨#[]⟩, none, 0, 0⟩ (t.after shf c.cell)) := by
 have HP : Hid (∀ W S', TreeAt H W S' M b shf t → Calls Tryz.prog 53 #[.pointer (some ⟨b, 0, none⟩), c.cell.v] W fun e w' => ∃ M', e = .returned (.int .i64 (t.code c.cell)) ∧ TreeAt H w' (M' ++ S') M' b shf (t.after shf c.cell) ∧ Kp M W w' ∧ ∀ k ∈ M', k ∈ M ∨ W.heap.size ≤ k) := Lib.hid fun W S' hW => tree_put _ hW hg hf
 have HLT : Hid (∀ k ∈ M, k < w.heap.size) := Lib.hid fun k hk => (tree_sub h k hk).2
 have HT := Lib.hid h
 generalize t.code c.cell = n at *
 generalize t.after shf c.cell = t' at *
 clear h hg hf
 go_enter Tryz.func39, Tryz.ntmps39
 go_wp2_with (refine St.box cmD rfl (.tmp 1) c rfl rfl ?_)
 constructor
 intro w1 hI1 hb1 hz1
 clear hz1
 go_wp2_with (refine St.alloc rpOk rfl rfl ?_)
 constructor
 intro w2 hJ2 hb2 hz2
 clear hz2
 have hd : Below w2.heap.size w2 w2.drew := (Below.refl _ _).drew
 have HL1 := Lib.hid hI1.lt
 have HL2 := Lib.hid hJ2.lt
 have HB := Lib.hid (bwstep (bwstep hb1 hb2) hd)
 have HN : Hid (∀ k ∈ [w.heap.size, w1.heap.size], w.heap.size ≤ k ∧ k < w2.drew.heap.size) := Lib.hid fun k hk => by
  have h1 := HL1.out
  have h2 := HL2.out
  have h3 := hd.size
  simp only [List.mem_cons, List.not_mem_nil, or_false] at hk
  rcases hk with rfl | rfl
  ·exact ⟨Nat.le_refl _, by omega⟩
  ·exact ⟨by omega, by omega⟩
 have HT2 := Lib.hid (HT.out.more HB.out _ HN.out)
 have HIJ := Lib.hid (sput_of ((hI1.up hb2).up hd) ⟨_, hJ2.up hd⟩)
 clear hI1 hJ2 hb1 hb2
 go_wp2_with fail
 refine wp_region_held_drew (S := fun z => cmD.In w.heap.size c z ∧ z.cell? ⟨w.heap.size, 3, none⟩ = some (.string c.row) ∧ z.cell? ⟨w.heap.size, 4, none⟩ = some (.string c.col) ∧ z.cell? ⟨w.heap.size, 6, none⟩ = some (.int .i64 c.at_) ∧ z.cell? ⟨w.heap.size, 7, none⟩ = some (.string c.value) ∧ (∃ r0, rpD.In w1.heap.size r0 z)) (by kernel_rfl) HIJ.out (fun hHeld => ?_)
 refine takeL 0 (h := ?_)
 refine takeL 1 (h := ?_)
 refine takeL 2 (h := ?_)
 refine takeL 3 (h := ?_)
 refine takeL 4 (h := ?_)
 refine takeL 5 (h := ?_)
 refine takeL 6 (h := ?_)
 refine takeL 7 (h := ?_)
 refine takeL 8 (h := ?_)
 refine takeL 9 (h := ?_)
 refine takeL 10 (h := ?_)
 refine takeL 11 (h := ?_)
 refine wpAnyH_ready (rs := [12]) (by kernel_rfl) (by simp) ?_
 refine AllReadyH.cons (o := _) (by simp only [List.getElem?_toArray, List.getElem?_cons_succ, List.getElem?_cons_zero]; rfl) (fun K hK => ?_) AllReadyH.nil
 go_simp
 go_at_call 53
 refine (HP.out _ _ HT2.out).mono ?_
 rintro e w3 ⟨M', rfl, hA, hP, hM⟩
 have hne : ∀ g ∈ [w.heap.size, w1.heap.size], g ∉ M := fun g hg hm => by have := HLT.out g hm; have := (HN.out g hg).1; omega
 have hI3 : cmD.In w.heap.size c w3 := ⟨(hP.block _ (HN.out _ (by simp)).2 (hne _ (by simp))).trans hHeld.1.h⟩
 have hJ3 : ∃ r0, rpD.In w1.heap.size r0 w3 := hHeld.2.2.2.2.2.elim fun r0 q => ⟨r0, ⟨(hP.block _ (HN.out _ (by simp)).2 (hne _ (by simp))).trans q.h⟩⟩
 have HA := Lib.hid hA
 have HK := Lib.hid hP
 have HM := Lib.hid hM
 refine hK.out _ _ (sput_of hI3 hJ3) (fun hHeld => ?_)
 clear hA hP hM hne hI3 hJ3 hK K
 ((try simp only [Act.put]); (try simp only [List.setIfInBounds_toArray]); (try simp only [List.set_cons_succ]); (try simp only [List.set_cons_zero]))
 refine takeL 13 (h := ?_)
 refine wpAnyH_ready (rs := [14]) (by kernel_rfl) (by simp) ?_
 refine AllReadyH.cons (o := _) (by simp only [List.getElem?_toArray, List.getElem?_cons_succ, List.getElem?_cons_zero]; rfl) (fun K hK => ?_) AllReadyH.nil
 rw [if_pos (by rfl)]
 obtain ⟨r0, hr0⟩ := hHeld.2.2.2.2.2
 refine St.wp_storeS rpOk (c := ⟨n, false, ⟨#[]⟩, none, 0, 0⟩) (c0 := r0) (.tmp 4) (.tmp 18) rfl rfl rfl hr0 ?_
 intro w4 hs4
 have HE := Lib.hid (TreeAt.done HB.out HN.out HLT.out HA.out HK.out HM.out (St.Sp.Set.kp hs4 (S := [w.heap.size, w1.heap.size]) (by simp)))
 have HR := Lib.hid hs4.i
 refine hK.out _ _ (sput_of (hs4.up hHeld.1 (Nat.ne_of_lt HL1.out)) ⟨_, hs4.i⟩) (fun hHeld => ?_)
 clear hK K hs4
 ((try simp only [Act.put]); (try simp only [List.setIfInBounds_toArray]); (try simp only [List.set_cons_succ]); (try simp only [List.set_cons_zero]))
 refine wpAnyH_done (by kernel_rfl) ?_ _
 clear hHeld
 go_wp2_with fail
 exact bodyPost_ret (St.res1 rpOk Tryz.results39 rfl HR.out) rfl ⟨M', rfl, HE.out⟩
theorem srem_of {c : Cm} {g4 g3 : Nat} {z : World} (h : cmD.In g3 c z) (q : ∃ r0, rpD.In g4 r0 z) : cmD.In g3 c z ∧ z.cell? ⟨g3, 3, none⟩ = some (.string c.row) ∧ z.cell? ⟨g3, 4, none⟩ = some (.string c.col) ∧ z.cell? ⟨g3, 6, none⟩ = some (.int .i64 c.at_) ∧ (∃ r0, rpD.In g4 r0 z) :=
 have a := CmAt.of h
 ⟨h, a.c3, a.c4, a.c6, q⟩
theorem srem_any {w : World} {S M : List Nat} {b : Nat} {t : Tr} {K : List Cl} (c : Cm) (h : TreeAt H w S M b shf t) (hg : GoodT shf t K) (hf : c.gone.ok → FitsK (c.gone :: K)) :
  Calls Tryz.prog 40 #[.pointer (some ⟨b, 0, none⟩), c.v] w (PutEndS H w S M b ⟨t.code c.gone, false, ⟨#[]⟩, none, 0, 0⟩ (t.after shf c.gone)) := by
 have HP : Hid (∀ W S', TreeAt H W S' M b shf t → Calls Tryz.prog 53 #[.pointer (some ⟨b, 0, none⟩), c.gone.v] W fun e w' => ∃ M', e = .returned (.int .i64 (t.code c.gone)) ∧ TreeAt H w' (M' ++ S') M' b shf (t.after shf c.gone) ∧ Kp M W w' ∧ ∀ k ∈ M', k ∈ M ∨ W.heap.size ≤ k) := Lib.hid fun W S' hW => tree_put _ hW hg hf
 have HLT : Hid (∀ k ∈ M, k < w.heap.size) := Lib.hid fun k hk => (tree_sub h k hk).2
 have HT := Lib.hid h
 generalize t.code c.gone = n at *
 generalize t.after shf c.gone = t' at *
 clear h hg hf
 go_enter Tryz.func40, Tryz.ntmps40
 go_wp2_with (refine St.box cmD rfl (.tmp 1) c rfl rfl ?_)
 constructor
 intro w1 hI1 hb1 hz1
 clear hz1
 go_wp2_with (refine St.alloc rpOk rfl rfl ?_)
 constructor
 intro w2 hJ2 hb2 hz2
 clear hz2
 have hd : Below w2.heap.size w2 w2.drew := (Below.refl _ _).drew
 have HL1 := Lib.hid hI1.lt
 have HL2 := Lib.hid hJ2.lt
 have HB := Lib.hid (bwstep (bwstep hb1 hb2) hd)
 have HN : Hid (∀ k ∈ [w.heap.size, w1.heap.size], w.heap.size ≤ k ∧ k < w2.drew.heap.size) := Lib.hid fun k hk => by
  have h1 := HL1.out
  have h2 := HL2.out
  have h3 := hd.size
  simp only [List.mem_cons, List.not_mem_nil, or_false] at hk
  rcases hk with rfl | rfl
  ·exact ⟨Nat.le_refl _, by omega⟩
  ·exact ⟨by omega, by omega⟩
 have HT2 := Lib.hid (HT.out.more HB.out _ HN.out)
 have HIJ := Lib.hid (srem_of ((hI1.up hb2).up hd) ⟨_, hJ2.up hd⟩)
 clear hI1 hJ2 hb1 hb2
 go_wp2_with fail
 refine wp_region_held_drew (S := fun z => cmD.In w.heap.size c z ∧ z.cell? ⟨w.heap.size, 3, none⟩ = some (.string c.row) ∧ z.cell? ⟨w.heap.size, 4, none⟩ = some (.string c.col) ∧ z.cell? ⟨w.heap.size, 6, none⟩ = some (.int .i64 c.at_) ∧ (∃ r0, rpD.In w1.heap.size r0 z)) (by kernel_rfl) HIJ.out (fun hHeld => ?_)
 refine takeL 0 (h := ?_)
 refine takeL 1 (h := ?_)
 refine takeL 2 (h := ?_)
 refine takeL 3 (h := ?_)
 refine takeL 4 (h := ?_)
 refine takeL 5 (h := ?_)
 refine takeL 6 (h := ?_)
 refine takeL 7 (h := ?_)
 refine takeL 8 (h := ?_)
 refine takeL 9 (h := ?_)
 refine wpAnyH_ready (rs := [10]) (by kernel_rfl) (by simp) ?_
 refine AllReadyH.cons (o := _) (by simp only [List.getElem?_toArray, List.getElem?_cons_succ, List.getElem?_cons_zero]; rfl) (fun K hK => ?_) AllReadyH.nil
 go_simp
 go_at_call 53
 refine (HP.out _ _ HT2.out).mono ?_
 rintro e w3 ⟨M', rfl, hA, hP, hM⟩
 have hne : ∀ g ∈ [w.heap.size, w1.heap.size], g ∉ M := fun g hg hm => by have := HLT.out g hm; have := (HN.out g hg).1; omega
 have hI3 : cmD.In w.heap.size c w3 := ⟨(hP.block _ (HN.out _ (by simp)).2 (hne _ (by simp))).trans hHeld.1.h⟩
 have hJ3 : ∃ r0, rpD.In w1.heap.size r0 w3 := hHeld.2.2.2.2.elim fun r0 q => ⟨r0, ⟨(hP.block _ (HN.out _ (by simp)).2 (hne _ (by simp))).trans q.h⟩⟩
 have HA := Lib.hid hA
 have HK := Lib.hid hP
 have HM := Lib.hid hM
 refine hK.out _ _ (srem_of hI3 hJ3) (fun hHeld => ?_)
 clear hA hP hM hne hI3 hJ3 hK K
 ((try simp only [Act.put]); (try simp only [List.setIfInBounds_toArray]); (try simp only [List.set_cons_succ]); (try simp only [List.set_cons_zero]))
 refine takeL 11 (h := ?_)
 refine wpAnyH_ready (rs := [12]) (by kernel_rfl) (by simp) ?_
 refine AllReadyH.cons (o := _) (by simp only [List.getElem?_toArray, List.getElem?_cons_succ, List.getElem?_cons_zero]; rfl) (fun K hK => ?_) AllReadyH.nil
 rw [if_pos (by rfl)]
 obtain ⟨r0, hr0⟩ := hHeld.2.2.2.2
 refine St.wp_storeS rpOk (c := ⟨n, false, ⟨#[]⟩, none, 0, 0⟩) (c0 := r0) (.tmp 4) (.tmp 16) rfl rfl rfl hr0 ?_
 intro w4 hs4
 have HE := Lib.hid (TreeAt.done HB.out HN.out HLT.out HA.out HK.out HM.out (St.Sp.Set.kp hs4 (S := [w.heap.size, w1.heap.size]) (by simp)))
 have HR := Lib.hid hs4.i
 refine hK.out _ _ (srem_of (hs4.up hHeld.1 (Nat.ne_of_lt HL1.out)) ⟨_, hs4.i⟩) (fun hHeld => ?_)
 clear hK K hs4
 ((try simp only [Act.put]); (try simp only [List.setIfInBounds_toArray]); (try simp only [List.set_cons_succ]); (try simp only [List.set_cons_zero]))
 refine wpAnyH_done (by kernel_rfl) ?_ _
 clear hHeld
 go_wp2_with fail
 exact bodyPost_ret (St.res1 rpOk Tryz.results40 rfl HR.out) rfl ⟨M', rfl, HE.out⟩
theorem sget_of {c : Cm} {g4 g3 : Nat} {z : World} (h : cmD.In g3 c z) (q : ∃ r0, rpD.In g4 r0 z) : cmD.In g3 c z ∧ z.cell? ⟨g3, 3, none⟩ = some (.string c.row) ∧ z.cell? ⟨g3, 4, none⟩ = some (.string c.col) ∧ z.cell? ⟨g3, 6, none⟩ = some (.int .i64 c.at_) ∧ (∃ r0, rpD.In g4 r0 z) :=
 have a := CmAt.of h
 ⟨h, a.c3, a.c4, a.c6, q⟩
theorem sget_any {w : World} {S M : List Nat} {b : Nat} {t : Tr} {K : List Cl} (c : Cm) (h : TreeAt H w S M b shf t) (hg : GoodT shf t K) (hr : c.row.size ≤ 1000000) (hc : c.col.size ≤ 1000000) :
  Calls Tryz.prog 42 #[.pointer (some ⟨b, 0, none⟩), c.v] w fun e w' => e = .returned (Rv.v ⟨0, getB t c.row c.col c.at_, getV t c.row c.col c.at_, none, 0, 0⟩) ∧ Below w.heap.size w w' := by
 have HLT : Hid (∀ k ∈ M, k < w.heap.size) := Lib.hid fun k hk => (tree_sub h k hk).2
 have HT := Lib.hid h
 have HG : Hid (∀ W S0, TreeAt H W (S0) M b shf t → Calls Tryz.prog 54 #[.pointer (some ⟨b, 0, none⟩), .string c.row, .string c.col, .int .i64 c.at_] W fun e w' => e = .returned (.tuple #[.string (getV t c.row c.col c.at_), .bool (getB t c.row c.col c.at_)]) ∧ Below W.heap.size W w') := Lib.hid fun W S0 hW => tree_get _ _ _ hW hg hr hc
 generalize getV t c.row c.col c.at_ = v at *
 generalize getB t c.row c.col c.at_ = q at *
 clear h hg hr hc
 go_enter Tryz.func42, Tryz.ntmps42
 go_wp2_with (refine St.box cmD rfl (.tmp 1) c rfl rfl ?_)
 constructor
 intro w1 hI1 hb1 hz1
 clear hz1
 go_wp2_with (refine St.alloc rpOk rfl rfl ?_)
 constructor
 intro w2 hJ2 hb2 hz2
 clear hz2
 have hd : Below w2.heap.size w2 w2.drew := (Below.refl _ _).drew
 have HL1 := Lib.hid hI1.lt
 have HL2 := Lib.hid hJ2.lt
 have HB := Lib.hid (bwstep (bwstep hb1 hb2) hd)
 have HN : Hid (∀ k ∈ [w.heap.size, w1.heap.size], w.heap.size ≤ k ∧ k < w2.drew.heap.size) := Lib.hid fun k hk => by
  have h1 := HL1.out
  have h2 := HL2.out
  have h3 := hd.size
  simp only [List.mem_cons, List.not_mem_nil, or_false] at hk
  rcases hk with rfl | rfl
  ·exact ⟨Nat.le_refl _, by omega⟩
  ·exact ⟨by omega, by omega⟩
 have HT2 := Lib.hid (HT.out.more HB.out _ HN.out)
 have HIJ := Lib.hid (sget_of ((hI1.up hb2).up hd) ⟨_, hJ2.up hd⟩)
 clear hI1 hJ2 hb1 hb2
 go_wp2_with fail
 refine wp_region_held_drew (S := fun z => cmD.In w.heap.size c z ∧ z.cell? ⟨w.heap.size, 3, none⟩ = some (.string c.row) ∧ z.cell? ⟨w.heap.size, 4, none⟩ = some (.string c.col) ∧ z.cell? ⟨w.heap.size, 6, none⟩ = some (.int .i64 c.at_) ∧ (∃ r0, rpD.In w1.heap.size r0 z)) (by kernel_rfl) HIJ.out (fun hHeld => ?_)
 refine takeL 0 (h := ?_)
 refine takeL 1 (h := ?_)
 refine takeL 2 (h := ?_)
 refine takeL 3 (h := ?_)
 refine takeL 4 (h := ?_)
 refine takeL 5 (h := ?_)
 refine takeL 6 (h := ?_)
 refine takeL 7 (h := ?_)
 refine takeL 8 (h := ?_)
 refine wpAnyH_ready (rs := [9]) (by kernel_rfl) (by simp) ?_
 refine AllReadyH.cons (o := _) (by simp only [List.getElem?_toArray, List.getElem?_cons_succ, List.getElem?_cons_zero]; rfl) (fun K hK => ?_) AllReadyH.nil
 go_simp
 go_at_call 54
 refine (HG.out _ _ HT2.out).mono ?_
 rintro e w3 ⟨rfl, hb3⟩
 have HB3 := Lib.hid (bwstep HB.out hb3)
 refine hK.out _ _ (sget_of (hHeld.1.up hb3) (hHeld.2.2.2.2.elim fun r0 q => ⟨r0, q.up hb3⟩)) (fun hHeld => ?_)
 have HI3 := Lib.hid hHeld.1
 have HJ3 := Lib.hid hHeld.2.2.2.2
 have HT3 := Lib.hid (HT2.out.up hb3)
 clear hb3 hK K
 ((try simp only [Act.put]); (try simp only [List.setIfInBounds_toArray]); (try simp only [List.set_cons_succ]); (try simp only [List.set_cons_zero]))
 refine takeL 10 (h := ?_)
 refine takeL 11 (h := ?_)
 refine takeL 12 (h := ?_)
 refine takeL 13 (h := ?_)
 refine takeL 14 (h := ?_)
 refine wpAnyH_done (by kernel_rfl) ?_ _
 clear hHeld
 obtain ⟨r0, hr0⟩ := HJ3.out
 go_wp2_with (refine St.store rpOk (c := ⟨0, q, v, none, 0, 0⟩) rfl (.tmp 4) (.tmp 22) rfl rfl rfl hr0 ?_)
 constructor
 intro w4 hs4
 go_wp2_with fail
 exact bodyPost_ret (St.res1 rpOk Tryz.results42 rfl hs4.i) rfl ⟨rfl, hs4.bel HB3.out (Nat.le_of_lt HL1.out)⟩
theorem sscn_of {c : Cm} {g4 g3 : Nat} {z : World} (h : cmD.In g3 c z) (q : ∃ r0, rpD.In g4 r0 z) : cmD.In g3 c z ∧ z.cell? ⟨g3, 3, none⟩ = some (.string c.row) ∧ z.cell? ⟨g3, 5, none⟩ = some (.string c.to_) ∧ z.cell? ⟨g3, 6, none⟩ = some (.int .i64 c.at_) ∧ (∃ r0, rpD.In g4 r0 z) :=
 have a := CmAt.of h
 ⟨h, a.c3, a.c5, a.c6, q⟩
theorem sscan_any {w : World} {S M : List Nat} {b : Nat} {t : Tr} {K : List Cl} (c : Cm) (h : TreeAt H w S M b shf t) (hg : GoodT shf t K) (hr : c.row.size ≤ 1000000) (hc : c.to_.size ≤ 1000000) :
  Calls Tryz.prog 43 #[.pointer (some ⟨b, 0, none⟩), c.v] w fun e w' => (∃ A n k, e = .returned (Rv.v ⟨0, false, ⟨#[]⟩, A, n, k⟩) ∧ RdL w' [] (.slice A n k) ((someP c.row c.to_ c.at_ t.cells).take 20)) ∧ Below w.heap.size w w' := by
 have HT := Lib.hid h
 have HG : Hid (∀ W S0, TreeAt H W S0 M b shf t → Calls Tryz.prog 55 #[.pointer (some ⟨b, 0, none⟩), .string c.row, .string c.to_, .int .i64 c.at_] W fun e w' => (∃ x, e = .returned x ∧ OwL w' W.heap.size x (someP c.row c.to_ c.at_ t.cells)) ∧ Below W.heap.size W w') := Lib.hid fun W S0 hW => tree_scan _ _ _ hW hg hr hc
 generalize someP c.row c.to_ c.at_ t.cells = V at *
 clear h hg hr hc
 go_enter Tryz.func43, Tryz.ntmps43
 go_wp2_with (refine St.box cmD rfl (.tmp 1) c rfl rfl ?_)
 constructor
 intro w1 hI1 hb1 hz1
 clear hz1
 go_wp2_with (refine St.alloc rpOk rfl rfl ?_)
 constructor
 intro w2 hJ2 hb2 hz2
 clear hz2
 have hd : Below w2.heap.size w2 w2.drew := (Below.refl _ _).drew
 have HL1 := Lib.hid hI1.lt
 have HL2 := Lib.hid hJ2.lt
 have HB := Lib.hid (bwstep (bwstep hb1 hb2) hd)
 have HN : Hid (∀ k ∈ [w.heap.size, w1.heap.size], w.heap.size ≤ k ∧ k < w2.drew.heap.size) := Lib.hid fun k hk => by
  have h1 := HL1.out
  have h2 := HL2.out
  have h3 := hd.size
  simp only [List.mem_cons, List.not_mem_nil, or_false] at hk
  rcases hk with rfl | rfl
  ·exact ⟨Nat.le_refl _, by omega⟩
  ·exact ⟨by omega, by omega⟩
 have HT2 := Lib.hid (HT.out.more HB.out _ HN.out)
 have HIJ := Lib.hid (sscn_of ((hI1.up hb2).up hd) ⟨_, hJ2.up hd⟩)
 clear hI1 hJ2 hb1 hb2
 go_wp2_with fail
 refine wp_region_held_drew (S := fun z => cmD.In w.heap.size c z ∧ z.cell? ⟨w.heap.size, 3, none⟩ = some (.string c.row) ∧ z.cell? ⟨w.heap.size, 5, none⟩ = some (.string c.to_) ∧ z.cell? ⟨w.heap.size, 6, none⟩ = some (.int .i64 c.at_) ∧ (∃ r0, rpD.In w1.heap.size r0 z)) (by kernel_rfl) HIJ.out (fun hHeld => ?_)
 refine takeL 0 (h := ?_)
 refine takeL 1 (h := ?_)
 refine takeL 2 (h := ?_)
 refine takeL 3 (h := ?_)
 refine takeL 4 (h := ?_)
 refine takeL 5 (h := ?_)
 refine takeL 6 (h := ?_)
 refine takeL 7 (h := ?_)
 refine takeL 8 (h := ?_)
 refine wpAnyH_ready (rs := [9]) (by kernel_rfl) (by simp) ?_
 refine AllReadyH.cons (o := _) (by simp only [List.getElem?_toArray, List.getElem?_cons_succ, List.getElem?_cons_zero]; rfl) (fun K hK => ?_) AllReadyH.nil
 go_simp
 go_at_call 55
 refine (HG.out _ _ HT2.out).mono ?_
 rintro e w3 ⟨⟨x3, rfl, hx3⟩, hb3⟩
 have HB3 := Lib.hid (bwstep HB.out hb3)
 have HX3 := Lib.hid (hx3.rd (S := [w1.heap.size]) (fun k h => by rw [List.mem_singleton.1 h]; exact (HN.out _ (by simp)).2))
 refine hK.out _ _ (sscn_of (hHeld.1.up hb3) (hHeld.2.2.2.2.elim fun r0 q => ⟨r0, q.up hb3⟩)) (fun hHeld => ?_)
 have HJ3 := Lib.hid hHeld.2.2.2.2
 clear hb3 hK K hx3
 ((try simp only [Act.put]); (try simp only [List.setIfInBounds_toArray]); (try simp only [List.set_cons_succ]); (try simp only [List.set_cons_zero]))
 refine takeL 10 (h := ?_)
 refine wpAnyH_done (by kernel_rfl) ?_ _
 clear hHeld
 obtain ⟨r0, hr0⟩ := HJ3.out
 obtain ⟨A3, k3, rfl, hk3, hm3⟩ := HX3.out.shape
 unfold maxLen at hm3
 have HTK : Hid (V.take (min (V.length : Int) 20).toNat = V.take 20) := Lib.hid (by
  by_cases hv : V.length ≤ 20
  ·rw [show (min (V.length : Int) 20).toNat = V.length by omega, List.take_length, List.take_of_length_le hv]
  ·rw [show (min (V.length : Int) 20).toNat = 20 by omega])
 have HR := Lib.hid (HX3.out.to_ (k := (min (V.length : Int) 20).toNat) (by omega))
 go_wp2_with (refine St.store rpOk (c := ⟨0, false, ⟨#[]⟩, A3, (min (V.length : Int) 20).toNat, k3⟩) rfl (.tmp 4) (.tmp 21) rfl rfl rfl hr0 ?_)
 constructor
 intro w4 hs4
 go_wp2_with fail
 refine bodyPost_ret (St.res1 rpOk Tryz.results43 rfl hs4.i) rfl ⟨⟨A3, _, k3, rfl, ?_⟩, hs4.bel HB3.out (Nat.le_of_lt HL1.out)⟩
 rw [← HTK.out]
 exact HR.out.up (St.Sp.Set.kp hs4 (S := [w1.heap.size]) (by simp)) (fun _ h => by cases h)
end Go.Proofs.YtcpkhhbbjimdaaaGreatDoor.Ce
