/- A tree's newest cell: the method. A tree asked for a cell: is a key there? Get. -/
import Derived.Test.YtcpkhhbbjimdaaaGreatDoorTreB
import Derived.Test.YtcpkhhbbjimdaaaGreatDoorTreA
import Derived.BigRegion
import Derived.Deep.RegionLaw
import Derived.Deep.DeepCutAuto
set_option maxHeartbeats 8000000
set_option maxRecDepth 100000
namespace Go.Proofs.YtcpkhhbbjimdaaaGreatDoor.Ce
open Go.RowKit
variable {H : Hos}
theorem heap_old {w : World} {o : Obj} {k : Nat} {x : Obj} (h : w.heap[k]? = some x) : (w.alloc o).heap[k]? = some x := ((bwalloc (bwrefl w) o).block k (Array.getElem?_eq_some_iff.1 h).1).trans h
theorem armZ {g : Nat} {w : World} (h : InC g Cl.zero w) : w.cell? ⟨g, 0, none⟩ = some (.string ⟨#[]⟩) ∧ w.cell? ⟨g, 1, none⟩ = some (.string ⟨#[]⟩) ∧ w.cell? ⟨g, 2, none⟩ = some (.int .i64 0) ∧ w.cell? ⟨g, 3, none⟩ = some (.string ⟨#[]⟩) ∧ w.cell? ⟨g, 4, none⟩ = some (.bool false) ∧ w.frozen? ⟨g, 0, none⟩ = false ∧ w.frozen? ⟨g, 1, none⟩ = false ∧ w.frozen? ⟨g, 2, none⟩ = false ∧ w.frozen? ⟨g, 3, none⟩ = false ∧ w.frozen? ⟨g, 4, none⟩ = false :=
 ⟨h.c0, h.c1, h.c2, h.c3, h.c4, frozen_of_row _ _ _ _ _ h.h, frozen_of_row _ _ _ _ _ h.h, frozen_of_row _ _ _ _ _ h.h, frozen_of_row _ _ _ _ _ h.h, frozen_of_row _ _ _ _ _ h.h⟩
theorem armB {g : Nat} {q : Bool} {w : World} (h : w.heap[g]? = some (.cells #[.bool q] 4 (0, 0))) : w.cell? ⟨g, 0, none⟩ = some (.bool q) ∧ w.frozen? ⟨g, 0, none⟩ = false := ⟨cell_of_row _ _ 0 _ _ _ h, frozen_of_row _ _ _ _ _ h⟩
theorem heap_two (w : World) (o p : Obj) : ((w.alloc o).alloc p).heap[w.heap.size + 1]? = some p := by
 have h := heap_alloc_new (w.alloc o) p
 have e : (w.alloc o).heap.size = w.heap.size + 1 := by simp
 rwa [e] at h
theorem jn_of {w4 wf : World} {row col : ByteArray} {at_ : Int} {b1 b2 b3 g f : Nat} {m : Option Cl} {d : Cl} {q : Bool} (r1 : w4.heap[b1]? = some (.cells #[.string row] 9 (0, 0))) (r2 : w4.heap[b2]? = some (.cells #[.string col] 9 (0, 0))) (r3 : w4.heap[b3]? = some (.cells #[.int .i64 at_] 3 (0, 0)))
  (hd : d = m.getD Cl.zero) (hq : q = m.isSome) (hb : Below w4.heap.size w4 wf) (hf : wf.heap[f]? = some (.cells #[.bool q] 4 (0, 0))) (hg : InC g d wf) (h1 : w4.heap.size ≤ f) (h2 : w4.heap.size ≤ g) : Jn w4 row col at_ b1 b2 b3 f g m wf := by
 subst hd hq
 have k : ∀ {b : Nat} {o : Obj}, w4.heap[b]? = some o → wf.heap[b]? = some o := fun q => (hb.block _ (Array.getElem?_eq_some_iff.1 q).1).trans q
 exact ⟨k r1, k r2, k r3, hf, hg, h1, h2, hb⟩
section
variable {w4 X : World} {row col : ByteArray} {at_ : Int} {b1 b2 b3 g f : Nat} {m : Option Cl} {d : Cl} {q q0 : Bool}
theorem jn_set (r1 : w4.heap[b1]? = some (.cells #[.string row] 9 (0, 0))) (r2 : w4.heap[b2]? = some (.cells #[.string col] 9 (0, 0))) (r3 : w4.heap[b3]? = some (.cells #[.int .i64 at_] 3 (0, 0)))
  (hd : d = m.getD Cl.zero) (hq : q = m.isSome) (hb : Below w4.heap.size w4 X) (hf : X.heap[f]? = some (.cells #[.bool q0] 4 (0, 0))) (hg : InC g d X) (h1 : w4.heap.size ≤ f) (h2 : w4.heap.size ≤ g) : Jn w4 row col at_ b1 b2 b3 f g m (X.setCell ⟨f, 0, none⟩ (.bool q)) :=
 jn_of r1 r2 r3 hd hq (hb.setCell (p := ⟨f, 0, none⟩) h1 _) ((heap_setCell_same X f 0 _ _ (.bool q) hf).trans rfl) ⟨(Below.heap_setCell X ⟨f, 0, none⟩ _ g (two_types hg.h hf (by decide))).trans hg.h⟩ h1 h2
theorem jn_alloc (r1 : w4.heap[b1]? = some (.cells #[.string row] 9 (0, 0))) (r2 : w4.heap[b2]? = some (.cells #[.string col] 9 (0, 0))) (r3 : w4.heap[b3]? = some (.cells #[.int .i64 at_] 3 (0, 0)))
  (hd : d = m.getD Cl.zero) (hq : q = m.isSome) (hb : Below w4.heap.size w4 X) (hg : InC g d X) (hs : X.heap.size = f) (h2 : w4.heap.size ≤ g) : Jn w4 row col at_ b1 b2 b3 f g m (X.alloc (.cells #[.bool q] 4)) := by
 subst hs
 exact jn_of r1 r2 r3 hd hq (bwalloc hb _) (heap_alloc_new _ _) ⟨heap_old hg.h⟩ hb.size h2
theorem jn_alloc2 (r1 : w4.heap[b1]? = some (.cells #[.string row] 9 (0, 0))) (r2 : w4.heap[b2]? = some (.cells #[.string col] 9 (0, 0))) (r3 : w4.heap[b3]? = some (.cells #[.int .i64 at_] 3 (0, 0)))
  (hd : d = m.getD Cl.zero) (hq : q = m.isSome) (hb : Below w4.heap.size w4 X) : Jn w4 row col at_ b1 b2 b3 X.heap.size (X.heap.size + 1) m ((X.alloc (.cells #[.bool q] 4)).alloc (.cells #[.string d.row, .string d.col, .int .i64 d.at_, .string d.val, .bool d.gone] 47)) :=
 jn_of r1 r2 r3 hd hq (bwalloc (bwalloc hb _) _) (heap_old (heap_alloc_new _ _)) ⟨heap_two X _ _⟩ hb.size (Nat.le_trans hb.size (Nat.le_succ _))
end
theorem tnewest_any {w : World} {S : List Nat} {b : Nat} {s : Sf} {L : List Cl} {X : List (List (List Cl))} {n : Int} {v lv : Value} (row col : ByteArray) (at_ : Int) (h : TrS H w S b s L X n v lv) (hl : Lim L X) (hrs : row.size ≤ 1000000) (hcs : col.size ≤ 1000000) :
  Calls Tryz.prog 73 #[.pointer (some ⟨b, 0, none⟩), .string row, .string col, .int .i64 at_] w fun e w' => e = .returned (.tuple #[(nwC row col at_ (allP (L :: X.flatten))).v, .bool (nwB row col at_ (allP (L :: X.flatten)))]) ∧ Below w.heap.size w w' := by
 unfold nwC nwB
 rw [newest_asked row col at_ hl.all, List.foldl_cons, show best none (newest row col at_ L) = newest row col at_ L from rfl]
 have hg := fun W (hW : TrS H W S b s L X n v lv) => mgetT_any b v L row col at_ W hW.m hl.sl (by have := hl.ll; omega)
 unfold nwC nwB at hg
 generalize newest row col at_ L = m at *
 have HAS : Hid (∀ (W W1 : World) (e1 e2 e3 e4 e5 : Nat), TrS H W S b s L X n v lv → Jn W row col at_ e1 e2 e3 e4 e5 m W1 → Calls Tryz.prog 61 #[lv, .func (.func 91) #[] #[.pointer (some ⟨e1, 0, none⟩), .pointer (some ⟨e2, 0, none⟩), .pointer (some ⟨e3, 0, none⟩), .pointer (some ⟨e4, 0, none⟩), .pointer (some ⟨e5, 0, none⟩)]] W1 fun e w' => (∃ u, e = .returned u) ∧ Jn W row col at_ e1 e2 e3 e4 e5 (X.flatten.foldl (fun r M => best r (newest row col at_ M)) m) w') := Lib.hid fun W W1 e1 e2 e3 e4 e5 hW hJ => by
  refine askN_any lv X W W1 ?_ (by have := hl.nx; omega) (fun T hT => by have := hl.tx T hT; omega) _ _ _ _ _ (fun D wr => Jn W row col at_ e1 e2 e3 e4 e5 (D.foldl (fun r M => best r (newest row col at_ M)) m) wr) (fun D wr h => h.bel) hJ fun D C p wr hm _ hTb hJ => ?_
  ·obtain ⟨us, h1, h2⟩ := hW.rdv
   exact ⟨us, h1, h2.keep (Kp.refl [] W) (by simp) (by simp)⟩
  ·rw [List.foldl_append]
   exact newestC_any W row col at_ _ _ _ _ _ _ C p wr hTb (hl.sx C hm) (by have := hl.lx C hm; omega) hrs hcs hJ
 generalize X.flatten.foldl (fun r M => best r (newest row col at_ M)) m = m2 at *
 have HG := Lib.hid hg
 have HW := Lib.hid h
 have hbl := h.m.lt
 have hlv := h.c5
 obtain ⟨Alv, clv, rfl, -, -⟩ := h.rdv.shape
 clear hg hl hrs hcs h
 go_enter Tryz.func73, Tryz.ntmps73
 go_wp2_with (refine allocC rfl rfl ?_)
 constructor
 intro w4 hI4 hb4 hz4
 have r1 : w4.heap[w.heap.size]? = some (.cells #[.string row] 9 (0, 0)) := (hb4.block _ (by omega)).trans (heap_old (heap_old (heap_alloc_new _ _)))
 have r2 : w4.heap[w.heap.size + 1]? = some (.cells #[.string col] 9 (0, 0)) := (hb4.block _ (by omega)).trans (heap_old (by simpa using heap_alloc_new (w.alloc (.cells #[.string row] 9)) _))
 have r3 : w4.heap[w.heap.size + 1 + 1]? = some (.cells #[.int .i64 at_] 3 (0, 0)) := (hb4.block _ (by omega)).trans (by simpa using heap_alloc_new ((w.alloc (.cells #[.string row] 9)).alloc (.cells #[.string col] 9)) _)
 have hB4 := (bwalloc (bwalloc (bwalloc (bwrefl w) (.cells #[.string row] 9)) (.cells #[.string col] 9)) (.cells #[.int .i64 at_] 3)).trans (hb4.mono (by omega))
 have HT4 := Lib.hid (HW.out.up hB4)
 have HI4 := Lib.hid hI4
 have HB4 := Lib.hid hB4
 have c1 : w4.drew.cell? ⟨w.heap.size, 0, none⟩ = some (.string row) := cell_of_row _ _ 0 _ _ _ r1
 have c2 : w4.drew.cell? ⟨w.heap.size + 1, 0, none⟩ = some (.string col) := cell_of_row _ _ 0 _ _ _ r2
 have c3 : w4.drew.cell? ⟨w.heap.size + 1 + 1, 0, none⟩ = some (.int .i64 at_) := cell_of_row _ _ 0 _ _ _ r3
 have HR1 := Lib.hid r1
 have HR2 := Lib.hid r2
 have HR3 := Lib.hid r3
 have HZ4 : Hid (w4.heap.size = w.heap.size + 1 + 1 + 1 + 1) := Lib.hid (by simpa using hz4)
 clear hI4 hb4 hz4 hB4 r1 r2 r3
 go_upto_region 1 with fail
 go_cut [10, 11] from 12 to 21 (fun gv fv wx => ∃ g f : Nat, gv = .pointer (some ⟨g, 0, none⟩) ∧ fv = .pointer (some ⟨f, 0, none⟩) ∧ Hid (Jn w4 row col at_ w.heap.size (w.heap.size + 1) (w.heap.size + 1 + 1) f g m wx))
 case first =>
  have HD : Hid (Below w4.heap.size w4 w4.drew) := Lib.hid (Below.refl _ _).drew
  have HS : Hid (∀ w', Below w4.heap.size w4 w' → (w'.cell? ⟨w.heap.size, 0, none⟩ = some (.string row) ∧ w'.cell? ⟨w.heap.size + 1, 0, none⟩ = some (.string col) ∧ w'.cell? ⟨w.heap.size + 1 + 1, 0, none⟩ = some (.int .i64 at_) ∧ Below w4.heap.size w4 w')) := Lib.hid fun y hy => ⟨cell_of_row _ _ 0 _ _ _ ((hy.block _ (Array.getElem?_eq_some_iff.1 HR1.out).1).trans HR1.out), cell_of_row _ _ 0 _ _ _ ((hy.block _ (Array.getElem?_eq_some_iff.1 HR2.out).1).trans HR2.out), cell_of_row _ _ 0 _ _ _ ((hy.block _ (Array.getElem?_eq_some_iff.1 HR3.out).1).trans HR3.out), hy⟩
  have hd0 := HD.out
  have HT := Lib.hid (HS.out _ hd0)
  have hdz := (bwalloc (bwrefl w4) (.cells #[.string ⟨#[]⟩, .string ⟨#[]⟩, .int .i64 0, .string ⟨#[]⟩, .bool false] 47)).drew
  have hdb := (bwalloc (bwrefl w4) (.cells #[.bool false] 4)).drew
  have hdzb := (bwalloc (bwalloc (bwrefl w4) (.cells #[.string ⟨#[]⟩, .string ⟨#[]⟩, .int .i64 0, .string ⟨#[]⟩, .bool false] 47)) (.cells #[.bool false] 4)).drew
  have hdbz := (bwalloc (bwalloc (bwrefl w4) (.cells #[.bool false] 4)) (.cells #[.string ⟨#[]⟩, .string ⟨#[]⟩, .int .i64 0, .string ⟨#[]⟩, .bool false] 47)).drew
  have A1 : Hid (∀ wa, Below (w4.alloc (.cells #[.string ⟨#[]⟩, .string ⟨#[]⟩, .int .i64 0, .string ⟨#[]⟩, .bool false] 47)).drew.heap.size (w4.alloc (.cells #[.string ⟨#[]⟩, .string ⟨#[]⟩, .int .i64 0, .string ⟨#[]⟩, .bool false] 47)).drew wa → InC w4.heap.size Cl.zero wa ∧ w4.heap.size < wa.heap.size ∧ (¬ wa.heap.size = w4.heap.size) ∧ ¬ w4.heap.size = wa.heap.size) := Lib.hid fun wa h => by
   have e : (w4.alloc (.cells #[.string ⟨#[]⟩, .string ⟨#[]⟩, .int .i64 0, .string ⟨#[]⟩, .bool false] 47)).drew.heap.size = w4.heap.size + 1 := by simp
   have hs := h.size
   exact ⟨⟨(h.block _ (by omega)).trans (InC.new w4 Cl.zero).h⟩, by omega, by omega, by omega⟩
  have A2 : Hid (∀ wa, Below (w4.alloc (.cells #[.bool false] 4)).drew.heap.size (w4.alloc (.cells #[.bool false] 4)).drew wa → wa.heap[w4.heap.size]? = some (.cells #[.bool false] 4 (0, 0))) := Lib.hid fun wa h => by
   have e : (w4.alloc (.cells #[.bool false] 4)).drew.heap.size = w4.heap.size + 1 := by simp
   exact (h.block _ (by omega)).trans (heap_alloc_new _ _)
  have A3 : Hid (∀ wa, Below ((w4.alloc (.cells #[.string ⟨#[]⟩, .string ⟨#[]⟩, .int .i64 0, .string ⟨#[]⟩, .bool false] 47)).alloc (.cells #[.bool false] 4)).drew.heap.size ((w4.alloc (.cells #[.string ⟨#[]⟩, .string ⟨#[]⟩, .int .i64 0, .string ⟨#[]⟩, .bool false] 47)).alloc (.cells #[.bool false] 4)).drew wa → InC w4.heap.size Cl.zero wa ∧ wa.heap[w4.heap.size + 1]? = some (.cells #[.bool false] 4 (0, 0))) := Lib.hid fun wa h => by
   have e : ((w4.alloc (.cells #[.string ⟨#[]⟩, .string ⟨#[]⟩, .int .i64 0, .string ⟨#[]⟩, .bool false] 47)).alloc (.cells #[.bool false] 4)).drew.heap.size = w4.heap.size + 1 + 1 := by simp
   exact ⟨⟨(h.block _ (by omega)).trans (heap_old (InC.new w4 Cl.zero).h)⟩, (h.block _ (by omega)).trans (heap_two w4 _ _)⟩
  have A4 : Hid (∀ wa, Below ((w4.alloc (.cells #[.bool false] 4)).alloc (.cells #[.string ⟨#[]⟩, .string ⟨#[]⟩, .int .i64 0, .string ⟨#[]⟩, .bool false] 47)).drew.heap.size ((w4.alloc (.cells #[.bool false] 4)).alloc (.cells #[.string ⟨#[]⟩, .string ⟨#[]⟩, .int .i64 0, .string ⟨#[]⟩, .bool false] 47)).drew wa → InC (w4.heap.size + 1) Cl.zero wa ∧ wa.heap[w4.heap.size]? = some (.cells #[.bool false] 4 (0, 0))) := Lib.hid fun wa h => by
   have e : ((w4.alloc (.cells #[.bool false] 4)).alloc (.cells #[.string ⟨#[]⟩, .string ⟨#[]⟩, .int .i64 0, .string ⟨#[]⟩, .bool false] 47)).drew.heap.size = w4.heap.size + 1 + 1 := by simp
   exact ⟨⟨(h.block _ (by omega)).trans (heap_two w4 _ _)⟩, (h.block _ (by omega)).trans (heap_old (heap_alloc_new _ _))⟩
  obtain ⟨d, hd⟩ : ∃ d, d = m.getD Cl.zero := ⟨_, rfl⟩
  obtain ⟨q, hq⟩ : ∃ q, q = m.isSome := ⟨_, rfl⟩
  have HG2 : Hid (∀ (W : World), TrS H W S b s L X n v (Value.slice Alv X.length clv) → Calls Tryz.prog 90 #[.pointer (some ⟨b, 3, none⟩), .string row, .string col, .int .i64 at_] W fun e w' => e = .returned (.tuple #[.agg #[.string d.row, .string d.col, .int .i64 d.at_, .string d.val, .bool d.gone], .bool q]) ∧ Below W.heap.size W w') := Lib.hid (by rw [hd, hq]; exact HG.out)
  have HDQ := Lib.hid (And.intro hd hq)
  clear HG hd hq
  go_region_held3 (fun w' => w'.cell? ⟨w.heap.size, 0, none⟩ = some (.string row) ∧ w'.cell? ⟨w.heap.size + 1, 0, none⟩ = some (.string col) ∧ w'.cell? ⟨w.heap.size + 1 + 1, 0, none⟩ = some (.int .i64 at_) ∧ Below w4.heap.size w4 w') (first | with_reducible exact HT.out | (refine HS.out _ ?_; repeat' (first | with_reducible assumption | with_reducible refine Below.drew ?_ | with_reducible refine bwalloc ?_ _ | with_reducible refine Below.setCell ?_ (by (try dsimp only); omega) _)))
   (first
    | (go_at_call 90; (with_reducible refine (HG2.out _ (HT4.out.up hd0)).mono ?_); rintro e wa ⟨rfl, hba⟩; have hBa := bwstep hd0 hba; have hBs := hBa.size; have hz : InC wa.heap.size Cl.zero ((wa.alloc (.cells #[.string ⟨#[]⟩, .string ⟨#[]⟩, .int .i64 0, .string ⟨#[]⟩, .bool false] 47)).alloc (.cells #[.bool false] 4)) := ⟨heap_old (InC.new wa Cl.zero).h⟩; obtain ⟨p0, p1, p2, p3, p4, f0, f1, f2, f3, f4⟩ := armZ hz; clear hz; clear hba)
    | (go_at_call 90; (with_reducible refine (HG2.out _ (HT4.out.up hdz)).mono ?_); rintro e wa ⟨rfl, hba⟩; have hBa := bwstep hdz hba; have hBs := hBa.size; obtain ⟨hz, n1, n2, n3⟩ := A1.out _ hba; have HZ := Lib.hid hz; obtain ⟨p0, p1, p2, p3, p4, f0, f1, f2, f3, f4⟩ := armZ hz; clear hz; clear hba)
    | (go_at_call 90; (with_reducible refine (HG2.out _ (HT4.out.up hdb)).mono ?_); rintro e wa ⟨rfl, hba⟩; have hBa := bwstep hdb hba; have hBs := hBa.size; have hb0 := A2.out _ hba; have HBB := Lib.hid hb0; have hb := heap_old (o := (.cells #[.string d.row, .string d.col, .int .i64 d.at_, .string d.val, .bool d.gone] 47)) hb0; obtain ⟨pb, fb⟩ := armB hb; clear hb hb0; clear hba)
    | (go_at_call 90; (with_reducible refine (HG2.out _ (HT4.out.up hdzb)).mono ?_); rintro e wa ⟨rfl, hba⟩; have hBa := bwstep hdzb hba; have hBs := hBa.size; obtain ⟨hz, hb⟩ := A3.out _ hba; have HZ := Lib.hid hz; have HBB := Lib.hid hb; obtain ⟨p0, p1, p2, p3, p4, f0, f1, f2, f3, f4⟩ := armZ hz; have hcz := chain5 (c := d) HZ.out; obtain ⟨pb, fb⟩ := armB ((hcz.o _ (by omega)).trans hb); clear hcz; clear hz hb; clear hba)
    | (go_at_call 90; (with_reducible refine (HG2.out _ (HT4.out.up hdbz)).mono ?_); rintro e wa ⟨rfl, hba⟩; have hBa := bwstep hdbz hba; have hBs := hBa.size; obtain ⟨hz, hb⟩ := A4.out _ hba; have HZ := Lib.hid hz; have HBB := Lib.hid hb; obtain ⟨p0, p1, p2, p3, p4, f0, f1, f2, f3, f4⟩ := armZ hz; have hcz := chain5 (c := d) HZ.out; obtain ⟨pb, fb⟩ := armB ((hcz.o _ (by omega)).trans hb); clear hcz; clear hz hb; clear hba))
  all_goals
   have hR1 := HR1.out
   have hR2 := HR2.out
   have hR3 := HR3.out
   obtain ⟨hd, hq⟩ := HDQ.out
   have hIN : InC wa.heap.size d (wa.alloc (.cells #[.string d.row, .string d.col, .int .i64 d.at_, .string d.val, .bool d.gone] 47)) := InC.new wa d
   clear HG2 HT4 HI4 HB4 HT HS hd0 hdz hdb hdzb hdbz A1 A2 A3 A4
   first | go_meet | (go_wp2_with fail; go_meet)
   case rel =>
    refine ⟨_, _, rfl, rfl, Lib.hid ?_⟩
    first
     | with_reducible exact jn_alloc2 hR1 hR2 hR3 hd hq hBa
     | with_reducible exact jn_alloc hR1 hR2 hR3 hd hq (bwalloc hBa _) hIN (by simp) hBs
     | with_reducible exact jn_alloc hR1 hR2 hR3 hd hq ((chain5 (c := d) HZ.out).bel hBa (Nat.le_refl _)) (chain5 (c := d) HZ.out).i (chain5 (c := d) HZ.out).z (Nat.le_refl _)
     | with_reducible exact jn_set hR1 hR2 hR3 hd hq (bwalloc hBa _) (heap_old HBB.out) hIN (Nat.le_refl _) hBs
     | with_reducible exact jn_set hR1 hR2 hR3 hd hq ((chain5 (c := d) HZ.out).bel hBa (Nat.le_refl _)) (((chain5 (c := d) HZ.out).o _ (by omega)).trans HBB.out) (chain5 (c := d) HZ.out).i (Nat.le_succ _) (Nat.le_refl _)
     | with_reducible exact jn_set hR1 hR2 hR3 hd hq ((chain5 (c := d) HZ.out).bel hBa (Nat.le_succ _)) (((chain5 (c := d) HZ.out).o _ (by omega)).trans HBB.out) (chain5 (c := d) HZ.out).i (Nat.le_refl _) (Nat.le_succ _)
 case rest =>
  obtain ⟨g, f, rfl, rfl, HJ⟩ := hcut
  have HT5 := Lib.hid (HT4.out.up HJ.out.bel)
  have c5 := HT5.out.c5
  have hmf : ∀ (fn : Fn) (first cap : Array Value) (w : World), (Instr.makeFunc fn first cap).run Tryz.prog w = .ok (.func fn first cap) w := fun _ _ _ _ => rfl
  have HAK := Lib.hid (HAS.out w4 wc w.heap.size (w.heap.size + 1) (w.heap.size + 1 + 1) f g HT4.out HJ.out)
  have HI8 : Hid (∀ z, Below w4.heap.size w4 z → InC (w.heap.size + 1 + 1 + 1) Cl.zero z) := Lib.hid fun z hz => HI4.out.bel hz (by have := HZ4.out; omega)
  clear HAS HG
  go_wp2_with fail
  refine HAK.out.mono ?_
  rintro e w6 ⟨⟨u, rfl⟩, hJ6⟩
  have HB6 := Lib.hid hJ6.bel
  have HI6 := HI8.out _ hJ6.bel
  obtain ⟨d2, hd2⟩ : ∃ d2, d2 = m2.getD Cl.zero := ⟨_, rfl⟩
  obtain ⟨q2, hq2⟩ : ∃ q2, q2 = m2.isSome := ⟨_, rfl⟩
  have HDQ := Lib.hid (And.intro hd2 hq2)
  have HG6 : InC g d2 w6 := by rw [hd2]; exact hJ6.r5
  have HF6 : w6.heap[f]? = some (.cells #[.bool q2] 4 (0, 0)) := by rw [hq2]; exact hJ6.r4
  have HNE : ¬ g = w.heap.size + 1 + 1 + 1 := by
   have := hJ6.g5
   have := HZ4.out
   omega
  obtain ⟨p0, p1, p2, p3, p4, f0, f1, f2, f3, f4⟩ := armZ HI6
  have HC5 := Lib.hid (chain5 (c := d2) (a := w6) HI6)
  have HS6 : Hid (∀ z, Below w6.heap.size w6 z → z.cell? ⟨g, 0, none⟩ = some (.string d2.row) ∧ z.cell? ⟨g, 1, none⟩ = some (.string d2.col) ∧ z.cell? ⟨g, 2, none⟩ = some (.int .i64 d2.at_) ∧ z.cell? ⟨g, 3, none⟩ = some (.string d2.val) ∧ z.cell? ⟨g, 4, none⟩ = some (.bool d2.gone) ∧ z.cell? ⟨f, 0, none⟩ = some (.bool q2)) := Lib.hid fun z hz => by
   have i := HG6.up hz
   exact ⟨i.c0, i.c1, i.c2, i.c3, i.c4, cell_of_row _ _ 0 _ _ _ ((hz.block _ (Array.getElem?_eq_some_iff.1 HF6).1).trans HF6)⟩
  have HFN : ¬ f = w.heap.size + 1 + 1 + 1 := by
   have := hJ6.g4
   have := HZ4.out
   omega
  have HT6 := Lib.hid (HS6.out _ (Below.refl w6.heap.size w6).drew)
  have HS7 : Hid (∀ z : World, (∀ k, k ≠ w.heap.size + 1 + 1 + 1 → z.heap[k]? = w6.heap[k]?) → z.cell? ⟨g, 0, none⟩ = some (.string d2.row) ∧ z.cell? ⟨g, 1, none⟩ = some (.string d2.col) ∧ z.cell? ⟨g, 2, none⟩ = some (.int .i64 d2.at_) ∧ z.cell? ⟨g, 3, none⟩ = some (.string d2.val) ∧ z.cell? ⟨g, 4, none⟩ = some (.bool d2.gone) ∧ z.cell? ⟨f, 0, none⟩ = some (.bool q2)) := Lib.hid fun z hz => by
   have i : InC g d2 z := ⟨(hz g HNE).trans HG6.h⟩
   exact ⟨i.c0, i.c1, i.c2, i.c3, i.c4, cell_of_row _ _ 0 _ _ _ ((hz f HFN).trans HF6)⟩
  clear hd2 hq2 HG6 HF6 hJ6 HI6 c5 HAK HI8 HJ HT5 c1 c2 c3
  go_wp2_with fail
  go_region_held3 (fun z => z.cell? ⟨g, 0, none⟩ = some (.string d2.row) ∧ z.cell? ⟨g, 1, none⟩ = some (.string d2.col) ∧ z.cell? ⟨g, 2, none⟩ = some (.int .i64 d2.at_) ∧ z.cell? ⟨g, 3, none⟩ = some (.string d2.val) ∧ z.cell? ⟨g, 4, none⟩ = some (.bool d2.gone) ∧ z.cell? ⟨f, 0, none⟩ = some (.bool q2)) (first | with_reducible exact HT6.out | exact HS7.out _ HC5.out.o) (fail)
  all_goals
   have HI7 := Lib.hid HC5.out.i
   have HB7 := Lib.hid (HC5.out.bel (HB4.out.trans (HB6.out.mono HB4.out.size)) (Nat.le_trans (Nat.le_succ _) (Nat.le_trans (Nat.le_succ _) (Nat.le_succ _))))
   generalize ((((w6.setCell ⟨w.heap.size + 1 + 1 + 1, 0, none⟩ (.string d2.row)).setCell ⟨w.heap.size + 1 + 1 + 1, 1, none⟩ (.string d2.col)).setCell ⟨w.heap.size + 1 + 1 + 1, 2, none⟩ (.int .i64 d2.at_)).setCell ⟨w.heap.size + 1 + 1 + 1, 3, none⟩ (.string d2.val)).setCell ⟨w.heap.size + 1 + 1 + 1, 4, none⟩ (.bool d2.gone) = w7 at HI7 HB7 ⊢
   obtain ⟨rfl, rfl⟩ := HDQ.out
   clear HC5 HS7 HS6 HT6 p0 p1 p2 p3 p4 f0 f1 f2 f3 f4
   go_wp2_with fail
   exact bodyPost_ret (res2 Tryz.results73 rfl (HI7.out.up (Below.refl _ _).drew)) rfl ⟨rfl, HB7.out.drew⟩
end Go.Proofs.YtcpkhhbbjimdaaaGreatDoor.Ce
namespace Go.Proofs.YtcpkhhbbjimdaaaGreatDoor.Ce
open Go.RowKit
variable {H : Hos}
theorem FL.lim {s : Sf} {L K : List Cl} {X : List (List (List Cl))} (h : FL s L X K) : Lim L X := by
 have h8 := h.fan.2.1
 refine ⟨h.ok.mem, (h.f.sub h.ok.mem h.i.m).n, fun C hC => ?_, fun C hC => ?_, h.w.n, fun T hT => Nat.le_trans (h.w.f T hT) (by omega)⟩
 ·obtain ⟨T, hT, hC⟩ := List.mem_flatten.1 hC
  exact h.ok.tab T hT C hC
 ·obtain ⟨T, hT, hC⟩ := List.mem_flatten.1 hC
  exact (h.f.sub (h.ok.tab T hT C hC) (h.i.l T hT C hC)).n
theorem thas_any {w : World} {S : List Nat} {b : Nat} {s : Sf} {L : List Cl} {X : List (List (List Cl))} {n : Int} {v lv : Value} (c : Cl) (h : TrS H w S b s L X n v lv) (hl : Lim L X) (hrs : c.row.size ≤ 1000000) (hcs : c.col.size ≤ 1000000) :
  Calls Tryz.prog 69 #[.pointer (some ⟨b, 0, none⟩), c.v] w fun e w' => e = .returned (.bool (hasB c (allP (L :: X.flatten)))) ∧ Below w.heap.size w w' := by
 have HN := Lib.hid (fun W (hW : TrS H W S b s L X n v lv) => tnewest_any c.row c.col c.at_ hW hl hrs hcs)
 unfold hasB
 generalize nwC c.row c.col c.at_ (allP (L :: X.flatten)) = d at *
 generalize nwB c.row c.col c.at_ (allP (L :: X.flatten)) = q at *
 have HW := Lib.hid h
 clear h hl hrs hcs
 go_enter Tryz.func69, Tryz.ntmps69
 go_wp2_with (refine boxC rfl (.tmp 1) c rfl rfl ?_)
 constructor
 intro w1 hI1 hb1 _
 have c0 := hI1.c0
 have c1 := hI1.c1
 have c2 := hI1.c2
 have HI1 := Lib.hid hI1
 have HB1 := Lib.hid hb1
 clear hI1 hb1
 go_wp2_with fail
 refine (HN.out _ (HW.out.up HB1.out)).mono ?_
 rintro e w2 ⟨rfl, hb2⟩
 have HI2 := Lib.hid (HI1.out.up hb2)
 have HB2 := Lib.hid (bwstep HB1.out hb2)
 clear hb2 HN c0 c1 c2
 go_wp2_with (refine allocC rfl rfl ?_)
 constructor
 intro w3 hI3 hb3 _
 have HI3 := Lib.hid (HI2.out.up hb3)
 have HNE : Hid (w.heap.size ≠ w2.heap.size) := Lib.hid (by have := HI2.out.lt; omega)
 go_wp2_with (refine storeC (c := d) rfl (.tmp 5) (.tmp 16) rfl rfl rfl hI3 ?_)
 constructor
 intro w4 hs4
 have i2 := hs4.i.c2
 have k2 := (hs4.up HI3.out HNE.out).c2
 have HB4 := Lib.hid (bwstep HB2.out (hs4.bel hb3 (Nat.le_refl _)))
 clear hI3 hb3 hs4
 cases q
 ·go_wp2_with fail
  go_ret
  exact ⟨rfl, HB4.out⟩
 ·by_cases hd : d.at_ = c.at_
  ·go_wp2_with fail
   go_ret
   exact ⟨by simp [hd], HB4.out⟩
  ·go_wp2_with fail
   go_ret
   exact ⟨by simp [hd], HB4.out⟩
theorem ttget_any {w : World} {S : List Nat} {b : Nat} {s : Sf} {t : Tr} {n : Int} {v lv : Value} (row col : ByteArray) (at_ : Int) (h : TrS H w S b s t.mem t.lv n v lv) (hl : Lim t.mem t.lv) (hrs : row.size ≤ 1000000) (hcs : col.size ≤ 1000000) :
  Calls Tryz.prog 54 #[.pointer (some ⟨b, 0, none⟩), .string row, .string col, .int .i64 at_] w fun e w' => e = .returned (.tuple #[.string (getV t row col at_), .bool (getB t row col at_)]) ∧ Below w.heap.size w w' := by
 have hn := tnewest_any row col at_ h hl hrs hcs
 have HG : Hid ((getV t row col at_ = if nwB row col at_ t.cells && !(nwC row col at_ t.cells).gone then (nwC row col at_ t.cells).val else ⟨#[]⟩) ∧ getB t row col at_ = (nwB row col at_ t.cells && !(nwC row col at_ t.cells).gone)) := Lib.hid (by
  unfold getV getB nwB nwC
  cases newest row col at_ t.cells with
  | none => exact ⟨rfl, rfl⟩
  | some c => cases hg : c.gone <;> simp [hg])
 rw [HG.out.1, HG.out.2]
 change Calls _ _ _ w fun e w' => e = .returned (.tuple #[(nwC row col at_ t.cells).v, .bool (nwB row col at_ t.cells)]) ∧ _ at hn
 generalize nwC row col at_ t.cells = d at *
 generalize nwB row col at_ t.cells = q at *
 obtain ⟨r, hr⟩ : ∃ r, r = (if (q && !d.gone) = true then d.val else ⟨#[]⟩) := ⟨_, rfl⟩
 obtain ⟨o, ho⟩ : ∃ o, o = (q && !d.gone) := ⟨_, rfl⟩
 rw [← hr, ← ho]
 have HR := Lib.hid hr
 have HO := Lib.hid ho
 have HN := Lib.hid hn
 clear h hl hrs hcs hn HG hr ho
 go_enter Tryz.func54, Tryz.ntmps54
 go_wp2_with fail
 refine HN.out.mono ?_
 rintro e w2 ⟨rfl, hb2⟩
 have HB2 := Lib.hid hb2
 clear hb2 HN
 go_wp2_with (refine allocC rfl rfl ?_)
 constructor
 intro w3 hI3 hb3 _
 go_wp2_with (refine storeC (c := d) rfl (.tmp 10) (.tmp 18) rfl rfl rfl hI3 ?_)
 constructor
 intro w4 hs4
 have i3 := hs4.i.c3
 have i4 := hs4.i.c4
 have HB4 := Lib.hid (bwstep HB2.out (hs4.bel hb3 (Nat.le_refl _)))
 clear hI3 hb3 hs4
 generalize d.gone = g at i4 HR HO
 cases q
 ·go_wp2_with fail
  go_ret2
  exact ⟨by rw [HR.out, HO.out]; rfl, HB4.out⟩
 ·cases g
  ·go_wp2_with fail
   go_ret2
   exact ⟨by rw [HR.out, HO.out]; rfl, HB4.out⟩
  ·go_wp2_with fail
   go_ret2
   exact ⟨by rw [HR.out, HO.out]; rfl, HB4.out⟩
end Go.Proofs.YtcpkhhbbjimdaaaGreatDoor.Ce
