/- The table in memory that lies inside a tree: the contracts of Len, Size, Cells, Get and Put there. The table in memory that lies inside a tree: Put where the key is there, and of whatever cell. -/
import Derived.Test.YtcpkhhbbjimdaaaGreatDoorMemA
set_option maxHeartbeats 8000000
set_option maxRecDepth 100000
namespace Go.Proofs.YtcpkhhbbjimdaaaGreatDoor.Ce
open Go.RowKit
structure Hos where
 T : TypeId
 tl : List Value
structure Rst where
 m : Int
 k : Int
 f : Int
 lv : Value
 n : Int
 h : Hos
def Rst.row (r : Rst) (v : Value) (z : Int) : Array Value := ⟨.int .i64 r.m :: .int .i64 r.k :: .int .i64 r.f :: v :: .int .i64 z :: r.lv :: .int .i64 r.n :: r.h.tl⟩
theorem Rst.g0 (r : Rst) (v : Value) (z : Int) : (r.row v z)[0]? = some (.int .i64 r.m) := by simp [Rst.row]
theorem Rst.g1 (r : Rst) (v : Value) (z : Int) : (r.row v z)[1]? = some (.int .i64 r.k) := by simp [Rst.row]
theorem Rst.g2 (r : Rst) (v : Value) (z : Int) : (r.row v z)[2]? = some (.int .i64 r.f) := by simp [Rst.row]
theorem Rst.g3 (r : Rst) (v : Value) (z : Int) : (r.row v z)[3]? = some v := by simp [Rst.row]
theorem Rst.g4 (r : Rst) (v : Value) (z : Int) : (r.row v z)[4]? = some (.int .i64 z) := by simp [Rst.row]
theorem Rst.g5 (r : Rst) (v : Value) (z : Int) : (r.row v z)[5]? = some r.lv := by simp [Rst.row]
theorem Rst.g6 (r : Rst) (v : Value) (z : Int) : (r.row v z)[6]? = some (.int .i64 r.n) := by simp [Rst.row]
theorem Rst.s3 (r : Rst) (v : Value) (z : Int) (u : Value) : some (Obj.cells ((r.row v z).setIfInBounds 3 u) r.h.T (0, 0)) = some (.cells (r.row u z) r.h.T (0, 0)) := by simp [Rst.row]
theorem Rst.s4 (r : Rst) (v : Value) (z y : Int) : some (Obj.cells ((r.row v z).setIfInBounds 4 (.int .i64 y)) r.h.T (0, 0)) = some (.cells (r.row v y) r.h.T (0, 0)) := by simp [Rst.row]
theorem Rst.s5 (r : Rst) (v : Value) (z : Int) (u : Value) : some (Obj.cells ((r.row v z).setIfInBounds 5 u) r.h.T (0, 0)) = some (.cells (Rst.row ⟨r.m, r.k, r.f, u, r.n, r.h⟩ v z) r.h.T (0, 0)) := by simp [Rst.row]
theorem Rst.s6 (r : Rst) (v : Value) (z y : Int) : some (Obj.cells ((r.row v z).setIfInBounds 6 (.int .i64 y)) r.h.T (0, 0)) = some (.cells (Rst.row ⟨r.m, r.k, r.f, r.lv, y, r.h⟩ v z) r.h.T (0, 0)) := by simp [Rst.row]
variable {r : Rst}
structure MmT (r : Rst) (w : World) (b : Nat) (v : Value) (L : List Cl) : Prop where
 h : w.heap[b]? = some (.cells (r.row v (szs L)) r.h.T (0, 0))
 own : OwL w 0 v L
 ne : v.ownBlock ≠ some b
section
variable {w w' : World} {b : Nat} {v : Value} {L : List Cl}
theorem MmT.c0 (h : MmT r w b v L) : w.cell? ⟨b, 3, none⟩ = some v := (cell_of_row _ _ 3 _ _ _ h.h).trans (Rst.g3 r _ _)
theorem MmT.c1 (h : MmT r w b v L) : w.cell? ⟨b, 4, none⟩ = some (.int .i64 (szs L)) := (cell_of_row _ _ 4 _ _ _ h.h).trans (Rst.g4 r _ _)
theorem MmT.lt (h : MmT r w b v L) : b < w.heap.size := (Array.getElem?_eq_some_iff.1 h.h).1
theorem MmT.up (h : MmT r w b v L) (hb : Below w.heap.size w w') : MmT r w' b v L := ⟨(hb.block b h.lt).trans h.h, h.own.below hb, h.ne⟩
theorem MmT.rd (h : MmT r w b v L) : RdL w [] v L := h.own.rd (fun _ h => by cases h)
theorem MmT.shape (h : MmT r w b v L) : ∃ A c, v = .slice A L.length c ∧ L.length ≤ c ∧ c ≤ maxLen := h.rd.shape
theorem MmT.blk_lt (h : MmT r w b v L) : ∀ k ∈ blks b v, k < w.heap.size := fun k hk => by
 rcases mem_blks.1 hk with rfl | hk
 ·exact h.lt
 ·exact (h.own.lt k hk).2
end
theorem mlenT_any (b : Nat) (v : Value) (L : List Cl) (w : World) (h : MmT r w b v L) : Calls Tryz.prog 86 #[.pointer (some ⟨b, 3, none⟩)] w fun e w' => e = .returned (.int .i64 (L.length : Int)) ∧ w = w' := by
 obtain ⟨A, c, rfl, hc, hm⟩ := h.shape
 have c0 := h.c0
 clear h
 go_enter Tryz.func86, Tryz.ntmps86
 go_wp2
 go_ret
 exact ⟨rfl, rfl⟩
theorem msizeT_any (b : Nat) (v : Value) (L : List Cl) (w : World) (h : MmT r w b v L) : Calls Tryz.prog 71 #[.pointer (some ⟨b, 3, none⟩)] w fun e w' => e = .returned (.int .i64 (szs L)) ∧ w = w' := by
 have c1 := h.c1
 clear h
 generalize szs L = z at *
 go_enter Tryz.func71, Tryz.ntmps71
 go_wp2
 go_ret
 exact ⟨rfl, rfl⟩
theorem mcellsT_any (b : Nat) (v : Value) (L : List Cl) (w : World) (h : MmT r w b v L) (hl : L.length ≤ 1000000) : Calls Tryz.prog 45 #[.pointer (some ⟨b, 3, none⟩)] w fun e w' => (∃ x, e = .returned x ∧ OwL w' w.heap.size x L) ∧ Below w.heap.size w w' := by
 have c0 := h.c0
 have hr := h.rd
 clear h
 go_enter Tryz.func45, Tryz.ntmps45
 go_wp2_with fail
 refine (cloneL_any v L _ [] hr hl).mono ?_
 rintro e w1 ⟨⟨x, rfl, hx⟩, hb⟩
 go_wp2_with fail
 go_ret
 exact ⟨⟨_, rfl, hx⟩, hb⟩
def McT (b : Nat) (v : Value) (g : Nat) (c : Cl) (w0 w' : World) : Prop :=
 w'.cell? ⟨b, 3, none⟩ = some v ∧ w'.cell? ⟨g, 0, none⟩ = some (.string c.row) ∧ w'.cell? ⟨g, 1, none⟩ = some (.string c.col) ∧ w'.cell? ⟨g, 2, none⟩ = some (.int .i64 c.at_) ∧ w'.cell? ⟨g, 3, none⟩ = some (.string c.val) ∧ w'.cell? ⟨g, 4, none⟩ = some (.bool c.gone) ∧ Below w0.heap.size w0 w'
theorem McT.of {b g : Nat} {v : Value} {L : List Cl} {c : Cl} {w0 w' : World} (h : MmT r w0 b v L) (hi : InC g c w0) (hb : Below w0.heap.size w0 w') : McT b v g c w0 w' :=
 let p := hi.up hb; ⟨(h.up hb).c0, p.c0, p.c1, p.c2, p.c3, p.c4, hb⟩
theorem McT.bel {b g : Nat} {v : Value} {c : Cl} {w0 w' : World} (h : McT b v g c w0 w') : Below w0.heap.size w0 w' := h.2.2.2.2.2.2
theorem mfindT_any (b : Nat) (v : Value) (L : List Cl) (c : Cl) (w : World) (h : MmT r w b v L) (hs : Srt L) (hl : L.length < 2199023255552) (k : Nat) (hk : Place L c k) :
  Calls Tryz.prog 83 #[.pointer (some ⟨b, 3, none⟩), c.v] w (BsEnd w k (fnd L c k)) := by
 have hbs := fun w hv => bs_any v L c w hv hs (by omega) k hk
 generalize fnd L c k = q at *
 have HBS := Lib.hid hbs
 clear hbs hk
 go_enter Tryz.func83, Tryz.ntmps83
 go_wp2_with (refine boxC rfl (.tmp 1) c rfl rfl ?_)
 constructor
 intro w1 hI1 hb1 hz1
 have h1 := h.up hb1
 have HR := Lib.hid h1.rd
 have HT := Lib.hid (McT.of h1 hI1 ((Below.refl w1.heap.size w1).drew))
 have HU : Hid (∀ x y : World, McT b v w.heap.size c w1 x → Below x.heap.size x y → McT b v w.heap.size c w1 y) := Lib.hid fun x y hS hb => McT.of h1 hI1 (bwstep hS.bel hb)
 have HB := Lib.hid hb1
 clear h h1 hI1 hb1 hz1
 go_wp2_with fail
 go_region_held3 (fun w' => w'.cell? ⟨b, 3, none⟩ = some v ∧ w'.cell? ⟨w.heap.size, 0, none⟩ = some (.string c.row) ∧ w'.cell? ⟨w.heap.size, 1, none⟩ = some (.string c.col) ∧ w'.cell? ⟨w.heap.size, 2, none⟩ = some (.int .i64 c.at_) ∧ w'.cell? ⟨w.heap.size, 3, none⟩ = some (.string c.val) ∧ w'.cell? ⟨w.heap.size, 4, none⟩ = some (.bool c.gone) ∧ Below w1.heap.size w1 w') (first | exact HT.out | assumption | exact HU.out _ _ (by assumption) (by assumption))
  (first | (go_at_call 99; refine (HBS.out _ (HR.out.bel (Below.refl _ _).drew)).mono ?_; rintro e w2 ⟨rfl, hb2⟩))
 go_wp2_with fail
 go_ret2
 exact ⟨rfl, bwstep HB.out (bwstep (Below.refl _ _).drew hb2)⟩
theorem mgetT_any (b : Nat) (v : Value) (L : List Cl) (row col : ByteArray) (at_ : Int) (w : World) (h : MmT r w b v L) (hs : Srt L) (hl : L.length ≤ 1000000) :
  Calls Tryz.prog 90 #[.pointer (some ⟨b, 3, none⟩), .string row, .string col, .int .i64 at_] w fun e w' => e = .returned (.tuple #[(nwC row col at_ L).v, .bool (nwB row col at_ L)]) ∧ Below w.heap.size w w' := by
 have hn := fun w hv => newest_any v L row col at_ w hv hs (by omega)
 generalize nwC row col at_ L = d at *
 generalize nwB row col at_ L = q at *
 go_enter Tryz.func90, Tryz.ntmps90
 go_wp2_with (refine allocC rfl rfl ?_)
 constructor
 intro w1 hI1 hb1 _
 have h1 := h.up hb1
 have c0 := h1.c0
 have HR := Lib.hid h1.rd
 have HB := Lib.hid hb1
 clear h h1 hb1 hs
 go_wp2_with fail
 refine (hn _ HR.out).mono ?_
 rintro e w2 ⟨rfl, hb2⟩
 have hI2 := hI1.up hb2
 have HB2 := Lib.hid (bwstep HB.out hb2)
 clear hI1 hb2 hn c0
 go_wp2_with (refine storeC (c := d) rfl (.tmp 8) (.tmp 18) rfl rfl rfl hI2 ?_)
 constructor
 intro w3 hs3
 have HS := Lib.hid hs3
 clear hs3
 go_wp2_with fail
 exact bodyPost_ret (res2 Tryz.results90 rfl HS.out.i) rfl ⟨rfl, HS.out.bel HB2.out (Nat.le_refl _)⟩
structure MmZ (r : Rst) (w : World) (b : Nat) (v : Value) (L : List Cl) (z : Int) : Prop where
 h : w.heap[b]? = some (.cells (r.row v z) r.h.T (0, 0))
 own : OwL w 0 v L
 ne : v.ownBlock ≠ some b
section
variable {w w' : World} {b : Nat} {v : Value} {L : List Cl} {z : Int}
theorem MmT.toZ (h : MmT r w b v L) : MmZ r w b v L (szs L) := ⟨h.h, h.own, h.ne⟩
theorem MmZ.toV (h : MmZ r w b v L z) (e : z = szs L) : MmT r w b v L := ⟨e ▸ h.h, h.own, h.ne⟩
theorem MmZ.c0 (h : MmZ r w b v L z) : w.cell? ⟨b, 3, none⟩ = some v := (cell_of_row _ _ 3 _ _ _ h.h).trans (Rst.g3 r _ _)
theorem MmZ.c1 (h : MmZ r w b v L z) : w.cell? ⟨b, 4, none⟩ = some (.int .i64 z) := (cell_of_row _ _ 4 _ _ _ h.h).trans (Rst.g4 r _ _)
theorem MmZ.f0 (h : MmZ r w b v L z) : w.frozen? ⟨b, 3, none⟩ = false := frozen_of_row _ _ _ _ _ h.h
theorem MmZ.f1 (h : MmZ r w b v L z) : w.frozen? ⟨b, 4, none⟩ = false := frozen_of_row _ _ _ _ _ h.h
theorem MmZ.lt (h : MmZ r w b v L z) : b < w.heap.size := (Array.getElem?_eq_some_iff.1 h.h).1
theorem MmZ.up (h : MmZ r w b v L z) (hb : Below w.heap.size w w') : MmZ r w' b v L z := ⟨(hb.block b h.lt).trans h.h, h.own.below hb, h.ne⟩
theorem MmZ.set1 (h : MmZ r w b v L z) (y : Int) : MmZ r (w.setCell ⟨b, 4, none⟩ (.int .i64 y)) b v L y :=
 ⟨(heap_setCell_same w b 4 _ _ (.int .i64 y) h.h).trans (Rst.s4 r _ _ _), h.own.kept (grown_set _ _ _ _) fun _ => h.ne, h.ne⟩
end
structure PutT (r : Rst) (w : World) (S0 : List Nat) (b g : Nat) (c : Cl) (v : Value) (L : List Cl) (z : Int) (w' : World) : Prop where
 m : MmZ r w' b v L z
 i : InC g c w'
 kp : Kp S0 w w'
 bS : b ∈ S0
 gb : g ≠ b
 gv : v.ownBlock ≠ some g
 all : ∀ k ∈ blks b v, k ∈ S0 ∨ w.heap.size ≤ k
section
variable {w x y : World} {S0 : List Nat} {b g : Nat} {c : Cl} {v : Value} {L : List Cl} {z : Int}
theorem PutT.up (h : PutT r w S0 b g c v L z x) (hb : Below x.heap.size x y) : PutT r w S0 b g c v L z y := ⟨h.m.up hb, h.i.up hb, h.kp.bel hb, h.bS, h.gb, h.gv, h.all⟩
theorem PutT.drew (h : PutT r w S0 b g c v L z x) : PutT r w S0 b g c v L z x.drew := h.up (Below.refl _ _).drew
theorem PutT.set1 (h : PutT r w S0 b g c v L z x) (t : Int) : PutT r w S0 b g c v L t (x.setCell ⟨b, 4, none⟩ (.int .i64 t)) :=
 ⟨h.m.set1 t, ⟨(Below.heap_setCell x ⟨b, 4, none⟩ _ g (by simpa using h.gb)).trans h.i.h⟩, h.kp.trans (Kp.set x (S := S0) (p := ⟨b, 4, none⟩) h.bS _) (fun _ h => .inl h), h.bS, h.gb, h.gv, h.all⟩
def ZcT (b : Nat) (z : Int) (g : Nat) (c : Cl) (w0 w' : World) : Prop :=
 w'.cell? ⟨b, 4, none⟩ = some (.int .i64 z) ∧ w'.frozen? ⟨b, 4, none⟩ = false ∧ w'.cell? ⟨g, 0, none⟩ = some (.string c.row) ∧ w'.cell? ⟨g, 1, none⟩ = some (.string c.col) ∧ w'.cell? ⟨g, 2, none⟩ = some (.int .i64 c.at_) ∧ w'.cell? ⟨g, 3, none⟩ = some (.string c.val) ∧ w'.cell? ⟨g, 4, none⟩ = some (.bool c.gone) ∧ Below w0.heap.size w0 w'
theorem ZcT.of (h : PutT r w S0 b g c v L z x) (hb : Below x.heap.size x y) : ZcT b z g c x y :=
 let q := h.up hb; let p := q.i; ⟨q.m.c1, q.m.f1, p.c0, p.c1, p.c2, p.c3, p.c4, hb⟩
end
def PutTE (r : Rst) (w : World) (b : Nat) (v : Value) (q : Bool) (L : List Cl) (e : Ending) (w' : World) : Prop :=
 e = .returned (.bool q) ∧ ∃ v', MmT r w' b v' L ∧ Kp (blks b v) w w' ∧ ∀ k ∈ blks b v', k ∈ blks b v ∨ w.heap.size ≤ k
theorem PutT.fin {w x : World} {b g : Nat} {c : Cl} {v v' : Value} {L : List Cl} {z : Int} {q : Bool} (h : PutT r w (blks b v) b g c v' L z x) (hz : z = szs L) : PutTE r w b v q L (.returned (.bool q)) x :=
 ⟨rfl, v', h.m.toV hz, h.kp, h.all⟩
theorem mputT_no (b : Nat) (v : Value) (L : List Cl) (c : Cl) (w : World) (h : MmT r w b v L) (hc : ¬ c.ok) :
  Calls Tryz.prog 70 #[.pointer (some ⟨b, 3, none⟩), c.v] w (PutTE r w b v false L) := by
 have hr := fun w => right_any c w
 rw [decide_eq_false hc] at hr
 clear hc
 go_enter Tryz.func70, Tryz.ntmps70
 go_wp2_with (refine boxC rfl (.tmp 1) c rfl rfl ?_)
 constructor
 intro w1 hI1 hb1 _
 go_wp2_with (refine loadC rfl (.tmp 3) rfl rfl hI1 ?_)
 refine (hr _).mono ?_
 rintro e w2 ⟨rfl, hb2⟩
 have hb := bwstep hb1 hb2
 have HM := Lib.hid (h.up hb)
 have HB := Lib.hid hb
 clear h hI1 hb1 hb2 hb hr
 go_wp2_with fail
 go_ret
 exact ⟨rfl, v, HM.out, Kp.of_below HB.out _, fun k hk => .inl hk⟩
def IcT (b : Nat) (v : Value) (g : Nat) (c : Cl) (S1 : List Nat) (w0 w' : World) : Prop :=
 w'.cell? ⟨b, 3, none⟩ = some v ∧ w'.frozen? ⟨b, 3, none⟩ = false ∧ w'.cell? ⟨g, 0, none⟩ = some (.string c.row) ∧ w'.cell? ⟨g, 1, none⟩ = some (.string c.col) ∧ w'.cell? ⟨g, 2, none⟩ = some (.int .i64 c.at_) ∧ w'.cell? ⟨g, 3, none⟩ = some (.string c.val) ∧ w'.cell? ⟨g, 4, none⟩ = some (.bool c.gone) ∧ Kp S1 w0 w'
theorem PutT.blocks {w x y : World} {S0 : List Nat} {b g : Nat} {c : Cl} {v : Value} {L : List Cl} {z : Int} (h : PutT r w S0 b g c v L z x) (hb : Kp v.ownBlock.toList x y) : y.heap[b]? = some (.cells (r.row v z) r.h.T (0, 0)) ∧ InC g c y := by
 refine ⟨(hb.block b h.m.lt (by simpa using h.m.ne)).trans h.m.h, ⟨(hb.block g h.i.lt (by simpa using h.gv)).trans h.i.h⟩⟩
theorem IcT.of {w x y : World} {S0 : List Nat} {b g : Nat} {c : Cl} {v : Value} {L : List Cl} {z : Int} (h : PutT r w S0 b g c v L z x) (hb : Kp v.ownBlock.toList x y) : IcT b v g c v.ownBlock.toList x y := by
 obtain ⟨h0, p⟩ := h.blocks hb
 exact ⟨(cell_of_row _ _ 3 _ _ _ h0).trans (Rst.g3 r _ _), frozen_of_row _ _ _ _ _ h0, p.c0, p.c1, p.c2, p.c3, p.c4, hb⟩
theorem IcT.kp {b g : Nat} {c : Cl} {v : Value} {S1 : List Nat} {w0 w' : World} (h : IcT b v g c S1 w0 w') : Kp S1 w0 w' := h.2.2.2.2.2.2.2
theorem PutT.kpi {w x y x' : World} {S0 : List Nat} {b g : Nat} {c : Cl} {v : Value} {L : List Cl} {z : Int} (_h : PutT r w S0 b g c v L z x) (hb : Below x.heap.size x y) (hg : y.grownBy x' v.ownBlock) : Kp v.ownBlock.toList x x' :=
 (Kp.of_below hb _).trans (Kp.grown (S := v.ownBlock.toList) hg fun k e => by simp [e]) fun _ h => .inl h
theorem PutT.ins {w x y x' : World} {S0 : List Nat} {b g : Nat} {c : Cl} {v v' : Value} {L L' : List Cl} {z : Int} (h : PutT r w S0 b g c v L z x) (hb : Below x.heap.size x y) (hg : y.grownBy x' v.ownBlock) (ho : OwL x' 0 v' L') (h4 : v'.ownBlock = v.ownBlock ∨ v'.ownBlock = some y.heap.size) :
  PutT r w S0 b g c v' L' z (x'.setCell ⟨b, 3, none⟩ v') := by
 have hk := h.kpi hb hg
 obtain ⟨h0, hi⟩ := h.blocks hk
 have s1 := hb.size
 have s2 := h.kp.size
 have hbl := h.m.lt
 have hgl := h.i.lt
 have hne : v'.ownBlock ≠ some b := fun e => by
  rcases h4 with q | q
  ·exact h.m.ne (q.symm.trans e)
  ·rw [q] at e; injection e with e; omega
 refine ⟨⟨(heap_setCell_same x' b 3 _ _ v' h0).trans (Rst.s3 r _ _ _), ho.kept (grown_set _ _ _ _) fun _ => hne, hne⟩, ⟨(Below.heap_setCell x' ⟨b, 3, none⟩ _ g (by simpa using h.gb)).trans hi.h⟩,
  (h.kp.trans hk fun k hk => h.all k (by rw [mem_blks]; simpa using Or.inr (by simpa using hk))).trans (Kp.set x' (S := S0) (p := ⟨b, 3, none⟩) h.bS _) (fun _ h => .inl h), h.bS, h.gb, fun e => ?_, fun k hk => ?_⟩
 ·rcases h4 with q | q
  ·exact h.gv (q.symm.trans e)
  ·rw [q] at e; injection e with e; omega
 ·rcases mem_blks.1 hk with rfl | e
  ·exact .inl h.bS
  ·rcases h4 with q | q
   ·exact h.all k (mem_blks.2 (.inr (q.symm.trans e)))
   ·rw [q] at e; injection e with e; exact .inr (by omega)
theorem PutT.z_in {w x : World} {S0 : List Nat} {b g : Nat} {c : Cl} {v : Value} {L : List Cl} {z : Int} (h : PutT r w S0 b g c v L z x) : ZcT b z g c x x.drew := ZcT.of h (Below.refl _ _).drew
theorem mputT_new (b : Nat) (v : Value) (L : List Cl) (c : Cl) (w : World) (h : MmT r w b v L) (hc : c.ok) (hs : Srt L) (hok : ∀ d ∈ L, d.ok) (hl : L.length < 2199023255552) (k : Nat) (hk : Place L c k) (hf : fnd L c k = false) :
  Calls Tryz.prog 70 #[.pointer (some ⟨b, 3, none⟩), c.v] w (PutTE r w b v true (put1 c L)) := by
 have hr := fun w => right_any c w
 rw [decide_eq_true hc] at hr
 have hfd := fun w (hw : MmT r w b v L) => mfindT_any b v L c w hw hs (by omega) k hk
 rw [hf] at hfd
 have HANS := Lib.hid (put1_ins hk hf)
 obtain ⟨L', hL'⟩ : ∃ L', L' = put1 c L := ⟨_, rfl⟩
 rw [← hL'] at HANS ⊢
 have hcs := fun w => csize_any c w hc
 have hkl := hk.le
 obtain ⟨z, hz⟩ : ∃ z, z = szs L := ⟨_, rfl⟩
 obtain ⟨n, hn⟩ : ∃ n, n = (cellB c).length := ⟨_, rfl⟩
 have hzb := szs_bound hok
 have hn1 := cellB_pos hc
 have HZ : Hid (z + (n : Int) = szs L') := Lib.hid (by rw [HANS.out, szs_ins, hz, hn])
 rw [← hn] at hn1 hcs
 rw [← hz] at hzb
 have hw1 : IntKind.i64.wrap (z + (n : Int)) = z + (n : Int) := IntWalk.i64_in _ (by omega)
 have HW1 := Lib.hid hw1
 have HH := Lib.hid h
 have hbl := h.lt
 have HOB : Hid (∀ q, v.ownBlock = some q → q ≠ b ∧ q < w.heap.size) := Lib.hid fun q hq => ⟨fun e => h.ne (by rw [hq, e]), (h.own.lt q hq).2⟩
 have HSZ := Lib.hid hz
 clear hc hs hok hk hf hL' hw1 hzb hn1 hn hz h
 go_enter Tryz.func70, Tryz.ntmps70
 go_wp2_with (refine boxC rfl (.tmp 1) c rfl rfl ?_)
 constructor
 intro w1 hI1 hb1 _
 go_wp2_with (refine loadC rfl (.tmp 3) rfl rfl hI1 ?_)
 refine (hr _).mono ?_
 rintro e w2 ⟨rfl, hb2⟩
 have hI2 := hI1.up hb2
 have hb2 := bwstep hb1 hb2
 clear hI1 hb1 hr
 go_wp2_with (refine loadC rfl (.tmp 3) rfl rfl hI2 ?_)
 refine (hfd _ (HH.out.up hb2)).mono ?_
 rintro e w3 ⟨rfl, hb3⟩
 have hI3 := hI2.up hb3
 have hb3 := bwstep hb2 hb3
 have HP3 : Hid (PutT r w (blks b v) b w.heap.size c v L z w3) := Lib.hid ⟨by rw [HSZ.out]; exact (HH.out.up hb3).toZ, hI3, Kp.of_below hb3 _, by simp [blks], by omega, fun e => Nat.lt_irrefl _ (HOB.out _ e).2, fun k hk => .inl hk⟩
 clear hI2 hI3 hb2 hb3 hfd
 go_wp2_with fail
 have HT := Lib.hid (IcT.of HP3.out (Kp.of_below (Below.refl w3.heap.size w3).drew _))
 have HU : Hid (∀ x y : World, IcT b v w.heap.size c v.ownBlock.toList w3 x → Below x.heap.size x y → IcT b v w.heap.size c v.ownBlock.toList w3 y) := Lib.hid fun x y hS hb => IcT.of HP3.out (hS.kp.bel hb)
 have HBA : Hid (Below w3.heap.size w3 (w3.alloc (.cells #[.string c.row, .string c.col, .int .i64 c.at_, .string c.val, .bool c.gone] 47)).drew) := Lib.hid (bwalloc (Below.refl _ _) _).drew
 have HOW := Lib.hid (HP3.out.m.own.below HBA.out)
 have HIW : Hid (InC w3.heap.size c (w3.alloc (.cells #[.string c.row, .string c.col, .int .i64 c.at_, .string c.val, .bool c.gone] 47)).drew) := Lib.hid ((InC.new w3 c).up (Below.refl _ _).drew)
 have HNE : Hid (v.ownBlock ≠ some w3.heap.size) := Lib.hid fun e => by have := (HP3.out.m.own.lt _ e).2; omega
 obtain ⟨p0, -, p1, p2, p3, p4, p5, -⟩ := HT.out
 obtain ⟨q0, -, q1, q2, q3, q4, q5, -⟩ := IcT.of HP3.out (Kp.of_below HBA.out _)
 go_region_with (go_at_call 85; refine (insert_any v L c _ 0 k _ v.ownBlock rfl HOW.out HIW.out (Nat.zero_le _) (by omega) hkl HNE.out).mono ?_; rintro e w4 ⟨v4, rfl, ho4, hg4, h4⟩; obtain ⟨A4, c4, rfl, -, -⟩ := (ho4.rd (S := []) (fun _ h => by cases h)).shape; obtain ⟨r0, f0, -⟩ := IcT.of HP3.out (HP3.out.kpi HBA.out hg4))
 all_goals
  have HP5 := Lib.hid (HP3.out.ins HBA.out hg4 ho4 h4)
  generalize hv4 : Value.slice A4 (ins k c L).length c4 = v4 at *
  generalize w4.setCell ⟨b, 3, none⟩ v4 = w5 at *
  rw [← HANS.out] at HP5
  clear hv4 p0 p1 p2 p3 p4 p5 q0 q1 q2 q3 q4 q5 r0 f0 hg4 ho4 h4 HT HU HOW HIW HNE HBA HP3
  go_wp2_with fail
  obtain ⟨p0, f0, p1, p2, p3, p4, p5, -⟩ := HP5.out.z_in
  have hw1 := HW1.out
  go_region_with (go_at_call 84; refine (hcs _).mono ?_; rintro e w6 ⟨rfl, hb6⟩; obtain ⟨r0, g0, -⟩ := ZcT.of HP5.out (bwstep (Below.refl _ _).drew hb6))
  all_goals
   have HP7 := Lib.hid ((HP5.out.up (bwstep (Below.refl _ _).drew hb6)).set1 (z + (n : Int)))
   generalize w6.setCell ⟨b, 4, none⟩ (.int .i64 (z + (n : Int))) = w7 at *
   clear hb6 hw1 hcs p0 f0 p1 p2 p3 p4 p5 r0 g0
   go_wp2_with fail
   go_ret
   exact HP7.out.fin HZ.out
end Go.Proofs.YtcpkhhbbjimdaaaGreatDoor.Ce
namespace Go.Proofs.YtcpkhhbbjimdaaaGreatDoor.Ce
open Go.RowKit
variable {r : Rst}
def EcT (b : Nat) (v : Value) (z : Int) (g o : Nat) (d : Cl) (w0 w' : World) : Prop :=
 w'.cell? ⟨b, 3, none⟩ = some v ∧ w'.cell? ⟨b, 4, none⟩ = some (.int .i64 z) ∧ w'.frozen? ⟨b, 4, none⟩ = false ∧ w'.cell? ⟨g, o, none⟩ = some (.string d.row) ∧ w'.cell? ⟨g, o + 1, none⟩ = some (.string d.col) ∧ w'.cell? ⟨g, o + 2, none⟩ = some (.int .i64 d.at_) ∧ w'.cell? ⟨g, o + 3, none⟩ = some (.string d.val) ∧ w'.cell? ⟨g, o + 4, none⟩ = some (.bool d.gone) ∧ Below w0.heap.size w0 w'
theorem EcT.of {w x y : World} {S0 : List Nat} {b g q n cp k : Nat} {c d : Cl} {L : List Cl} {z : Int} (h : PutT r w S0 b g c (.slice (some ⟨q, 0, none⟩) n cp) L z x) (hb : Below x.heap.size x y) (hd : L[k]? = some d) : EcT b (.slice (some ⟨q, 0, none⟩) n cp) z q (k * 5) d x y := by
 have m := (h.up hb).m
 obtain ⟨h5, hq⟩ := (h.m.own.rd (S := []) (fun _ h => by cases h)).at_ hd
 obtain ⟨c0, c1, c2, c3, c4⟩ := h5.up hq hb
 rw [Nat.zero_add] at c0 c1 c2 c3 c4
 exact ⟨m.c0, m.c1, m.f1, c0, c1, c2, c3, c4, hb⟩
theorem PutT.stored {w x y : World} {S0 : List Nat} {b g q cp k : Nat} {c : Cl} {L : List Cl} {z : Int} {cur : Array Value} (h : PutT r w S0 b g c (.slice (some ⟨q, 0, none⟩) L.length cp) L z x) (hk : k < L.length) (hc : L.length ≤ cp) (hm : cp ≤ maxLen) (hcs : cur.size = cp * 5) (ht : cur.toList.take (L.length * 5) = flat5 L) (hT : Turned q (cpd cur (k * 5) [c]) x y) :
  PutT r w S0 b g c (.slice (some ⟨q, 0, none⟩) L.length cp) (L.set k c) z y := by
 have hqb : q ≠ b := fun e => h.m.ne (by rw [← e]; rfl)
 have hqg : q ≠ g := fun e => h.gv (by rw [← e]; rfl)
 refine ⟨⟨(hT.o b hqb.symm).trans h.m.h, OwL.stored (Nat.zero_le _) hk hc hm hcs ht hT, h.m.ne⟩, hT.other h.i hqg.symm, h.kp.trans (Kp.grown (S := [q]) hT.grown fun k e => by injection e with e; simp [e]) fun t ht => ?_, h.bS, h.gb, h.gv, h.all⟩
 rw [List.mem_singleton] at ht
 subst ht
 exact h.all t (mem_blks.2 (.inr rfl))
theorem mputT_in (b : Nat) (v : Value) (L : List Cl) (c d : Cl) (w : World) (h : MmT r w b v L) (hc : c.ok) (hs : Srt L) (hok : ∀ d ∈ L, d.ok) (hl : L.length < 2199023255552) (k : Nat) (hk : Place L c k) (hf : fnd L c k = true) (hd : L[k]? = some d) (h0 : ccmp d c = 0) :
  Calls Tryz.prog 70 #[.pointer (some ⟨b, 3, none⟩), c.v] w (PutTE r w b v true (put1 c L)) := by
 have hr := fun w => right_any c w
 rw [decide_eq_true hc] at hr
 have hfd := fun w (hw : MmT r w b v L) => mfindT_any b v L c w hw hs (by omega) k hk
 rw [hf] at hfd
 have HANS := Lib.hid (put1_set hk hd h0)
 obtain ⟨L', hL'⟩ : ∃ L', L' = put1 c L := ⟨_, rfl⟩
 rw [← hL'] at HANS ⊢
 have hcs := fun w => csize_any c w hc
 have hds := fun w => csize_any d w (hok d (List.mem_of_getElem? hd))
 have hkl := (List.getElem?_eq_some_iff.1 hd).1
 obtain ⟨z, hz⟩ : ∃ z, z = szs L := ⟨_, rfl⟩
 obtain ⟨n, hn⟩ : ∃ n, n = (cellB c).length := ⟨_, rfl⟩
 obtain ⟨m, hm⟩ : ∃ m, m = (cellB d).length := ⟨_, rfl⟩
 have hzb := szs_bound hok
 have hzd := szs_ge hok hd
 have hn1 := cellB_pos hc
 have HZ : Hid (z - (m : Int) + (n : Int) = szs L') := Lib.hid (by rw [HANS.out, szs_set hd, hz, hn, hm])
 rw [← hn] at hn1 hcs
 rw [← hm] at hzd hds
 rw [← hz] at hzb hzd
 obtain ⟨y, hy⟩ : ∃ y, y = z - (m : Int) := ⟨_, rfl⟩
 rw [← hy] at HZ
 have HY : Hid (IntKind.i64.wrap (z - (m : Int)) = y) := Lib.hid (by rw [hy]; exact IntWalk.i64_in _ (by omega))
 have HW1 : Hid (IntKind.i64.wrap (y + (n : Int)) = y + (n : Int)) := Lib.hid (IntWalk.i64_in _ (by omega))
 have HH := Lib.hid h
 have hbl := h.lt
 obtain ⟨q, cp, cur0, rfl, -, hcur0, hcp, hcm, -, -⟩ := h.own.open_ (by omega)
 unfold maxLen at hcm
 have HOB : Hid (q ≠ b ∧ q < w.heap.size) := Lib.hid ⟨fun e => h.ne (by rw [← e]; rfl), (h.own.lt q rfl).2⟩
 have HSZ := Lib.hid hz
 have HD := Lib.hid hd
 have hk0 : (0 : Int) ≤ (k : Int) := by omega
 have hk1 : (k : Int) < (L.length : Int) := by omega
 clear hc hs hok hk hf hL' hzb hn1 hn hm hz h hzd hy hcur0 hd h0
 go_enter Tryz.func70, Tryz.ntmps70
 go_wp2_with (refine boxC rfl (.tmp 1) c rfl rfl ?_)
 constructor
 intro w1 hI1 hb1 _
 go_wp2_with (refine loadC rfl (.tmp 3) rfl rfl hI1 ?_)
 refine (hr _).mono ?_
 rintro e w2 ⟨rfl, hb2⟩
 have hI2 := hI1.up hb2
 have hb2 := bwstep hb1 hb2
 clear hI1 hb1 hr
 go_wp2_with (refine loadC rfl (.tmp 3) rfl rfl hI2 ?_)
 refine (hfd _ (HH.out.up hb2)).mono ?_
 rintro e w3 ⟨rfl, hb3⟩
 have hI3 := hI2.up hb3
 have hb3 := bwstep hb2 hb3
 have HP3 : Hid (PutT r w (blks b (.slice (some ⟨q, 0, none⟩) L.length cp)) b w.heap.size c (.slice (some ⟨q, 0, none⟩) L.length cp) L z w3) := Lib.hid ⟨by rw [HSZ.out]; exact (HH.out.up hb3).toZ, hI3, Kp.of_below hb3 _, by simp [blks], by omega, fun e => by have e : q = w.heap.size := Option.some.inj e; have := HOB.out.2; omega, fun k hk => .inl hk⟩
 clear hI2 hI3 hb2 hb3 hfd HSZ HH
 go_wp2_with fail
 obtain ⟨p0, p1, f1, p2, p3, p4, p5, p6, -⟩ := EcT.of HP3.out (Below.refl w3.heap.size w3).drew HD.out
 have hw1 := HY.out
 go_region_with (go_at_call 84; refine (hds _).mono ?_; rintro e w4 ⟨rfl, hb4⟩; obtain ⟨q0, q1, g1, -⟩ := EcT.of HP3.out (bwstep (Below.refl _ _).drew hb4) HD.out)
 all_goals
  have HP5 := Lib.hid ((HP3.out.up (bwstep (Below.refl _ _).drew hb4)).set1 y)
  generalize w4.setCell ⟨b, 4, none⟩ (.int .i64 y) = w5 at *
  clear hb4 hw1 p0 p1 f1 p2 p3 p4 p5 p6 q0 q1 g1 hds HP3 HY
  go_wp2_with fail
  have p0 : w5.drew.cell? ⟨b, 3, none⟩ = some (.slice (some ⟨q, 0, none⟩) L.length cp) := HP5.out.drew.m.c0
  obtain ⟨q1, q2, q3, q4, q5⟩ := HP5.out.drew.i.five
  go_still_tail 6, (by kernel_rfl)
  change wpList _ _ _ _ _ w5.drew
  have HP6 := Lib.hid HP5.out.drew
  generalize w5.drew = w6 at *
  clear p0 q1 q2 q3 q4 q5 HP5
  obtain ⟨q', cp', cur, e', -, hcur, -, -, hcs2, ht2⟩ := HP6.out.m.own.open_ (by omega)
  obtain ⟨rfl, rfl⟩ : q = q' ∧ cp = cp' := by simpa using e'
  have HCS := Lib.hid hcs2
  have HTT := Lib.hid ht2
  have HFT : Hid (k * 5 + [c].length * 5 ≤ cur.size) := Lib.hid (by rw [hcs2]; simp; omega)
  have HCUR := Lib.hid hcur
  clear hcs2 ht2 e' hcur
  go_wp2_with (refine wpList_storeAt (c := c) rfl (.tmp 38) (.tmp 37) rfl (by simp [Act.eval]) (by simp [Act.eval]; rfl) HCUR.out HFT.out ?_)
  constructor
  intro w7 ht7
  have HP7 := Lib.hid (HP6.out.stored hkl hcp hcm HCS.out HTT.out ht7)
  rw [← HANS.out] at HP7
  clear ht7 HCS HTT HFT HCUR HP6
  go_wp2_with fail
  obtain ⟨p0, f0, p1, p2, p3, p4, p5, -⟩ := HP7.out.z_in
  have hw1 := HW1.out
  go_region_with (go_at_call 84; refine (hcs _).mono ?_; rintro e w8 ⟨rfl, hb8⟩; obtain ⟨r0, g0, -⟩ := ZcT.of HP7.out (bwstep (Below.refl _ _).drew hb8))
  all_goals
   have HP9 := Lib.hid ((HP7.out.up (bwstep (Below.refl _ _).drew hb8)).set1 (y + (n : Int)))
   generalize w8.setCell ⟨b, 4, none⟩ (.int .i64 (y + (n : Int))) = w9 at *
   clear hb8 hw1 hcs p0 f0 p1 p2 p3 p4 p5 r0 g0
   go_wp2_with fail
   go_ret
   exact HP9.out.fin HZ.out
theorem mputT_any (b : Nat) (v : Value) (L : List Cl) (c : Cl) (w : World) (h : MmT r w b v L) (hs : Srt L) (hok : ∀ d ∈ L, d.ok) (hl : L.length < 2199023255552) :
  Calls Tryz.prog 70 #[.pointer (some ⟨b, 3, none⟩), c.v] w (PutTE r w b v (decide c.ok) (if c.ok then put1 c L else L)) := by
 by_cases hc : c.ok
 ·rw [decide_eq_true hc, if_pos hc]
  obtain ⟨k, hk⟩ := place_exists hs c
  cases hf : fnd L c k
  ·exact mputT_new b v L c w h hc hs hok hl k hk hf
  ·obtain ⟨d, hd, h0⟩ := fnd_true hf
   exact mputT_in b v L c d w h hc hs hok hl k hk hf hd h0
 ·rw [decide_eq_false hc, if_neg hc]
  exact mputT_no b v L c w h hc
end Go.Proofs.YtcpkhhbbjimdaaaGreatDoor.Ce
