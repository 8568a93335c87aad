/- A table in memory: the contract of Put, its walks. -/
import Derived.Test.YtffkbepcdidnjaaMp
namespace Go.Proofs.Ytffkbepcdidnjaa.Ce
open Go.RowKit

/-- what Put leaves -/
def PutEnd (w : World) (b : Nat) (v : Value) (q : Bool) (L : List Cl) (e : Ending) (w' : World) : Prop :=
  e = .returned (.bool q) ∧ ∃ v', MemV w' b v' L ∧ Kp (blks b v) w w' ∧ ∀ k ∈ blks b v', k ∈ blks b v ∨ w.heap.size ≤ k
theorem PutM.fin {w x : World} {b g : Nat} {c : Cl} {v v' : Value} {L : List Cl} {z : Int} {q : Bool} (h : PutM w (blks b v) b g c v' L z x) (hz : z = szs L) : PutEnd w b v q L (.returned (.bool q)) x :=
  ⟨rfl, v', h.m.toV hz, h.kp, h.all⟩
set_option maxHeartbeats 1000000 in
set_option maxRecDepth 100000 in
theorem mput_no (b : Nat) (v : Value) (L : List Cl) (c : Cl) (w : World) (h : MemV w b v L) (hc : ¬ c.ok) :
    Calls Try.prog 10 #[.pointer (some ⟨b, 0, none⟩), c.v] w (PutEnd w b v false L) := by
  have hr := fun w => right_any c w
  rw [decide_eq_false hc] at hr
  clear hc
  go_enter Try.func10, Try.ntmps10
  go_wp2_with (refine boxC rfl (.tmp 1) c rfl rfl ?_)
  constructor
  intro w1 hI1 hb1 _
  go_wp2_with (refine loadC rfl (.tmp 3) rfl rfl hI1 ?_)
  refine (hr _).mono ?_
  rintro e w2 ⟨rfl, hb2⟩
  have hb := bwstep hb1 hb2
  have HM := Lib.hid (h.up hb)
  have HB := Lib.hid hb
  clear h hI1 hb1 hb2 hb hr
  go_wp2_with fail
  go_ret
  exact ⟨rfl, v, HM.out, Kp.of_below HB.out _, fun k hk => .inl hk⟩
/-- the table's slice, the cell in block g; only blocks of S1 have turned -/
def IC (b : Nat) (v : Value) (g : Nat) (c : Cl) (S1 : List Nat) (w0 w' : World) : Prop :=
  w'.cell? ⟨b, 0, none⟩ = some v ∧ w'.frozen? ⟨b, 0, none⟩ = false ∧ w'.cell? ⟨g, 0, none⟩ = some (.string c.row) ∧ w'.cell? ⟨g, 1, none⟩ = some (.string c.col) ∧ w'.cell? ⟨g, 2, none⟩ = some (.int .i64 c.at_) ∧ w'.cell? ⟨g, 3, none⟩ = some (.string c.val) ∧ w'.cell? ⟨g, 4, none⟩ = some (.bool c.gone) ∧ Kp S1 w0 w'
theorem PutM.blocks {w x y : World} {S0 : List Nat} {b g : Nat} {c : Cl} {v : Value} {L : List Cl} {z : Int} (h : PutM w S0 b g c v L z x) (hb : Kp v.ownBlock.toList x y) : y.heap[b]? = some (.cells #[v, .int .i64 z] 46 (0, 0)) ∧ InC g c y := by
  refine ⟨(hb.block b h.m.lt (by simpa using h.m.ne)).trans h.m.h, ⟨(hb.block g h.i.lt (by simpa using h.gv)).trans h.i.h⟩⟩
theorem IC.of {w x y : World} {S0 : List Nat} {b g : Nat} {c : Cl} {v : Value} {L : List Cl} {z : Int} (h : PutM w S0 b g c v L z x) (hb : Kp v.ownBlock.toList x y) : IC b v g c v.ownBlock.toList x y := by
  obtain ⟨h0, p⟩ := h.blocks hb
  exact ⟨cell_of_row _ _ 0 _ _ _ h0, frozen_of_row _ _ _ _ _ h0, p.c0, p.c1, p.c2, p.c3, p.c4, hb⟩
theorem IC.kp {b g : Nat} {c : Cl} {v : Value} {S1 : List Nat} {w0 w' : World} (h : IC b v g c S1 w0 w') : Kp S1 w0 w' := h.2.2.2.2.2.2.2
theorem PutM.kpi {w x y x' : World} {S0 : List Nat} {b g : Nat} {c : Cl} {v : Value} {L : List Cl} {z : Int} (_h : PutM w S0 b g c v L z x) (hb : Below x.heap.size x y) (hg : y.grownBy x' v.ownBlock) : Kp v.ownBlock.toList x x' :=
  (Kp.of_below hb _).trans (Kp.grown (S := v.ownBlock.toList) hg fun k e => by simp [e]) fun _ h => .inl h
theorem PutM.ins {w x y x' : World} {S0 : List Nat} {b g : Nat} {c : Cl} {v v' : Value} {L L' : List Cl} {z : Int} (h : PutM w S0 b g c v L z x) (hb : Below x.heap.size x y) (hg : y.grownBy x' v.ownBlock) (ho : OwL x' 0 v' L') (h4 : v'.ownBlock = v.ownBlock ∨ v'.ownBlock = some y.heap.size) :
    PutM w S0 b g c v' L' z (x'.setCell ⟨b, 0, none⟩ v') := by
  have hk := h.kpi hb hg
  obtain ⟨h0, hi⟩ := h.blocks hk
  have s1 := hb.size
  have s2 := h.kp.size
  have hbl := h.m.lt
  have hgl := h.i.lt
  have hne : v'.ownBlock ≠ some b := fun e => by
    rcases h4 with q | q
    · exact h.m.ne (q.symm.trans e)
    · rw [q] at e; injection e with e; omega
  refine ⟨⟨(heap_setCell_same x' b 0 _ _ v' h0).trans rfl, ho.kept (grown_set _ _ _ _) fun _ => hne, hne⟩, ⟨(Below.heap_setCell x' ⟨b, 0, none⟩ _ g (by simpa using h.gb)).trans hi.h⟩,
    (h.kp.trans hk fun k hk => h.all k (by rw [mem_blks]; simpa using Or.inr (by simpa using hk))).trans (Kp.set x' (S := S0) (p := ⟨b, 0, none⟩) h.bS _) (fun _ h => .inl h), h.bS, h.gb, fun e => ?_, fun k hk => ?_⟩
  · rcases h4 with q | q
    · exact h.gv (q.symm.trans e)
    · rw [q] at e; injection e with e; omega
  · rcases mem_blks.1 hk with rfl | e
    · exact .inl h.bS
    · rcases h4 with q | q
      · exact h.all k (mem_blks.2 (.inr (q.symm.trans e)))
      · rw [q] at e; injection e with e; exact .inr (by omega)
/-- the last statement: the size grows by the cell's -/
theorem PutM.z_in {w x : World} {S0 : List Nat} {b g : Nat} {c : Cl} {v : Value} {L : List Cl} {z : Int} (h : PutM w S0 b g c v L z x) : ZC b z g c x x.drew := ZC.of h (Below.refl _ _).drew
set_option maxHeartbeats 4000000 in
set_option maxRecDepth 100000 in
theorem mput_new (b : Nat) (v : Value) (L : List Cl) (c : Cl) (w : World) (h : MemV w b v L) (hc : c.ok) (hs : Srt L) (hok : ∀ d ∈ L, d.ok) (hl : L.length < 2199023255552) (k : Nat) (hk : Place L c k) (hf : fnd L c k = false) :
    Calls Try.prog 10 #[.pointer (some ⟨b, 0, none⟩), c.v] w (PutEnd w b v true (put1 c L)) := by
  have hr := fun w => right_any c w
  rw [decide_eq_true hc] at hr
  have hfd := fun w hw => mfind_any b v L c w hw hs (by omega) k hk
  rw [hf] at hfd
  have HANS := Lib.hid (put1_ins hk hf)
  obtain ⟨L', hL'⟩ : ∃ L', L' = put1 c L := ⟨_, rfl⟩
  rw [← hL'] at HANS ⊢
  have hcs := fun w => csize_any c w hc
  have hkl := hk.le
  obtain ⟨z, hz⟩ : ∃ z, z = szs L := ⟨_, rfl⟩
  obtain ⟨n, hn⟩ : ∃ n, n = (cellB c).length := ⟨_, rfl⟩
  have hzb := szs_bound hok
  have hn1 := cellB_pos hc
  have HZ : Hid (z + (n : Int) = szs L') := Lib.hid (by rw [HANS.out, szs_ins, hz, hn])
  rw [← hn] at hn1 hcs
  rw [← hz] at hzb
  have hw1 : IntKind.i64.wrap (z + (n : Int)) = z + (n : Int) := IntWalk.i64_in _ (by omega)
  have HW1 := Lib.hid hw1
  have HH := Lib.hid h
  have hbl := h.lt
  have HOB : Hid (∀ q, v.ownBlock = some q → q ≠ b ∧ q < w.heap.size) := Lib.hid fun q hq => ⟨fun e => h.ne (by rw [hq, e]), (h.own.lt q hq).2⟩
  have HSZ := Lib.hid hz
  clear hc hs hok hk hf hL' hw1 hzb hn1 hn hz h
  go_enter Try.func10, Try.ntmps10
  go_wp2_with (refine boxC rfl (.tmp 1) c rfl rfl ?_)
  constructor
  intro w1 hI1 hb1 _
  go_wp2_with (refine loadC rfl (.tmp 3) rfl rfl hI1 ?_)
  refine (hr _).mono ?_
  rintro e w2 ⟨rfl, hb2⟩
  have hI2 := hI1.up hb2
  have hb2 := bwstep hb1 hb2
  clear hI1 hb1 hr
  go_wp2_with (refine loadC rfl (.tmp 3) rfl rfl hI2 ?_)
  refine (hfd _ (HH.out.up hb2)).mono ?_
  rintro e w3 ⟨rfl, hb3⟩
  have hI3 := hI2.up hb3
  have hb3 := bwstep hb2 hb3
  have HP3 : Hid (PutM w (blks b v) b w.heap.size c v L z w3) := Lib.hid ⟨by rw [HSZ.out]; exact (HH.out.up hb3).toZ, hI3, Kp.of_below hb3 _, by simp [blks], by omega, fun e => Nat.lt_irrefl _ (HOB.out _ e).2, fun k hk => .inl hk⟩
  clear hI2 hI3 hb2 hb3 hfd
  go_wp2_with fail
  have HT := Lib.hid (IC.of HP3.out (Kp.of_below (Below.refl w3.heap.size w3).drew _))
  have HU : Hid (∀ x y : World, IC b v w.heap.size c v.ownBlock.toList w3 x → Below x.heap.size x y → IC b v w.heap.size c v.ownBlock.toList w3 y) := Lib.hid fun x y hS hb => IC.of HP3.out (hS.kp.bel hb)
  have HBA : Hid (Below w3.heap.size w3 (w3.alloc (.cells #[.string c.row, .string c.col, .int .i64 c.at_, .string c.val, .bool c.gone] 29)).drew) := Lib.hid (bwalloc (Below.refl _ _) _).drew
  have HOW := Lib.hid (HP3.out.m.own.below HBA.out)
  have HIW : Hid (InC w3.heap.size c (w3.alloc (.cells #[.string c.row, .string c.col, .int .i64 c.at_, .string c.val, .bool c.gone] 29)).drew) := Lib.hid ((InC.new w3 c).up (Below.refl _ _).drew)
  have HNE : Hid (v.ownBlock ≠ some w3.heap.size) := Lib.hid fun e => by have := (HP3.out.m.own.lt _ e).2; omega
  obtain ⟨p0, -, p1, p2, p3, p4, p5, -⟩ := HT.out
  obtain ⟨q0, -, q1, q2, q3, q4, q5, -⟩ := IC.of HP3.out (Kp.of_below HBA.out _)
  go_region_with (go_at_call 28; refine (insert_any v L c _ 0 k _ v.ownBlock rfl HOW.out HIW.out (Nat.zero_le _) (by omega) hkl HNE.out).mono ?_; rintro e w4 ⟨v4, rfl, ho4, hg4, h4⟩; obtain ⟨A4, c4, rfl, -, -⟩ := (ho4.rd (S := []) (fun _ h => by cases h)).shape; obtain ⟨r0, f0, -⟩ := IC.of HP3.out (HP3.out.kpi HBA.out hg4))
  all_goals
    have HP5 := Lib.hid (HP3.out.ins HBA.out hg4 ho4 h4)
    generalize hv4 : Value.slice A4 (ins k c L).length c4 = v4 at *
    generalize w4.setCell ⟨b, 0, none⟩ v4 = w5 at *
    rw [← HANS.out] at HP5
    clear hv4 p0 p1 p2 p3 p4 p5 q0 q1 q2 q3 q4 q5 r0 f0 hg4 ho4 h4 HT HU HOW HIW HNE HBA HP3
    go_wp2_with fail
    obtain ⟨p0, f0, p1, p2, p3, p4, p5, -⟩ := HP5.out.z_in
    have hw1 := HW1.out
    go_region_with (go_at_call 27; refine (hcs _).mono ?_; rintro e w6 ⟨rfl, hb6⟩; obtain ⟨r0, g0, -⟩ := ZC.of HP5.out (bwstep (Below.refl _ _).drew hb6))
    all_goals
      have HP7 := Lib.hid ((HP5.out.up (bwstep (Below.refl _ _).drew hb6)).set1 (z + (n : Int)))
      generalize w6.setCell ⟨b, 1, none⟩ (.int .i64 (z + (n : Int))) = w7 at *
      clear hb6 hw1 hcs p0 f0 p1 p2 p3 p4 p5 r0 g0
      go_wp2_with fail
      go_ret
      exact HP7.out.fin HZ.out
end Go.Proofs.Ytffkbepcdidnjaa.Ce
