/- A table in memory: the contract of Put where the key is there, and of whatever cell. -/
import Derived.Test.YtffkbepcdidnjaaMq
namespace Go.Proofs.Ytffkbepcdidnjaa.Ce
open Go.RowKit

/-- the table's slice and size, the cell at k of it -/
def EC (b : Nat) (v : Value) (z : Int) (g o : Nat) (d : Cl) (w0 w' : World) : Prop :=
  w'.cell? ⟨b, 0, none⟩ = some v ∧ w'.cell? ⟨b, 1, none⟩ = some (.int .i64 z) ∧ w'.frozen? ⟨b, 1, none⟩ = false ∧ w'.cell? ⟨g, o, none⟩ = some (.string d.row) ∧ w'.cell? ⟨g, o + 1, none⟩ = some (.string d.col) ∧ w'.cell? ⟨g, o + 2, none⟩ = some (.int .i64 d.at_) ∧ w'.cell? ⟨g, o + 3, none⟩ = some (.string d.val) ∧ w'.cell? ⟨g, o + 4, none⟩ = some (.bool d.gone) ∧ Below w0.heap.size w0 w'
theorem EC.of {w x y : World} {S0 : List Nat} {b g q n cp k : Nat} {c d : Cl} {L : List Cl} {z : Int} (h : PutM w S0 b g c (.slice (some ⟨q, 0, none⟩) n cp) L z x) (hb : Below x.heap.size x y) (hd : L[k]? = some d) : EC b (.slice (some ⟨q, 0, none⟩) n cp) z q (k * 5) d x y := by
  have m := (h.up hb).m
  obtain ⟨h5, hq⟩ := (h.m.own.rd (S := []) (fun _ h => by cases h)).at_ hd
  obtain ⟨c0, c1, c2, c3, c4⟩ := h5.up hq hb
  rw [Nat.zero_add] at c0 c1 c2 c3 c4
  exact ⟨m.c0, m.c1, m.f1, c0, c1, c2, c3, c4, hb⟩
theorem PutM.stored {w x y : World} {S0 : List Nat} {b g q cp k : Nat} {c : Cl} {L : List Cl} {z : Int} {cur : Array Value} (h : PutM w S0 b g c (.slice (some ⟨q, 0, none⟩) L.length cp) L z x) (hk : k < L.length) (hc : L.length ≤ cp) (hm : cp ≤ maxLen) (hcs : cur.size = cp * 5) (ht : cur.toList.take (L.length * 5) = flat5 L) (hT : Turned q (cpd cur (k * 5) [c]) x y) :
    PutM w S0 b g c (.slice (some ⟨q, 0, none⟩) L.length cp) (L.set k c) z y := by
  have hqb : q ≠ b := fun e => h.m.ne (by rw [← e]; rfl)
  have hqg : q ≠ g := fun e => h.gv (by rw [← e]; rfl)
  refine ⟨⟨(hT.o b hqb.symm).trans h.m.h, OwL.stored (Nat.zero_le _) hk hc hm hcs ht hT, h.m.ne⟩, hT.other h.i hqg.symm, h.kp.trans (Kp.grown (S := [q]) hT.grown fun k e => by injection e with e; simp [e]) fun t ht => ?_, h.bS, h.gb, h.gv, h.all⟩
  rw [List.mem_singleton] at ht
  subst ht
  exact h.all t (mem_blks.2 (.inr rfl))
set_option maxHeartbeats 8000000 in
set_option maxRecDepth 100000 in
theorem mput_in (b : Nat) (v : Value) (L : List Cl) (c d : Cl) (w : World) (h : MemV w b v L) (hc : c.ok) (hs : Srt L) (hok : ∀ d ∈ L, d.ok) (hl : L.length < 2199023255552) (k : Nat) (hk : Place L c k) (hf : fnd L c k = true) (hd : L[k]? = some d) (h0 : ccmp d c = 0) :
    Calls Try.prog 10 #[.pointer (some ⟨b, 0, none⟩), c.v] w (PutEnd w b v true (put1 c L)) := by
  have hr := fun w => right_any c w
  rw [decide_eq_true hc] at hr
  have hfd := fun w hw => mfind_any b v L c w hw hs (by omega) k hk
  rw [hf] at hfd
  have HANS := Lib.hid (put1_set hk hd h0)
  obtain ⟨L', hL'⟩ : ∃ L', L' = put1 c L := ⟨_, rfl⟩
  rw [← hL'] at HANS ⊢
  have hcs := fun w => csize_any c w hc
  have hds := fun w => csize_any d w (hok d (List.mem_of_getElem? hd))
  have hkl := (List.getElem?_eq_some_iff.1 hd).1
  obtain ⟨z, hz⟩ : ∃ z, z = szs L := ⟨_, rfl⟩
  obtain ⟨n, hn⟩ : ∃ n, n = (cellB c).length := ⟨_, rfl⟩
  obtain ⟨m, hm⟩ : ∃ m, m = (cellB d).length := ⟨_, rfl⟩
  have hzb := szs_bound hok
  have hzd := szs_ge hok hd
  have hn1 := cellB_pos hc
  have HZ : Hid (z - (m : Int) + (n : Int) = szs L') := Lib.hid (by rw [HANS.out, szs_set hd, hz, hn, hm])
  rw [← hn] at hn1 hcs
  rw [← hm] at hzd hds
  rw [← hz] at hzb hzd
  obtain ⟨y, hy⟩ : ∃ y, y = z - (m : Int) := ⟨_, rfl⟩
  rw [← hy] at HZ
  have HY : Hid (IntKind.i64.wrap (z - (m : Int)) = y) := Lib.hid (by rw [hy]; exact IntWalk.i64_in _ (by omega))
  have HW1 : Hid (IntKind.i64.wrap (y + (n : Int)) = y + (n : Int)) := Lib.hid (IntWalk.i64_in _ (by omega))
  have HH := Lib.hid h
  have hbl := h.lt
  obtain ⟨q, cp, cur0, rfl, -, hcur0, hcp, hcm, -, -⟩ := h.own.open_ (by omega)
  unfold maxLen at hcm
  have HOB : Hid (q ≠ b ∧ q < w.heap.size) := Lib.hid ⟨fun e => h.ne (by rw [← e]; rfl), (h.own.lt q rfl).2⟩
  have HSZ := Lib.hid hz
  have HD := Lib.hid hd
  have hk0 : (0 : Int) ≤ (k : Int) := by omega
  have hk1 : (k : Int) < (L.length : Int) := by omega
  clear hc hs hok hk hf hL' hzb hn1 hn hm hz h hzd hy hcur0 hd h0
  go_enter Try.func10, Try.ntmps10
  go_wp2_with (refine boxC rfl (.tmp 1) c rfl rfl ?_)
  constructor
  intro w1 hI1 hb1 _
  go_wp2_with (refine loadC rfl (.tmp 3) rfl rfl hI1 ?_)
  refine (hr _).mono ?_
  rintro e w2 ⟨rfl, hb2⟩
  have hI2 := hI1.up hb2
  have hb2 := bwstep hb1 hb2
  clear hI1 hb1 hr
  go_wp2_with (refine loadC rfl (.tmp 3) rfl rfl hI2 ?_)
  refine (hfd _ (HH.out.up hb2)).mono ?_
  rintro e w3 ⟨rfl, hb3⟩
  have hI3 := hI2.up hb3
  have hb3 := bwstep hb2 hb3
  have HP3 : Hid (PutM w (blks b (.slice (some ⟨q, 0, none⟩) L.length cp)) b w.heap.size c (.slice (some ⟨q, 0, none⟩) L.length cp) L z w3) := Lib.hid ⟨by rw [HSZ.out]; exact (HH.out.up hb3).toZ, hI3, Kp.of_below hb3 _, by simp [blks], by omega, fun e => by have e : q = w.heap.size := Option.some.inj e; have := HOB.out.2; omega, fun k hk => .inl hk⟩
  clear hI2 hI3 hb2 hb3 hfd HSZ HH
  go_wp2_with fail
  obtain ⟨p0, p1, f1, p2, p3, p4, p5, p6, -⟩ := EC.of HP3.out (Below.refl w3.heap.size w3).drew HD.out
  have hw1 := HY.out
  go_region_with (go_at_call 27; refine (hds _).mono ?_; rintro e w4 ⟨rfl, hb4⟩; obtain ⟨q0, q1, g1, -⟩ := EC.of HP3.out (bwstep (Below.refl _ _).drew hb4) HD.out)
  all_goals
    have HP5 := Lib.hid ((HP3.out.up (bwstep (Below.refl _ _).drew hb4)).set1 y)
    generalize w4.setCell ⟨b, 1, none⟩ (.int .i64 y) = w5 at *
    clear hb4 hw1 p0 p1 f1 p2 p3 p4 p5 p6 q0 q1 g1 hds HP3 HY
    go_wp2_with fail
    have p0 : w5.drew.cell? ⟨b, 0, none⟩ = some (.slice (some ⟨q, 0, none⟩) L.length cp) := HP5.out.drew.m.c0
    obtain ⟨q1, q2, q3, q4, q5⟩ := HP5.out.drew.i.five
    go_still_tail 6, (by kernel_rfl)
    change wpList _ _ _ _ _ w5.drew
    have HP6 := Lib.hid HP5.out.drew
    generalize w5.drew = w6 at *
    clear p0 q1 q2 q3 q4 q5 HP5
    obtain ⟨q', cp', cur, e', -, hcur, -, -, hcs2, ht2⟩ := HP6.out.m.own.open_ (by omega)
    obtain ⟨rfl, rfl⟩ : q = q' ∧ cp = cp' := by simpa using e'
    have HCS := Lib.hid hcs2
    have HTT := Lib.hid ht2
    have HFT : Hid (k * 5 + [c].length * 5 ≤ cur.size) := Lib.hid (by rw [hcs2]; simp; omega)
    have HCUR := Lib.hid hcur
    clear hcs2 ht2 e' hcur
    go_wp2_with (refine wpList_storeAt (c := c) rfl (.tmp 38) (.tmp 37) rfl (by simp [Act.eval]) (by simp [Act.eval]; rfl) HCUR.out HFT.out ?_)
    constructor
    intro w7 ht7
    have HP7 := Lib.hid (HP6.out.stored hkl hcp hcm HCS.out HTT.out ht7)
    rw [← HANS.out] at HP7
    clear ht7 HCS HTT HFT HCUR HP6
    go_wp2_with fail
    obtain ⟨p0, f0, p1, p2, p3, p4, p5, -⟩ := HP7.out.z_in
    have hw1 := HW1.out
    go_region_with (go_at_call 27; refine (hcs _).mono ?_; rintro e w8 ⟨rfl, hb8⟩; obtain ⟨r0, g0, -⟩ := ZC.of HP7.out (bwstep (Below.refl _ _).drew hb8))
    all_goals
      have HP9 := Lib.hid ((HP7.out.up (bwstep (Below.refl _ _).drew hb8)).set1 (y + (n : Int)))
      generalize w8.setCell ⟨b, 1, none⟩ (.int .i64 (y + (n : Int))) = w9 at *
      clear hb8 hw1 hcs p0 f0 p1 p2 p3 p4 p5 r0 g0
      go_wp2_with fail
      go_ret
      exact HP9.out.fin HZ.out
/-- of whatever cell -/
theorem mput_any (b : Nat) (v : Value) (L : List Cl) (c : Cl) (w : World) (h : MemV w b v L) (hs : Srt L) (hok : ∀ d ∈ L, d.ok) (hl : L.length < 2199023255552) :
    Calls Try.prog 10 #[.pointer (some ⟨b, 0, none⟩), c.v] w (PutEnd w b v (decide c.ok) (if c.ok then put1 c L else L)) := by
  by_cases hc : c.ok
  · rw [decide_eq_true hc, if_pos hc]
    obtain ⟨k, hk⟩ := place_exists hs c
    cases hf : fnd L c k
    · exact mput_new b v L c w h hc hs hok hl k hk hf
    · obtain ⟨d, hd, h0⟩ := fnd_true hf
      exact mput_in b v L c d w h hc hs hok hl k hk hf hd h0
  · rw [decide_eq_false hc, if_neg hc]
    exact mput_no b v L c w h hc
end Go.Proofs.Ytffkbepcdidnjaa.Ce
