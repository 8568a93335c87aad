/- One operation of a drawn region taken ahead, or left out, in few words; the operation told by its place, laid out. Commands: plain, and as values. A command's bytes; the contracts of the reference's Put and Right of layer 15. A command out of bytes: plain. The contracts of the reference's Right and Get of layer 15. -/
import Derived.Test.YtcpkhhbbjimdaaaGreatDoorBase
import Derived.Test.YtcpkhhbbjimdaaaGreatDoorClA
import Derived.Test.YtcpkhhbbjimdaaaGreatDoorStA
import Derived.Test.YtcpkhhbbjimdaaaGreatDoorCpA
import Derived.Test.YtcpkhhbbjimdaaaGreatDoorLow
import Derived.Test.YtcpkhhbbjimdaaaGreatDoorBkA
import Derived.Deep.Cut
import Derived.Deep.CutRange
import Derived.Deep.DeepCutAuto
import Derived.Deep.RegionHeld3
set_option maxHeartbeats 8000000
set_option maxRecDepth 100000
namespace Go.Proofs.YtcpkhhbbjimdaaaGreatDoor
theorem takeL {P : Program} {md : Region.Mode} {ops : Array Oper} {Q : Exit → Act → World → Prop} {S : World → Prop} (i : Nat) {oi : Oper} {v : Value} {fuel : Nat} {listed : Array Bool} {a a' : Act} {w : World} (hi : ops[i]? = some oi := by (try simp only [List.getElem?_toArray]); (try simp only [List.getElem?_cons_succ]); (try simp only [List.getElem?_cons_zero]); rfl)
 (hb : (Region.noSelect ops && Region.free md ops listed i && (Region.ready md ops listed).contains i) = true := by kernel_rfl) (hQ : ∀ c a w, Q (.panic c) (a.put oi.dst v) w → Q (.panic c) a w := by exact fun _ _ _ h => h) (hw : Region.wanted oi (yielded ops a.tmps) = true := by exact rfl)
 (hy : ∀ z, S z → (execOp a.eval oi).run P z = .ok (.value v) z := by intro z hSz; (try dsimp only at hSz); go_simp; try with_reducible rfl) (hS : S w := by assumption)
 (ha : a.put oi.dst v = a' := by (try simp only [Act.put]); (try simp only [List.setIfInBounds_toArray]); (try simp only [List.set_cons_succ]); (try simp only [List.set_cons_zero]); exact rfl) (h : wpAnyH P md ops Q S fuel (listed.setIfInBounds i true) a' w) : wpAnyH P md ops Q S (fuel + 1) listed a w := by
 rw [Bool.and_eq_true, Bool.and_eq_true] at hb; subst ha
 exact wpAnyH_take hi hb.1.1 hb.1.2 hb.2 hQ (Or.inl ⟨hw, hy⟩) hS h
theorem skipL {P : Program} {md : Region.Mode} {ops : Array Oper} {Q : Exit → Act → World → Prop} {S : World → Prop} (i : Nat) {oi : Oper} {fuel : Nat} {listed : Array Bool} {a a' : Act} {w : World} (hi : ops[i]? = some oi := by (try simp only [List.getElem?_toArray]); (try simp only [List.getElem?_cons_succ]); (try simp only [List.getElem?_cons_zero]); rfl)
 (hb : (Region.noSelect ops && Region.free md ops listed i && (Region.ready md ops listed).contains i) = true := by kernel_rfl) (hQ : ∀ c a w, Q (.panic c) (a.put oi.dst undef) w → Q (.panic c) a w := by exact fun _ _ _ h => h) (hw : Region.wanted oi (yielded ops a.tmps) = false := by exact rfl) (hS : S w := by assumption)
 (ha : a.put oi.dst undef = a' := by (try simp only [Act.put]); (try simp only [List.setIfInBounds_toArray]); (try simp only [List.set_cons_succ]); (try simp only [List.set_cons_zero]); exact rfl) (h : wpAnyH P md ops Q S fuel (listed.setIfInBounds i true) a' w) : wpAnyH P md ops Q S (fuel + 1) listed a w := by
 rw [Bool.and_eq_true, Bool.and_eq_true] at hb; subst ha
 exact wpAnyH_take hi hb.1.1 hb.1.2 hb.2 hQ (Or.inr ⟨hw, rfl⟩) hS h
end Go.Proofs.YtcpkhhbbjimdaaaGreatDoor
namespace Go.Proofs.YtcpkhhbbjimdaaaGreatDoor.Ce
open Go.RowKit
structure Cm where
 client : Int
 seq : Int
 kind : Int
 row : ByteArray
 col : ByteArray
 to_ : ByteArray
 at_ : Int
 value : ByteArray
 expect : ByteArray
 has : Bool
def Cm.zero : Cm := ⟨0, 0, 0, ⟨#[]⟩, ⟨#[]⟩, ⟨#[]⟩, 0, ⟨#[]⟩, ⟨#[]⟩, false⟩
theorem Cm.ext' {a b : Cm} (h0 : a.client = b.client) (h1 : a.seq = b.seq) (h2 : a.kind = b.kind) (h3 : a.row = b.row) (h4 : a.col = b.col) (h5 : a.to_ = b.to_) (h6 : a.at_ = b.at_) (h7 : a.value = b.value) (h8 : a.expect = b.expect) (h9 : a.has = b.has) : a = b := by
 cases a; cases b; simp_all
def Cm.cs (c : Cm) : Array Value := #[.int .i64 c.client, .int .i64 c.seq, .int .i64 c.kind, .string c.row, .string c.col, .string c.to_, .int .i64 c.at_, .string c.value, .string c.expect, .bool c.has]
abbrev cmD : St.Sp Cm := ⟨36, 0, 10, 120, Cm.cs, Cm.zero⟩
theorem cmOk : cmD.Ok Tryz.prog := ⟨⟨_, Tryz.underlying36, rfl⟩, by kernel_rfl, by decide, fun _ => rfl, fun x => by simp [Cm.cs, Value.oneCell']⟩
def Cm.v (c : Cm) : Value := .agg c.cs
def Cm.cell (c : Cm) : Cl := ⟨c.row, c.col, c.at_, c.value, false⟩
def nul : ByteArray := ⟨#[]⟩
structure Cm.Sound5 (c : Cm) : Prop where
 col : c.col = nul
 value : c.value = nul
 expect : c.expect = nul
 has : c.has = false
 row : c.row.size ≤ 64
 to_ : c.to_.size ≤ 64
 a1 : 0 ≤ c.at_
 a2 : c.at_ ≤ 4294967295
structure Cm.Sound4 (c : Cm) : Prop where
 to_ : c.to_ = nul
 check : c.kind = 3 ∨ (c.has = false ∧ c.expect = nul)
 has : c.has = true ∨ c.expect = nul
 value : c.kind = 2 ∨ c.kind = 4 → c.value = nul
 expect : c.expect.size ≤ 256
 cell : c.cell.ok
structure Cm.Sound (c : Cm) : Prop where
 c1 : 1 ≤ c.client
 c2 : c.client ≤ 16
 s1 : 1 ≤ c.seq
 s2 : c.seq ≤ 2147483647
 k1 : 1 ≤ c.kind
 k2 : c.kind ≤ 5
 five : c.kind = 5 → c.Sound5
 four : c.kind ≠ 5 → c.Sound4
structure CmAt (g : Nat) (c : Cm) (w : World) : Prop where
 c0 : w.cell? ⟨g, 0, none⟩ = some (.int .i64 c.client)
 c1 : w.cell? ⟨g, 1, none⟩ = some (.int .i64 c.seq)
 c2 : w.cell? ⟨g, 2, none⟩ = some (.int .i64 c.kind)
 c3 : w.cell? ⟨g, 3, none⟩ = some (.string c.row)
 c4 : w.cell? ⟨g, 4, none⟩ = some (.string c.col)
 c5 : w.cell? ⟨g, 5, none⟩ = some (.string c.to_)
 c6 : w.cell? ⟨g, 6, none⟩ = some (.int .i64 c.at_)
 c7 : w.cell? ⟨g, 7, none⟩ = some (.string c.value)
 c8 : w.cell? ⟨g, 8, none⟩ = some (.string c.expect)
 c9 : w.cell? ⟨g, 9, none⟩ = some (.bool c.has)
theorem CmAt.of {g : Nat} {c : Cm} {w : World} (h : cmD.In g c w) : CmAt g c w := ⟨h.at_ rfl, h.at_ rfl, h.at_ rfl, h.at_ rfl, h.at_ rfl, h.at_ rfl, h.at_ rfl, h.at_ rfl, h.at_ rfl, h.at_ rfl⟩
noncomputable instance (c : Cm) : Decidable c.Sound := Classical.propDecidable _
theorem nul_of {s : ByteArray} (h : s.toList = []) : s = nul := by
 rw [ByteArray.toList_eq] at h
 cases s
 unfold nul
 simp at h
 rw [h]
theorem nul_list {s : ByteArray} (h : s = nul) : s.toList = [] := by
 subst h
 rw [ByteArray.toList_eq]
 rfl
theorem Cm.Sound.ints {c : Cm} (h : c.Sound) : (1 ≤ c.client ∧ c.client ≤ 16) ∧ (1 ≤ c.seq ∧ c.seq ≤ 2147483647) ∧ 1 ≤ c.kind ∧ c.kind ≤ 5 := ⟨⟨h.c1, h.c2⟩, ⟨h.s1, h.s2⟩, h.k1, h.k2⟩
theorem Cm.Sound.in5 {c : Cm} (h : c.Sound) (k : c.kind = 5) : c.col.toList = [] ∧ c.value.toList = [] ∧ c.expect.toList = [] ∧ c.has = false ∧ (c.row.size : Int) ≤ 64 ∧ (c.to_.size : Int) ≤ 64 ∧ 0 ≤ c.at_ ∧ c.at_ ≤ 4294967295 :=
 have f := h.five k
 have r := f.row
 have t := f.to_
 ⟨nul_list f.col, nul_list f.value, nul_list f.expect, f.has, by omega, by omega, f.a1, f.a2⟩
theorem Cm.Sound.of5 {c : Cm} (h : (1 ≤ c.client ∧ c.client ≤ 16) ∧ (1 ≤ c.seq ∧ c.seq ≤ 2147483647)) (k : c.kind = 5) (h1 : c.col.toList = []) (h2 : c.value.toList = []) (h3 : c.expect.toList = []) (h4 : ¬ c.has = true) (h5 : (c.row.size : Int) ≤ 64) (h6 : (c.to_.size : Int) ≤ 64) (h7 : 0 ≤ c.at_) (h8 : c.at_ ≤ 4294967295) : c.Sound :=
 ⟨h.1.1, h.1.2, h.2.1, h.2.2, by omega, by omega, fun _ => ⟨nul_of h1, nul_of h2, nul_of h3, by simpa using h4, by omega, by omega, h7, h8⟩, fun hk => absurd k hk⟩
theorem xsound5 (c : Cm) (w : World) (k5 : c.kind = 5) : Calls Tryz.prog 20 #[c.v] w fun e w' => e = .returned (.bool (decide c.Sound)) ∧ Below w.heap.size w w' := by
 have HI := Lib.hid (fun h : c.Sound => h.ints)
 have H5 := Lib.hid (fun h : c.Sound => h.in5 k5)
 have HO := Lib.hid (fun h => @Cm.Sound.of5 c h k5)
 go_enter Tryz.func20, Tryz.ntmps20
 go_wp2_with (refine St.box cmD rfl (.tmp 0) c rfl rfl ?_)
 constructor
 intro w1 hI hb hz
 obtain ⟨c0, c1, c2, c3, c4, c5, c6, c7, c8, c9⟩ := CmAt.of hI
 clear hI
 go_wp2_with fail
 all_goals
  go_ret
  first
  | (refine ⟨ret1 (vb (decide_eq_false fun h => ?_).symm), hb⟩
     have i1 := HI.out h
     have i2 := H5.out h
     clear HI H5 HO c0 c1 c2 c3 c4 c5 c6 c7 c8 c9
     first | omega | (simp_all; done))
  | (refine ⟨ret1 (vb (decide_eq_decide.2 ⟨fun h => HO.out (by omega) (by assumption) (by assumption) (by assumption) (by assumption) (by assumption) (by assumption) (by assumption) h, fun h => (H5.out h).2.2.2.2.2.2.2⟩)), hb⟩)
theorem Cm.Sound.in4 {c : Cm} (h : c.Sound) (k : c.kind ≠ 5) : c.to_.toList = [] ∧ (c.kind = 3 ∨ (c.has = false ∧ c.expect.toList = [])) ∧ (c.has = true ∨ c.expect.toList = []) ∧ (c.kind = 2 ∨ c.kind = 4 → c.value.toList = []) ∧ (c.expect.size : Int) ≤ 256 ∧ c.cell.ok :=
 have f := h.four k
 have e := f.expect
 ⟨nul_list f.to_, f.check.imp id (fun g => ⟨g.1, nul_list g.2⟩), f.has.imp id nul_list, fun g => nul_list (f.value g), by omega, f.cell⟩
theorem Cm.Sound.of4 {c : Cm} (h : (1 ≤ c.client ∧ c.client ≤ 16) ∧ (1 ≤ c.seq ∧ c.seq ≤ 2147483647) ∧ 1 ≤ c.kind ∧ c.kind ≤ 5) (k : c.kind ≠ 5) (h1 : c.to_.toList = []) (h2 : c.kind = 3 ∨ (c.has = false ∧ c.expect.toList = [])) (h3 : c.has = true ∨ c.expect.toList = []) (h4 : c.kind = 2 ∨ c.kind = 4 → c.value.toList = []) (h5 : (c.expect.size : Int) ≤ 256) (h6 : c.cell.ok) : c.Sound :=
 ⟨h.1.1, h.1.2, h.2.1.1, h.2.1.2, h.2.2.1, h.2.2.2, fun e => absurd e k, fun _ => ⟨nul_of h1, h2.imp id (fun g => ⟨g.1, nul_of g.2⟩), h3.imp id nul_of, fun g => nul_of (h4 g), by omega, h6⟩⟩
theorem xsound4 (c : Cm) (w : World) (k5 : ¬ c.kind = 5) : Calls Tryz.prog 20 #[c.v] w fun e w' => e = .returned (.bool (decide c.Sound)) ∧ Below w.heap.size w w' := by
 have HI := Lib.hid (fun h : c.Sound => h.ints)
 have H4 := Lib.hid (fun h : c.Sound => h.in4 k5)
 have HO := Lib.hid (fun h => @Cm.Sound.of4 c h k5)
 have HR := Lib.hid (fun w => rright_any c.cell w)
 go_enter Tryz.func20, Tryz.ntmps20
 go_wp2_with (refine St.box cmD rfl (.tmp 0) c rfl rfl ?_)
 constructor
 intro w1 hI hb hz
 obtain ⟨c0, c1, c2, c3, c4, c5, c6, c7, c8, c9⟩ := CmAt.of hI
 clear hI
 go_wp2_with fail
 all_goals first
  | (refine (HR.out _).mono ?_
     rintro e w2 ⟨rfl, hb2⟩
     have hb3 := bwstep hb hb2
     clear c0 c1 c2 c3 c4 c5 c6 c7 c8 c9 hb2
     go_wp2_with fail
     go_ret
     refine ⟨ret1 (vb (decide_eq_decide.2 ⟨fun h => HO.out (by omega) (by assumption) ?_ ?_ ?_ (by omega) h, fun h => (H4.out h).2.2.2.2.2⟩)), hb3⟩
     all_goals (clear HI H4 HO HR; simp_all; done))
  | (go_ret
     refine ⟨ret1 (vb (decide_eq_false fun h => ?_).symm), hb⟩
     have i1 := HI.out h
     have i2 := H4.out h
     clear HI H4 HO HR c0 c1 c2 c3 c4 c5 c6 c7 c8 c9
     first | omega | (simp_all; done))
theorem xsound_any (c : Cm) (w : World) : Calls Tryz.prog 20 #[c.v] w fun e w' => e = .returned (.bool (decide c.Sound)) ∧ Below w.heap.size w w' := by
 by_cases k5 : c.kind = 5
 ·exact xsound5 c w k5
 ·exact xsound4 c w k5
end Go.Proofs.YtcpkhhbbjimdaaaGreatDoor.Ce
namespace Go.Proofs.YtcpkhhbbjimdaaaGreatDoor.Ce
open Go.RowKit
def cmN (c : Cm) : List Int := [c.client, c.seq, c.kind, c.at_, if c.has = true then 1 else 0]
def cmT (c : Cm) : List ByteArray := [c.row, c.col, c.to_, c.value, c.expect]
def numsB (N : List Int) : List UInt8 := N.flatMap fun n => numB n.toNat
def cmdB (c : Cm) : List UInt8 := numsB (cmN c) ++ allB (cmT c)
def cmdS (c : Cm) : ByteArray := ⟨(cmdB c).toArray⟩
theorem numsB_len (N : List Int) : (numsB N).length = 4 * N.length := by
 unfold numsB
 induction N with
 | nil => rfl
 | cons n N ih => rw [List.flatMap_cons, List.length_append, ih, numB_len, List.length_cons]; omega
theorem numsB_snoc (N : List Int) (k : Nat) (h : k < N.length) : numsB (N.take (k + 1)) = numsB (N.take k) ++ numB N[k].toNat := by
 unfold numsB
 rw [List.take_succ_eq_append_getElem h, List.flatMap_append]
 simp
theorem cmdB_len (c : Cm) : (cmdB c).length = 40 + (c.row.size + c.col.size + c.to_.size + c.value.size + c.expect.size) := by
 unfold cmdB
 rw [List.length_append, numsB_len, allB_len]
 simp only [cmN, cmT, sumS, List.map_cons, List.map_nil, List.sum_cons, List.sum_nil, List.length_cons, List.length_nil]
 omega
theorem cmdS_size (c : Cm) : (cmdS c).size = (cmdB c).length := by simp [cmdS, ByteArray.size]
theorem Cm.Sound.nums {c : Cm} (h : c.Sound) : ∀ n ∈ cmN c, 0 ≤ n ∧ n ≤ 4294967295 := by
 have ha : 0 ≤ c.at_ ∧ c.at_ ≤ 4294967295 := by
  by_cases k : c.kind = 5
  ·have f := h.five k
   exact ⟨f.a1, f.a2⟩
  ·have f := (h.four k).cell
   exact ⟨f.a1, f.a2⟩
 have h1 := h.c1
 have h2 := h.c2
 have h3 := h.s1
 have h4 := h.s2
 have h5 := h.k1
 have h6 := h.k2
 intro n hn
 simp only [cmN, List.mem_cons, List.not_mem_nil, or_false] at hn
 rcases hn with rfl | rfl | rfl | rfl | rfl
 ·omega
 ·omega
 ·omega
 ·omega
 ·split <;> omega
theorem Cm.Sound.texts {c : Cm} (h : c.Sound) : ∀ s ∈ cmT c, s.size ≤ 4294967295 := by
 have hz : nul.size = 0 := rfl
 intro s hs
 simp only [cmT, List.mem_cons, List.not_mem_nil, or_false] at hs
 by_cases k : c.kind = 5
 ·have f := h.five k
  have h1 := f.row
  have h2 := f.to_
  rcases hs with rfl | rfl | rfl | rfl | rfl
  ·omega
  ·rw [f.col]; omega
  ·omega
  ·rw [f.value]; omega
  ·rw [f.expect]; omega
 ·have f := h.four k
  have h1 := f.cell.r2
  have h2 := f.cell.c2
  have h3 := f.cell.v
  have h4 := f.expect
  simp only [Cm.cell] at h1 h2 h3
  rcases hs with rfl | rfl | rfl | rfl | rfl
  ·omega
  ·omega
  ·rw [f.to_]; omega
  ·omega
  ·omega
def ivC (n : Int) : Value := .int .i64 n
theorem xput_ok (c : Cm) (w : World) (hs : c.Sound) : Calls Tryz.prog 21 #[c.v] w fun e w' => e = .returned (.string (cmdS c)) ∧ Below w.heap.size w w' := by
 have HN := Lib.hid hs.nums
 have HT := Lib.hid hs.texts
 have hlen := cmdB_len c
 have hCD : Hid (numsB (cmN c) ++ allB (cmT c) = cmdB c) := Lib.hid rfl
 obtain ⟨hx, hhx⟩ : ∃ x : Int, x = if c.has = true then 1 else 0 := ⟨_, rfl⟩
 have HX := Lib.hid hhx
 have HN5 : Hid (cmN c = [c.client, c.seq, c.kind, c.at_, hx]) := Lib.hid (by rw [hhx]; rfl)
 clear hhx
 go_enter Tryz.func21, Tryz.ntmps21
 go_wp2_with (refine St.box cmD rfl (.tmp 0) c rfl rfl ?_)
 constructor
 intro w1 hI hb hz
 obtain ⟨c0, c1, c2, c3, c4, c5, c6, c7, c8, c9⟩ := CmAt.of hI
 clear hz
 have HC3 : Hid (∀ z, Below w1.heap.size w1 z → CmAt w.heap.size c z) := Lib.hid fun z hz => CmAt.of (hI.up hz)
 clear hI
 go_upto_if 10 with fail
 go_cut [3] (fun v wx => v = .int .i64 hx ∧ wx = w1)
 case first =>
  cases hh : c.has
  ·have H1 : Hid ((0 : Int) = hx) := Lib.hid (by rw [HX.out, hh]; rfl)
   rw [hh] at c9
   clear hh
   go_wp2_with fail
   go_meet
   case rel => exact ⟨vi H1.out, rfl⟩
  ·have H1 : Hid ((1 : Int) = hx) := Lib.hid (by rw [HX.out, hh]; rfl)
   rw [hh] at c9
   clear hh
   go_wp2_with fail
   go_meet
   case rel => exact ⟨vi H1.out, rfl⟩
 case rest =>
  obtain ⟨rfl, hwx⟩ := hcut
  subst wc
  obtain ⟨-, -, -, d3, d4, d5, -, d7, d8, -⟩ := HC3.out (w1.alloc (.cells #[.int .i64 c.client, .int .i64 c.seq, .int .i64 c.kind, .int .i64 c.at_, .int .i64 hx] 3)) (bwalloc (bwrefl _) _)
  go_wp2_with fail
  clear d3 d4 d5 d7 d8
  have hNr := (Rd.newW (xs := [c.client, c.seq, c.kind, c.at_, hx].map ivC) w1 3 #[.int .i64 c.client, .int .i64 c.seq, .int .i64 c.kind, .int .i64 c.at_, .int .i64 hx] rfl (by simp [maxLen]) rfl).up (bwalloc (bwrefl _) (.cells #[.string c.row, .string c.col, .string c.to_, .string c.value, .string c.expect] 9))
  have hTr := Rd.newW (xs := (cmT c).map sv) (w1.alloc (.cells #[.int .i64 c.client, .int .i64 c.seq, .int .i64 c.kind, .int .i64 c.at_, .int .i64 hx] 3)) 9 #[.string c.row, .string c.col, .string c.to_, .string c.value, .string c.expect] rfl (by simp [maxLen]) rfl
  have hb2 := bwalloc (bwalloc hb (.cells #[.int .i64 c.client, .int .i64 c.seq, .int .i64 c.kind, .int .i64 c.at_, .int .i64 hx] 3)) (.cells #[.string c.row, .string c.col, .string c.to_, .string c.value, .string c.expect] 9)
  rw [← HN5.out] at hNr
  have hsz : (w1.alloc (.cells #[.int .i64 c.client, .int .i64 c.seq, .int .i64 c.kind, .int .i64 c.at_, .int .i64 hx] 3)).heap.size = w1.heap.size + 1 := by simp
  rw [hsz] at hTr
  generalize ((w1.alloc (.cells #[.int .i64 c.client, .int .i64 c.seq, .int .i64 c.kind, .int .i64 c.at_, .int .i64 hx] 3)).alloc (.cells #[.string c.row, .string c.col, .string c.to_, .string c.value, .string c.expect] 9)) = w2 at hNr hTr hb2 ⊢
  have hNl : (cmN c).length = 5 := rfl
  have hTl : (cmT c).length = 5 := rfl
  obtain ⟨bN, oN, eN, hbN, hcN⟩ := hNr.cellM (by omega)
  obtain ⟨bT, oT, eT, hbT, hcT⟩ := hTr.cellM (by omega)
  simp only [Option.some.injEq, Addr.mk.injEq, and_true] at eN eT
  obtain ⟨rfl, rfl⟩ := eN
  obtain ⟨rfl, rfl⟩ := eT
  have HCN : Hid (∀ z, Below w2.heap.size w2 z → ∀ k (hk : k < (cmN c).length), z.cell? ⟨w1.heap.size, k, none⟩ = some (.int .i64 (cmN c)[k])) := Lib.hid fun z hz k hk => (hz.cell (by exact hbN)).trans (by have := hcN k hk; rwa [Nat.zero_add] at this)
  have HCT : Hid (∀ z, Below w2.heap.size w2 z → ∀ k (hk : k < (cmT c).length), z.cell? ⟨w1.heap.size + 1, k, none⟩ = some (.string (cmT c)[k])) := Lib.hid fun z hz k hk => (hz.cell (by exact hbT)).trans (by have := hcT k hk; rwa [Nat.zero_add] at this)
  have HB2 := Lib.hid hb2
  have HLB : (allB (cmT c)).length + 20 = (cmdB c).length := by rw [← hCD.out, List.length_append, numsB_len, hNl]; omega
  clear hNr hTr hb2 hsz hcN hcT hbN hbT c0 c1 c2 c3 c4 c5 c6 c7 c8 c9 HN5 hlen hb
  go_loopw [6, 7] (fun o i wr => ∃ k : Nat, k ≤ 5 ∧ i = .int .i64 k ∧ Ow wr w2.heap.size 5 o ((numsB ((cmN c).take k)).map bv) ∧ Below w2.heap.size w2 wr) (fun _ i _ => 5 - (intOf i).toNat)
  case atStart => exact ⟨0, by omega, rfl, Ow.nilB _ _ _, Below.refl _ _⟩
  case round =>
   obtain ⟨k, hk, rfl, ho, hbw⟩ := hrel
   by_cases hlt : k < 5
   ·have hcell := HCN.out wr hbw k (by omega)
    have hnn := HN.out _ (List.getElem_mem (show k < (cmN c).length by omega))
    have HS := Lib.hid (numsB_snoc (cmN c) k (by omega))
    generalize (cmN c)[k]'(by omega) = n at hcell hnn HS
    have hol : (numsB ((cmN c).take k)).length ≤ 20 := by rw [numsB_len, List.length_take]; omega
    generalize numsB ((cmN c).take k) = F at ho HS hol
    have HO := Lib.hid ho
    have HBW := Lib.hid hbw
    have h0 := hnn.1
    have h1 := hnn.2
    clear ho hbw hnn
    obtain ⟨wo, hwo⟩ : ∃ wo, wo = wr := ⟨_, rfl⟩
    subst hwo
    go_wp2_with fail
    refine (rnum_int n _ h0 h1).mono ?_
    rintro e w3 ⟨q, rfl, hq, hb3⟩
    have hq3 := hq.rd
    have ho3 := HO.out.below hb3
    have hb4 := bwstep HBW.out hb3
    have hs4 := hb4.size
    have z4 : F.length + (numB n.toNat).length ≤ 140737488355328 := by rw [numB_len]; omega
    clear hq hb3
    go_wp2_with (at_builtin; refine wpList_appB bytesT rfl (.tmp 36) (.tmp 41) rfl rfl ho3 rfl hq3 z4 hs4 ?_; intro v5 w5 ho5 hg5 _; have HO5 := Lib.hid ho5; have HB5 := Lib.hid (hb4.grown hg5 hs4 ho3.ge); clear ho5 hg5)
    go_roundw
    case rel => exact ⟨k + 1, by omega, by go_num, by rw [HS.out]; exact HO5.out, HB5.out⟩
    case measure => simp [intOf]; omega
   ·rw [List.take_of_length_le (show (cmN c).length ≤ k by omega)] at ho
    have HO := Lib.hid ho
    have HBW := Lib.hid hbw
    have hk0 : 5 ≤ k := by omega
    clear ho hbw hlt
    obtain ⟨wo, hwo⟩ : ∃ wo, wo = wr := ⟨_, rfl⟩
    subst hwo
    obtain ⟨p6, hp6⟩ : ∃ p6, p6 = u6 := ⟨_, rfl⟩
    subst hp6
    obtain ⟨km, hkm⟩ : ∃ km, km = k := ⟨_, rfl⟩
    subst hkm
    go_wp2_with fail
    go_loopw [6, 8] (fun o i wr => ∃ k : Nat, k ≤ 5 ∧ i = .int .i64 k ∧ Ow wr w2.heap.size 5 o ((numsB (cmN c) ++ allB ((cmT c).take k)).map bv) ∧ Below w2.heap.size w2 wr) (fun _ i _ => 5 - (intOf i).toNat)
    case atStart => exact ⟨0, by omega, rfl, by simpa [allB] using HO.out, HBW.out⟩
    case round =>
     clear HO HBW
     obtain ⟨k, hk, rfl, ho, hbw⟩ := hrel
     by_cases hlt5 : k < 5
     ·have hcell := HCT.out wr hbw k (by omega)
      have hnn := HT.out _ (List.getElem_mem (show k < (cmT c).length by omega))
      have HS := Lib.hid (allB_snoc (cmT c) k (by omega))
      have hle := allB_take_le (cmT c) (k + 1)
      rw [HS.out, List.length_append] at hle
      generalize (cmT c)[k]'(by omega) = t at hcell hnn HS hle
      have hol : (numsB (cmN c) ++ allB ((cmT c).take k)).length + (textB t).length ≤ 140737488355328 := by
       have h5 := textB_len t
       have : (allB (cmT c)).length ≤ 40 + 5 * 4294967295 := by
        rw [allB_len]
        have hsum : sumS (cmT c) ≤ 5 * 4294967295 := by
         have q0 := HT.out c.row (by simp [cmT])
         have q1 := HT.out c.col (by simp [cmT])
         have q2 := HT.out c.to_ (by simp [cmT])
         have q3 := HT.out c.value (by simp [cmT])
         have q4 := HT.out c.expect (by simp [cmT])
         simp only [cmT, sumS, List.map_cons, List.map_nil, List.sum_cons, List.sum_nil]
         omega
        omega
       rw [List.length_append, numsB_len]
       omega
      generalize allB ((cmT c).take k) = F at ho HS hol
      have HO := Lib.hid ho
      have HBW := Lib.hid hbw
      clear ho hbw hle
      obtain ⟨wi, hwi⟩ : ∃ wi, wi = wr := ⟨_, rfl⟩
      subst hwi
      go_wp2_with fail
      refine (rtext_ok t _ hnn).mono ?_
      rintro e w3 ⟨q, rfl, hq, hb3⟩
      have hq3 := hq.rd
      have ho3 := HO.out.below hb3
      have hb4 := bwstep HBW.out hb3
      have hs4 := hb4.size
      clear hq hb3
      go_wp2_with (at_builtin; refine wpList_appB bytesT rfl (.tmp 47) (.tmp 52) rfl rfl ho3 rfl hq3 hol hs4 ?_; intro v5 w5 ho5 hg5 _; have HO5 := Lib.hid ho5; have HB5 := Lib.hid (hb4.grown hg5 hs4 ho3.ge); clear ho5 hg5)
      go_roundw
      case rel => exact ⟨k + 1, by omega, by go_num, by rw [HS.out, ← List.append_assoc]; exact HO5.out, HB5.out⟩
      case measure => simp [intOf]; omega
     ·obtain rfl : k = 5 := by omega
      rw [List.take_of_length_le (show (cmT c).length ≤ 5 by omega), hCD.out] at ho
      have HBW := Lib.hid (HB2.out.trans (hbw.mono HB2.out.size))
      have hcv := run_str (P := Tryz.prog) (w := wr) Tryz.underlying84 Tryz.underlying5 Tryz.underlying9 ho.rd
      have HR : Hid ((⟨(cmdB c).toArray⟩ : ByteArray) = cmdS c) := Lib.hid rfl
      generalize (⟨(cmdB c).toArray⟩ : ByteArray) = sx at hcv HR
      clear ho hbw
      go_wp2_with fail
      go_ret
      rw [HR.out]
      exact ⟨rfl, HBW.out⟩
end Go.Proofs.YtcpkhhbbjimdaaaGreatDoor.Ce
namespace Go.Proofs.YtcpkhhbbjimdaaaGreatDoor.Ce
open Go.RowKit
theorem allB_cons (t : ByteArray) (T : List ByteArray) : allB (t :: T) = textB t ++ allB T := rfl
theorem allB_snoc1 (T : List ByteArray) (t : ByteArray) : allB (T ++ [t]) = allB T ++ textB t := by
 unfold allB
 rw [List.flatMap_append]
 simp
def IsCmd (s : List UInt8) (c : Cm) : Prop := c.Sound ∧ (cmdB c).length ≤ 512 ∧ s = cmdB c
structure Rdg (s : List UInt8) (T : List ByteArray) (a : Nat) : Prop where
 e : s.drop 20 = allB T ++ s.drop a
 le : a ≤ s.length
 z : ∀ t ∈ T, t.size ≤ 4294967295
theorem Rdg.start {s : List UInt8} (h : 20 ≤ s.length) : Rdg s [] 20 := ⟨rfl, h, by simp⟩
theorem Rdg.next {s : List UInt8} {T : List ByteArray} {a : Nat} (h : Rdg s T a) (hk : textOk (s.drop a)) : Rdg s (T ++ [textThere (s.drop a)]) (a + textSize (s.drop a)) := by
 obtain ⟨a1, a2, a3, a4, a5, a6, a7, a8, a9⟩ := ok_size hk
 rw [List.length_drop] at a5
 have hle := h.le
 refine ⟨?_, by omega, ?_⟩
 ·rw [h.e, allB_snoc1, List.append_assoc]
  congr 1
  rw [← List.drop_drop, a3, ← a7, ← a8]
  exact ct_inv a6
 ·intro t ht
  rcases List.mem_append.1 ht with h1 | h1
  ·exact h.z t h1
  ·rw [List.mem_singleton.1 h1]
   have := numOf_lt (s.drop a)
   omega
end Go.Proofs.YtcpkhhbbjimdaaaGreatDoor.Ce
namespace Go.Proofs.YtcpkhhbbjimdaaaGreatDoor.St
open Go.RowKit
section
variable {P : Program} {α : Type} {D : Sp α} {ops : Array Oper} {o : Oper} {a : Act} {w : World} {K0 : Act → World → Prop} {Q : Exit → Act → World → Prop} {g : Nat} {c c0 : α}
theorem wp_storeS (hD : D.Ok P) (x y : Operand) (ho : o.op = .store D.t x y) (hx : a.eval x = .pointer (some ⟨g, 0, none⟩)) (hy : a.eval y = .agg (D.f c)) (hi : D.In g c0 w)
 (h : ∀ w', D.Set g c w w' → K0 (a.put o.dst undef) w') : o.wp P a w K0 Q :=
 wp_store_row D.t x y ho g (D.f c) hx hy D.t (D.f c0) hi.h (by rw [hD.size]; exact hD.sizeI) (by rw [hD.size, hD.size]) (hD.one c) (h _ (Sp.Set.of hi c))
end
end Go.Proofs.YtcpkhhbbjimdaaaGreatDoor.St
namespace Go.Proofs.YtcpkhhbbjimdaaaGreatDoor.Ce
open Go.RowKit
def Cm.Right (c : Cm) : Prop := c.Sound ∧ (cmdB c).length ≤ 512
noncomputable instance (c : Cm) : Decidable c.Right := Classical.propDecidable _
theorem rright15_any (c : Cm) (w : World) : Calls Tryz.prog 11 #[c.v] w fun e w' => e = .returned (.bool (decide c.Right)) ∧ Below w.heap.size w w' := by
 have hsd := fun w => xsound_any c w
 have hput := fun w h => xput_ok c w h
 by_cases hs : c.Sound
 ·have hd : decide c.Right = decide (((cmdS c).size : Int) ≤ 512) := by
   rw [cmdS_size]
   refine decide_eq_decide.2 ⟨fun h => by have := h.2; omega, fun h => ⟨hs, by omega⟩⟩
  rw [hd]
  simp only [decide_eq_true hs] at hsd
  generalize cmdS c = s at *
  clear hd
  go_enter Tryz.func11, Tryz.ntmps11
  go_wp2_with (first | refine St.box cmD rfl (.tmp 0) c rfl rfl ?_ | refine St.load cmOk rfl (.tmp 1) rfl rfl (by assumption) ?_)
  constructor
  intro w1 hI hb hz
  go_wp2_with (refine St.load cmOk rfl (.tmp 1) rfl rfl hI ?_)
  refine (hsd _).mono ?_
  rintro e w2 ⟨rfl, hb2⟩
  have hI2 := hI.up hb2
  have hb3 := bwstep hb hb2
  clear hI hb hb2
  go_wp2_with (refine St.load cmOk rfl (.tmp 1) rfl rfl hI2 ?_)
  refine (hput _ hs).mono ?_
  rintro e w4 ⟨rfl, hb4⟩
  have hb5 := bwstep hb3 hb4
  clear hI2 hb3 hb4
  go_wp2_with fail
  go_ret
  exact ⟨rfl, hb5⟩
 ·have hd : decide c.Right = false := decide_eq_false fun h => hs h.1
  rw [hd]
  simp only [decide_eq_false hs] at hsd
  go_enter Tryz.func11, Tryz.ntmps11
  go_wp2_with (refine St.box cmD rfl (.tmp 0) c rfl rfl ?_)
  constructor
  intro w1 hI hb hz
  go_wp2_with (refine St.load cmOk rfl (.tmp 1) rfl rfl hI ?_)
  refine (hsd _).mono ?_
  rintro e w2 ⟨rfl, hb2⟩
  have hb3 := bwstep hb hb2
  clear hI hb hb2
  go_wp2_with fail
  go_ret
  exact ⟨rfl, hb3⟩
end Go.Proofs.YtcpkhhbbjimdaaaGreatDoor.Ce
