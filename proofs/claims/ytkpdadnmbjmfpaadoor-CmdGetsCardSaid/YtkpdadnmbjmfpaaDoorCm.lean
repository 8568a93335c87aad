/- Commands: plain, and as values. -/
import Derived.Test.YtkpdadnmbjmfpaaDoorClA
import Derived.Test.YtkpdadnmbjmfpaaDoorStA
import Derived.Test.YtkpdadnmbjmfpaaDoorCpA
namespace Go.Proofs.YtkpdadnmbjmfpaaDoor.Ce
open Go.RowKit

/-- a command -/
structure Cm where
  client : Int
  seq : Int
  kind : Int
  row : ByteArray
  col : ByteArray
  to_ : ByteArray
  at_ : Int
  value : ByteArray
  expect : ByteArray
  has : Bool
def Cm.zero : Cm := ⟨0, 0, 0, ⟨#[]⟩, ⟨#[]⟩, ⟨#[]⟩, 0, ⟨#[]⟩, ⟨#[]⟩, false⟩
theorem Cm.ext' {a b : Cm} (h0 : a.client = b.client) (h1 : a.seq = b.seq) (h2 : a.kind = b.kind) (h3 : a.row = b.row) (h4 : a.col = b.col) (h5 : a.to_ = b.to_) (h6 : a.at_ = b.at_) (h7 : a.value = b.value) (h8 : a.expect = b.expect) (h9 : a.has = b.has) : a = b := by
  cases a; cases b; simp_all
def Cm.cs (c : Cm) : Array Value := #[.int .i64 c.client, .int .i64 c.seq, .int .i64 c.kind, .string c.row, .string c.col, .string c.to_, .int .i64 c.at_, .string c.value, .string c.expect, .bool c.has]
/-- commands as a struct type -/
abbrev cmD : St.Sp Cm := ⟨23, 0, 10, 120, Cm.cs, Cm.zero⟩
theorem cmOk : cmD.Ok Tryd.prog := ⟨⟨_, Tryd.underlying23, rfl⟩, by kernel_rfl, by decide, fun _ => rfl, fun x => by simp [Cm.cs, Value.oneCell']⟩
def Cm.v (c : Cm) : Value := .agg c.cs
/-- the cell that it stands for -/
def Cm.cell (c : Cm) : Cl := ⟨c.row, c.col, c.at_, c.value, false⟩
def nul : ByteArray := ⟨#[]⟩
/-- right, all but its length -/
structure Cm.Sound5 (c : Cm) : Prop where
  col : c.col = nul
  value : c.value = nul
  expect : c.expect = nul
  has : c.has = false
  row : c.row.size ≤ 64
  to_ : c.to_.size ≤ 64
  a1 : 0 ≤ c.at_
  a2 : c.at_ ≤ 4294967295
structure Cm.Sound4 (c : Cm) : Prop where
  to_ : c.to_ = nul
  check : c.kind = 3 ∨ (c.has = false ∧ c.expect = nul)
  has : c.has = true ∨ c.expect = nul
  value : c.kind = 2 ∨ c.kind = 4 → c.value = nul
  expect : c.expect.size ≤ 256
  cell : c.cell.ok
structure Cm.Sound (c : Cm) : Prop where
  c1 : 1 ≤ c.client
  c2 : c.client ≤ 16
  s1 : 1 ≤ c.seq
  s2 : c.seq ≤ 2147483647
  k1 : 1 ≤ c.kind
  k2 : c.kind ≤ 5
  five : c.kind = 5 → c.Sound5
  four : c.kind ≠ 5 → c.Sound4
/-- its parts' cells -/
structure CmAt (g : Nat) (c : Cm) (w : World) : Prop where
  c0 : w.cell? ⟨g, 0, none⟩ = some (.int .i64 c.client)
  c1 : w.cell? ⟨g, 1, none⟩ = some (.int .i64 c.seq)
  c2 : w.cell? ⟨g, 2, none⟩ = some (.int .i64 c.kind)
  c3 : w.cell? ⟨g, 3, none⟩ = some (.string c.row)
  c4 : w.cell? ⟨g, 4, none⟩ = some (.string c.col)
  c5 : w.cell? ⟨g, 5, none⟩ = some (.string c.to_)
  c6 : w.cell? ⟨g, 6, none⟩ = some (.int .i64 c.at_)
  c7 : w.cell? ⟨g, 7, none⟩ = some (.string c.value)
  c8 : w.cell? ⟨g, 8, none⟩ = some (.string c.expect)
  c9 : w.cell? ⟨g, 9, none⟩ = some (.bool c.has)
theorem CmAt.of {g : Nat} {c : Cm} {w : World} (h : cmD.In g c w) : CmAt g c w := ⟨h.at_ rfl, h.at_ rfl, h.at_ rfl, h.at_ rfl, h.at_ rfl, h.at_ rfl, h.at_ rfl, h.at_ rfl, h.at_ rfl, h.at_ rfl⟩
noncomputable instance (c : Cm) : Decidable c.Sound := Classical.propDecidable _
theorem nul_of {s : ByteArray} (h : s.toList = []) : s = nul := by
  rw [ByteArray.toList_eq] at h
  cases s
  unfold nul
  simp at h
  rw [h]
theorem nul_list {s : ByteArray} (h : s = nul) : s.toList = [] := by
  subst h
  rw [ByteArray.toList_eq]
  rfl
theorem Cm.Sound.ints {c : Cm} (h : c.Sound) : (1 ≤ c.client ∧ c.client ≤ 16) ∧ (1 ≤ c.seq ∧ c.seq ≤ 2147483647) ∧ 1 ≤ c.kind ∧ c.kind ≤ 5 := ⟨⟨h.c1, h.c2⟩, ⟨h.s1, h.s2⟩, h.k1, h.k2⟩
theorem Cm.Sound.in5 {c : Cm} (h : c.Sound) (k : c.kind = 5) : c.col.toList = [] ∧ c.value.toList = [] ∧ c.expect.toList = [] ∧ c.has = false ∧ (c.row.size : Int) ≤ 64 ∧ (c.to_.size : Int) ≤ 64 ∧ 0 ≤ c.at_ ∧ c.at_ ≤ 4294967295 :=
  have f := h.five k
  have r := f.row
  have t := f.to_
  ⟨nul_list f.col, nul_list f.value, nul_list f.expect, f.has, by omega, by omega, f.a1, f.a2⟩
theorem Cm.Sound.of5 {c : Cm} (h : (1 ≤ c.client ∧ c.client ≤ 16) ∧ (1 ≤ c.seq ∧ c.seq ≤ 2147483647)) (k : c.kind = 5) (h1 : c.col.toList = []) (h2 : c.value.toList = []) (h3 : c.expect.toList = []) (h4 : ¬ c.has = true) (h5 : (c.row.size : Int) ≤ 64) (h6 : (c.to_.size : Int) ≤ 64) (h7 : 0 ≤ c.at_) (h8 : c.at_ ≤ 4294967295) : c.Sound :=
  ⟨h.1.1, h.1.2, h.2.1, h.2.2, by omega, by omega, fun _ => ⟨nul_of h1, nul_of h2, nul_of h3, by simpa using h4, by omega, by omega, h7, h8⟩, fun hk => absurd k hk⟩
set_option maxHeartbeats 4000000 in
set_option maxRecDepth 100000 in
theorem xsound5 (c : Cm) (w : World) (k5 : c.kind = 5) : Calls Tryd.prog 12 #[c.v] w fun e w' => e = .returned (.bool (decide c.Sound)) ∧ Below w.heap.size w w' := by
  have HI := Lib.hid (fun h : c.Sound => h.ints)
  have H5 := Lib.hid (fun h : c.Sound => h.in5 k5)
  have HO := Lib.hid (fun h => @Cm.Sound.of5 c h k5)
  go_enter Tryd.func12, Tryd.ntmps12
  go_wp2_with (refine St.box cmD rfl (.tmp 0) c rfl rfl ?_)
  constructor
  intro w1 hI hb hz
  obtain ⟨c0, c1, c2, c3, c4, c5, c6, c7, c8, c9⟩ := CmAt.of hI
  clear hI
  go_wp2_with fail
  all_goals
    go_ret
    first
    | (refine ⟨ret1 (vb (decide_eq_false fun h => ?_).symm), hb⟩
       have i1 := HI.out h
       have i2 := H5.out h
       clear HI H5 HO c0 c1 c2 c3 c4 c5 c6 c7 c8 c9
       first | omega | (simp_all; done))
    | (refine ⟨ret1 (vb (decide_eq_decide.2 ⟨fun h => HO.out (by omega) (by assumption) (by assumption) (by assumption) (by assumption) (by assumption) (by assumption) (by assumption) h, fun h => (H5.out h).2.2.2.2.2.2.2⟩)), hb⟩)
theorem Cm.Sound.in4 {c : Cm} (h : c.Sound) (k : c.kind ≠ 5) : c.to_.toList = [] ∧ (c.kind = 3 ∨ (c.has = false ∧ c.expect.toList = [])) ∧ (c.has = true ∨ c.expect.toList = []) ∧ (c.kind = 2 ∨ c.kind = 4 → c.value.toList = []) ∧ (c.expect.size : Int) ≤ 256 ∧ c.cell.ok :=
  have f := h.four k
  have e := f.expect
  ⟨nul_list f.to_, f.check.imp id (fun g => ⟨g.1, nul_list g.2⟩), f.has.imp id nul_list, fun g => nul_list (f.value g), by omega, f.cell⟩
theorem Cm.Sound.of4 {c : Cm} (h : (1 ≤ c.client ∧ c.client ≤ 16) ∧ (1 ≤ c.seq ∧ c.seq ≤ 2147483647) ∧ 1 ≤ c.kind ∧ c.kind ≤ 5) (k : c.kind ≠ 5) (h1 : c.to_.toList = []) (h2 : c.kind = 3 ∨ (c.has = false ∧ c.expect.toList = [])) (h3 : c.has = true ∨ c.expect.toList = []) (h4 : c.kind = 2 ∨ c.kind = 4 → c.value.toList = []) (h5 : (c.expect.size : Int) ≤ 256) (h6 : c.cell.ok) : c.Sound :=
  ⟨h.1.1, h.1.2, h.2.1.1, h.2.1.2, h.2.2.1, h.2.2.2, fun e => absurd e k, fun _ => ⟨nul_of h1, h2.imp id (fun g => ⟨g.1, nul_of g.2⟩), h3.imp id nul_of, fun g => nul_of (h4 g), by omega, h6⟩⟩
set_option maxHeartbeats 8000000 in
set_option maxRecDepth 100000 in
theorem xsound4 (c : Cm) (w : World) (k5 : ¬ c.kind = 5) : Calls Tryd.prog 12 #[c.v] w fun e w' => e = .returned (.bool (decide c.Sound)) ∧ Below w.heap.size w w' := by
  have HI := Lib.hid (fun h : c.Sound => h.ints)
  have H4 := Lib.hid (fun h : c.Sound => h.in4 k5)
  have HO := Lib.hid (fun h => @Cm.Sound.of4 c h k5)
  have HR := Lib.hid (fun w => rright_any c.cell w)
  go_enter Tryd.func12, Tryd.ntmps12
  go_wp2_with (refine St.box cmD rfl (.tmp 0) c rfl rfl ?_)
  constructor
  intro w1 hI hb hz
  obtain ⟨c0, c1, c2, c3, c4, c5, c6, c7, c8, c9⟩ := CmAt.of hI
  clear hI
  go_wp2_with fail
  all_goals first
    | (refine (HR.out _).mono ?_
       rintro e w2 ⟨rfl, hb2⟩
       have hb3 := bwstep hb hb2
       clear c0 c1 c2 c3 c4 c5 c6 c7 c8 c9 hb2
       go_wp2_with fail
       go_ret
       refine ⟨ret1 (vb (decide_eq_decide.2 ⟨fun h => HO.out (by omega) (by assumption) ?_ ?_ ?_ (by omega) h, fun h => (H4.out h).2.2.2.2.2⟩)), hb3⟩
       all_goals (clear HI H4 HO HR; simp_all; done))
    | (go_ret
       refine ⟨ret1 (vb (decide_eq_false fun h => ?_).symm), hb⟩
       have i1 := HI.out h
       have i2 := H4.out h
       clear HI H4 HO HR c0 c1 c2 c3 c4 c5 c6 c7 c8 c9
       first | omega | (simp_all; done))
theorem xsound_any (c : Cm) (w : World) : Calls Tryd.prog 12 #[c.v] w fun e w' => e = .returned (.bool (decide c.Sound)) ∧ Below w.heap.size w w' := by
  by_cases k5 : c.kind = 5
  · exact xsound5 c w k5
  · exact xsound4 c w k5
end Go.Proofs.YtkpdadnmbjmfpaaDoor.Ce
