/- The reference's states of layer 16: plain, and as values. The reference's Apply of layer 16. The reference's Apply of layer 16: a new command. -/
import Derived.Test.YtcpkhhbbjimdaaaGreatDoorRpX
import Derived.Test.YtcpkhhbbjimdaaaGreatDoorCmY
import Derived.Deep.Cut
import Derived.Deep.CutRange
import Derived.Deep.RegionHeld3
import Derived.Test.YtcpkhhbbjimdaaaGreatDoorCbA
import Derived.Test.YtcpkhhbbjimdaaaGreatDoorMgR
set_option maxHeartbeats 8000000
set_option maxRecDepth 100000
namespace Go.Proofs.YtcpkhhbbjimdaaaGreatDoor.St
open Go.RowKit
section
variable {P : Program} {α : Type} {D : Sp α}
theorem run_opLoad (hD : D.Ok P) {o : Oper} {a : Act} {w : World} {g : Nat} {c : α} (x : Operand) (ho : o.op = .load D.t x) (hx : a.eval x = .pointer (some ⟨g, 0, none⟩)) (hi : D.In g c w) : (execOp a.eval o).run P w = .ok (.value (.agg (D.f c))) w := by
 unfold execOp
 simp only [ho, hx, Instr.loadAt, Instr.sureAddr, Sem.run_bind, Sem.run_pure, Result.andThen_ok, run_load hD w _ c hi.all]
theorem res2c {β : Type} {E : Sp β} (hD : D.Ok P) (hE : E.Ok P) {fn : Func} {p q : Tmp} {tmps : Array Value} {w : World} {g k : Nat} {c : α} {d : β} (h : fn.results = #[.cell p D.t, .cell q E.t]) (hp : tmps.getD p undef = .pointer (some ⟨g, 0, none⟩)) (hq : tmps.getD q undef = .pointer (some ⟨k, 0, none⟩)) (hi : D.In g c w) (hj : E.In k d w) :
  (results fn tmps).run P w = .ok (.tuple #[.agg (D.f c), .agg (E.f d)]) w := by
 have hp' : tmps[p]?.getD undef = .pointer (some ⟨g, 0, none⟩) := by simpa using hp
 have hq' : tmps[q]?.getD undef = .pointer (some ⟨k, 0, none⟩) := by simpa using hq
 simp [results, h, hp', hq', asAddr, run_load hD w _ c hi.all, run_load hE w _ d hj.all]
end
end Go.Proofs.YtcpkhhbbjimdaaaGreatDoor.St
namespace Go.Proofs.YtcpkhhbbjimdaaaGreatDoor.Ce
open Go.RowKit
structure Sm where
 cells : List Cl
 seq : Nat → Int
 rep : Nat → Rp
def Sm.zero : Sm := ⟨[], fun _ => 0, fun _ => Rp.zero⟩
structure Sm.Good (m : Sm) : Prop where
 srt : Srt m.cells
 ok : ∀ c ∈ m.cells, c.ok
 le : m.cells.length ≤ 400
theorem Sm.zero_good : Sm.zero.Good := ⟨List.Pairwise.nil, by simp [Sm.zero], by simp [Sm.zero]⟩
def Cm.one (c : Cm) : Cl := ⟨c.row, c.col, c.at_, c.value, decide (c.kind = 2)⟩
def thereB (L : List Cl) (c : Cm) : Bool := nwB c.row c.col c.at_ L && !(nwC c.row c.col c.at_ L).gone
def foundV (L : List Cl) (c : Cm) : ByteArray := (nwC c.row c.col c.at_ L).val
def holdsB (L : List Cl) (c : Cm) : Bool := (thereB L c == c.has) && (!thereB L c || decide (foundV L c = c.expect))
def writesB (L : List Cl) (c : Cm) : Bool := decide (c.kind ≤ 2) || (decide (c.kind = 3) && holdsB L c)
def doL (L : List Cl) (c : Cm) : List Cl := if writesB L c = true then putL L c.one else L
def doR (L : List Cl) (c : Cm) : Rp :=
 ⟨if writesB L c = true then putE16 L c.one else 0,
  (writesB L c && decide (c.kind = 3) && decide (putE16 L c.one = 0)) || (decide (c.kind = 4) && thereB L c),
  if (decide (c.kind = 4) && thereB L c) = true then foundV L c else ⟨#[]⟩,
  if c.kind = 5 then (someP c.row c.to_ c.at_ L).take 20 else []⟩
def Sm.app (m : Sm) (c : Cm) : Sm × Rp :=
 if c.seq < m.seq c.client.toNat then (m, Rp.err)
 else if c.seq = m.seq c.client.toNat then (m, m.rep c.client.toNat)
 else (⟨doL m.cells c, upd m.seq c.client.toNat c.seq, upd m.rep c.client.toNat (doR m.cells c)⟩, doR m.cells c)
structure Sv where
 a : Option Addr
 n : Nat
 c : Nat
 seq : Nat → Int
 rep : Nat → Rv
def Sv.cs (s : Sv) : Array Value := #[.slice s.a s.n s.c, .int .i64 (s.seq 0), .int .i64 (s.seq 1), .int .i64 (s.seq 2), .int .i64 (s.seq 3), .int .i64 (s.seq 4), .int .i64 (s.seq 5), .int .i64 (s.seq 6), .int .i64 (s.seq 7), .int .i64 (s.seq 8), .int .i64 (s.seq 9), .int .i64 (s.seq 10), .int .i64 (s.seq 11), .int .i64 (s.seq 12), .int .i64 (s.seq 13), .int .i64 (s.seq 14), .int .i64 (s.seq 15), .int .i64 (s.seq 16), .int .i64 (s.rep 0).e, .bool (s.rep 0).did, .string (s.rep 0).value, .slice (s.rep 0).a (s.rep 0).n (s.rep 0).c, .int .i64 (s.rep 1).e, .bool (s.rep 1).did, .string (s.rep 1).value, .slice (s.rep 1).a (s.rep 1).n (s.rep 1).c, .int .i64 (s.rep 2).e, .bool (s.rep 2).did, .string (s.rep 2).value, .slice (s.rep 2).a (s.rep 2).n (s.rep 2).c, .int .i64 (s.rep 3).e, .bool (s.rep 3).did, .string (s.rep 3).value, .slice (s.rep 3).a (s.rep 3).n (s.rep 3).c, .int .i64 (s.rep 4).e, .bool (s.rep 4).did, .string (s.rep 4).value, .slice (s.rep 4).a (s.rep 4).n (s.rep 4).c, .int .i64 (s.rep 5).e, .bool (s.rep 5).did, .string (s.rep 5).value, .slice (s.rep 5).a (s.rep 5).n (s.rep 5).c, .int .i64 (s.rep 6).e, .bool (s.rep 6).did, .string (s.rep 6).value, .slice (s.rep 6).a (s.rep 6).n (s.rep 6).c, .int .i64 (s.rep 7).e, .bool (s.rep 7).did, .string (s.rep 7).value, .slice (s.rep 7).a (s.rep 7).n (s.rep 7).c, .int .i64 (s.rep 8).e, .bool (s.rep 8).did, .string (s.rep 8).value, .slice (s.rep 8).a (s.rep 8).n (s.rep 8).c, .int .i64 (s.rep 9).e, .bool (s.rep 9).did, .string (s.rep 9).value, .slice (s.rep 9).a (s.rep 9).n (s.rep 9).c, .int .i64 (s.rep 10).e, .bool (s.rep 10).did, .string (s.rep 10).value, .slice (s.rep 10).a (s.rep 10).n (s.rep 10).c, .int .i64 (s.rep 11).e, .bool (s.rep 11).did, .string (s.rep 11).value, .slice (s.rep 11).a (s.rep 11).n (s.rep 11).c, .int .i64 (s.rep 12).e, .bool (s.rep 12).did, .string (s.rep 12).value, .slice (s.rep 12).a (s.rep 12).n (s.rep 12).c, .int .i64 (s.rep 13).e, .bool (s.rep 13).did, .string (s.rep 13).value, .slice (s.rep 13).a (s.rep 13).n (s.rep 13).c, .int .i64 (s.rep 14).e, .bool (s.rep 14).did, .string (s.rep 14).value, .slice (s.rep 14).a (s.rep 14).n (s.rep 14).c, .int .i64 (s.rep 15).e, .bool (s.rep 15).did, .string (s.rep 15).value, .slice (s.rep 15).a (s.rep 15).n (s.rep 15).c, .int .i64 (s.rep 16).e, .bool (s.rep 16).did, .string (s.rep 16).value, .slice (s.rep 16).a (s.rep 16).n (s.rep 16).c]
abbrev stD : St.Sp Sv := ⟨34, 0, 86, 1112, Sv.cs, ⟨none, 0, 0, fun _ => 0, fun _ => rpD.z⟩⟩
theorem stOk : stD.Ok Tryz.prog := ⟨⟨_, Tryz.underlying34, rfl⟩, by kernel_rfl, by decide, fun _ => rfl, fun x => by simp [Sv.cs, Value.oneCell']⟩
def Sv.v (s : Sv) : Value := .agg s.cs
structure SvIs (w : World) (S : List Nat) (s : Sv) (m : Sm) : Prop where
 cells : RdL w S (.slice s.a s.n s.c) m.cells
 seq : s.seq = m.seq
 rep : ∀ i, RpIs w S (s.rep i) (m.rep i)
theorem SvIs.bel {w w' : World} {S : List Nat} {s : Sv} {m : Sm} (h : SvIs w S s m) (hb : Below w.heap.size w w') : SvIs w' S s m := ⟨h.cells.bel hb, h.seq, fun i => (h.rep i).bel hb⟩
theorem SvIs.zero (w : World) (S : List Nat) : SvIs w S stD.z Sm.zero := ⟨RdL.nil w S, rfl, fun _ => RpIs.zero w S⟩
theorem st_seq (s : Sv) {i : Nat} (hi : i < 17) : s.cs[1 + i]? = some (.int .i64 (s.seq i)) := by
 have h : i = 0 ∨ i = 1 ∨ i = 2 ∨ i = 3 ∨ i = 4 ∨ i = 5 ∨ i = 6 ∨ i = 7 ∨ i = 8 ∨ i = 9 ∨ i = 10 ∨ i = 11 ∨ i = 12 ∨ i = 13 ∨ i = 14 ∨ i = 15 ∨ i = 16 := by omega
 rcases h with rfl | rfl | rfl | rfl | rfl | rfl | rfl | rfl | rfl | rfl | rfl | rfl | rfl | rfl | rfl | rfl | rfl <;> rfl
theorem st_rep (s : Sv) {i : Nat} (hi : i < 17) : s.cs[18 + i * 4]? = some (.int .i64 (s.rep i).e) ∧ s.cs[18 + i * 4 + 1]? = some (.bool (s.rep i).did) ∧ s.cs[18 + i * 4 + 2]? = some (.string (s.rep i).value) ∧ s.cs[18 + i * 4 + 3]? = some (.slice (s.rep i).a (s.rep i).n (s.rep i).c) := by
 have h : i = 0 ∨ i = 1 ∨ i = 2 ∨ i = 3 ∨ i = 4 ∨ i = 5 ∨ i = 6 ∨ i = 7 ∨ i = 8 ∨ i = 9 ∨ i = 10 ∨ i = 11 ∨ i = 12 ∨ i = 13 ∨ i = 14 ∨ i = 15 ∨ i = 16 := by omega
 rcases h with rfl | rfl | rfl | rfl | rfl | rfl | rfl | rfl | rfl | rfl | rfl | rfl | rfl | rfl | rfl | rfl | rfl <;> exact ⟨rfl, rfl, rfl, rfl⟩
theorem st_setSeq (s : Sv) {i : Nat} (hi : i < 17) (n : Int) : s.cs.setIfInBounds (1 + i) (.int .i64 n) = Sv.cs ⟨s.a, s.n, s.c, upd s.seq i n, s.rep⟩ := by
 have h : i = 0 ∨ i = 1 ∨ i = 2 ∨ i = 3 ∨ i = 4 ∨ i = 5 ∨ i = 6 ∨ i = 7 ∨ i = 8 ∨ i = 9 ∨ i = 10 ∨ i = 11 ∨ i = 12 ∨ i = 13 ∨ i = 14 ∨ i = 15 ∨ i = 16 := by omega
 rcases h with rfl | rfl | rfl | rfl | rfl | rfl | rfl | rfl | rfl | rfl | rfl | rfl | rfl | rfl | rfl | rfl | rfl <;> rfl
theorem st_setRep (s : Sv) {i : Nat} (hi : i < 17) (r : Rv) : St.cpd s.cs (18 + i * 4) r.cs.toList = Sv.cs ⟨s.a, s.n, s.c, s.seq, upd s.rep i r⟩ := by
 have h : i = 0 ∨ i = 1 ∨ i = 2 ∨ i = 3 ∨ i = 4 ∨ i = 5 ∨ i = 6 ∨ i = 7 ∨ i = 8 ∨ i = 9 ∨ i = 10 ∨ i = 11 ∨ i = 12 ∨ i = 13 ∨ i = 14 ∨ i = 15 ∨ i = 16 := by omega
 rcases h with rfl | rfl | rfl | rfl | rfl | rfl | rfl | rfl | rfl | rfl | rfl | rfl | rfl | rfl | rfl | rfl | rfl <;> rfl
end Go.Proofs.YtcpkhhbbjimdaaaGreatDoor.Ce
namespace Go.Proofs.YtcpkhhbbjimdaaaGreatDoor.Ce
open Go.RowKit
def AppEnd (w : World) (S0 : List Nat) (m : Sm) (c : Cm) (e : Ending) (w' : World) : Prop := (∃ s' r', e = .returned (.tuple #[Sv.v s', Rv.v r']) ∧ SvIs w' S0 s' (m.app c).1 ∧ RpIs w' S0 r' (m.app c).2) ∧ Below w.heap.size w w'
theorem sA_of {s : Sv} {c : Cm} {w w1 wb z : World} (h17 : c.client.toNat < 17) (h : stD.In w.heap.size s z) (k : cmD.In w1.heap.size c z) (b : Below wb.heap.size wb z) : stD.In w.heap.size s z ∧ cmD.In w1.heap.size c z ∧ z.cell? ⟨w1.heap.size, 0, none⟩ = some (.int .i64 c.client) ∧ z.cell? ⟨w1.heap.size, 1, none⟩ = some (.int .i64 c.seq) ∧ z.cell? ⟨w1.heap.size, 2, none⟩ = some (.int .i64 c.kind) ∧ z.cell? ⟨w1.heap.size, 3, none⟩ = some (.string c.row) ∧ z.cell? ⟨w1.heap.size, 4, none⟩ = some (.string c.col) ∧ z.cell? ⟨w1.heap.size, 5, none⟩ = some (.string c.to_) ∧ z.cell? ⟨w1.heap.size, 6, none⟩ = some (.int .i64 c.at_) ∧ z.cell? ⟨w1.heap.size, 7, none⟩ = some (.string c.value) ∧ z.cell? ⟨w1.heap.size, 8, none⟩ = some (.string c.expect) ∧ z.cell? ⟨w1.heap.size, 9, none⟩ = some (.bool c.has) ∧ z.cell? ⟨w.heap.size, 1 + c.client.toNat, none⟩ = some (.int .i64 (s.seq c.client.toNat)) ∧ Below wb.heap.size wb z :=
 have a := CmAt.of k
 ⟨h, k, a.c0, a.c1, a.c2, a.c3, a.c4, a.c5, a.c6, a.c7, a.c8, a.c9, h.at_ (st_seq s h17), b⟩
theorem sA_up {s : Sv} {c : Cm} {w w1 wb z z' : World} (h17 : c.client.toNat < 17) (h : stD.In w.heap.size s z ∧ cmD.In w1.heap.size c z ∧ z.cell? ⟨w1.heap.size, 0, none⟩ = some (.int .i64 c.client) ∧ z.cell? ⟨w1.heap.size, 1, none⟩ = some (.int .i64 c.seq) ∧ z.cell? ⟨w1.heap.size, 2, none⟩ = some (.int .i64 c.kind) ∧ z.cell? ⟨w1.heap.size, 3, none⟩ = some (.string c.row) ∧ z.cell? ⟨w1.heap.size, 4, none⟩ = some (.string c.col) ∧ z.cell? ⟨w1.heap.size, 5, none⟩ = some (.string c.to_) ∧ z.cell? ⟨w1.heap.size, 6, none⟩ = some (.int .i64 c.at_) ∧ z.cell? ⟨w1.heap.size, 7, none⟩ = some (.string c.value) ∧ z.cell? ⟨w1.heap.size, 8, none⟩ = some (.string c.expect) ∧ z.cell? ⟨w1.heap.size, 9, none⟩ = some (.bool c.has) ∧ z.cell? ⟨w.heap.size, 1 + c.client.toNat, none⟩ = some (.int .i64 (s.seq c.client.toNat)) ∧ Below wb.heap.size wb z) (hb : Below z.heap.size z z') : stD.In w.heap.size s z' ∧ cmD.In w1.heap.size c z' ∧ z'.cell? ⟨w1.heap.size, 0, none⟩ = some (.int .i64 c.client) ∧ z'.cell? ⟨w1.heap.size, 1, none⟩ = some (.int .i64 c.seq) ∧ z'.cell? ⟨w1.heap.size, 2, none⟩ = some (.int .i64 c.kind) ∧ z'.cell? ⟨w1.heap.size, 3, none⟩ = some (.string c.row) ∧ z'.cell? ⟨w1.heap.size, 4, none⟩ = some (.string c.col) ∧ z'.cell? ⟨w1.heap.size, 5, none⟩ = some (.string c.to_) ∧ z'.cell? ⟨w1.heap.size, 6, none⟩ = some (.int .i64 c.at_) ∧ z'.cell? ⟨w1.heap.size, 7, none⟩ = some (.string c.value) ∧ z'.cell? ⟨w1.heap.size, 8, none⟩ = some (.string c.expect) ∧ z'.cell? ⟨w1.heap.size, 9, none⟩ = some (.bool c.has) ∧ z'.cell? ⟨w.heap.size, 1 + c.client.toNat, none⟩ = some (.int .i64 (s.seq c.client.toNat)) ∧ Below wb.heap.size wb z' :=
 sA_of h17 (h.1.up hb) (h.2.1.up hb) (bwstep h.2.2.2.2.2.2.2.2.2.2.2.2.2 hb)
theorem s4_of {s : Sv} {c : Cm} {w w1 w2 w3 z : World} (h17 : c.client.toNat < 17) (h : stD.In w.heap.size s z) (k : cmD.In w1.heap.size c z) (p : ∃ c0, stD.In w2.heap.size c0 z) (q : ∃ r0, rpD.In w3.heap.size r0 z) (b : Below w.heap.size w z) : stD.In w.heap.size s z ∧ cmD.In w1.heap.size c z ∧ z.cell? ⟨w1.heap.size, 0, none⟩ = some (.int .i64 c.client) ∧ z.cell? ⟨w1.heap.size, 1, none⟩ = some (.int .i64 c.seq) ∧ z.cell? ⟨w1.heap.size, 2, none⟩ = some (.int .i64 c.kind) ∧ z.cell? ⟨w1.heap.size, 3, none⟩ = some (.string c.row) ∧ z.cell? ⟨w1.heap.size, 4, none⟩ = some (.string c.col) ∧ z.cell? ⟨w1.heap.size, 5, none⟩ = some (.string c.to_) ∧ z.cell? ⟨w1.heap.size, 6, none⟩ = some (.int .i64 c.at_) ∧ z.cell? ⟨w1.heap.size, 7, none⟩ = some (.string c.value) ∧ z.cell? ⟨w1.heap.size, 8, none⟩ = some (.string c.expect) ∧ z.cell? ⟨w1.heap.size, 9, none⟩ = some (.bool c.has) ∧ z.cell? ⟨w.heap.size, 18 + c.client.toNat * 4, none⟩ = some (.int .i64 (s.rep c.client.toNat).e) ∧ z.cell? ⟨w.heap.size, 18 + c.client.toNat * 4 + 1, none⟩ = some (.bool (s.rep c.client.toNat).did) ∧ z.cell? ⟨w.heap.size, 18 + c.client.toNat * 4 + 2, none⟩ = some (.string (s.rep c.client.toNat).value) ∧ z.cell? ⟨w.heap.size, 18 + c.client.toNat * 4 + 3, none⟩ = some (.slice (s.rep c.client.toNat).a (s.rep c.client.toNat).n (s.rep c.client.toNat).c) ∧ (∃ c0, stD.In w2.heap.size c0 z) ∧ (∃ r0, rpD.In w3.heap.size r0 z) ∧ Below w.heap.size w z :=
 have a := CmAt.of k
 have r := st_rep s h17
 ⟨h, k, a.c0, a.c1, a.c2, a.c3, a.c4, a.c5, a.c6, a.c7, a.c8, a.c9, h.at_ r.1, h.at_ r.2.1, h.at_ r.2.2.1, h.at_ r.2.2.2, p, q, b⟩
def RvE : Rv := ⟨1, false, ⟨#[]⟩, none, 0, 0⟩
theorem RpIs.err (w : World) (S : List Nat) : RpIs w S RvE Rp.err := ⟨rfl, rfl, rfl, RdL.nil w S⟩
theorem rapply_lt (s : Sv) (m : Sm) (c : Cm) (w : World) (S0 : List Nat) (hS0 : ∀ k ∈ S0, k < w.heap.size) (hs : SvIs w S0 s m) (hr : c.Right) (hq : c.seq < m.seq c.client.toNat) : Calls Tryz.prog 12 #[s.v, c.v] w (AppEnd w S0 m c) := by
 have hrr := fun w => rright15_any c w
 rw [decide_eq_true hr] at hrr
 have HS := Lib.hid hs
 have HS0 := Lib.hid hS0
 have h0 : (0 : Int) ≤ c.client := by have := hr.1.c1; omega
 have h17 : c.client < 17 := by have := hr.1.c2; omega
 have hn17 : c.client.toNat < 17 := by omega
 have HE : Hid (m.app c = (m, Rp.err)) := Lib.hid (if_pos hq)
 rw [← hs.seq] at hq
 clear hs hS0 hr
 go_enter Tryz.func12, Tryz.ntmps12
 go_wp2_with (refine St.box stD rfl (.tmp 0) s rfl rfl ?_)
 constructor
 intro w1 hI1 hw1 hz1
 clear hz1
 go_wp2_with (refine St.box cmD rfl (.tmp 1) c rfl rfl ?_)
 constructor
 intro w2 hJ2 hb2 hz2
 have HI2 := Lib.hid (hI1.up hb2)
 have HJ2 := Lib.hid hJ2
 have hw2 := bwstep hw1 hb2
 have HL1 := Lib.hid hI1.lt
 have HL2 := Lib.hid hJ2.lt
 clear hz2 hI1 hw1 hb2 hJ2
 go_wp2_with (refine St.alloc stOk rfl rfl ?_)
 constructor
 intro w3 hK3 hb3 hz3
 have HI3 := Lib.hid (HI2.out.up hb3)
 have HJ3 := Lib.hid (HJ2.out.up hb3)
 have HK3 := Lib.hid hK3
 have HL3 := Lib.hid hK3.lt
 have hw3 := bwstep hw2 hb3
 clear hz3 hw2 hb3 hK3
 go_wp2_with (refine St.alloc rpOk rfl rfl ?_)
 constructor
 intro w4 hL4 hb4 hz4
 have HI4 := Lib.hid (HI3.out.up hb4)
 have HJ4 := Lib.hid (HJ3.out.up hb4)
 have HK4 := Lib.hid (HK3.out.up hb4)
 have HL4 := Lib.hid hL4
 have HW4 := Lib.hid (bwstep hw3 hb4)
 clear hz4 hw3 hb4 hL4
 have HT := Lib.hid (sA_of (wb := w4) (z := w4.drew) hn17 (HI4.out.kept rfl) (HJ4.out.kept rfl) (Below.refl _ _).drew)
 have HU := Lib.hid fun (a b : World) h hb => sA_up hn17 (s := s) (c := c) (w := w) (w1 := w1) (wb := w4) (z := a) (z' := b) h hb
 go_wp2_with fail
 go_region_held3 (fun z => stD.In w.heap.size s z ∧ cmD.In w1.heap.size c z ∧ z.cell? ⟨w1.heap.size, 0, none⟩ = some (.int .i64 c.client) ∧ z.cell? ⟨w1.heap.size, 1, none⟩ = some (.int .i64 c.seq) ∧ z.cell? ⟨w1.heap.size, 2, none⟩ = some (.int .i64 c.kind) ∧ z.cell? ⟨w1.heap.size, 3, none⟩ = some (.string c.row) ∧ z.cell? ⟨w1.heap.size, 4, none⟩ = some (.string c.col) ∧ z.cell? ⟨w1.heap.size, 5, none⟩ = some (.string c.to_) ∧ z.cell? ⟨w1.heap.size, 6, none⟩ = some (.int .i64 c.at_) ∧ z.cell? ⟨w1.heap.size, 7, none⟩ = some (.string c.value) ∧ z.cell? ⟨w1.heap.size, 8, none⟩ = some (.string c.expect) ∧ z.cell? ⟨w1.heap.size, 9, none⟩ = some (.bool c.has) ∧ z.cell? ⟨w.heap.size, 1 + c.client.toNat, none⟩ = some (.int .i64 (s.seq c.client.toNat)) ∧ Below w4.heap.size w4 z) (first | exact HT.out | assumption | exact HU.out _ _ (by assumption) (by assumption))
  (first
   | (go_at_call 11; refine (hrr _).mono ?_; rintro e w5 ⟨rfl, hb5⟩))
 obtain ⟨hI5, hJ5, -, -, -, -, -, -, -, -, -, -, -, hb45⟩ := (by assumption : stD.In w.heap.size s w5 ∧ cmD.In w1.heap.size c w5 ∧ w5.cell? ⟨w1.heap.size, 0, none⟩ = some (.int .i64 c.client) ∧ w5.cell? ⟨w1.heap.size, 1, none⟩ = some (.int .i64 c.seq) ∧ w5.cell? ⟨w1.heap.size, 2, none⟩ = some (.int .i64 c.kind) ∧ w5.cell? ⟨w1.heap.size, 3, none⟩ = some (.string c.row) ∧ w5.cell? ⟨w1.heap.size, 4, none⟩ = some (.string c.col) ∧ w5.cell? ⟨w1.heap.size, 5, none⟩ = some (.string c.to_) ∧ w5.cell? ⟨w1.heap.size, 6, none⟩ = some (.int .i64 c.at_) ∧ w5.cell? ⟨w1.heap.size, 7, none⟩ = some (.string c.value) ∧ w5.cell? ⟨w1.heap.size, 8, none⟩ = some (.string c.expect) ∧ w5.cell? ⟨w1.heap.size, 9, none⟩ = some (.bool c.has) ∧ w5.cell? ⟨w.heap.size, 1 + c.client.toNat, none⟩ = some (.int .i64 (s.seq c.client.toNat)) ∧ Below w4.heap.size w4 w5)
 have HK5 := Lib.hid (HK4.out.up hb45)
 have HL5 := Lib.hid (HL4.out.up hb45)
 have HW5 := Lib.hid (bwstep HW4.out hb45)
 have HI5 := Lib.hid hI5
 have HJ5 := Lib.hid hJ5
 clear HT HU hb45 hb5 hI5 hJ5 hrr
 have hI5 := HI5.out
 have hK5 := HK5.out
 go_wp2_with (first | refine St.load stOk rfl (.tmp 2) rfl rfl hI5 ?_ | refine St.store stOk (c := s) rfl (.tmp 4) (.tmp 26) rfl rfl rfl hK5 ?_)
 constructor
 intro w6 hs6
 have hL6 := hs6.up HL5.out (Nat.ne_of_gt HL3.out)
 have HK6 := Lib.hid hs6.i
 have hw6 := hs6.bel HW5.out (Nat.le_of_lt (Nat.lt_trans HL1.out HL2.out))
 clear hs6 hI5 hK5
 go_wp2_with (refine St.store rpOk (c := RvE) rfl (.tmp 5) (.tmp 27) rfl rfl rfl hL6 ?_)
 constructor
 intro w7 hs7
 have hK7 := hs7.up HK6.out (Nat.ne_of_lt HL3.out)
 have HL7 := Lib.hid hs7.i
 have HW7 := Lib.hid (hs7.bel hw6 (Nat.le_of_lt (Nat.lt_trans (Nat.lt_trans HL1.out HL2.out) HL3.out)))
 clear hs7 hL6 hw6
 go_wp2_with fail
 refine bodyPost_ret (St.res2c stOk rpOk Tryz.results12 rfl rfl hK7 HL7.out) rfl ⟨⟨s, RvE, rfl, ?_, ?_⟩, HW7.out⟩
 ·rw [HE.out]
  exact HS.out.bel HW7.out
 ·rw [HE.out]
  exact RpIs.err _ _
theorem rapply_eq (s : Sv) (m : Sm) (c : Cm) (w : World) (S0 : List Nat) (hS0 : ∀ k ∈ S0, k < w.heap.size) (hs : SvIs w S0 s m) (hr : c.Right) (hq : c.seq = m.seq c.client.toNat) : Calls Tryz.prog 12 #[s.v, c.v] w (AppEnd w S0 m c) := by
 have hrr := fun w => rright15_any c w
 rw [decide_eq_true hr] at hrr
 have HS := Lib.hid hs
 have HS0 := Lib.hid hS0
 have h0 : (0 : Int) ≤ c.client := by have := hr.1.c1; omega
 have h17 : c.client < 17 := by have := hr.1.c2; omega
 have hn17 : c.client.toNat < 17 := by omega
 have HE : Hid (m.app c = (m, m.rep c.client.toNat)) := Lib.hid (by unfold Sm.app; rw [if_neg (by omega), if_pos hq])
 rw [← hs.seq] at hq
 have hq1 : decide (c.seq < s.seq c.client.toNat) = false := decide_eq_false (by omega)
 have hq2 : (c.seq == s.seq c.client.toNat) = true := beq_iff_eq.2 hq
 clear hs hS0 hr hq
 go_enter Tryz.func12, Tryz.ntmps12
 go_wp2_with (refine St.box stD rfl (.tmp 0) s rfl rfl ?_)
 constructor
 intro w1 hI1 hw1 hz1
 clear hz1
 go_wp2_with (refine St.box cmD rfl (.tmp 1) c rfl rfl ?_)
 constructor
 intro w2 hJ2 hb2 hz2
 have HI2 := Lib.hid (hI1.up hb2)
 have HJ2 := Lib.hid hJ2
 have hw2 := bwstep hw1 hb2
 have HL1 := Lib.hid hI1.lt
 have HL2 := Lib.hid hJ2.lt
 clear hz2 hI1 hw1 hb2 hJ2
 go_wp2_with (refine St.alloc stOk rfl rfl ?_)
 constructor
 intro w3 hK3 hb3 hz3
 have HI3 := Lib.hid (HI2.out.up hb3)
 have HJ3 := Lib.hid (HJ2.out.up hb3)
 have HK3 := Lib.hid hK3
 have HL3 := Lib.hid hK3.lt
 have hw3 := bwstep hw2 hb3
 clear hz3 hw2 hb3 hK3
 go_wp2_with (refine St.alloc rpOk rfl rfl ?_)
 constructor
 intro w4 hL4 hb4 hz4
 have HI4 := Lib.hid (HI3.out.up hb4)
 have HJ4 := Lib.hid (HJ3.out.up hb4)
 have HK4 := Lib.hid (HK3.out.up hb4)
 have HL4 := Lib.hid hL4
 have HW4 := Lib.hid (bwstep hw3 hb4)
 clear hz4 hw3 hb4 hL4
 have HT := Lib.hid (sA_of (wb := w4) (z := w4.drew) hn17 (HI4.out.kept rfl) (HJ4.out.kept rfl) (Below.refl _ _).drew)
 have HU := Lib.hid fun (a b : World) h hb => sA_up hn17 (s := s) (c := c) (w := w) (w1 := w1) (wb := w4) (z := a) (z' := b) h hb
 go_wp2_with fail
 go_region_held3 (fun z => stD.In w.heap.size s z ∧ cmD.In w1.heap.size c z ∧ z.cell? ⟨w1.heap.size, 0, none⟩ = some (.int .i64 c.client) ∧ z.cell? ⟨w1.heap.size, 1, none⟩ = some (.int .i64 c.seq) ∧ z.cell? ⟨w1.heap.size, 2, none⟩ = some (.int .i64 c.kind) ∧ z.cell? ⟨w1.heap.size, 3, none⟩ = some (.string c.row) ∧ z.cell? ⟨w1.heap.size, 4, none⟩ = some (.string c.col) ∧ z.cell? ⟨w1.heap.size, 5, none⟩ = some (.string c.to_) ∧ z.cell? ⟨w1.heap.size, 6, none⟩ = some (.int .i64 c.at_) ∧ z.cell? ⟨w1.heap.size, 7, none⟩ = some (.string c.value) ∧ z.cell? ⟨w1.heap.size, 8, none⟩ = some (.string c.expect) ∧ z.cell? ⟨w1.heap.size, 9, none⟩ = some (.bool c.has) ∧ z.cell? ⟨w.heap.size, 1 + c.client.toNat, none⟩ = some (.int .i64 (s.seq c.client.toNat)) ∧ Below w4.heap.size w4 z) (first | exact HT.out | assumption | exact HU.out _ _ (by assumption) (by assumption))
  (first
   | (go_at_call 11; refine (hrr _).mono ?_; rintro e w5 ⟨rfl, hb5⟩))
 obtain ⟨hI5, hJ5, -, -, -, -, -, -, -, -, -, -, -, hb45⟩ := (by assumption : stD.In w.heap.size s w5 ∧ cmD.In w1.heap.size c w5 ∧ w5.cell? ⟨w1.heap.size, 0, none⟩ = some (.int .i64 c.client) ∧ w5.cell? ⟨w1.heap.size, 1, none⟩ = some (.int .i64 c.seq) ∧ w5.cell? ⟨w1.heap.size, 2, none⟩ = some (.int .i64 c.kind) ∧ w5.cell? ⟨w1.heap.size, 3, none⟩ = some (.string c.row) ∧ w5.cell? ⟨w1.heap.size, 4, none⟩ = some (.string c.col) ∧ w5.cell? ⟨w1.heap.size, 5, none⟩ = some (.string c.to_) ∧ w5.cell? ⟨w1.heap.size, 6, none⟩ = some (.int .i64 c.at_) ∧ w5.cell? ⟨w1.heap.size, 7, none⟩ = some (.string c.value) ∧ w5.cell? ⟨w1.heap.size, 8, none⟩ = some (.string c.expect) ∧ w5.cell? ⟨w1.heap.size, 9, none⟩ = some (.bool c.has) ∧ w5.cell? ⟨w.heap.size, 1 + c.client.toNat, none⟩ = some (.int .i64 (s.seq c.client.toNat)) ∧ Below w4.heap.size w4 w5)
 have HK5 := Lib.hid (HK4.out.up hb45)
 have HL5 := Lib.hid (HL4.out.up hb45)
 have HW5 := Lib.hid (bwstep HW4.out hb45)
 have HI5 := Lib.hid hI5
 have HJ5 := Lib.hid hJ5
 clear HT HU hb45 hb5 hI5 hJ5 hrr
 have HT := Lib.hid (sA_of (wb := w) (z := w5.drew) hn17 (HI5.out.kept rfl) (HJ5.out.kept rfl) (bwstep HW5.out (Below.refl _ _).drew))
 have HU := Lib.hid fun (a b : World) h hb => sA_up hn17 (s := s) (c := c) (w := w) (w1 := w1) (wb := w) (z := a) (z' := b) h hb
 go_wp2_with fail
 go_region_held3 (fun z => stD.In w.heap.size s z ∧ cmD.In w1.heap.size c z ∧ z.cell? ⟨w1.heap.size, 0, none⟩ = some (.int .i64 c.client) ∧ z.cell? ⟨w1.heap.size, 1, none⟩ = some (.int .i64 c.seq) ∧ z.cell? ⟨w1.heap.size, 2, none⟩ = some (.int .i64 c.kind) ∧ z.cell? ⟨w1.heap.size, 3, none⟩ = some (.string c.row) ∧ z.cell? ⟨w1.heap.size, 4, none⟩ = some (.string c.col) ∧ z.cell? ⟨w1.heap.size, 5, none⟩ = some (.string c.to_) ∧ z.cell? ⟨w1.heap.size, 6, none⟩ = some (.int .i64 c.at_) ∧ z.cell? ⟨w1.heap.size, 7, none⟩ = some (.string c.value) ∧ z.cell? ⟨w1.heap.size, 8, none⟩ = some (.string c.expect) ∧ z.cell? ⟨w1.heap.size, 9, none⟩ = some (.bool c.has) ∧ z.cell? ⟨w.heap.size, 1 + c.client.toNat, none⟩ = some (.int .i64 (s.seq c.client.toNat)) ∧ Below w.heap.size w z) (first | exact HT.out | assumption | exact HU.out _ _ (by assumption) (by assumption))
  (fail)
 clear HU HT
 have HT := Lib.hid (s4_of (w2 := w2) (w3 := w3) (z := w5.drew.drew) hn17 (HI5.out.kept rfl) (HJ5.out.kept rfl) ⟨_, HK5.out.kept rfl⟩ ⟨_, HL5.out.kept rfl⟩ (bwstep (bwstep HW5.out (Below.refl _ _).drew) (Below.refl _ _).drew))
 clear HK5 HL5
 go_wp2_with fail
 refine wp_region_held_drew (S := fun z => stD.In w.heap.size s z ∧ cmD.In w1.heap.size c z ∧ z.cell? ⟨w1.heap.size, 0, none⟩ = some (.int .i64 c.client) ∧ z.cell? ⟨w1.heap.size, 1, none⟩ = some (.int .i64 c.seq) ∧ z.cell? ⟨w1.heap.size, 2, none⟩ = some (.int .i64 c.kind) ∧ z.cell? ⟨w1.heap.size, 3, none⟩ = some (.string c.row) ∧ z.cell? ⟨w1.heap.size, 4, none⟩ = some (.string c.col) ∧ z.cell? ⟨w1.heap.size, 5, none⟩ = some (.string c.to_) ∧ z.cell? ⟨w1.heap.size, 6, none⟩ = some (.int .i64 c.at_) ∧ z.cell? ⟨w1.heap.size, 7, none⟩ = some (.string c.value) ∧ z.cell? ⟨w1.heap.size, 8, none⟩ = some (.string c.expect) ∧ z.cell? ⟨w1.heap.size, 9, none⟩ = some (.bool c.has) ∧ z.cell? ⟨w.heap.size, 18 + c.client.toNat * 4, none⟩ = some (.int .i64 (s.rep c.client.toNat).e) ∧ z.cell? ⟨w.heap.size, 18 + c.client.toNat * 4 + 1, none⟩ = some (.bool (s.rep c.client.toNat).did) ∧ z.cell? ⟨w.heap.size, 18 + c.client.toNat * 4 + 2, none⟩ = some (.string (s.rep c.client.toNat).value) ∧ z.cell? ⟨w.heap.size, 18 + c.client.toNat * 4 + 3, none⟩ = some (.slice (s.rep c.client.toNat).a (s.rep c.client.toNat).n (s.rep c.client.toNat).c) ∧ (∃ c0, stD.In w2.heap.size c0 z) ∧ (∃ r0, rpD.In w3.heap.size r0 z) ∧ Below w.heap.size w z) (by kernel_rfl) HT.out (fun hHeld => ?_)
 refine takeL 0 (hy := by intro z hSz; exact St.run_opLoad stOk (.tmp 2) rfl rfl hSz.1) (h := ?_)
 refine takeL 1 (h := ?_)
 refine takeL 2 (h := ?_)
 refine takeL 3 (h := ?_)
 refine takeL 4 (h := ?_)
 refine takeL 5 (h := ?_)
 refine wpAnyH_ready (rs := [6]) (by kernel_rfl) (by simp) ?_
 refine AllReadyH.cons (o := _) (by simp only [List.getElem?_toArray, List.getElem?_cons_succ, List.getElem?_cons_zero]; rfl) (fun K hK => ?_) AllReadyH.nil
 rw [if_pos (by rfl)]
 obtain ⟨c0, hc0⟩ := hHeld.2.2.2.2.2.2.2.2.2.2.2.2.2.2.2.2.1
 refine St.wp_storeS stOk (c := s) (c0 := c0) (.tmp 4) (.tmp 36) rfl rfl rfl hc0 ?_
 intro w6 hs6
 have HK6 := Lib.hid hs6.i
 have HL6 := hHeld.2.2.2.2.2.2.2.2.2.2.2.2.2.2.2.2.2.1.elim fun r0 k => (⟨r0, hs6.up k (Nat.ne_of_gt HL3.out)⟩ : ∃ r0, rpD.In w3.heap.size r0 w6)
 refine hK.out _ _ (s4_of hn17 (hs6.up hHeld.1 (Nat.ne_of_lt (Nat.lt_trans HL1.out HL2.out))) (hs6.up hHeld.2.1 (Nat.ne_of_lt HL2.out)) ⟨_, hs6.i⟩ HL6 (hs6.bel hHeld.2.2.2.2.2.2.2.2.2.2.2.2.2.2.2.2.2.2 (Nat.le_of_lt (Nat.lt_trans HL1.out HL2.out)))) (fun hHeld => ?_)
 clear hK K hs6 HL6
 ((try simp only [Act.put]); (try simp only [List.setIfInBounds_toArray]); (try simp only [List.set_cons_succ]); (try simp only [List.set_cons_zero]))
 refine wpAnyH_ready (rs := [7]) (by kernel_rfl) (by simp) ?_
 refine AllReadyH.cons (o := _) (by simp only [List.getElem?_toArray, List.getElem?_cons_succ, List.getElem?_cons_zero]; rfl) (fun K hK => ?_) AllReadyH.nil
 rw [if_pos (by rfl)]
 obtain ⟨r0, hr0⟩ := hHeld.2.2.2.2.2.2.2.2.2.2.2.2.2.2.2.2.2.1
 refine St.wp_storeS rpOk (c := s.rep c.client.toNat) (c0 := r0) (.tmp 5) (.tmp 41) rfl rfl rfl hr0 ?_
 intro w7 hs7
 have HL7 := Lib.hid hs7.i
 have HK7 := Lib.hid (hs7.up HK6.out (Nat.ne_of_lt HL3.out))
 have HW7 := Lib.hid (hs7.bel hHeld.2.2.2.2.2.2.2.2.2.2.2.2.2.2.2.2.2.2 (Nat.le_of_lt (Nat.lt_trans (Nat.lt_trans HL1.out HL2.out) HL3.out)))
 refine hK.out _ _ (s4_of hn17 (hs7.up hHeld.1 (Nat.ne_of_lt (Nat.lt_trans (Nat.lt_trans HL1.out HL2.out) HL3.out))) (hs7.up hHeld.2.1 (Nat.ne_of_lt (Nat.lt_trans HL2.out HL3.out))) ⟨_, HK7.out⟩ ⟨_, hs7.i⟩ HW7.out) (fun hHeld => ?_)
 clear hK K hs7
 ((try simp only [Act.put]); (try simp only [List.setIfInBounds_toArray]); (try simp only [List.set_cons_succ]); (try simp only [List.set_cons_zero]))
 refine wpAnyH_done (by kernel_rfl) ?_ _
 clear hHeld
 go_wp2_with fail
 refine bodyPost_ret (St.res2c stOk rpOk Tryz.results12 rfl rfl HK7.out HL7.out) rfl ⟨⟨s, s.rep c.client.toNat, rfl, ?_, ?_⟩, HW7.out⟩
 ·rw [HE.out]
  exact HS.out.bel HW7.out
 ·rw [HE.out]
  exact (HS.out.bel HW7.out).rep _
end Go.Proofs.YtcpkhhbbjimdaaaGreatDoor.Ce
namespace Go.Proofs.YtcpkhhbbjimdaaaGreatDoor.Ce
open Go.RowKit
theorem s25_of {sv : Sv} {rr : Rv} {gs g4 g5 g6 : Nat} {w z : World} (h : stD.In gs sv z) (k : rpD.In g6 rr z) (p : ∃ c0, stD.In g4 c0 z) (q : ∃ r0, rpD.In g5 r0 z) (b : Below w.heap.size w z) : stD.In gs sv z ∧ rpD.In g6 rr z ∧ (∃ c0, stD.In g4 c0 z) ∧ (∃ r0, rpD.In g5 r0 z) ∧ Below w.heap.size w z := ⟨h, k, p, q, b⟩
structure TwoR (w : World) (S : List Nat) (v u : Value) (L M : List Cl) : Prop where
 a : RdL w S v L
 b : RdL w S u M
theorem TwoR.up {w w' : World} {S S' : List Nat} {v u : Value} {L M : List Cl} (h : TwoR w S v u L M) (hk : Kp S w w') (hS : ∀ k ∈ S', k ∈ S ∨ w.heap.size ≤ k) : TwoR w' S' v u L M := ⟨h.a.up hk hS, h.b.up hk hS⟩
theorem TwoR.bel {w w' : World} {S : List Nat} {v u : Value} {L M : List Cl} (h : TwoR w S v u L M) (hb : Below w.heap.size w w') : TwoR w' S v u L M := ⟨h.a.bel hb, h.b.bel hb⟩
theorem Kp.more {S S' : List Nat} {w w' : World} (h : Kp S w w') (hS : ∀ k ∈ S, k ∈ S') : Kp S' w w' := ⟨h.os, h.tape, h.output, h.size, fun k hk hn => h.block k hk fun q => hn (hS k q)⟩
theorem St.Sp.Set.kp {α : Type} {D : St.Sp α} {g : Nat} {x : α} {w w' : World} (h : D.Set g x w w') {S : List Nat} (hg : g ∈ S) : Kp S w w' :=
 ⟨h.b.os, h.b.tape, h.b.output, by rw [h.z]; exact Nat.le_refl _, fun k _ hn => h.o k fun e => hn (by rw [e]; exact hg)⟩
structure ApW (gs gc g4 g5 g6 g7 g9 : Nat) (c : Cm) (x : Cl) (sv : Sv) (rv : Rv) (w z : World) : Prop where
 is_ : stD.In gs sv z
 ic : cmD.In gc c z
 i4 : stD.In g4 stD.z z
 i5 : rpD.In g5 rpD.z z
 i6 : rpD.In g6 rv z
 i7 : clD.In g7 x z
 i9 : clD.In g9 c.one z
 o0 : w.heap.size ≤ gs
 o1 : gs < gc
 o2 : gc < g4
 o3 : g4 < g5
 o4 : g5 < g6
 o5 : g6 < g7
 o6 : g7 < g9
 bel : Below w.heap.size w z
section
variable {gs gc g4 g5 g6 g7 g9 : Nat} {c : Cm} {x : Cl} {sv sv' : Sv} {rv rv' : Rv} {w z z' : World}
theorem ApW.up (h : ApW gs gc g4 g5 g6 g7 g9 c x sv rv w z) (hb : Below z.heap.size z z') : ApW gs gc g4 g5 g6 g7 g9 c x sv rv w z' :=
 ⟨h.is_.up hb, h.ic.up hb, h.i4.up hb, h.i5.up hb, h.i6.up hb, h.i7.up hb, h.i9.up hb, h.o0, h.o1, h.o2, h.o3, h.o4, h.o5, h.o6, bwstep h.bel hb⟩
theorem ApW.setS (h : ApW gs gc g4 g5 g6 g7 g9 c x sv rv w z) (hs : stD.Set gs sv' z z') : ApW gs gc g4 g5 g6 g7 g9 c x sv' rv w z' := by
 have h1 := h.o1; have h2 := h.o2; have h3 := h.o3; have h4 := h.o4; have h5 := h.o5; have h6 := h.o6
 exact ⟨hs.i, hs.up h.ic (by omega), hs.up h.i4 (by omega), hs.up h.i5 (by omega), hs.up h.i6 (by omega), hs.up h.i7 (by omega), hs.up h.i9 (by omega), h.o0, h1, h2, h3, h4, h5, h6, hs.bel h.bel h.o0⟩
theorem ApW.setR (h : ApW gs gc g4 g5 g6 g7 g9 c x sv rv w z) (hs : rpD.Set g6 rv' z z') : ApW gs gc g4 g5 g6 g7 g9 c x sv rv' w z' := by
 have h0 := h.o0; have h1 := h.o1; have h2 := h.o2; have h3 := h.o3; have h4 := h.o4; have h5 := h.o5; have h6 := h.o6
 exact ⟨hs.up h.is_ (by omega), hs.up h.ic (by omega), hs.up h.i4 (by omega), hs.up h.i5 (by omega), hs.i, hs.up h.i7 (by omega), hs.up h.i9 (by omega), h.o0, h1, h2, h3, h4, h5, h6, hs.bel h.bel (by omega)⟩
end
theorem one_ok {L : List Cl} {c : Cm} (h : c.Sound) (hw : writesB L c = true) : c.one.ok := by
 have hk : c.kind ≠ 5 := fun e => by
  unfold writesB at hw
  rw [e] at hw
  simp at hw
 have f := h.four hk
 have q := f.cell
 refine ⟨q.r1, q.r2, q.c1, q.c2, q.a1, q.a2, q.v, fun e => ?_⟩
 have e2 : c.kind = 2 := of_decide_eq_true e
 have := f.value (.inl e2)
 show c.value.size = 0
 rw [this]
 rfl
def PA (S0 : List Nat) (gs gc g4 g5 g6 g7 g9 : Nat) (m : Sm) (c : Cm) (x : Cl) (s : Sv) (w z : World) : Prop :=
 ∃ A n cc, ApW gs gc g4 g5 g6 g7 g9 c x ⟨A, n, cc, s.seq, s.rep⟩ ⟨if writesB m.cells c = true then putE16 m.cells c.one else 0, writesB m.cells c && decide (c.kind = 3) && decide (putE16 m.cells c.one = 0), ⟨#[]⟩, none, 0, 0⟩ w z ∧ RdL z ([gs, g4, g5, g6] ++ S0) (.slice A n cc) (doL m.cells c)
theorem PA.of {S0 : List Nat} {gs gc g4 g5 g6 g7 g9 : Nat} {m : Sm} {c : Cm} {x : Cl} {s : Sv} {w : World} (z : World) (A : Option Addr) (n cc : Nat) (e : Int) (d : Bool) (h : ApW gs gc g4 g5 g6 g7 g9 c x ⟨A, n, cc, s.seq, s.rep⟩ ⟨e, d, ⟨#[]⟩, none, 0, 0⟩ w z) {L : List Cl} (hr : RdL z ([gs, g4, g5, g6] ++ S0) (.slice A n cc) L) (hL : doL m.cells c = L)
  (he : (if writesB m.cells c = true then putE16 m.cells c.one else 0) = e) (hd : (writesB m.cells c && decide (c.kind = 3) && decide (putE16 m.cells c.one = 0)) = d) : PA S0 gs gc g4 g5 g6 g7 g9 m c x s w z :=
 ⟨A, n, cc, by rw [he, hd]; exact h, by rw [hL]; exact hr⟩
def PB (S0 : List Nat) (gs gc g4 g5 g6 g7 g9 : Nat) (m : Sm) (c : Cm) (x : Cl) (s : Sv) (w z : World) : Prop :=
 ∃ A n cc, ApW gs gc g4 g5 g6 g7 g9 c x ⟨A, n, cc, s.seq, s.rep⟩ ⟨(doR m.cells c).e, (doR m.cells c).did, (doR m.cells c).value, none, 0, 0⟩ w z ∧ RdL z ([gs, g4, g5, g6] ++ S0) (.slice A n cc) (doL m.cells c)
theorem PB.of {S0 : List Nat} {gs gc g4 g5 g6 g7 g9 : Nat} {m : Sm} {c : Cm} {x : Cl} {s : Sv} {w : World} (z : World) (A : Option Addr) (n cc : Nat) (e : Int) (d : Bool) (v : ByteArray) (h : ApW gs gc g4 g5 g6 g7 g9 c x ⟨A, n, cc, s.seq, s.rep⟩ ⟨e, d, v, none, 0, 0⟩ w z) (hr : RdL z ([gs, g4, g5, g6] ++ S0) (.slice A n cc) (doL m.cells c))
  (he : (if writesB m.cells c = true then putE16 m.cells c.one else 0) = e) (hd : ((writesB m.cells c && decide (c.kind = 3) && decide (putE16 m.cells c.one = 0)) || (decide (c.kind = 4) && thereB m.cells c)) = d) (hv : (if (decide (c.kind = 4) && thereB m.cells c) = true then foundV m.cells c else ⟨#[]⟩) = v) : PB S0 gs gc g4 g5 g6 g7 g9 m c x s w z :=
 ⟨A, n, cc, by rw [show (doR m.cells c).e = e from he, show (doR m.cells c).did = d from hd, show (doR m.cells c).value = v from hv]; exact h, hr⟩
theorem rapply_gt (s : Sv) (m : Sm) (c : Cm) (w : World) (S0 : List Nat) (hS0 : ∀ k ∈ S0, k < w.heap.size) (hs : SvIs w S0 s m) (hr : c.Right) (hg : m.Good) (hq : m.seq c.client.toNat < c.seq) (h5 : c.kind ≠ 5) : Calls Tryz.prog 12 #[s.v, c.v] w (AppEnd w S0 m c) := by
 have hrr := fun w => rright15_any c w
 rw [decide_eq_true hr] at hrr
 have HS := Lib.hid hs
 have HS0 := Lib.hid hS0
 have h0 : (0 : Int) ≤ c.client := by have := hr.1.c1; omega
 have h17 : c.client < 17 := by have := hr.1.c2; omega
 have hn17 : c.client.toNat < 17 := by omega
 have HE : Hid (m.app c = (⟨doL m.cells c, upd m.seq c.client.toNat c.seq, upd m.rep c.client.toNat (doR m.cells c)⟩, doR m.cells c)) := Lib.hid (by unfold Sm.app; rw [if_neg (by omega), if_neg (by omega)])
 have HNW : Hid (∀ z v, RdL z [] v m.cells → Calls Tryz.prog 22 #[v, .string c.row, .string c.col, .int .i64 c.at_] z fun e w' => e = .returned (.tuple #[(nwC c.row c.col c.at_ m.cells).v, .bool (nwB c.row c.col c.at_ m.cells)]) ∧ Below z.heap.size z w') := Lib.hid fun z v h => rnewest_any v m.cells c.row c.col c.at_ z h hg.srt (by have := hg.le; omega) hg.ok
 have HG := Lib.hid hg
 rw [← hs.seq] at hq
 have hq1 : decide (c.seq < s.seq c.client.toNat) = false := decide_eq_false (by omega)
 have hq2 : (c.seq == s.seq c.client.toNat) = false := beq_eq_false_iff_ne.2 (by omega)
 have HRT := Lib.hid hr
 have HD5 := Lib.hid h5
 clear hs hS0 hr hq hg h5
 go_enter Tryz.func12, Tryz.ntmps12
 go_wp2_with (refine St.box stD rfl (.tmp 0) s rfl rfl ?_)
 constructor
 intro w1 hI1 hw1 hz1
 clear hz1
 go_wp2_with (refine St.box cmD rfl (.tmp 1) c rfl rfl ?_)
 constructor
 intro w2 hJ2 hb2 hz2
 have HI2 := Lib.hid (hI1.up hb2)
 have HJ2 := Lib.hid hJ2
 have hw2 := bwstep hw1 hb2
 have HL1 := Lib.hid hI1.lt
 have HL2 := Lib.hid hJ2.lt
 clear hz2 hI1 hw1 hb2 hJ2
 go_wp2_with (refine St.alloc stOk rfl rfl ?_)
 constructor
 intro w3 hK3 hb3 hz3
 have HI3 := Lib.hid (HI2.out.up hb3)
 have HJ3 := Lib.hid (HJ2.out.up hb3)
 have HK3 := Lib.hid hK3
 have HL3 := Lib.hid hK3.lt
 have hw3 := bwstep hw2 hb3
 clear hz3 hw2 hb3 hK3
 go_wp2_with (refine St.alloc rpOk rfl rfl ?_)
 constructor
 intro w4 hL4 hb4 hz4
 have HI4 := Lib.hid (HI3.out.up hb4)
 have HJ4 := Lib.hid (HJ3.out.up hb4)
 have HK4 := Lib.hid (HK3.out.up hb4)
 have HL4 := Lib.hid hL4
 have HW4 := Lib.hid (bwstep hw3 hb4)
 clear hz4 hw3 hb4 hL4
 have HT := Lib.hid (sA_of (wb := w4) (z := w4.drew) hn17 (HI4.out.kept rfl) (HJ4.out.kept rfl) (Below.refl _ _).drew)
 have HU := Lib.hid fun (a b : World) h hb => sA_up hn17 (s := s) (c := c) (w := w) (w1 := w1) (wb := w4) (z := a) (z' := b) h hb
 go_wp2_with fail
 go_region_held3 (fun z => stD.In w.heap.size s z ∧ cmD.In w1.heap.size c z ∧ z.cell? ⟨w1.heap.size, 0, none⟩ = some (.int .i64 c.client) ∧ z.cell? ⟨w1.heap.size, 1, none⟩ = some (.int .i64 c.seq) ∧ z.cell? ⟨w1.heap.size, 2, none⟩ = some (.int .i64 c.kind) ∧ z.cell? ⟨w1.heap.size, 3, none⟩ = some (.string c.row) ∧ z.cell? ⟨w1.heap.size, 4, none⟩ = some (.string c.col) ∧ z.cell? ⟨w1.heap.size, 5, none⟩ = some (.string c.to_) ∧ z.cell? ⟨w1.heap.size, 6, none⟩ = some (.int .i64 c.at_) ∧ z.cell? ⟨w1.heap.size, 7, none⟩ = some (.string c.value) ∧ z.cell? ⟨w1.heap.size, 8, none⟩ = some (.string c.expect) ∧ z.cell? ⟨w1.heap.size, 9, none⟩ = some (.bool c.has) ∧ z.cell? ⟨w.heap.size, 1 + c.client.toNat, none⟩ = some (.int .i64 (s.seq c.client.toNat)) ∧ Below w4.heap.size w4 z) (first | exact HT.out | assumption | exact HU.out _ _ (by assumption) (by assumption))
  (first
   | (go_at_call 11; refine (hrr _).mono ?_; rintro e w5 ⟨rfl, hb5⟩))
 obtain ⟨hI5, hJ5, -, -, -, -, -, -, -, -, -, -, -, hb45⟩ := (by assumption : stD.In w.heap.size s w5 ∧ cmD.In w1.heap.size c w5 ∧ w5.cell? ⟨w1.heap.size, 0, none⟩ = some (.int .i64 c.client) ∧ w5.cell? ⟨w1.heap.size, 1, none⟩ = some (.int .i64 c.seq) ∧ w5.cell? ⟨w1.heap.size, 2, none⟩ = some (.int .i64 c.kind) ∧ w5.cell? ⟨w1.heap.size, 3, none⟩ = some (.string c.row) ∧ w5.cell? ⟨w1.heap.size, 4, none⟩ = some (.string c.col) ∧ w5.cell? ⟨w1.heap.size, 5, none⟩ = some (.string c.to_) ∧ w5.cell? ⟨w1.heap.size, 6, none⟩ = some (.int .i64 c.at_) ∧ w5.cell? ⟨w1.heap.size, 7, none⟩ = some (.string c.value) ∧ w5.cell? ⟨w1.heap.size, 8, none⟩ = some (.string c.expect) ∧ w5.cell? ⟨w1.heap.size, 9, none⟩ = some (.bool c.has) ∧ w5.cell? ⟨w.heap.size, 1 + c.client.toNat, none⟩ = some (.int .i64 (s.seq c.client.toNat)) ∧ Below w4.heap.size w4 w5)
 have HK5 := Lib.hid (HK4.out.up hb45)
 have HL5 := Lib.hid (HL4.out.up hb45)
 have HW5 := Lib.hid (bwstep HW4.out hb45)
 have HI5 := Lib.hid hI5
 have HJ5 := Lib.hid hJ5
 clear HT HU hb45 hb5 hI5 hJ5 hrr
 have HT := Lib.hid (sA_of (wb := w) (z := w5.drew) hn17 (HI5.out.kept rfl) (HJ5.out.kept rfl) (bwstep HW5.out (Below.refl _ _).drew))
 have HU := Lib.hid fun (a b : World) h hb => sA_up hn17 (s := s) (c := c) (w := w) (w1 := w1) (wb := w) (z := a) (z' := b) h hb
 go_wp2_with fail
 go_region_held3 (fun z => stD.In w.heap.size s z ∧ cmD.In w1.heap.size c z ∧ z.cell? ⟨w1.heap.size, 0, none⟩ = some (.int .i64 c.client) ∧ z.cell? ⟨w1.heap.size, 1, none⟩ = some (.int .i64 c.seq) ∧ z.cell? ⟨w1.heap.size, 2, none⟩ = some (.int .i64 c.kind) ∧ z.cell? ⟨w1.heap.size, 3, none⟩ = some (.string c.row) ∧ z.cell? ⟨w1.heap.size, 4, none⟩ = some (.string c.col) ∧ z.cell? ⟨w1.heap.size, 5, none⟩ = some (.string c.to_) ∧ z.cell? ⟨w1.heap.size, 6, none⟩ = some (.int .i64 c.at_) ∧ z.cell? ⟨w1.heap.size, 7, none⟩ = some (.string c.value) ∧ z.cell? ⟨w1.heap.size, 8, none⟩ = some (.string c.expect) ∧ z.cell? ⟨w1.heap.size, 9, none⟩ = some (.bool c.has) ∧ z.cell? ⟨w.heap.size, 1 + c.client.toNat, none⟩ = some (.int .i64 (s.seq c.client.toNat)) ∧ Below w.heap.size w z) (first | exact HT.out | assumption | exact HU.out _ _ (by assumption) (by assumption))
  (fail)
 clear HU HT
 have HBD : Below w5.heap.size w5 w5.drew := (Below.refl _ _).drew
 have HI6 := Lib.hid (HI5.out.up HBD)
 have HJ6 := Lib.hid (HJ5.out.up HBD)
 have HK6 := Lib.hid (HK5.out.up HBD)
 have HL6 := Lib.hid (HL5.out.up HBD)
 have HW6 := Lib.hid (bwstep HW5.out HBD)
 generalize w5.drew = w6 at *
 clear HBD HI5 HJ5 HK5 HL5 HW5 HI4 HJ4 HK4 HL4 HW4 HI3 HJ3 HK3 HI2 HJ2
 go_wp2_with (refine St.alloc rpOk rfl rfl ?_)
 constructor
 intro w7 hM7 hb7 hz7
 have HI7 := Lib.hid (HI6.out.up hb7)
 have HJ7 := Lib.hid (HJ6.out.up hb7)
 have HK7 := Lib.hid (HK6.out.up hb7)
 have HL7 := Lib.hid (HL6.out.up hb7)
 have HW7 := Lib.hid (bwstep HW6.out hb7)
 have HL6' := Lib.hid HL6.out.lt
 clear hz7 hb7 HI6 HJ6 HK6 HL6
 go_wp2_with (refine St.store rpOk (c := rpD.z) rfl (.tmp 6) (.tmp 42) rfl rfl rfl hM7 ?_)
 constructor
 intro w8 hs8
 have HLT : Hid (w.heap.size < w6.heap.size ∧ w1.heap.size < w6.heap.size ∧ w2.heap.size < w6.heap.size ∧ w3.heap.size < w6.heap.size) := by
  have e1 := HL1.out; have e2 := HL2.out; have e3 := HL3.out; have e4 := HL6'.out
  exact Lib.hid ⟨by omega, by omega, by omega, e4⟩
 have HI8 := Lib.hid (hs8.up HI7.out (Nat.ne_of_lt HLT.out.1))
 have HJ8 := Lib.hid (hs8.up HJ7.out (Nat.ne_of_lt HLT.out.2.1))
 have HK8 := Lib.hid (hs8.up HK7.out (Nat.ne_of_lt HLT.out.2.2.1))
 have HL8 := Lib.hid (hs8.up HL7.out (Nat.ne_of_lt HLT.out.2.2.2))
 have HM8 := Lib.hid hs8.i
 have HW8 := Lib.hid (hs8.bel HW7.out (Nat.le_of_lt HLT.out.1))
 have s0 := HI8.out.at_ (i := 0) rfl
 obtain ⟨c0, c1, c2, c3, c4, c5, c6, c7, c8, c9⟩ := CmAt.of HJ8.out
 clear hs8 hM7 HI7 HJ7 HK7 HL7 HW7
 go_wp2_with fail
 refine (HNW.out _ _ ((HS.out.cells.bel HW8.out).up (Kp.refl _ _) (fun _ h => by cases h))).mono ?_
 rintro e w9 ⟨rfl, hb9⟩
 obtain ⟨x, hx⟩ : ∃ x, x = nwC c.row c.col c.at_ m.cells := ⟨_, rfl⟩
 obtain ⟨nb, hnb⟩ : ∃ nb, nb = nwB c.row c.col c.at_ m.cells := ⟨_, rfl⟩
 rw [← hx, ← hnb]
 have HX := Lib.hid hx
 have HNB := Lib.hid hnb
 have HI9 := Lib.hid (HI8.out.up hb9)
 have HJ9 := Lib.hid (HJ8.out.up hb9)
 have HK9 := Lib.hid (HK8.out.up hb9)
 have HL9 := Lib.hid (HL8.out.up hb9)
 have HM9 := Lib.hid (HM8.out.up hb9)
 have HW9 := Lib.hid (bwstep HW8.out hb9)
 clear hx hnb hb9 c0 c1 c2 c3 c4 c5 c6 c7 c8 c9 s0 HI8 HJ8 HK8 HL8 HM8 HNW
 go_wp2_with (refine St.alloc clOk rfl rfl ?_)
 constructor
 intro w10 hN10 hb10 hz10
 have HI10 := Lib.hid (HI9.out.up hb10)
 have HJ10 := Lib.hid (HJ9.out.up hb10)
 have HK10 := Lib.hid (HK9.out.up hb10)
 have HL10 := Lib.hid (HL9.out.up hb10)
 have HM10 := Lib.hid (HM9.out.up hb10)
 have HW10 := Lib.hid (bwstep HW9.out hb10)
 have HLT9 := Lib.hid HM9.out.lt
 clear hz10 hb10 HI9 HJ9 HK9 HL9 HM9 HW9
 go_wp2_with (refine St.store clOk (c := x) rfl (.tmp 7) (.tmp 53) rfl rfl rfl hN10 ?_)
 constructor
 intro w11 hs11
 have HO : Hid (w.heap.size < w1.heap.size ∧ w1.heap.size < w2.heap.size ∧ w2.heap.size < w3.heap.size ∧ w3.heap.size < w6.heap.size ∧ w6.heap.size < w9.heap.size) := Lib.hid ⟨HL1.out, HL2.out, HL3.out, HL6'.out, HLT9.out⟩
 have HI11 := Lib.hid (hs11.up HI10.out (by have := HO.out; omega))
 have HJ11 := Lib.hid (hs11.up HJ10.out (by have := HO.out; omega))
 have HK11 := Lib.hid (hs11.up HK10.out (by have := HO.out; omega))
 have HL11 := Lib.hid (hs11.up HL10.out (by have := HO.out; omega))
 have HM11 := Lib.hid (hs11.up HM10.out (by have := HO.out; omega))
 have HN11 := Lib.hid hs11.i
 have HW11 := Lib.hid (hs11.bel HW10.out (by have := HO.out; omega))
 clear hs11 hN10 HI10 HJ10 HK10 HL10 HM10 HW10
 go_upto_region 7 with fail
 go_cut [8] from 55 to 61 (fun v wx => v = .bool (nb && !x.gone) ∧ wx = w11)
 case first =>
  have hgo := HN11.out.at_ (i := 4) (u := .bool x.gone) rfl
  cases nb
  ·go_wp2_with fail
   go_meet
   case rel => exact ⟨rfl, rfl⟩
  ·go_wp2_with fail
   go_meet
   case rel => exact ⟨rfl, rfl⟩
 case rest =>
  obtain ⟨rfl, hwx⟩ := hcut
  subst wc
  have HTH : Hid ((nb && !x.gone) = thereB m.cells c) := Lib.hid (by rw [HNB.out, HX.out]; rfl)
  generalize (nb && !x.gone) = th at *
  obtain ⟨c0, c1, c2, c3, c4, c5, c6, c7, c8, c9⟩ := CmAt.of HJ11.out
  clear c0 c1 c5 c8 c9 HNB
  go_wp2_with (refine St.alloc clOk rfl rfl ?_)
  constructor
  intro w12 hP12 hb12 hz12
  have HI12 := Lib.hid (HI11.out.up hb12)
  have HJ12 := Lib.hid (HJ11.out.up hb12)
  have HK12 := Lib.hid (HK11.out.up hb12)
  have HL12 := Lib.hid (HL11.out.up hb12)
  have HM12 := Lib.hid (HM11.out.up hb12)
  have HN12 := Lib.hid (HN11.out.up hb12)
  have HW12 := Lib.hid (bwstep HW11.out hb12)
  have HLTB := Lib.hid HN11.out.lt
  clear hz12 hb12 c2 c3 c4 c6 c7 HI11 HJ11 HK11 HL11 HM11 HN11 HW11
  go_wp2_with (refine St.store clOk (c := c.one) rfl (.tmp 9) (.tmp 72) rfl rfl rfl hP12 ?_)
  constructor
  intro w13 hs13
  have HA : Hid (ApW w.heap.size w1.heap.size w2.heap.size w3.heap.size w6.heap.size w9.heap.size w11.heap.size c x s rpD.z w w13) := by
   have e := HO.out
   have e2 := HLTB.out
   exact Lib.hid ⟨hs13.up HI12.out (by omega), hs13.up HJ12.out (by omega), hs13.up HK12.out (by omega), hs13.up HL12.out (by omega), hs13.up HM12.out (by omega), hs13.up HN12.out (by omega), hs13.i, Nat.le_refl _, e.1, e.2.1, e.2.2.1, e.2.2.2.1, e.2.2.2.2, e2, hs13.bel HW12.out (by omega)⟩
  clear hs13 hP12 HI12 HJ12 HK12 HL12 HM12 HN12 HW12 HLTB HLT HLT9 HL6' HL1 HL2 HL3 HW8
  go_upto_region 9 with fail
  go_cut [10] from 73 to 88 (fun v wx => v = .bool (holdsB m.cells c) ∧ wx = w13)
  case first =>
   obtain ⟨c0, c1, c2, c3, c4, c5, c6, c7, c8, c9⟩ := CmAt.of HA.out.ic
   have x3 := HA.out.i7.at_ (i := 3) (u := .string x.val) rfl
   have HH : Hid (holdsB m.cells c = ((th == c.has) && (!th || decide (x.val = c.expect)))) := Lib.hid (by unfold holdsB foundV; rw [← HTH.out, ← HX.out])
   clear c0 c1 c2 c3 c4 c5 c6 c7
   generalize c.has = hs9 at *
   by_cases he : x.val = c.expect
   ·rw [decide_eq_true he] at HH
    have hse := str_eq he
    clear he
    cases th <;> cases hs9
    all_goals
     go_wp2_with fail
     go_meet
     case rel => exact ⟨vb (by rw [HH.out]; rfl), rfl⟩
   ·rw [decide_eq_false he] at HH
    have hse := str_ne he
    clear he
    cases th <;> cases hs9
    all_goals
     go_wp2_with fail
     go_meet
     case rel => exact ⟨vb (by rw [HH.out]; rfl), rfl⟩
  case rest =>
   obtain ⟨rfl, hwx⟩ := hcut
   subst wc
   go_upto_region 10 with fail
   go_cut [98] from 88 to 99 (fun v wx => v = .bool (writesB m.cells c) ∧ wx = w13)
   case first =>
    have c2 := (CmAt.of HA.out.ic).c2
    by_cases h2 : c.kind ≤ 2
    ·have HWB : Hid (writesB m.cells c = true) := Lib.hid (by unfold writesB; rw [decide_eq_true h2]; rfl)
     go_wp2_with fail
     go_meet
     case rel => exact ⟨vb HWB.out.symm, rfl⟩
    ·have hd2 : decide (c.kind ≤ 2) = false := decide_eq_false h2
     by_cases h3 : c.kind = 3
     ·have hd3 : (c.kind == 3) = true := beq_iff_eq.2 h3
      have HWB : Hid (writesB m.cells c = holdsB m.cells c) := Lib.hid (by unfold writesB; rw [decide_eq_false h2, decide_eq_true h3]; rfl)
      clear h2 h3
      go_wp2_with fail
      go_meet
      case rel => exact ⟨vb HWB.out.symm, rfl⟩
     ·have hd3 : (c.kind == 3) = false := beq_eq_false_iff_ne.2 h3
      have HWB : Hid (writesB m.cells c = false) := Lib.hid (by unfold writesB; rw [decide_eq_false h2, decide_eq_false h3]; rfl)
      clear h2 h3
      go_wp2_with fail
      go_meet
      case rel => exact ⟨vb HWB.out.symm, rfl⟩
   case rest =>
    obtain ⟨rfl, hwx⟩ := hcut
    subst wc
    go_upto_if 98 with fail
    go_cut [] from 99 to 117 (fun wx => Hid (PA S0 w.heap.size w1.heap.size w2.heap.size w3.heap.size w6.heap.size w9.heap.size w11.heap.size m c x s w wx))
    case first =>
     have HOK : Hid (writesB m.cells c = true → c.one.ok) := Lib.hid fun h => one_ok HRT.out.1 h
     have HCL : Hid (∀ z, Below w.heap.size w z → RdL z ([w.heap.size, w2.heap.size, w3.heap.size, w6.heap.size] ++ S0) (.slice s.a s.n s.c) m.cells) := Lib.hid fun z hz => HS.out.cells.up (Kp.of_below hz _) fun k hk => by
      rcases List.mem_append.1 hk with hk | hk
      ·refine .inr ?_
       have e := HO.out
       simp only [List.mem_cons, List.not_mem_nil, or_false] at hk
       omega
      ·exact .inl hk
     have HSL : Hid (∀ k ∈ ([w.heap.size, w2.heap.size, w3.heap.size, w6.heap.size] ++ S0), k < w13.heap.size) := Lib.hid fun k hk => by
      have e := HO.out
      have e2 := HA.out.i7.lt
      rcases List.mem_append.1 hk with hk | hk
      ·simp only [List.mem_cons, List.not_mem_nil, or_false] at hk
       omega
      ·have := HS0.out k hk
       omega
     have HPE : Hid (doL m.cells c = if writesB m.cells c = true then putL m.cells c.one else m.cells) := Lib.hid rfl
     have HPA := Lib.hid (@PA.of S0 w.heap.size w1.heap.size w2.heap.size w3.heap.size w6.heap.size w9.heap.size w11.heap.size m c x s w)
     generalize writesB m.cells c = wb at *
     cases wb
     ·go_wp2_with fail
      go_meet
      case rel => exact Lib.hid (HPA.out _ s.a s.n s.c 0 false HA.out (HCL.out _ HA.out.bel) (by rw [HPE.out]; rfl) rfl rfl)
     ·have hok := HOK.out rfl
      have hp := fun h => rput16_any (.slice s.a s.n s.c) m.cells c.one w13 _ HSL.out h hok HG.out.ok (by have := HG.out.le; omega)
      have s0 := HA.out.is_.at_ (i := 0) (u := .slice s.a s.n s.c) rfl
      have hi9 := HA.out.i9
      clear hok
      go_wp2_with (refine St.load clOk rfl (.tmp 9) rfl rfl hi9 ?_)
      refine (hp (HCL.out _ HA.out.bel)).mono ?_
      rintro e w14 ⟨⟨An, nn, cn, rfl, hrd⟩, hb14⟩
      have HA14 := Lib.hid (HA.out.up hb14)
      have HPL : Hid (doL m.cells c = putL m.cells c.one) := Lib.hid (by rw [HPE.out]; rfl)
      have HRD := Lib.hid hrd
      have HS1 : Hid (stD.Set w.heap.size ⟨An, nn, cn, s.seq, s.rep⟩ w14 (w14.setCell ⟨w.heap.size, 0, none⟩ (.slice An nn cn))) := Lib.hid (St.Sp.Set.part HA14.out.is_ rfl)
      have HA15 := Lib.hid (HA14.out.setS HS1.out)
      have s0 := HA14.out.is_.at_ (i := 0) (u := .slice s.a s.n s.c) rfl
      have f0 := HA14.out.is_.fz 0
      have e0 := HA15.out.i6.at_ (i := 0) (u := .int .i64 0) rfl
      have g0 := HA15.out.i6.fz 0
      have HR1 : Hid (∀ e, rpD.Set w6.heap.size ⟨e, false, ⟨#[]⟩, none, 0, 0⟩ (w14.setCell ⟨w.heap.size, 0, none⟩ (.slice An nn cn)) ((w14.setCell ⟨w.heap.size, 0, none⟩ (.slice An nn cn)).setCell ⟨w6.heap.size, 0, none⟩ (.int .i64 e))) := Lib.hid fun e => St.Sp.Set.part HA15.out.i6 rfl
      have HRB : Hid (putE16 m.cells c.one = if roomB m.cells c.one = true then 0 else 4) := Lib.hid rfl
      clear hb14 hrd hi9 hp
      generalize putE16 m.cells c.one = pe at *
      have HA16 := Lib.hid (HA15.out.setR (HR1.out pe))
      have c2 := (CmAt.of HA16.out.ic).c2
      have r0 := HA16.out.i6.at_ (i := 0) (u := .int .i64 pe) rfl
      have r1 := HA16.out.i6.at_ (i := 1) (u := .bool false) rfl
      have z1 := HA16.out.i6.fz 1
      have HR2 : Hid (∀ d, rpD.Set w6.heap.size ⟨pe, d, ⟨#[]⟩, none, 0, 0⟩ _ (((w14.setCell ⟨w.heap.size, 0, none⟩ (.slice An nn cn)).setCell ⟨w6.heap.size, 0, none⟩ (.int .i64 pe)).setCell ⟨w6.heap.size, 1, none⟩ (.bool d))) := Lib.hid fun d => St.Sp.Set.part HA16.out.i6 rfl
      have HRZ : Hid (∀ d, RdL (((w14.setCell ⟨w.heap.size, 0, none⟩ (.slice An nn cn)).setCell ⟨w6.heap.size, 0, none⟩ (.int .i64 pe)).setCell ⟨w6.heap.size, 1, none⟩ (.bool d)) ([w.heap.size, w2.heap.size, w3.heap.size, w6.heap.size] ++ S0) (.slice An nn cn) (putL m.cells c.one)) := Lib.hid fun d =>
       ((HRD.out.up (Kp.set w14 (p := ⟨w.heap.size, 0, none⟩) (by simp) _) fun _ h => .inl h).up (Kp.set _ (p := ⟨w6.heap.size, 0, none⟩) (by simp) _) fun _ h => .inl h).up (Kp.set _ (p := ⟨w6.heap.size, 1, none⟩) (by simp) _) fun _ h => .inl h
      by_cases h3 : c.kind = 3
      ·have hd3 : (c.kind == 3) = true := beq_iff_eq.2 h3
       have HK3 := Lib.hid (decide_eq_true h3)
       clear h3
       go_wp2_with fail
       go_meet
       case rel => exact Lib.hid (HPA.out _ An nn cn pe (pe == 0) (HA16.out.setR (HR2.out _)) (HRZ.out _) HPL.out rfl (by rw [HK3.out]; rfl))
      ·have hd3 : (c.kind == 3) = false := beq_eq_false_iff_ne.2 h3
       have HK3 := Lib.hid (decide_eq_false h3)
       clear h3
       go_wp2_with fail
       go_meet
       case rel => exact Lib.hid (HPA.out _ An nn cn pe false (HA16.out.setR (HR2.out _)) (HRZ.out _) HPL.out rfl (by rw [HK3.out]; rfl))
    case rest =>
     obtain ⟨wd, hwd⟩ : ∃ wd, wd = wc := ⟨_, rfl⟩
     subst hwd
     obtain ⟨A, n, cc, hap, hrd⟩ := hcut.out
     have HAP := Lib.hid hap
     have HRD := Lib.hid hrd
     clear hcut hap hrd HA
     go_upto_region 13 with fail
     go_cut [122] from 117 to 123 (fun v wx => v = .bool (decide (c.kind = 4) && th) ∧ wx = wd)
     case first =>
      have c2 := (CmAt.of HAP.out.ic).c2
      by_cases h4 : c.kind = 4
      ·have hd4 : (c.kind == 4) = true := beq_iff_eq.2 h4
       have HQ : Hid ((decide (c.kind = 4) && th) = th) := Lib.hid (by rw [decide_eq_true h4]; rfl)
       clear h4
       go_wp2_with fail
       go_meet
       case rel => exact ⟨vb HQ.out.symm, rfl⟩
      ·have hd4 : (c.kind == 4) = false := beq_eq_false_iff_ne.2 h4
       have HQ : Hid ((decide (c.kind = 4) && th) = false) := Lib.hid (by rw [decide_eq_false h4]; rfl)
       clear h4
       go_wp2_with fail
       go_meet
       case rel => exact ⟨vb HQ.out.symm, rfl⟩
     case rest =>
      obtain ⟨rfl, hwx⟩ := hcut
      subst wc
      go_upto_if 122 with fail
      go_cut [] from 123 to 127 (fun wx => Hid (PB S0 w.heap.size w1.heap.size w2.heap.size w3.heap.size w6.heap.size w9.heap.size w11.heap.size m c x s w wx))
      case first =>
       have HPB := Lib.hid (@PB.of S0 w.heap.size w1.heap.size w2.heap.size w3.heap.size w6.heap.size w9.heap.size w11.heap.size m c x s w)
       have HQD : Hid (∀ d0, (d0 || (decide (c.kind = 4) && thereB m.cells c)) = (d0 || (decide (c.kind = 4) && th))) := Lib.hid fun d0 => by rw [← HTH.out]
       have HQV : Hid ((if (decide (c.kind = 4) && thereB m.cells c) = true then foundV m.cells c else ⟨#[]⟩) = if (decide (c.kind = 4) && th) = true then x.val else ⟨#[]⟩) := Lib.hid (by rw [← HTH.out, HX.out]; rfl)
       generalize (decide (c.kind = 4) && th) = q at *
       cases q
       ·go_wp2_with fail
        go_meet
        case rel => exact Lib.hid (HPB.out _ A n cc _ _ _ HAP.out HRD.out rfl ((HQD.out _).trans (Bool.or_false _)) (HQV.out.trans rfl))
       ·have r1 := HAP.out.i6.at_ (i := 1) rfl
        have z1 := HAP.out.i6.fz 1
        have HR1 := Lib.hid (St.Sp.Set.part (u := .bool true) (i := 1) (y := ⟨_, true, _, none, 0, 0⟩) HAP.out.i6 rfl)
        have HA18 := Lib.hid (HAP.out.setR HR1.out)
        have x3 := HA18.out.i7.at_ (i := 3) (u := .string x.val) rfl
        have r2 := HA18.out.i6.at_ (i := 2) rfl
        have z2 := HA18.out.i6.fz 2
        have HR2 := Lib.hid (St.Sp.Set.part (u := .string x.val) (i := 2) (y := ⟨_, true, x.val, none, 0, 0⟩) HA18.out.i6 rfl)
        have HA19 := Lib.hid (HA18.out.setR HR2.out)
        have HRZ := Lib.hid ((HRD.out.up (Kp.set _ (p := ⟨w6.heap.size, 1, none⟩) (by simp) (.bool true)) fun _ h => .inl h).up (Kp.set _ (p := ⟨w6.heap.size, 2, none⟩) (by simp) (.string x.val)) fun _ h => .inl h)
        go_wp2_with fail
        go_meet
        case rel => exact Lib.hid (HPB.out _ A n cc _ _ _ HA19.out HRZ.out rfl ((HQD.out _).trans (Bool.or_true _)) (HQV.out.trans rfl))
      case rest =>
       obtain ⟨wf, hwf⟩ : ∃ wf, wf = wc := ⟨_, rfl⟩
       subst hwf
       clear HAP HRD
       obtain ⟨A, n, cc, hap, hrd⟩ := hcut.out
       clear hcut
       obtain ⟨rr, hrr⟩ : ∃ rr : Rv, rr = ⟨(doR m.cells c).e, (doR m.cells c).did, (doR m.cells c).value, none, 0, 0⟩ := ⟨_, rfl⟩
       rw [← hrr] at hap
       have HRE : Hid (rr.e = (doR m.cells c).e ∧ rr.did = (doR m.cells c).did ∧ rr.value = (doR m.cells c).value) := Lib.hid (by rw [hrr]; exact ⟨rfl, rfl, rfl⟩)
       have hrd : TwoR wf ([w.heap.size, w2.heap.size, w3.heap.size, w6.heap.size] ++ S0) (.slice A n cc) (.slice rr.a rr.n rr.c) (doL m.cells c) (doR m.cells c).cells := ⟨hrd, by
        rw [hrr, show (doR m.cells c).cells = [] from if_neg HD5.out]
        exact RdL.nil _ _⟩
       clear hrr
       have HAP := Lib.hid hap
       have HRD := Lib.hid hrd
       have hd5 : (c.kind == 5) = false := beq_eq_false_iff_ne.2 HD5.out
       obtain ⟨c0, c1, c2, c3, c4, c5, c6, c7, c8, c9⟩ := CmAt.of hap.ic
       have q1 := hap.is_.at_ (st_seq ⟨A, n, cc, s.seq, s.rep⟩ hn17)
       have z1 := hap.is_.fz (1 + c.client.toNat)
       have HS1 := Lib.hid (St.Sp.Set.part hap.is_ (st_setSeq ⟨A, n, cc, s.seq, s.rep⟩ hn17 c.seq))
       have HA20 := Lib.hid (hap.setS HS1.out)
       have d0 := (CmAt.of HA20.out.ic).c0
       have i6 := HA20.out.i6
       have hgs := HA20.out.is_.h
       have HR20 := Lib.hid (hrd.up (Kp.set wf (p := ⟨w.heap.size, 1 + c.client.toNat, none⟩) (by simp) (.int .i64 c.seq)) fun _ h => .inl h)
       clear hap hrd c3 c4 c5 c6 c7 c8 c9
       go_wp2_with (first | refine St.load rpOk rfl (.tmp 6) rfl rfl i6 ?_ | refine St.storeAt rpOk rfl (.tmp 191) (.tmp 189) rfl rfl rfl hgs (by show 18 + c.client.toNat * 4 + 4 ≤ 86; omega) ?_)
       constructor
       intro wg htn
       obtain ⟨sv, hsv⟩ : ∃ sv : Sv, sv = ⟨A, n, cc, upd s.seq c.client.toNat c.seq, upd s.rep c.client.toNat rr⟩ := ⟨_, rfl⟩
       have hst : stD.Set w.heap.size sv _ wg := ⟨⟨by rw [htn.i, hsv]; exact congrArg (fun q => some (Obj.cells q 34 (0, 0))) (st_setRep ⟨A, n, cc, upd s.seq c.client.toNat c.seq, s.rep⟩ hn17 rr)⟩, htn.b, htn.z, htn.o⟩
       have HA21 := Lib.hid (HA20.out.setS hst)
       have HR21 := Lib.hid (HR20.out.up (St.Sp.Set.kp hst (S := ([w.heap.size, w2.heap.size, w3.heap.size, w6.heap.size] ++ S0)) (by simp)) fun _ h => .inl h)
       have HSV := Lib.hid hsv
       clear htn hst hsv hgs i6 d0 q1 z1 c0 c1 c2
       have HT := Lib.hid (s25_of (w := w) (z := wg.drew) (HA21.out.is_.kept rfl) (HA21.out.i6.kept rfl) ⟨_, HA21.out.i4.kept rfl⟩ ⟨_, HA21.out.i5.kept rfl⟩ (bwstep HA21.out.bel (Below.refl _ _).drew))
       have HR22 := Lib.hid (HR21.out.bel (Below.refl wg.heap.size wg).drew)
       have HO4 : Hid (w2.heap.size ≠ w.heap.size ∧ w6.heap.size ≠ w2.heap.size ∧ w.heap.size ≠ w3.heap.size ∧ w6.heap.size ≠ w3.heap.size ∧ w2.heap.size ≠ w3.heap.size ∧ w.heap.size ≤ w2.heap.size ∧ w.heap.size ≤ w3.heap.size) := by
        have e := HO.out
        exact Lib.hid ⟨by omega, by omega, by omega, by omega, by omega, by omega, by omega⟩
       go_upto_region 25 with fail
       refine wp_region_held_drew (S := fun z => stD.In w.heap.size sv z ∧ rpD.In w6.heap.size rr z ∧ (∃ c0, stD.In w2.heap.size c0 z) ∧ (∃ r0, rpD.In w3.heap.size r0 z) ∧ Below w.heap.size w z) (by kernel_rfl) HT.out (fun hHeld => ?_)
       refine takeL 0 (hy := by intro z hSz; exact St.run_opLoad stOk (.tmp 2) rfl rfl hSz.1) (h := ?_)
       refine takeL 1 (hy := by intro z hSz; exact St.run_opLoad rpOk (.tmp 6) rfl rfl hSz.2.1) (h := ?_)
       refine wpAnyH_ready (rs := [2]) (by kernel_rfl) (by simp) ?_
       refine AllReadyH.cons (o := _) (by simp only [List.getElem?_toArray, List.getElem?_cons_succ, List.getElem?_cons_zero]; rfl) (fun K hK => ?_) AllReadyH.nil
       rw [if_pos (by rfl)]
       obtain ⟨c0, hc0⟩ := hHeld.2.2.1
       refine St.wp_storeS stOk (c := sv) (c0 := c0) (.tmp 4) (.tmp 192) rfl rfl rfl hc0 ?_
       intro wh hsh
       have HKh := Lib.hid hsh.i
       have HRh := Lib.hid (HR22.out.up (St.Sp.Set.kp hsh (S := ([w.heap.size, w2.heap.size, w3.heap.size, w6.heap.size] ++ S0)) (by simp)) fun _ h => .inl h)
       have HLh := hHeld.2.2.2.1.elim fun r0 k => (⟨r0, hsh.up k (Ne.symm HO4.out.2.2.2.2.1)⟩ : ∃ r0, rpD.In w3.heap.size r0 wh)
       refine hK.out _ _ (s25_of (hsh.up hHeld.1 (Ne.symm HO4.out.1)) (hsh.up hHeld.2.1 HO4.out.2.1) ⟨_, hsh.i⟩ HLh (hsh.bel hHeld.2.2.2.2 HO4.out.2.2.2.2.2.1)) (fun hHeld => ?_)
       clear hK K hsh HLh
       ((try simp only [Act.put]); (try simp only [List.setIfInBounds_toArray]); (try simp only [List.set_cons_succ]); (try simp only [List.set_cons_zero]))
       refine wpAnyH_ready (rs := [3]) (by kernel_rfl) (by simp) ?_
       refine AllReadyH.cons (o := _) (by simp only [List.getElem?_toArray, List.getElem?_cons_succ, List.getElem?_cons_zero]; rfl) (fun K hK => ?_) AllReadyH.nil
       rw [if_pos (by rfl)]
       obtain ⟨r0, hr0⟩ := hHeld.2.2.2.1
       refine St.wp_storeS rpOk (c := rr) (c0 := r0) (.tmp 5) (.tmp 193) rfl rfl rfl hr0 ?_
       intro wi hsi
       have HLi := Lib.hid hsi.i
       have HKi := Lib.hid (hsi.up HKh.out HO4.out.2.2.2.2.1)
       have HRi := Lib.hid (HRh.out.up (St.Sp.Set.kp hsi (S := ([w.heap.size, w2.heap.size, w3.heap.size, w6.heap.size] ++ S0)) (by simp)) fun _ h => .inl h)
       have HWi := Lib.hid (hsi.bel hHeld.2.2.2.2 HO4.out.2.2.2.2.2.2)
       refine hK.out _ _ (s25_of (hsi.up hHeld.1 HO4.out.2.2.1) (hsi.up hHeld.2.1 HO4.out.2.2.2.1) ⟨_, HKi.out⟩ ⟨_, hsi.i⟩ HWi.out) (fun hHeld => ?_)
       clear hK K hsi
       ((try simp only [Act.put]); (try simp only [List.setIfInBounds_toArray]); (try simp only [List.set_cons_succ]); (try simp only [List.set_cons_zero]))
       refine wpAnyH_done (by kernel_rfl) ?_ _
       clear hHeld
       go_wp2_with fail
       refine bodyPost_ret (St.res2c stOk rpOk Tryz.results12 rfl rfl HKi.out HLi.out) rfl ⟨⟨sv, rr, rfl, ?_, ?_⟩, HWi.out⟩
       ·rw [HE.out, HSV.out]
        refine ⟨HRi.out.a.up (Kp.refl _ _) (fun k h => .inl (by simp [h])), by rw [HS.out.seq], fun i => ?_⟩
        show RpIs wi S0 (upd s.rep c.client.toNat rr i) (upd m.rep c.client.toNat (doR m.cells c) i)
        unfold upd
        by_cases hi : i = c.client.toNat
        ·rw [if_pos hi, if_pos hi]
         exact ⟨HRE.out.1, HRE.out.2.1, HRE.out.2.2, HRi.out.b.up (Kp.refl _ _) (fun k h => .inl (by simp [h]))⟩
        ·rw [if_neg hi, if_neg hi]
         exact (HS.out.bel HWi.out).rep i
       ·rw [HE.out]
        exact ⟨HRE.out.1, HRE.out.2.1, HRE.out.2.2, HRi.out.b.up (Kp.refl _ _) (fun k h => .inl (by simp [h]))⟩
end Go.Proofs.YtcpkhhbbjimdaaaGreatDoor.Ce
