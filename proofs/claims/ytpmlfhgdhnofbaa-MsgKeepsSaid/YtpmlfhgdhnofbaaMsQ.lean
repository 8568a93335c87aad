/- The reference's Right of layer 19. -/
import Derived.Test.YtpmlfhgdhnofbaaMsP
import Derived.Test.YtpmlfhgdhnofbaaVoG
import Derived.Deep.RegionHeld3
import Derived.BigQuiet
set_option maxHeartbeats 8000000
set_option maxRecDepth 100000
namespace Go.Proofs.Ytpmlfhgdhnofbaa.Ce
open Go.RowKit
theorem votes_next {b : Int} {V : List Vt} {k : Nat} {c : Vt} (h : VotesOk b (V.take k)) (hc : V[k]? = some c) (hr : c.Right) (hb : c.ballot < b) (hp : ∀ p, 0 < k → V[k - 1]? = some p → p.slot < c.slot) : VotesOk b (V.take (k + 1)) := by
 obtain ⟨hlt, rfl⟩ := List.getElem?_eq_some_iff.1 hc
 rw [List.take_succ_eq_append_getElem hlt]
 refine ⟨fun d hd => ?_, List.pairwise_append.2 ⟨h.2, List.pairwise_singleton _ _, fun d hd e he => ?_⟩⟩
 ·rcases List.mem_append.1 hd with hd | hd
  ·exact h.1 d hd
  ·rw [List.mem_singleton.1 hd]
   exact ⟨hr, hb⟩
 ·rw [List.mem_singleton.1 he]
  obtain ⟨j, hj, rfl⟩ := List.getElem_of_mem hd
  rw [List.length_take] at hj
  have hk : 0 < k := by omega
  have hp' := hp (V[k - 1]'(by omega)) hk (List.getElem?_eq_getElem _)
  rw [List.getElem_take]
  by_cases e : j = k - 1
  ·subst e
   exact hp'
  ·have h2 := List.pairwise_iff_getElem.1 h.2 j (k - 1) (by rw [List.length_take]; omega) (by rw [List.length_take]; omega) (by omega)
   rw [List.getElem_take, List.getElem_take] at h2
   omega
theorem votes_stop {b : Int} {V : List Vt} {k : Nat} {c : Vt} (hc : V[k]? = some c) (h : ¬ c.Right ∨ b ≤ c.ballot ∨ ∃ p, 0 < k ∧ V[k - 1]? = some p ∧ c.slot ≤ p.slot) : ¬ VotesOk b V := fun hv => by
 have hm := hv.1 c (List.mem_of_getElem? hc)
 rcases h with h | h | ⟨p, hk, hp, h⟩
 ·exact h hm.1
 ·omega
 ·obtain ⟨h1, rfl⟩ := List.getElem?_eq_some_iff.1 hc
  obtain ⟨h2, rfl⟩ := List.getElem?_eq_some_iff.1 hp
  have := List.pairwise_iff_getElem.1 hv.2 (k - 1) k h2 h1 (by omega)
  omega
theorem rright19_any (x : Mx) (m : Ms) (w : World) (hx : MsIs w [] x m) (hl : m.votes.length ≤ 1000000) : Calls Try.prog 11 #[x.v] w fun e w' => e = .returned (.bool (decide m.Right)) ∧ Below w.heap.size w w' := by
 obtain ⟨hh, V⟩ := m
 obtain ⟨xh, xa, xn, xc⟩ := x
 obtain rfl : xh = hh := hx.h
 obtain rfl : xn = V.length := hx.len
 have hVl : V.length ≤ 1000000 := hl
 clear hl
 obtain ⟨k0, f0, t0, b0, s0, v0⟩ := xh
 have HR : Hid (∀ q : Bool, (q = true ↔ Ms.Right ⟨⟨k0, f0, t0, b0, s0, v0⟩, V⟩) → decide (Ms.Right ⟨⟨k0, f0, t0, b0, s0, v0⟩, V⟩) = q) := Lib.hid fun q hq => by
  rw [Bool.eq_iff_iff, decide_eq_true_iff]
  exact hq.symm
 go_enter Try.func11, Try.ntmps11
 go_wp2_with (refine St.box msD rfl (.tmp 0) ⟨⟨k0, f0, t0, b0, s0, v0⟩, xa, V.length, xc⟩ rfl rfl ?_)
 constructor
 intro w1 hI1 hb1 hz1
 clear hz1
 have hX1 : St.RdS vtL w1 [] (.slice xa V.length xc) V := (hx.bel hb1).votes
 obtain ⟨a0, a1, a2, a3, a4, -, a6, -, -, -, aA⟩ := MxAt.of hI1
 simp only at a0 a1 a2 a3 a4 a6 aA
 have hva := vote_at hI1
 simp only at hva
 have hlt1 := hI1.lt
 have hty : St.Typed Try.prog vtSp v0.cs #[.int .i64 0, .int .i64 0, .int .i64 0, .bool false, .string ⟨#[]⟩] := vtTyped v0 Vt.zero
 have HX := Lib.hid hX1
 have HW := Lib.hid hb1
 clear hx hX1 hI1 hb1
 by_cases q0 : k0 < 1
 case pos =>
  have HD := Lib.hid (HR.out false ⟨fun e => (Bool.noConfusion e), fun h => by have h1 := h.kind.1; simp only at h1; omega⟩)
  clear HX HR hva
  go_wp2_with fail
  go_ret
  exact ⟨ret1 (vb HD.out.symm), HW.out⟩
 by_cases q1 : 5 < k0
 case pos =>
  have HD := Lib.hid (HR.out false ⟨fun e => (Bool.noConfusion e), fun h => by have h1 := h.kind.2; simp only at h1; omega⟩)
  clear HX HR hva
  go_wp2_with fail
  go_ret
  exact ⟨ret1 (vb HD.out.symm), HW.out⟩
 by_cases q2 : f0 < 0
 case pos =>
  have HD := Lib.hid (HR.out false ⟨fun e => (Bool.noConfusion e), fun h => by have h1 := h.fr.1; simp only at h1; omega⟩)
  clear HX HR hva
  go_wp2_with fail
  go_ret
  exact ⟨ret1 (vb HD.out.symm), HW.out⟩
 by_cases q3 : 6 < f0
 case pos =>
  have HD := Lib.hid (HR.out false ⟨fun e => (Bool.noConfusion e), fun h => by have h1 := h.fr.2; simp only at h1; omega⟩)
  clear HX HR hva
  go_wp2_with fail
  go_ret
  exact ⟨ret1 (vb HD.out.symm), HW.out⟩
 by_cases q4 : t0 < 0
 case pos =>
  have HD := Lib.hid (HR.out false ⟨fun e => (Bool.noConfusion e), fun h => by have h1 := h.to_.1; simp only at h1; omega⟩)
  clear HX HR hva
  go_wp2_with fail
  go_ret
  exact ⟨ret1 (vb HD.out.symm), HW.out⟩
 by_cases q5 : 6 < t0
 case pos =>
  have HD := Lib.hid (HR.out false ⟨fun e => (Bool.noConfusion e), fun h => by have h1 := h.to_.2; simp only at h1; omega⟩)
  clear HX HR hva
  go_wp2_with fail
  go_ret
  exact ⟨ret1 (vb HD.out.symm), HW.out⟩
 by_cases q6 : b0 < 1
 case pos =>
  have HD := Lib.hid (HR.out false ⟨fun e => (Bool.noConfusion e), fun h => by have h1 := h.ballot.1; simp only at h1; omega⟩)
  clear HX HR hva
  go_wp2_with fail
  go_ret
  exact ⟨ret1 (vb HD.out.symm), HW.out⟩
 by_cases q7 : 2147483647 < b0
 case pos =>
  have HD := Lib.hid (HR.out false ⟨fun e => (Bool.noConfusion e), fun h => by have h1 := h.ballot.2; simp only at h1; omega⟩)
  clear HX HR hva
  go_wp2_with fail
  go_ret
  exact ⟨ret1 (vb HD.out.symm), HW.out⟩
 have hk : k0 = 1 ∨ k0 = 2 ∨ k0 = 3 ∨ k0 = 4 ∨ k0 = 5 := by omega
 have HB : Hid (0 ≤ f0 ∧ f0 ≤ 6 ∧ 0 ≤ t0 ∧ t0 ≤ 6 ∧ 1 ≤ b0 ∧ b0 ≤ 2147483647) := Lib.hid (by omega)
 rcases hk with rfl | rfl | rfl | rfl | rfl
 ·by_cases hV : 0 < V.length
  case pos =>
   have hV2 : (0 : Int) < (V.length : Int) := by omega
   have HD := Lib.hid (HR.out false ⟨fun e => (Bool.noConfusion e), fun h => by have h1 := h.k2 (by simp); simp only at h1; rw [h1] at hV; exact absurd hV (by simp)⟩)
   clear HR HX hva
   go_wp2_with fail
   go_ret
   exact ⟨ret1 (vb HD.out.symm), HW.out⟩
  have hV0 : V = [] := List.length_eq_zero_iff.1 (by omega)
  subst hV0
  by_cases hv : v0 = Vt.zero
  case neg =>
   have hal : (!St.allAlike vtSp v0.cs #[.int .i64 0, .int .i64 0, .int .i64 0, .bool false, .string ⟨#[]⟩]) = true := by have e := vtAlike v0 Vt.zero; rw [decide_eq_false hv] at e; exact congrArg Bool.not e
   have HD := Lib.hid (HR.out false ⟨fun e => (Bool.noConfusion e), fun h => by have h1 := h.k3 (by simp); simp only at h1; exact absurd h1 hv⟩)
   clear HR HX
   go_wp2_with (first | (with_reducible (show wpList _ _ _ ({ dst := some 57, op := .load 23 (.tmp 56), type := _, pos := _, after := _, guard := _ } :: _) _ _); refine St.loadAt vtOk rfl (.tmp 56) rfl _ rfl hva ?_) | (with_reducible (show wpList _ _ _ ({ dst := some 59, op := .binOp .neq 23 (.tmp 57) (.tmp 58) _, type := _, pos := _, after := _, guard := _ } :: _) _ _); ((try simp only [Act.put]); (try simp only [List.setIfInBounds_toArray]); (try simp only [List.set_cons_succ]); (try simp only [List.set_cons_zero])); refine St.ne vtEqs hty rfl (.tmp 57) (.tmp 58) _ rfl rfl rfl hal ?_))
   go_ret
   exact ⟨ret1 (vb HD.out.symm), HW.out⟩
  have hal : (!St.allAlike vtSp v0.cs #[.int .i64 0, .int .i64 0, .int .i64 0, .bool false, .string ⟨#[]⟩]) = false := by have e := vtAlike v0 Vt.zero; rw [decide_eq_true hv] at e; exact congrArg Bool.not e
  have HVZ := Lib.hid hv
  clear hv
  by_cases hs : s0 = 0
  case neg =>
   have HD := Lib.hid (HR.out false ⟨fun e => (Bool.noConfusion e), fun h => by have h1 := h.k4 (by simp); simp only at h1; exact absurd h1 hs⟩)
   clear HR HX
   go_wp2_with (first | (with_reducible (show wpList _ _ _ ({ dst := some 57, op := .load 23 (.tmp 56), type := _, pos := _, after := _, guard := _ } :: _) _ _); refine St.loadAt vtOk rfl (.tmp 56) rfl _ rfl hva ?_) | (with_reducible (show wpList _ _ _ ({ dst := some 59, op := .binOp .neq 23 (.tmp 57) (.tmp 58) _, type := _, pos := _, after := _, guard := _ } :: _) _ _); ((try simp only [Act.put]); (try simp only [List.setIfInBounds_toArray]); (try simp only [List.set_cons_succ]); (try simp only [List.set_cons_zero])); refine St.ne vtEqs hty rfl (.tmp 57) (.tmp 58) _ rfl rfl rfl hal ?_))
   go_ret
   exact ⟨ret1 (vb HD.out.symm), HW.out⟩
  subst hs
  go_wp2_with (first | (with_reducible (show wpList _ _ _ ({ dst := some 57, op := .load 23 (.tmp 56), type := _, pos := _, after := _, guard := _ } :: _) _ _); refine St.loadAt vtOk rfl (.tmp 56) rfl _ rfl hva ?_) | (with_reducible (show wpList _ _ _ ({ dst := some 59, op := .binOp .neq 23 (.tmp 57) (.tmp 58) _, type := _, pos := _, after := _, guard := _ } :: _) _ _); ((try simp only [Act.put]); (try simp only [List.setIfInBounds_toArray]); (try simp only [List.set_cons_succ]); (try simp only [List.set_cons_zero])); refine St.ne vtEqs hty rfl (.tmp 57) (.tmp 58) _ rfl rfl rfl hal ?_))
  go_loopw [3] (fun i wr => i = .int .i64 0 ∧ wr = w1) (fun _ _ => 0)
  case atStart => exact ⟨rfl, rfl⟩
  case round =>
   obtain ⟨rfl, rfl⟩ := hrel
   have HD := Lib.hid (HR.out true ⟨fun _ => ⟨⟨by simp, by simp⟩, ⟨HB.out.1, HB.out.2.1⟩, ⟨HB.out.2.2.1, HB.out.2.2.2.1⟩, ⟨HB.out.2.2.2.2.1, HB.out.2.2.2.2.2⟩, fun _ => rfl, fun _ => HVZ.out, fun _ => rfl, ⟨by simp, List.Pairwise.nil⟩, fun e => absurd e (by simp), ⟨by simp, by simp⟩⟩, fun _ => rfl⟩)
   clear HR HX hva
   go_wp2_with fail
   go_ret
   exact ⟨ret1 (vb HD.out.symm), HW.out⟩
 ·by_cases hv : v0 = Vt.zero
  case neg =>
   have hal : (!St.allAlike vtSp v0.cs #[.int .i64 0, .int .i64 0, .int .i64 0, .bool false, .string ⟨#[]⟩]) = true := by have e := vtAlike v0 Vt.zero; rw [decide_eq_false hv] at e; exact congrArg Bool.not e
   have HD := Lib.hid (HR.out false ⟨fun e => (Bool.noConfusion e), fun h => by have h1 := h.k3 (by simp); simp only at h1; exact absurd h1 hv⟩)
   clear HR HX
   go_wp2_with (first | (with_reducible (show wpList _ _ _ ({ dst := some 57, op := .load 23 (.tmp 56), type := _, pos := _, after := _, guard := _ } :: _) _ _); refine St.loadAt vtOk rfl (.tmp 56) rfl _ rfl hva ?_) | (with_reducible (show wpList _ _ _ ({ dst := some 59, op := .binOp .neq 23 (.tmp 57) (.tmp 58) _, type := _, pos := _, after := _, guard := _ } :: _) _ _); ((try simp only [Act.put]); (try simp only [List.setIfInBounds_toArray]); (try simp only [List.set_cons_succ]); (try simp only [List.set_cons_zero])); refine St.ne vtEqs hty rfl (.tmp 57) (.tmp 58) _ rfl rfl rfl hal ?_))
   go_ret
   exact ⟨ret1 (vb HD.out.symm), HW.out⟩
  have hal : (!St.allAlike vtSp v0.cs #[.int .i64 0, .int .i64 0, .int .i64 0, .bool false, .string ⟨#[]⟩]) = false := by have e := vtAlike v0 Vt.zero; rw [decide_eq_true hv] at e; exact congrArg Bool.not e
  have HVZ := Lib.hid hv
  clear hv
  by_cases hs : s0 = 0
  case neg =>
   have HD := Lib.hid (HR.out false ⟨fun e => (Bool.noConfusion e), fun h => by have h1 := h.k4 (by simp); simp only at h1; exact absurd h1 hs⟩)
   clear HR HX
   go_wp2_with (first | (with_reducible (show wpList _ _ _ ({ dst := some 57, op := .load 23 (.tmp 56), type := _, pos := _, after := _, guard := _ } :: _) _ _); refine St.loadAt vtOk rfl (.tmp 56) rfl _ rfl hva ?_) | (with_reducible (show wpList _ _ _ ({ dst := some 59, op := .binOp .neq 23 (.tmp 57) (.tmp 58) _, type := _, pos := _, after := _, guard := _ } :: _) _ _); ((try simp only [Act.put]); (try simp only [List.setIfInBounds_toArray]); (try simp only [List.set_cons_succ]); (try simp only [List.set_cons_zero])); refine St.ne vtEqs hty rfl (.tmp 57) (.tmp 58) _ rfl rfl rfl hal ?_))
   go_ret
   exact ⟨ret1 (vb HD.out.symm), HW.out⟩
  subst hs
  go_wp2_with (first | (with_reducible (show wpList _ _ _ ({ dst := some 57, op := .load 23 (.tmp 56), type := _, pos := _, after := _, guard := _ } :: _) _ _); refine St.loadAt vtOk rfl (.tmp 56) rfl _ rfl hva ?_) | (with_reducible (show wpList _ _ _ ({ dst := some 59, op := .binOp .neq 23 (.tmp 57) (.tmp 58) _, type := _, pos := _, after := _, guard := _ } :: _) _ _); ((try simp only [Act.put]); (try simp only [List.setIfInBounds_toArray]); (try simp only [List.set_cons_succ]); (try simp only [List.set_cons_zero])); refine St.ne vtEqs hty rfl (.tmp 57) (.tmp 58) _ rfl rfl rfl hal ?_))
  clear a1 a2 hva hal
  go_loopw [3] (fun i wr => ∃ k : Nat, k ≤ V.length ∧ i = .int .i64 (k : Int) ∧ Hid (VotesOk b0 (V.take k)) ∧ Below w1.heap.size w1 wr) (fun i _ => V.length - (intOf i).toNat)
  case atStart => exact ⟨0, Nat.zero_le _, rfl, Lib.hid ⟨by simp, by rw [List.take_zero]; exact List.Pairwise.nil⟩, Below.refl _ _⟩
  case round =>
   obtain ⟨k, hk, rfl, HJ, hbw⟩ := hrel
   have a0 := (hbw.cell (p := ⟨w.heap.size, 0, none⟩) hlt1).trans a0
   have a3 := (hbw.cell (p := ⟨w.heap.size, 3, none⟩) hlt1).trans a3
   have a4 := (hbw.cell (p := ⟨w.heap.size, 4, none⟩) hlt1).trans a4
   have aA := (hbw.cell (p := ⟨w.heap.size, 10, none⟩) hlt1).trans aA
   have hww := HW.out.trans (hbw.mono HW.out.size)
   by_cases hlt : k < V.length
   ·have hfk : V[k]? = some (V[k]'hlt) := List.getElem?_eq_getElem _
    have hpk : V[k - 1]? = some (V[k - 1]'(by omega)) := List.getElem?_eq_getElem _
    generalize V[k]'hlt = c at hfk
    generalize V[k - 1]'(by omega) = p at hpk
    obtain ⟨b, off, rfl, hbl, -⟩ := HX.out.open_ (by omega)
    have hXw := HX.out.bel hbw
    have hat := (hXw.at_ vlOk hfk).1
    have hc0 : wr.cell? ⟨b, off + k * 5, none⟩ = some (.int .i64 c.slot) := hat 0 _ rfl
    have hc1 : wr.cell? ⟨b, off + k * 5 + 1, none⟩ = some (.int .i64 c.ballot) := hat 1 _ rfl
    have hc2 : wr.cell? ⟨b, off + k * 5 + 2, none⟩ = some (.int .i64 c.origin) := hat 2 _ rfl
    have hc3 : wr.cell? ⟨b, off + k * 5 + 3, none⟩ = some (.bool c.full) := hat 3 _ rfl
    have hc4 : wr.cell? ⟨b, off + k * 5 + 4, none⟩ = some (.string c.bytes) := hat 4 _ rfl
    have hp0 : wr.cell? ⟨b, off + (k - 1) * 5, none⟩ = some (.int .i64 p.slot) := (hXw.at_ vlOk hpk).1 0 _ rfl
    have HT : Hid (wr.drew.cell? ⟨w.heap.size, 3, none⟩ = some (.int .i64 b0) ∧ wr.drew.cell? ⟨w.heap.size, 10, none⟩ = some (.slice (some ⟨b, off, none⟩) V.length xc) ∧ wr.drew.cell? ⟨b, off + k * 5, none⟩ = some (.int .i64 c.slot) ∧ wr.drew.cell? ⟨b, off + k * 5 + 1, none⟩ = some (.int .i64 c.ballot) ∧ wr.drew.cell? ⟨b, off + k * 5 + 2, none⟩ = some (.int .i64 c.origin) ∧ wr.drew.cell? ⟨b, off + k * 5 + 3, none⟩ = some (.bool c.full) ∧ wr.drew.cell? ⟨b, off + k * 5 + 4, none⟩ = some (.string c.bytes) ∧ wr.drew.cell? ⟨b, off + (k - 1) * 5, none⟩ = some (.int .i64 p.slot) ∧ Below w1.heap.size w1 wr.drew) := Lib.hid ⟨a3, aA, hc0, hc1, hc2, hc3, hc4, hp0, hbw.drew⟩
    have HU : Hid (∀ a z : World, (a.cell? ⟨w.heap.size, 3, none⟩ = some (.int .i64 b0) ∧ a.cell? ⟨w.heap.size, 10, none⟩ = some (.slice (some ⟨b, off, none⟩) V.length xc) ∧ a.cell? ⟨b, off + k * 5, none⟩ = some (.int .i64 c.slot) ∧ a.cell? ⟨b, off + k * 5 + 1, none⟩ = some (.int .i64 c.ballot) ∧ a.cell? ⟨b, off + k * 5 + 2, none⟩ = some (.int .i64 c.origin) ∧ a.cell? ⟨b, off + k * 5 + 3, none⟩ = some (.bool c.full) ∧ a.cell? ⟨b, off + k * 5 + 4, none⟩ = some (.string c.bytes) ∧ a.cell? ⟨b, off + (k - 1) * 5, none⟩ = some (.int .i64 p.slot) ∧ Below w1.heap.size w1 a) → Below a.heap.size a z → (z.cell? ⟨w.heap.size, 3, none⟩ = some (.int .i64 b0) ∧ z.cell? ⟨w.heap.size, 10, none⟩ = some (.slice (some ⟨b, off, none⟩) V.length xc) ∧ z.cell? ⟨b, off + k * 5, none⟩ = some (.int .i64 c.slot) ∧ z.cell? ⟨b, off + k * 5 + 1, none⟩ = some (.int .i64 c.ballot) ∧ z.cell? ⟨b, off + k * 5 + 2, none⟩ = some (.int .i64 c.origin) ∧ z.cell? ⟨b, off + k * 5 + 3, none⟩ = some (.bool c.full) ∧ z.cell? ⟨b, off + k * 5 + 4, none⟩ = some (.string c.bytes) ∧ z.cell? ⟨b, off + (k - 1) * 5, none⟩ = some (.int .i64 p.slot) ∧ Below w1.heap.size w1 z)) := Lib.hid fun a z ⟨e1, e2, e3, e4, e5, e6, e7, e8, e9⟩ hb => by
     have l1 : w.heap.size < a.heap.size := Nat.lt_of_lt_of_le hlt1 e9.size
     have l2 : b < a.heap.size := Nat.lt_of_lt_of_le hbl e9.size
     exact ⟨(hb.cell (p := ⟨w.heap.size, 3, none⟩) l1).trans e1, (hb.cell (p := ⟨w.heap.size, 10, none⟩) l1).trans e2, (hb.cell (p := ⟨b, off + k * 5, none⟩) l2).trans e3, (hb.cell (p := ⟨b, off + k * 5 + 1, none⟩) l2).trans e4, (hb.cell (p := ⟨b, off + k * 5 + 2, none⟩) l2).trans e5, (hb.cell (p := ⟨b, off + k * 5 + 3, none⟩) l2).trans e6, (hb.cell (p := ⟨b, off + k * 5 + 4, none⟩) l2).trans e7, (hb.cell (p := ⟨b, off + (k - 1) * 5, none⟩) l2).trans e8, bwstep e9 hb⟩
    have hrr := fun z => rright17_any c z
    have HFK := Lib.hid hfk
    have HPK := Lib.hid hpk
    have hh3 : (0 : Int) ≤ (k : Int) := by omega
    have hh4 : (k : Int) < (V.length : Int) := by omega
    clear hXw hat hc0 hc1 hc2 hc3 hc4 hp0 hfk hpk a0 a4 HX
    by_cases hr : c.Right
    ·rw [decide_eq_true hr] at hrr
     by_cases hb : b0 ≤ c.ballot
     ·have HD := Lib.hid (HR.out false ⟨fun e => (Bool.noConfusion e), fun h => absurd h.votes (votes_stop HFK.out (.inr (.inl hb)))⟩)
      go_wp2_with fail
      refine wp_region_held_drew (S := fun z => z.cell? ⟨w.heap.size, 3, none⟩ = some (.int .i64 b0) ∧ z.cell? ⟨w.heap.size, 10, none⟩ = some (.slice (some ⟨b, off, none⟩) V.length xc) ∧ z.cell? ⟨b, off + k * 5, none⟩ = some (.int .i64 c.slot) ∧ z.cell? ⟨b, off + k * 5 + 1, none⟩ = some (.int .i64 c.ballot) ∧ z.cell? ⟨b, off + k * 5 + 2, none⟩ = some (.int .i64 c.origin) ∧ z.cell? ⟨b, off + k * 5 + 3, none⟩ = some (.bool c.full) ∧ z.cell? ⟨b, off + k * 5 + 4, none⟩ = some (.string c.bytes) ∧ z.cell? ⟨b, off + (k - 1) * 5, none⟩ = some (.int .i64 p.slot) ∧ Below w1.heap.size w1 z) (by kernel_rfl) HT.out (fun hHeld => ?_)
      refine takeL 0 (h := ?_)
      refine takeL 1 (h := ?_)
      refine takeL 2 (h := ?_)
      refine takeL 3 (h := ?_)
      refine takeL 4 (h := ?_)
      refine wpAnyH_ready (rs := [5]) (by kernel_rfl) (by simp) ?_
      refine AllReadyH.cons (o := _) (by simp only [List.getElem?_toArray, List.getElem?_cons_succ, List.getElem?_cons_zero]; rfl) (fun K hK => ?_) AllReadyH.nil
      go_simp
      go_at_call 22
      refine (hrr _).mono ?_
      rintro e wa ⟨rfl, hba⟩
      refine hK.out _ _ (HU.out _ _ hHeld hba) (fun hHeld => ?_)
      clear hK K
      ((try simp only [Act.put]); (try simp only [List.setIfInBounds_toArray]); (try simp only [List.set_cons_succ]); (try simp only [List.set_cons_zero]))
      refine takeL 6 (h := ?_)
      refine takeL 7 (h := ?_)
      refine takeL 8 (h := ?_)
      refine takeL 9 (h := ?_)
      refine takeL 10 (h := ?_)
      refine takeL 11 (h := ?_)
      refine takeL 12 (h := ?_)
      refine takeL 13 (h := ?_)
      refine takeL 14 (h := ?_)
      refine takeL 15 (h := ?_)
      refine takeL 16 (h := ?_)
      refine takeL 17 (h := ?_)
      refine takeL 18 (h := ?_)
      refine skipL 19 (h := ?_)
      refine skipL 20 (h := ?_)
      refine skipL 21 (h := ?_)
      refine skipL 22 (h := ?_)
      refine skipL 23 (h := ?_)
      refine skipL 24 (h := ?_)
      refine skipL 25 (h := ?_)
      refine skipL 26 (h := ?_)
      refine skipL 27 (h := ?_)
      refine skipL 28 (h := ?_)
      refine skipL 29 (h := ?_)
      refine skipL 30 (h := ?_)
      refine skipL 31 (h := ?_)
      refine skipL 32 (h := ?_)
      refine skipL 33 (h := ?_)
      refine skipL 34 (h := ?_)
      refine skipL 35 (h := ?_)
      refine skipL 36 (h := ?_)
      refine takeL 37 (h := ?_)
      refine wpAnyH_done (by kernel_rfl) ?_ _
      have hb9 := hHeld.2.2.2.2.2.2.2.2
      go_wp2_with fail
      go_ret
      exact ⟨ret1 (vb HD.out.symm), HW.out.trans (hb9.mono HW.out.size)⟩
     ·have hdb : decide (b0 ≤ c.ballot) = false := decide_eq_false hb
      by_cases h0 : (0 : Int) < (k : Int)
      ·have hw1 : IntKind.i64.wrap ((k : Int) - 1) = (k : Int) - 1 := IntWalk.i64_in _ (by omega)
       have hh5 : (0 : Int) ≤ (k : Int) - 1 := by omega
       have hh6 : (k : Int) - 1 < (V.length : Int) := by omega
       have hh7 : (1 : Int) ≤ (k : Int) := by omega
       have hh8 : (k : Int) < (V.length : Int) + 1 := by omega
       have hh9 : 0 < k := by omega
       have hh10 : 1 ≤ k := by omega
       by_cases hp : c.slot ≤ p.slot
       ·have HD := Lib.hid (HR.out false ⟨fun e => (Bool.noConfusion e), fun h => absurd h.votes (votes_stop HFK.out (.inr (.inr ⟨p, by omega, HPK.out, hp⟩)))⟩)
        go_wp2_with fail
        go_region_held3 (fun z => z.cell? ⟨w.heap.size, 3, none⟩ = some (.int .i64 b0) ∧ z.cell? ⟨w.heap.size, 10, none⟩ = some (.slice (some ⟨b, off, none⟩) V.length xc) ∧ z.cell? ⟨b, off + k * 5, none⟩ = some (.int .i64 c.slot) ∧ z.cell? ⟨b, off + k * 5 + 1, none⟩ = some (.int .i64 c.ballot) ∧ z.cell? ⟨b, off + k * 5 + 2, none⟩ = some (.int .i64 c.origin) ∧ z.cell? ⟨b, off + k * 5 + 3, none⟩ = some (.bool c.full) ∧ z.cell? ⟨b, off + k * 5 + 4, none⟩ = some (.string c.bytes) ∧ z.cell? ⟨b, off + (k - 1) * 5, none⟩ = some (.int .i64 p.slot) ∧ Below w1.heap.size w1 z) (first | exact HT.out | assumption | exact HU.out _ _ (by assumption) (by assumption))
         (first | (go_at_call 22; refine (hrr _).mono ?_; rintro e wa ⟨rfl, hba⟩))
        obtain ⟨-, -, -, -, -, -, -, -, hb9⟩ := (by assumption : wa.cell? ⟨w.heap.size, 3, none⟩ = some (.int .i64 b0) ∧ wa.cell? ⟨w.heap.size, 10, none⟩ = some (.slice (some ⟨b, off, none⟩) V.length xc) ∧ wa.cell? ⟨b, off + k * 5, none⟩ = some (.int .i64 c.slot) ∧ wa.cell? ⟨b, off + k * 5 + 1, none⟩ = some (.int .i64 c.ballot) ∧ wa.cell? ⟨b, off + k * 5 + 2, none⟩ = some (.int .i64 c.origin) ∧ wa.cell? ⟨b, off + k * 5 + 3, none⟩ = some (.bool c.full) ∧ wa.cell? ⟨b, off + k * 5 + 4, none⟩ = some (.string c.bytes) ∧ wa.cell? ⟨b, off + (k - 1) * 5, none⟩ = some (.int .i64 p.slot) ∧ Below w1.heap.size w1 wa)
        go_wp2_with fail
        go_ret
        exact ⟨ret1 (vb HD.out.symm), HW.out.trans (hb9.mono HW.out.size)⟩
       ·have hdp : decide (c.slot ≤ p.slot) = false := decide_eq_false hp
        have HN := Lib.hid (votes_next HJ.out HFK.out hr (by omega) fun q _ hq => by
         rw [HPK.out] at hq
         injection hq with hq
         rw [← hq]
         omega)
        go_wp2_with fail
        go_region_held3 (fun z => z.cell? ⟨w.heap.size, 3, none⟩ = some (.int .i64 b0) ∧ z.cell? ⟨w.heap.size, 10, none⟩ = some (.slice (some ⟨b, off, none⟩) V.length xc) ∧ z.cell? ⟨b, off + k * 5, none⟩ = some (.int .i64 c.slot) ∧ z.cell? ⟨b, off + k * 5 + 1, none⟩ = some (.int .i64 c.ballot) ∧ z.cell? ⟨b, off + k * 5 + 2, none⟩ = some (.int .i64 c.origin) ∧ z.cell? ⟨b, off + k * 5 + 3, none⟩ = some (.bool c.full) ∧ z.cell? ⟨b, off + k * 5 + 4, none⟩ = some (.string c.bytes) ∧ z.cell? ⟨b, off + (k - 1) * 5, none⟩ = some (.int .i64 p.slot) ∧ Below w1.heap.size w1 z) (first | exact HT.out | assumption | exact HU.out _ _ (by assumption) (by assumption))
         (first | (go_at_call 22; refine (hrr _).mono ?_; rintro e wa ⟨rfl, hba⟩))
        obtain ⟨-, -, -, -, -, -, -, -, hb9⟩ := (by assumption : wa.cell? ⟨w.heap.size, 3, none⟩ = some (.int .i64 b0) ∧ wa.cell? ⟨w.heap.size, 10, none⟩ = some (.slice (some ⟨b, off, none⟩) V.length xc) ∧ wa.cell? ⟨b, off + k * 5, none⟩ = some (.int .i64 c.slot) ∧ wa.cell? ⟨b, off + k * 5 + 1, none⟩ = some (.int .i64 c.ballot) ∧ wa.cell? ⟨b, off + k * 5 + 2, none⟩ = some (.int .i64 c.origin) ∧ wa.cell? ⟨b, off + k * 5 + 3, none⟩ = some (.bool c.full) ∧ wa.cell? ⟨b, off + k * 5 + 4, none⟩ = some (.string c.bytes) ∧ wa.cell? ⟨b, off + (k - 1) * 5, none⟩ = some (.int .i64 p.slot) ∧ Below w1.heap.size w1 wa)
        go_wp2_with fail
        go_roundw
        case rel => exact ⟨k + 1, by omega, by go_num, HN, hb9⟩
        case measure => simp [intOf]; omega
      ·have hd0 : decide ((0 : Int) < (k : Int)) = false := decide_eq_false h0
       have hd1 : decide (0 < k) = false := decide_eq_false (by omega)
       have hd2 : ¬ 0 < k := by omega
       have HN := Lib.hid (votes_next HJ.out HFK.out hr (by omega) fun q hk _ => by omega)
       go_wp2_with fail
       refine wp_region_held_drew (S := fun z => z.cell? ⟨w.heap.size, 3, none⟩ = some (.int .i64 b0) ∧ z.cell? ⟨w.heap.size, 10, none⟩ = some (.slice (some ⟨b, off, none⟩) V.length xc) ∧ z.cell? ⟨b, off + k * 5, none⟩ = some (.int .i64 c.slot) ∧ z.cell? ⟨b, off + k * 5 + 1, none⟩ = some (.int .i64 c.ballot) ∧ z.cell? ⟨b, off + k * 5 + 2, none⟩ = some (.int .i64 c.origin) ∧ z.cell? ⟨b, off + k * 5 + 3, none⟩ = some (.bool c.full) ∧ z.cell? ⟨b, off + k * 5 + 4, none⟩ = some (.string c.bytes) ∧ z.cell? ⟨b, off + (k - 1) * 5, none⟩ = some (.int .i64 p.slot) ∧ Below w1.heap.size w1 z) (by kernel_rfl) HT.out (fun hHeld => ?_)
       refine takeL 0 (h := ?_)
       refine takeL 1 (h := ?_)
       refine takeL 2 (h := ?_)
       refine takeL 3 (h := ?_)
       refine takeL 4 (h := ?_)
       refine wpAnyH_ready (rs := [5]) (by kernel_rfl) (by simp) ?_
       refine AllReadyH.cons (o := _) (by simp only [List.getElem?_toArray, List.getElem?_cons_succ, List.getElem?_cons_zero]; rfl) (fun K hK => ?_) AllReadyH.nil
       go_simp
       go_at_call 22
       refine (hrr _).mono ?_
       rintro e wa ⟨rfl, hba⟩
       refine hK.out _ _ (HU.out _ _ hHeld hba) (fun hHeld => ?_)
       clear hK K
       ((try simp only [Act.put]); (try simp only [List.setIfInBounds_toArray]); (try simp only [List.set_cons_succ]); (try simp only [List.set_cons_zero]))
       refine takeL 6 (h := ?_)
       refine takeL 7 (h := ?_)
       refine takeL 8 (h := ?_)
       refine takeL 9 (h := ?_)
       refine takeL 10 (h := ?_)
       refine takeL 11 (h := ?_)
       refine takeL 12 (h := ?_)
       refine takeL 13 (h := ?_)
       refine takeL 14 (h := ?_)
       refine takeL 15 (h := ?_)
       refine takeL 16 (h := ?_)
       refine takeL 17 (h := ?_)
       refine takeL 18 (h := ?_)
       refine takeL 19 (h := ?_)
       refine takeL 20 (h := ?_)
       refine takeL 21 (h := ?_)
       refine skipL 22 (h := ?_)
       refine skipL 23 (h := ?_)
       refine skipL 24 (h := ?_)
       refine skipL 25 (h := ?_)
       refine skipL 26 (h := ?_)
       refine skipL 27 (h := ?_)
       refine skipL 28 (h := ?_)
       refine skipL 29 (h := ?_)
       refine skipL 30 (h := ?_)
       refine skipL 31 (h := ?_)
       refine skipL 32 (h := ?_)
       refine skipL 33 (h := ?_)
       refine skipL 34 (h := ?_)
       refine skipL 35 (h := ?_)
       refine takeL 36 (h := ?_)
       refine takeL 37 (h := ?_)
       refine wpAnyH_done (by kernel_rfl) ?_ _
       have hb9 := hHeld.2.2.2.2.2.2.2.2
       go_wp2_with fail
       go_roundw
       case rel => exact ⟨k + 1, by omega, by go_num, HN, hb9⟩
       case measure => simp [intOf]; omega
    ·rw [decide_eq_false hr] at hrr
     have HD := Lib.hid (HR.out false ⟨fun e => (Bool.noConfusion e), fun h => absurd h.votes (votes_stop HFK.out (.inl hr))⟩)
     go_wp2_with fail
     refine wp_region_held_drew (S := fun z => z.cell? ⟨w.heap.size, 3, none⟩ = some (.int .i64 b0) ∧ z.cell? ⟨w.heap.size, 10, none⟩ = some (.slice (some ⟨b, off, none⟩) V.length xc) ∧ z.cell? ⟨b, off + k * 5, none⟩ = some (.int .i64 c.slot) ∧ z.cell? ⟨b, off + k * 5 + 1, none⟩ = some (.int .i64 c.ballot) ∧ z.cell? ⟨b, off + k * 5 + 2, none⟩ = some (.int .i64 c.origin) ∧ z.cell? ⟨b, off + k * 5 + 3, none⟩ = some (.bool c.full) ∧ z.cell? ⟨b, off + k * 5 + 4, none⟩ = some (.string c.bytes) ∧ z.cell? ⟨b, off + (k - 1) * 5, none⟩ = some (.int .i64 p.slot) ∧ Below w1.heap.size w1 z) (by kernel_rfl) HT.out (fun hHeld => ?_)
     refine takeL 0 (h := ?_)
     refine takeL 1 (h := ?_)
     refine takeL 2 (h := ?_)
     refine takeL 3 (h := ?_)
     refine takeL 4 (h := ?_)
     refine wpAnyH_ready (rs := [5]) (by kernel_rfl) (by simp) ?_
     refine AllReadyH.cons (o := _) (by simp only [List.getElem?_toArray, List.getElem?_cons_succ, List.getElem?_cons_zero]; rfl) (fun K hK => ?_) AllReadyH.nil
     go_simp
     go_at_call 22
     refine (hrr _).mono ?_
     rintro e wa ⟨rfl, hba⟩
     refine hK.out _ _ (HU.out _ _ hHeld hba) (fun hHeld => ?_)
     clear hK K
     ((try simp only [Act.put]); (try simp only [List.setIfInBounds_toArray]); (try simp only [List.set_cons_succ]); (try simp only [List.set_cons_zero]))
     refine takeL 6 (h := ?_)
     refine takeL 7 (h := ?_)
     refine skipL 8 (h := ?_)
     refine skipL 9 (h := ?_)
     refine skipL 10 (h := ?_)
     refine skipL 11 (h := ?_)
     refine skipL 12 (h := ?_)
     refine skipL 13 (h := ?_)
     refine skipL 14 (h := ?_)
     refine skipL 15 (h := ?_)
     refine skipL 16 (h := ?_)
     refine takeL 17 (h := ?_)
     refine takeL 18 (h := ?_)
     refine skipL 19 (h := ?_)
     refine skipL 20 (h := ?_)
     refine skipL 21 (h := ?_)
     refine skipL 22 (h := ?_)
     refine skipL 23 (h := ?_)
     refine skipL 24 (h := ?_)
     refine skipL 25 (h := ?_)
     refine skipL 26 (h := ?_)
     refine skipL 27 (h := ?_)
     refine skipL 28 (h := ?_)
     refine skipL 29 (h := ?_)
     refine skipL 30 (h := ?_)
     refine skipL 31 (h := ?_)
     refine skipL 32 (h := ?_)
     refine skipL 33 (h := ?_)
     refine skipL 34 (h := ?_)
     refine skipL 35 (h := ?_)
     refine skipL 36 (h := ?_)
     refine takeL 37 (h := ?_)
     refine wpAnyH_done (by kernel_rfl) ?_ _
     have hb9 := hHeld.2.2.2.2.2.2.2.2
     go_wp2_with fail
     go_ret
     exact ⟨ret1 (vb HD.out.symm), HW.out.trans (hb9.mono HW.out.size)⟩
   ·obtain rfl : k = V.length := by omega
    have hVO := HJ.out
    rw [List.take_length] at hVO
    have HD := Lib.hid (HR.out true ⟨fun _ => ⟨⟨by simp, by simp⟩, ⟨HB.out.1, HB.out.2.1⟩, ⟨HB.out.2.2.1, HB.out.2.2.2.1⟩, ⟨HB.out.2.2.2.2.1, HB.out.2.2.2.2.2⟩, fun e => absurd rfl e, fun _ => HVZ.out, fun _ => rfl, hVO, fun e => absurd e (by simp), ⟨by simp, by simp⟩⟩, fun _ => rfl⟩)
    clear HR HX HJ hVO
    go_wp2_with fail
    go_ret
    exact ⟨ret1 (vb HD.out.symm), hww⟩
 ·by_cases hV : 0 < V.length
  case pos =>
   have hV2 : (0 : Int) < (V.length : Int) := by omega
   have HD := Lib.hid (HR.out false ⟨fun e => (Bool.noConfusion e), fun h => by have h1 := h.k2 (by simp); simp only at h1; rw [h1] at hV; exact absurd hV (by simp)⟩)
   clear HR HX hva
   go_wp2_with fail
   go_ret
   exact ⟨ret1 (vb HD.out.symm), HW.out⟩
  have hV0 : V = [] := List.length_eq_zero_iff.1 (by omega)
  subst hV0
  by_cases hs : s0 = 0
  case neg =>
   have HD := Lib.hid (HR.out false ⟨fun e => (Bool.noConfusion e), fun h => by have h1 := h.k4 (by simp); simp only at h1; exact absurd h1 hs⟩)
   clear HR HX
   go_wp2_with fail
   go_ret
   exact ⟨ret1 (vb HD.out.symm), HW.out⟩
  subst hs
  go_wp2_with fail
  go_loopw [3] (fun i wr => i = .int .i64 0 ∧ wr = w1) (fun _ _ => 0)
  case atStart => exact ⟨rfl, rfl⟩
  case round =>
   obtain ⟨rfl, rfl⟩ := hrel
   have hrr := rright17_any v0 wr
   by_cases hr : v0.Right
   ·rw [decide_eq_true hr] at hrr
    by_cases hb : v0.ballot = b0
    ·have HD := Lib.hid (HR.out true ⟨fun _ => ⟨⟨by simp, by simp⟩, ⟨HB.out.1, HB.out.2.1⟩, ⟨HB.out.2.2.1, HB.out.2.2.2.1⟩, ⟨HB.out.2.2.2.2.1, HB.out.2.2.2.2.2⟩, fun _ => rfl, fun e => absurd rfl e, fun _ => rfl, ⟨by simp, List.Pairwise.nil⟩, fun _ => ⟨hr, hb⟩, ⟨by simp, by simp⟩⟩, fun _ => rfl⟩)
     clear HR HX
     go_wp2_with ((with_reducible (show wpList _ _ _ ({ dst := some 122, op := .load 23 (.tmp 121), type := _, pos := _, after := _, guard := _ } :: _) _ _); refine St.loadAt vtOk rfl (.tmp 121) rfl _ rfl hva ?_))
     refine hrr.mono ?_
     rintro e w2 ⟨rfl, hb2⟩
     have a3 := (hb2.cell (p := ⟨w.heap.size, 3, none⟩) hlt1).trans a3
     have a4 := (hb2.cell (p := ⟨w.heap.size, 4, none⟩) hlt1).trans a4
     have a6 := (hb2.cell (p := ⟨w.heap.size, 6, none⟩) hlt1).trans a6
     have hw2 := HW.out.trans (hb2.mono HW.out.size)
     clear hb2 hrr hva
     go_wp2_with fail
     go_ret
     exact ⟨ret1 (vb HD.out.symm), hw2⟩
    ·have HD := Lib.hid (HR.out false ⟨fun e => (Bool.noConfusion e), fun h => absurd (h.vote rfl).2 hb⟩)
     clear HR HX
     go_wp2_with ((with_reducible (show wpList _ _ _ ({ dst := some 122, op := .load 23 (.tmp 121), type := _, pos := _, after := _, guard := _ } :: _) _ _); refine St.loadAt vtOk rfl (.tmp 121) rfl _ rfl hva ?_))
     refine hrr.mono ?_
     rintro e w2 ⟨rfl, hb2⟩
     have a3 := (hb2.cell (p := ⟨w.heap.size, 3, none⟩) hlt1).trans a3
     have a6 := (hb2.cell (p := ⟨w.heap.size, 6, none⟩) hlt1).trans a6
     have hw2 := HW.out.trans (hb2.mono HW.out.size)
     clear hb2 hrr hva
     go_wp2_with fail
     go_ret
     exact ⟨ret1 (vb HD.out.symm), hw2⟩
   ·rw [decide_eq_false hr] at hrr
    have HD := Lib.hid (HR.out false ⟨fun e => (Bool.noConfusion e), fun h => absurd (h.vote rfl).1 hr⟩)
    clear HR HX
    go_wp2_with ((with_reducible (show wpList _ _ _ ({ dst := some 122, op := .load 23 (.tmp 121), type := _, pos := _, after := _, guard := _ } :: _) _ _); refine St.loadAt vtOk rfl (.tmp 121) rfl _ rfl hva ?_))
    refine hrr.mono ?_
    rintro e w2 ⟨rfl, hb2⟩
    have hw2 := HW.out.trans (hb2.mono HW.out.size)
    clear hb2 hrr hva
    go_wp2_with fail
    go_ret
    exact ⟨ret1 (vb HD.out.symm), hw2⟩
 ·by_cases hV : 0 < V.length
  case pos =>
   have hV2 : (0 : Int) < (V.length : Int) := by omega
   have HD := Lib.hid (HR.out false ⟨fun e => (Bool.noConfusion e), fun h => by have h1 := h.k2 (by simp); simp only at h1; rw [h1] at hV; exact absurd hV (by simp)⟩)
   clear HR HX hva
   go_wp2_with fail
   go_ret
   exact ⟨ret1 (vb HD.out.symm), HW.out⟩
  have hV0 : V = [] := List.length_eq_zero_iff.1 (by omega)
  subst hV0
  by_cases hv : v0 = Vt.zero
  case neg =>
   have hal : (!St.allAlike vtSp v0.cs #[.int .i64 0, .int .i64 0, .int .i64 0, .bool false, .string ⟨#[]⟩]) = true := by have e := vtAlike v0 Vt.zero; rw [decide_eq_false hv] at e; exact congrArg Bool.not e
   have HD := Lib.hid (HR.out false ⟨fun e => (Bool.noConfusion e), fun h => by have h1 := h.k3 (by simp); simp only at h1; exact absurd h1 hv⟩)
   clear HR HX
   go_wp2_with (first | (with_reducible (show wpList _ _ _ ({ dst := some 57, op := .load 23 (.tmp 56), type := _, pos := _, after := _, guard := _ } :: _) _ _); refine St.loadAt vtOk rfl (.tmp 56) rfl _ rfl hva ?_) | (with_reducible (show wpList _ _ _ ({ dst := some 59, op := .binOp .neq 23 (.tmp 57) (.tmp 58) _, type := _, pos := _, after := _, guard := _ } :: _) _ _); ((try simp only [Act.put]); (try simp only [List.setIfInBounds_toArray]); (try simp only [List.set_cons_succ]); (try simp only [List.set_cons_zero])); refine St.ne vtEqs hty rfl (.tmp 57) (.tmp 58) _ rfl rfl rfl hal ?_))
   go_ret
   exact ⟨ret1 (vb HD.out.symm), HW.out⟩
  have hal : (!St.allAlike vtSp v0.cs #[.int .i64 0, .int .i64 0, .int .i64 0, .bool false, .string ⟨#[]⟩]) = false := by have e := vtAlike v0 Vt.zero; rw [decide_eq_true hv] at e; exact congrArg Bool.not e
  have HVZ := Lib.hid hv
  clear hv
  go_wp2_with (first | (with_reducible (show wpList _ _ _ ({ dst := some 57, op := .load 23 (.tmp 56), type := _, pos := _, after := _, guard := _ } :: _) _ _); refine St.loadAt vtOk rfl (.tmp 56) rfl _ rfl hva ?_) | (with_reducible (show wpList _ _ _ ({ dst := some 59, op := .binOp .neq 23 (.tmp 57) (.tmp 58) _, type := _, pos := _, after := _, guard := _ } :: _) _ _); ((try simp only [Act.put]); (try simp only [List.setIfInBounds_toArray]); (try simp only [List.set_cons_succ]); (try simp only [List.set_cons_zero])); refine St.ne vtEqs hty rfl (.tmp 57) (.tmp 58) _ rfl rfl rfl hal ?_))
  go_loopw [3] (fun i wr => i = .int .i64 0 ∧ wr = w1) (fun _ _ => 0)
  case atStart => exact ⟨rfl, rfl⟩
  case round =>
   obtain ⟨rfl, rfl⟩ := hrel
   by_cases h1 : 0 ≤ s0
   ·by_cases h2 : s0 ≤ 63
    ·have HD := Lib.hid (HR.out true ⟨fun _ => ⟨⟨by simp, by simp⟩, ⟨HB.out.1, HB.out.2.1⟩, ⟨HB.out.2.2.1, HB.out.2.2.2.1⟩, ⟨HB.out.2.2.2.2.1, HB.out.2.2.2.2.2⟩, fun _ => rfl, fun _ => HVZ.out, fun e => absurd rfl e, ⟨by simp, List.Pairwise.nil⟩, fun e => absurd e (by simp), ⟨h1, h2⟩⟩, fun _ => rfl⟩)
     clear HR HX hva
     go_wp2_with fail
     go_ret
     exact ⟨ret1 (vb HD.out.symm), HW.out⟩
    ·have HD := Lib.hid (HR.out false ⟨fun e => (Bool.noConfusion e), fun h => absurd h.slot.2 h2⟩)
     clear HR HX hva
     go_wp2_with fail
     go_ret
     exact ⟨ret1 (vb HD.out.symm), HW.out⟩
   ·have HD := Lib.hid (HR.out false ⟨fun e => (Bool.noConfusion e), fun h => absurd h.slot.1 h1⟩)
    clear HR HX hva
    go_wp2_with fail
    go_ret
    exact ⟨ret1 (vb HD.out.symm), HW.out⟩
 ·by_cases hV : 0 < V.length
  case pos =>
   have hV2 : (0 : Int) < (V.length : Int) := by omega
   have HD := Lib.hid (HR.out false ⟨fun e => (Bool.noConfusion e), fun h => by have h1 := h.k2 (by simp); simp only at h1; rw [h1] at hV; exact absurd hV (by simp)⟩)
   clear HR HX hva
   go_wp2_with fail
   go_ret
   exact ⟨ret1 (vb HD.out.symm), HW.out⟩
  have hV0 : V = [] := List.length_eq_zero_iff.1 (by omega)
  subst hV0
  by_cases hv : v0 = Vt.zero
  case neg =>
   have hal : (!St.allAlike vtSp v0.cs #[.int .i64 0, .int .i64 0, .int .i64 0, .bool false, .string ⟨#[]⟩]) = true := by have e := vtAlike v0 Vt.zero; rw [decide_eq_false hv] at e; exact congrArg Bool.not e
   have HD := Lib.hid (HR.out false ⟨fun e => (Bool.noConfusion e), fun h => by have h1 := h.k3 (by simp); simp only at h1; exact absurd h1 hv⟩)
   clear HR HX
   go_wp2_with (first | (with_reducible (show wpList _ _ _ ({ dst := some 57, op := .load 23 (.tmp 56), type := _, pos := _, after := _, guard := _ } :: _) _ _); refine St.loadAt vtOk rfl (.tmp 56) rfl _ rfl hva ?_) | (with_reducible (show wpList _ _ _ ({ dst := some 59, op := .binOp .neq 23 (.tmp 57) (.tmp 58) _, type := _, pos := _, after := _, guard := _ } :: _) _ _); ((try simp only [Act.put]); (try simp only [List.setIfInBounds_toArray]); (try simp only [List.set_cons_succ]); (try simp only [List.set_cons_zero])); refine St.ne vtEqs hty rfl (.tmp 57) (.tmp 58) _ rfl rfl rfl hal ?_))
   go_ret
   exact ⟨ret1 (vb HD.out.symm), HW.out⟩
  have hal : (!St.allAlike vtSp v0.cs #[.int .i64 0, .int .i64 0, .int .i64 0, .bool false, .string ⟨#[]⟩]) = false := by have e := vtAlike v0 Vt.zero; rw [decide_eq_true hv] at e; exact congrArg Bool.not e
  have HVZ := Lib.hid hv
  clear hv
  by_cases hs : s0 = 0
  case neg =>
   have HD := Lib.hid (HR.out false ⟨fun e => (Bool.noConfusion e), fun h => by have h1 := h.k4 (by simp); simp only at h1; exact absurd h1 hs⟩)
   clear HR HX
   go_wp2_with (first | (with_reducible (show wpList _ _ _ ({ dst := some 57, op := .load 23 (.tmp 56), type := _, pos := _, after := _, guard := _ } :: _) _ _); refine St.loadAt vtOk rfl (.tmp 56) rfl _ rfl hva ?_) | (with_reducible (show wpList _ _ _ ({ dst := some 59, op := .binOp .neq 23 (.tmp 57) (.tmp 58) _, type := _, pos := _, after := _, guard := _ } :: _) _ _); ((try simp only [Act.put]); (try simp only [List.setIfInBounds_toArray]); (try simp only [List.set_cons_succ]); (try simp only [List.set_cons_zero])); refine St.ne vtEqs hty rfl (.tmp 57) (.tmp 58) _ rfl rfl rfl hal ?_))
   go_ret
   exact ⟨ret1 (vb HD.out.symm), HW.out⟩
  subst hs
  go_wp2_with (first | (with_reducible (show wpList _ _ _ ({ dst := some 57, op := .load 23 (.tmp 56), type := _, pos := _, after := _, guard := _ } :: _) _ _); refine St.loadAt vtOk rfl (.tmp 56) rfl _ rfl hva ?_) | (with_reducible (show wpList _ _ _ ({ dst := some 59, op := .binOp .neq 23 (.tmp 57) (.tmp 58) _, type := _, pos := _, after := _, guard := _ } :: _) _ _); ((try simp only [Act.put]); (try simp only [List.setIfInBounds_toArray]); (try simp only [List.set_cons_succ]); (try simp only [List.set_cons_zero])); refine St.ne vtEqs hty rfl (.tmp 57) (.tmp 58) _ rfl rfl rfl hal ?_))
  go_loopw [3] (fun i wr => i = .int .i64 0 ∧ wr = w1) (fun _ _ => 0)
  case atStart => exact ⟨rfl, rfl⟩
  case round =>
   obtain ⟨rfl, rfl⟩ := hrel
   have HD := Lib.hid (HR.out true ⟨fun _ => ⟨⟨by simp, by simp⟩, ⟨HB.out.1, HB.out.2.1⟩, ⟨HB.out.2.2.1, HB.out.2.2.2.1⟩, ⟨HB.out.2.2.2.2.1, HB.out.2.2.2.2.2⟩, fun _ => rfl, fun _ => HVZ.out, fun _ => rfl, ⟨by simp, List.Pairwise.nil⟩, fun e => absurd e (by simp), ⟨by simp, by simp⟩⟩, fun _ => rfl⟩)
   clear HR HX hva
   go_wp2_with fail
   go_ret
   exact ⟨ret1 (vb HD.out.symm), HW.out⟩
end Go.Proofs.Ytpmlfhgdhnofbaa.Ce
