/- Package cmd's table of kinds, as the world holds it; the contracts of its small functions. -/
import Derived.Test.YtkpdadnmbjmfpaaDoorCmG
import Derived.Test.YtkpdadnmbjmfpaaDoorClA
namespace Go.Proofs.YtkpdadnmbjmfpaaDoor.Ce
open Go.RowKit

/-- what a kind has -/
structure Pt where
  col : Bool
  to_ : Bool
  value : Bool
  expect : Bool
  writes : Bool
def Pt.cs (p : Pt) : Array Value := #[.bool p.col, .bool p.to_, .bool p.value, .bool p.expect, .bool p.writes]
abbrev ptD : St.Sp Pt := ⟨45, 0, 5, 5, Pt.cs, ⟨false, false, false, false, false⟩⟩
theorem ptOk : ptD.Ok Tryd.prog := ⟨⟨_, Tryd.underlying45, rfl⟩, by kernel_rfl, by decide, fun _ => rfl, fun x => by simp [Pt.cs, Value.oneCell']⟩
def ptOf : Nat → Pt
  | 1 => ⟨true, false, true, false, true⟩
  | 2 => ⟨true, false, false, false, true⟩
  | 3 => ⟨true, false, true, true, true⟩
  | 4 => ⟨true, false, false, false, false⟩
  | 5 => ⟨false, true, false, false, false⟩
  | _ => ⟨false, false, false, false, false⟩
/-- the table lies where the program's start lays it -/
structure Kd (w : World) : Prop where
  lt : 0 < w.heap.size
  at_ : ∀ k, k < 6 → ∀ (i : Nat) (u : Value), (ptOf k).cs[i]? = some u → w.cell? ⟨0, k * 5 + i, none⟩ = some u
theorem Kd.up {w w' : World} (h : Kd w) (hb : Below w.heap.size w w') : Kd w' :=
  ⟨Nat.lt_of_lt_of_le h.lt hb.size, fun k hk i u hu => (hb.cell (p := ⟨0, k * 5 + i, none⟩) h.lt).trans (h.at_ k hk i u hu)⟩
theorem Kd.all {w : World} (h : Kd w) (k o : Nat) (hk : k < 6) (ho : o = k * 5) : ∀ (i : Nat) (u : Value), (ptD.f (ptOf k))[i]? = some u → w.cell? ((⟨0, o, none⟩ : Addr).add i) = some u := fun i u hu => by
  rw [Addr.add_lit, ho]
  exact h.at_ k hk i u hu

set_option maxHeartbeats 400000 in
theorem within_any (n a b : Int) (w : World) : Calls Tryd.prog 27 #[.int .i64 n, .int .i64 a, .int .i64 b] w fun e w' => e = .returned (.bool (decide (a ≤ n ∧ n ≤ b))) ∧ w = w' := by
  by_cases h1 : a ≤ n
  · by_cases h2 : n ≤ b
    · rw [decide_eq_true ⟨h1, h2⟩]
      go_enter Tryd.func27, Tryd.ntmps27
      go_wp2
      go_ret
      exact ⟨ret1 (vb (by simp)), rfl⟩
    · rw [decide_eq_false (fun h => h2 h.2)]
      go_enter Tryd.func27, Tryd.ntmps27
      go_wp2
      go_ret
      exact ⟨ret1 (vb (by simp)), rfl⟩
  · rw [decide_eq_false (fun h => h1 h.1)]
    go_enter Tryd.func27, Tryd.ntmps27
    go_wp2
    go_ret
    exact ⟨ret1 (vb (by simp)), rfl⟩
set_option maxHeartbeats 400000 in
theorem cflag_any (b : Bool) (w : World) : Calls Tryd.prog 29 #[.bool b] w fun e w' => e = .returned (.int .i64 (if b = true then 1 else 0)) ∧ w = w' := by
  cases b
  · go_enter Tryd.func29, Tryd.ntmps29
    go_wp2
    go_ret
    exact ⟨rfl, rfl⟩
  · go_enter Tryd.func29, Tryd.ntmps29
    go_wp2
    go_ret
    exact ⟨rfl, rfl⟩
def Cm.numbered (c : Cm) : Prop := (1 ≤ c.client ∧ c.client ≤ 16) ∧ (1 ≤ c.seq ∧ c.seq ≤ 2147483647) ∧ (1 ≤ c.kind ∧ c.kind ≤ 5)
instance (c : Cm) : Decidable c.numbered := by unfold Cm.numbered; infer_instance
set_option maxHeartbeats 2000000 in
set_option maxRecDepth 100000 in
theorem numbered_any (c : Cm) (w : World) : Calls Tryd.prog 17 #[c.v] w fun e w' => e = .returned (.bool (decide c.numbered)) ∧ Below w.heap.size w w' := by
  have n1 := fun w => within_any c.client 1 16 w
  have n2 := fun w => within_any c.seq 1 2147483647 w
  have n3 := fun w => within_any c.kind 1 5 w
  by_cases h1 : 1 ≤ c.client ∧ c.client ≤ 16
  · rw [decide_eq_true h1] at n1
    by_cases h2 : 1 ≤ c.seq ∧ c.seq ≤ 2147483647
    · rw [decide_eq_true h2] at n2
      have hd : decide c.numbered = decide (1 ≤ c.kind ∧ c.kind ≤ 5) := decide_eq_decide.2 ⟨fun h => h.2.2, fun h => ⟨h1, h2, h⟩⟩
      rw [hd]
      generalize decide (1 ≤ c.kind ∧ c.kind ≤ 5) = d at n3
      clear hd h1 h2
      go_enter Tryd.func17, Tryd.ntmps17
      go_wp2_with (refine St.box cmD rfl (.tmp 0) c rfl rfl ?_)
      constructor
      intro w1 hI hb hz
      obtain ⟨c0, c1, c2, c3, c4, c5, c6, c7, c8, c9⟩ := CmAt.of hI
      clear hI
      go_wp2_with fail
      refine (n1 _).mono ?_
      rintro e w2 ⟨rfl, rfl⟩
      go_wp2_with fail
      refine (n2 _).mono ?_
      rintro e w2 ⟨rfl, rfl⟩
      go_wp2_with fail
      refine (n3 _).mono ?_
      rintro e w2 ⟨rfl, rfl⟩
      go_wp2_with fail
      go_ret
      exact ⟨rfl, hb⟩
    · rw [decide_eq_false h2] at n2
      rw [decide_eq_false (fun h : c.numbered => h2 h.2.1)]
      clear h1 h2 n3
      go_enter Tryd.func17, Tryd.ntmps17
      go_wp2_with (refine St.box cmD rfl (.tmp 0) c rfl rfl ?_)
      constructor
      intro w1 hI hb hz
      obtain ⟨c0, c1, c2, c3, c4, c5, c6, c7, c8, c9⟩ := CmAt.of hI
      clear hI
      go_wp2_with fail
      refine (n1 _).mono ?_
      rintro e w2 ⟨rfl, rfl⟩
      go_wp2_with fail
      refine (n2 _).mono ?_
      rintro e w2 ⟨rfl, rfl⟩
      go_wp2_with fail
      go_ret
      exact ⟨rfl, hb⟩
  · rw [decide_eq_false h1] at n1
    rw [decide_eq_false (fun h : c.numbered => h1 h.1)]
    clear h1 n2 n3
    go_enter Tryd.func17, Tryd.ntmps17
    go_wp2_with (refine St.box cmD rfl (.tmp 0) c rfl rfl ?_)
    constructor
    intro w1 hI hb hz
    obtain ⟨c0, c1, c2, c3, c4, c5, c6, c7, c8, c9⟩ := CmAt.of hI
    clear hI
    go_wp2_with fail
    refine (n1 _).mono ?_
    rintro e w2 ⟨rfl, rfl⟩
    go_wp2_with fail
    go_ret
    exact ⟨rfl, hb⟩
end Go.Proofs.YtkpdadnmbjmfpaaDoor.Ce
