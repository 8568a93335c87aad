/- The contract of block.first: the cell at the beginning. -/
import Derived.Test.YtpflcnndloielaaBkP
import Derived.Test.YtpflcnndloielaaCcut
namespace Go.Proofs.Ytpflcnndloielaa.Ce
open Go.RowKit

set_option maxHeartbeats 1000000 in
set_option maxRecDepth 100000 in
theorem first_ok (x : Value) (l m : List UInt8) (c : Cl) (B : Nat) (w : World) (hr : Rd w B x (l.map bv)) (hB : B ≤ w.heap.size) (hl : l.length ≤ 1000000000) (hs : Stands l c m) :
    Calls Try.prog 48 #[x] w fun e w' => e = .returned (.tuple #[c.v, .int .i64 ((cellB c).length : Int), .bool true]) ∧ Below w.heap.size w w' := by
  obtain ⟨A, cp, rfl, hc, hm⟩ := hr.shapeM
  unfold maxLen at hm
  obtain ⟨k, hk⟩ : ∃ k, k = min l.length 401 := ⟨_, rfl⟩
  have hkl : (l.take 401).length = k := by rw [List.length_take]; omega
  have hk1 : k ≤ l.length := by omega
  have hk2 : min (l.length : Int) 401 = (k : Int) := by omega
  have htk : l.take 401 = l.take k := by
    rw [hk]
    by_cases h : l.length ≤ 401
    · rw [List.take_of_length_le h, Nat.min_eq_left h, List.take_length]
    · rw [Nat.min_eq_right (by omega)]
  have hrh := hr.cutTo (hi := k) hk1
  rw [← List.map_take, ← htk] at hrh
  have hsh := stands_head hs
  have hle := congrArg List.length hsh.2
  rw [List.length_append, hkl] at hle
  generalize m.take (401 - (cellB c).length) = mm at *
  generalize l.take 401 = hd at *
  have HR := Lib.hid hrh
  have HS := Lib.hid hsh
  have HK := Lib.hid (And.intro hkl hle)
  have hk3 : (0 : Int) ≤ (k : Int) := by omega
  have hk4 : (k : Int) ≤ (cp : Int) := by omega
  have hsub : (k : Int) - (mm.length : Int) = ((cellB c).length : Int) := by omega
  have hkc : k ≤ 401 := by omega
  clear hr hs hrh hsh htk hk hkl hle
  generalize (cellB c).length = z at *
  go_enter Try.func48, Try.ntmps48
  go_wp2_with (refine allocC rfl rfl ?_)
  constructor
  intro w0 hI0 hb0 hz0
  have HI0 := Lib.hid hI0
  have HB0 := Lib.hid hb0
  clear hI0 hb0 hz0
  go_wp2_with fail
  refine (cut_ok _ hd mm c B w0 (HR.out.below (HB0.out.mono hB)) (Nat.le_trans hB HB0.out.size) (by have := HK.out.1; omega) HS.out).mono ?_
  rintro e w1 ⟨⟨r, rfl, hx⟩, hb1⟩
  obtain ⟨A1, c1, rfl, -, -⟩ := hx.rd.shapeM
  have HI1 := Lib.hid (HI0.out.up hb1)
  have HB1 := Lib.hid (bwstep HB0.out hb1)
  clear hx hb1
  go_wp2_with (refine allocC rfl rfl ?_)
  constructor
  intro w2 hI2 hb2 hz2
  go_wp2_with (refine storeC (c := c) rfl (.tmp 6) (.tmp 17) rfl rfl rfl hI2 ?_)
  constructor
  intro w3 hs3
  have HI3 := Lib.hid hs3.i
  have HJ3 := Lib.hid (hs3.up (HI1.out.up hb2) (Nat.ne_of_lt HI1.out.lt))
  have HB3 := Lib.hid (bwstep HB1.out (hs3.bel hb2 (Nat.le_refl _)))
  have hne := Nat.le_of_lt HI1.out.lt
  clear hI2 hb2 hz2 hs3
  go_wp2_with (first | (refine loadC rfl (.tmp 6) rfl rfl HI3.out ?_) | (refine storeC (c := c) rfl (.tmp 2) (.tmp 20) rfl rfl rfl HJ3.out ?_))
  constructor
  intro w4 hs4
  have HI4 := Lib.hid hs4.i
  have HB4 := Lib.hid (hs4.bel HB3.out (Nat.le_refl _))
  clear hs4
  go_wp2_with fail
  exact bodyPost_ret (res3 Try.results48 rfl HI4.out) rfl ⟨rfl, HB4.out⟩
set_option maxHeartbeats 1000000 in
set_option maxRecDepth 100000 in
theorem first_no (x : Value) (l : List UInt8) (B : Nat) (w : World) (hr : Rd w B x (l.map bv)) (hB : B ≤ w.heap.size) (hl : l.length ≤ 1000000000) (hs : ¬ ∃ c m, Stands l c m) :
    Calls Try.prog 48 #[x] w fun e w' => (∃ n : Int, e = .returned (.tuple #[Cl.zero.v, .int .i64 n, .bool false])) ∧ Below w.heap.size w w' := by
  obtain ⟨A, cp, rfl, hc, hm⟩ := hr.shapeM
  unfold maxLen at hm
  obtain ⟨k, hk⟩ : ∃ k, k = min l.length 401 := ⟨_, rfl⟩
  have hkl : (l.take 401).length = k := by rw [List.length_take]; omega
  have hk1 : k ≤ l.length := by omega
  have hk2 : min (l.length : Int) 401 = (k : Int) := by omega
  have htk : l.take 401 = l.take k := by
    rw [hk]
    by_cases h : l.length ≤ 401
    · rw [List.take_of_length_le h, Nat.min_eq_left h, List.take_length]
    · rw [Nat.min_eq_right (by omega)]
  have hrh := hr.cutTo (hi := k) hk1
  rw [← List.map_take, ← htk] at hrh
  have hsh : ¬ ∃ c m, Stands (l.take 401) c m := fun ⟨c, m, h⟩ => hs ⟨c, _, head_stands h⟩
  generalize l.take 401 = hd at *
  have HR := Lib.hid hrh
  have HS := Lib.hid hsh
  have HK := Lib.hid hkl
  have hk3 : (0 : Int) ≤ (k : Int) := by omega
  have hk4 : (k : Int) ≤ (cp : Int) := by omega
  have hkc : k ≤ 401 := by omega
  clear hr hs hrh hsh htk hk hkl
  go_enter Try.func48, Try.ntmps48
  go_wp2_with (refine allocC rfl rfl ?_)
  constructor
  intro w0 hI0 hb0 hz0
  have HI0 := Lib.hid hI0
  have HB0 := Lib.hid hb0
  clear hI0 hb0 hz0
  go_wp2_with fail
  refine (cut_no _ hd B w0 (HR.out.below (HB0.out.mono hB)) (Nat.le_trans hB HB0.out.size) (by have := HK.out; omega) HS.out).mono ?_
  rintro e w1 ⟨rfl, hb1⟩
  have HI1 := Lib.hid (HI0.out.up hb1)
  have HB1 := Lib.hid (bwstep HB0.out hb1)
  clear hb1
  go_wp2_with (refine allocC rfl rfl ?_)
  constructor
  intro w2 hI2 hb2 hz2
  go_wp2_with (refine storeC (c := Cl.zero) rfl (.tmp 6) (.tmp 17) rfl rfl rfl hI2 ?_)
  constructor
  intro w3 hs3
  have HI3 := Lib.hid hs3.i
  have HJ3 := Lib.hid (hs3.up (HI1.out.up hb2) (Nat.ne_of_lt HI1.out.lt))
  have HB3 := Lib.hid (bwstep HB1.out (hs3.bel hb2 (Nat.le_refl _)))
  clear hI2 hb2 hz2 hs3
  go_wp2_with (first | (refine loadC rfl (.tmp 6) rfl rfl HI3.out ?_) | (refine storeC (c := Cl.zero) rfl (.tmp 2) (.tmp 20) rfl rfl rfl HJ3.out ?_))
  constructor
  intro w4 hs4
  have HI4 := Lib.hid hs4.i
  have HB4 := Lib.hid (hs4.bel HB3.out (Nat.le_refl _))
  clear hs4
  go_wp2_with fail
  exact bodyPost_ret (res3 Try.results48 rfl HI4.out) rfl ⟨⟨_, rfl⟩, HB4.out⟩
end Go.Proofs.Ytpflcnndloielaa.Ce
