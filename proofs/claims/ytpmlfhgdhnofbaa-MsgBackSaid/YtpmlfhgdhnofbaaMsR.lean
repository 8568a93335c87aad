/- The reference's Right, Same, Small of layer 19. -/
import Derived.Test.YtpmlfhgdhnofbaaMsP
import Derived.Test.YtpmlfhgdhnofbaaVoG
import Derived.Deep.RegionHeld3
import Derived.BigQuiet
set_option maxHeartbeats 8000000
set_option maxRecDepth 100000
namespace Go.Proofs.Ytpmlfhgdhnofbaa.Ce
open Go.RowKit
theorem rsame19_any (x y : Mx) (m n : Ms) (w : World) (hx : MsIs w [] x m) (hy : MsIs w [] y n) (hl : m.votes.length ≤ 1000000) :
  Calls Try.prog 13 #[x.v, y.v] w fun e w' => e = .returned (.bool (decide (m = n))) ∧ Below w.heap.size w w' := by
 obtain ⟨hh, V⟩ := m
 obtain ⟨kk, U⟩ := n
 obtain ⟨xh, xa, xn, xc⟩ := x
 obtain ⟨yh, ya, yn, yc⟩ := y
 obtain rfl : xh = hh := hx.h
 obtain rfl : yh = kk := hy.h
 obtain ⟨k0, f0, t0, b0, s0, v0⟩ := xh
 obtain ⟨k1, f1, t1, b1, s1, v1⟩ := yh
 go_enter Try.func13, Try.ntmps13
 go_wp2_with (refine St.box msD rfl (.tmp 0) ⟨⟨k0, f0, t0, b0, s0, v0⟩, xa, xn, xc⟩ rfl rfl ?_)
 constructor
 intro w1 hI1 hb1 hz1
 clear hz1
 go_wp2_with (refine St.box msD rfl (.tmp 1) ⟨⟨k1, f1, t1, b1, s1, v1⟩, ya, yn, yc⟩ rfl rfl ?_)
 constructor
 intro w2 hJ2 hb2 hz2
 clear hz2
 have hI2 := hI1.up hb2
 have hw2 := hb1.trans (hb2.mono hb1.size)
 have hX2 : St.RdS vtL w2 [] (.slice xa xn xc) V := (hx.bel hw2).votes
 have hY2 : St.RdS vtL w2 [] (.slice ya yn yc) U := (hy.bel hw2).votes
 obtain ⟨a0, a1, a2, a3, a4, -, -, -, -, -, aA⟩ := MxAt.of hI2
 obtain ⟨c0, c1, c2, c3, c4, -, -, -, -, -, cA⟩ := MxAt.of hJ2
 simp only at a0 a1 a2 a3 a4 aA c0 c1 c2 c3 c4 cA
 have hva := vote_at hI2
 have hvb := vote_at hJ2
 have HSM := Lib.hid (rvsame_any (.slice xa xn xc) (.slice ya yn yc) V U w2 hX2 hY2 (by have : V.length ≤ 1000000 := hl; omega))
 have HW := Lib.hid hw2
 clear hI1 hb1 hb2 hI2 hJ2 hx hy hw2 hX2 hY2 hl
 by_cases e0 : k0 = k1
 case neg =>
  have HD : Hid (decide ((⟨⟨k0, f0, t0, b0, s0, v0⟩, V⟩ : Ms) = (⟨⟨k1, f1, t1, b1, s1, v1⟩, U⟩ : Ms)) = false) := Lib.hid (decide_eq_false fun e => e0 (by cases e; rfl))
  clear HSM hva hvb
  go_wp2_with fail
  go_ret
  exact ⟨ret1 (vb (by first | exact HD.out.symm | rfl)), HW.out⟩
 subst e0
 by_cases e1 : f0 = f1
 case neg =>
  have HD : Hid (decide ((⟨⟨k0, f0, t0, b0, s0, v0⟩, V⟩ : Ms) = (⟨⟨k0, f1, t1, b1, s1, v1⟩, U⟩ : Ms)) = false) := Lib.hid (decide_eq_false fun e => e1 (by cases e; rfl))
  clear HSM hva hvb
  go_wp2_with fail
  go_ret
  exact ⟨ret1 (vb (by first | exact HD.out.symm | rfl)), HW.out⟩
 subst e1
 by_cases e2 : t0 = t1
 case neg =>
  have HD : Hid (decide ((⟨⟨k0, f0, t0, b0, s0, v0⟩, V⟩ : Ms) = (⟨⟨k0, f0, t1, b1, s1, v1⟩, U⟩ : Ms)) = false) := Lib.hid (decide_eq_false fun e => e2 (by cases e; rfl))
  clear HSM hva hvb
  go_wp2_with fail
  go_ret
  exact ⟨ret1 (vb (by first | exact HD.out.symm | rfl)), HW.out⟩
 subst e2
 by_cases e3 : b0 = b1
 case neg =>
  have HD : Hid (decide ((⟨⟨k0, f0, t0, b0, s0, v0⟩, V⟩ : Ms) = (⟨⟨k0, f0, t0, b1, s1, v1⟩, U⟩ : Ms)) = false) := Lib.hid (decide_eq_false fun e => e3 (by cases e; rfl))
  clear HSM hva hvb
  go_wp2_with fail
  go_ret
  exact ⟨ret1 (vb (by first | exact HD.out.symm | rfl)), HW.out⟩
 subst e3
 by_cases e4 : s0 = s1
 case neg =>
  have HD : Hid (decide ((⟨⟨k0, f0, t0, b0, s0, v0⟩, V⟩ : Ms) = (⟨⟨k0, f0, t0, b0, s1, v1⟩, U⟩ : Ms)) = false) := Lib.hid (decide_eq_false fun e => e4 (by cases e; rfl))
  clear HSM hva hvb
  go_wp2_with fail
  go_ret
  exact ⟨ret1 (vb (by first | exact HD.out.symm | rfl)), HW.out⟩
 subst e4
 by_cases e5 : v0 = v1
 case neg =>
  have HD : Hid (decide ((⟨⟨k0, f0, t0, b0, s0, v0⟩, V⟩ : Ms) = (⟨⟨k0, f0, t0, b0, s0, v1⟩, U⟩ : Ms)) = false) := Lib.hid (decide_eq_false fun e => e5 (by cases e; rfl))
  have hal : St.allAlike vtSp v0.cs v1.cs = false := by rw [vtAlike]; exact decide_eq_false e5
  clear HSM
  go_wp2_with (first | (refine St.loadAt vtOk rfl (.tmp 39) rfl _ rfl hva ?_) | (refine St.loadAt vtOk rfl (.tmp 41) rfl _ rfl hvb ?_) | (refine St.eq vtEqs (vtTyped v0 v1) rfl (.tmp 40) (.tmp 42) _ rfl rfl rfl hal ?_))
  go_ret
  exact ⟨ret1 (vb (by first | exact HD.out.symm | rfl)), HW.out⟩
 subst e5
 have hal : St.allAlike vtSp v0.cs v0.cs = true := vtSelf v0
 have HD : Hid (decide ((⟨⟨k0, f0, t0, b0, s0, v0⟩, V⟩ : Ms) = (⟨⟨k0, f0, t0, b0, s0, v0⟩, U⟩ : Ms)) = decide (V = U)) := Lib.hid (decide_eq_decide.2 ⟨fun e => by cases e; rfl, fun e => by rw [e]⟩)
 go_wp2_with (first | (refine St.loadAt vtOk rfl (.tmp 39) rfl _ rfl hva ?_) | (refine St.loadAt vtOk rfl (.tmp 41) rfl _ rfl hvb ?_) | (refine St.eq vtEqs (vtTyped v0 v0) rfl (.tmp 40) (.tmp 42) _ rfl rfl rfl hal ?_))
 refine HSM.out.mono ?_
 rintro e w3 ⟨rfl, hb3⟩
 have hw3 := HW.out.trans (hb3.mono HW.out.size)
 clear HSM hb3 hva hvb
 go_wp2_with fail
 go_ret
 exact ⟨ret1 (vb HD.out.symm), hw3⟩
def SmallEnd (m : Ms) (w : World) (e : Ending) (w' : World) : Prop := (∃ q : Bool, e = .returned (.bool q) ∧ (q = true → m.votes.length ≤ 70)) ∧ Below w.heap.size w w'
theorem rsmall19_any (x : Mx) (m : Ms) (w : World) (hx : MsIs w [] x m) : Calls Try.prog 8 #[x.v] w (SmallEnd m w) := by
 obtain ⟨hh, V⟩ := m
 obtain ⟨xh, xa, xn, xc⟩ := x
 obtain rfl : xh = hh := hx.h
 obtain rfl : xn = V.length := hx.len
 go_enter Try.func8, Try.ntmps8
 go_wp2_with (refine St.box msD rfl (.tmp 0) ⟨xh, xa, V.length, xc⟩ rfl rfl ?_)
 constructor
 intro w1 hI1 hb1 hz1
 clear hz1
 have hX1 : St.RdS vtL w1 [] (.slice xa V.length xc) V := (hx.bel hb1).votes
 have aA := (MxAt.of hI1).cA
 have a9 := (MxAt.of hI1).c9
 obtain ⟨A9, c9, eA, -, hm⟩ := hX1.shape
 injection eA with e1 _ e3
 subst e1
 subst e3
 unfold maxLen at hm
 have HX := Lib.hid hX1
 have HW := Lib.hid hb1
 clear hx hX1 hI1 hb1
 go_wp2_with fail
 go_loop [3] (fun i => ∃ k : Nat, k ≤ V.length ∧ k ≤ 100 ∧ i = .int .i64 (k : Int)) (fun i => V.length - (intOf i).toNat)
 case atStart => exact ⟨0, Nat.zero_le _, by omega, rfl⟩
 case round =>
  obtain ⟨k, hk, hk1, rfl⟩ := hrel
  by_cases hlt : k < V.length ∧ k < 100
  ·obtain ⟨hlt, hlt1⟩ := hlt
   have hfk : V[k]? = some (V[k]'hlt) := List.getElem?_eq_getElem _
   generalize V[k]'hlt = f at hfk
   obtain ⟨b, off, rfl, -, -, -⟩ := HX.out.open_ (by omega)
   have c4 : w1.cell? ⟨b, off + k * 5 + 4, none⟩ = some (.string f.bytes) := (HX.out.at_ vlOk hfk).1 4 _ rfl
   have hh3 : (0 : Int) ≤ (k : Int) := by omega
   have hh4 : (k : Int) < (V.length : Int) := by omega
   have hh5 : (k : Int) < 100 := by omega
   clear hfk
   by_cases h1 : f.bytes.size ≤ 600
   ·have g1 : ¬ (600 : Int) < (f.bytes.size : Int) := by omega
    go_wp2_with fail
    go_round
    case rel => exact ⟨k + 1, by omega, by omega, by go_num⟩
    case measure => simp [intOf]; omega
   ·have g1 : (600 : Int) < (f.bytes.size : Int) := by omega
    go_wp2_with fail
    go_ret
    exact ⟨⟨false, rfl, by simp⟩, HW.out⟩
  ·have HE : Hid (∀ q : Bool, (q = true → V.length ≤ 70) → SmallEnd ⟨xh, V⟩ w (.returned (.bool q)) w1) := Lib.hid fun q hq => ⟨⟨q, rfl, hq⟩, HW.out⟩
   have hno : ¬ ((k : Int) < (V.length : Int) ∧ (k : Int) < 100) := by omega
   by_cases h3 : V.length ≤ 70
   ·have h2 : (V.length : Int) ≤ 70 := by omega
    have hk2 : ¬ (k : Int) < (V.length : Int) := by omega
    go_wp2_with fail
    go_ret
    exact HE.out _ fun _ => h3
   ·have h2 : ¬ (V.length : Int) ≤ 70 := by omega
    by_cases hk2 : (k : Int) < (V.length : Int)
    ·have hk3 : ¬ (k : Int) < 100 := by omega
     go_wp2_with fail
     go_ret
     exact HE.out false (by simp)
    ·go_wp2_with fail
     go_ret
     exact HE.out false (by simp)
end Go.Proofs.Ytpmlfhgdhnofbaa.Ce
