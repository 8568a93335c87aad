/- The contracts of slices.Equal of votes, and of package msg's Same. -/
import Derived.Test.YtpmlfhgdhnofbaaMsP
import Derived.Test.YtpmlfhgdhnofbaaVoG
import Derived.Test.YtpmlfhgdhnofbaaVlG
import Derived.Deep.RegionHeld3
import Derived.BigQuiet
set_option maxHeartbeats 8000000
set_option maxRecDepth 100000
namespace Go.Proofs.Ytpmlfhgdhnofbaa.Ce
open Go.RowKit
theorem mequal_any (v u : Value) (L M : List Vt) (w : World) (hv : St.RdS vtL w [] v L) (hu : St.RdS vtL w [] u M) (hl : L.length ≤ 1000000000) :
  Calls Try.prog 23 #[v, u] w fun e w' => e = .returned (.bool (decide (L = M))) ∧ Below w.heap.size w w' := by
 obtain ⟨A, cp, rfl, hc, hm⟩ := hv.shape
 obtain ⟨A', cp', rfl, hc', hm'⟩ := hu.shape
 unfold maxLen at hm hm'
 have HV := Lib.hid hv
 have HV' := Lib.hid hu
 clear hv hu
 by_cases hlen : L.length = M.length
 ·have HLEN := Lib.hid hlen
  have hln : ((L.length : Int) != (M.length : Int)) = false := by simp [hlen]
  clear hlen
  go_enter Try.func23, Try.ntmps23
  go_wp2_with fail
  go_loopw [13] (fun i wr => ∃ k : Nat, k ≤ L.length ∧ i = .int .i64 (k : Int) ∧ Hid (L.take k = M.take k) ∧ Below w.heap.size w wr) (fun i _ => L.length - (intOf i).toNat)
  case atStart => exact ⟨0, by omega, rfl, Lib.hid (by simp), Below.refl _ _⟩
  case round =>
   obtain ⟨k, hk, rfl, HE, hbw⟩ := hrel
   by_cases hlt : k < L.length
   ·have hlt' : k < M.length := by have := HLEN.out; omega
    obtain ⟨b, off, rfl, -, -⟩ := HV.out.open_ (by omega)
    obtain ⟨b', off', rfl, -, -⟩ := HV'.out.open_ (by omega)
    have hh3 : (0 : Int) ≤ (k : Int) := by omega
    have hh4 : (k : Int) < (L.length : Int) := by omega
    have hh5 : (k : Int) < (M.length : Int) := by omega
    have hfk : L[k]? = some (L[k]'hlt) := List.getElem?_eq_getElem _
    have hgk : M[k]? = some (M[k]'hlt') := List.getElem?_eq_getElem _
    generalize L[k]'hlt = f at hfk
    generalize M[k]'hlt' = g at hgk
    have HNX : Hid (f = g → L.take (k + 1) = M.take (k + 1)) := Lib.hid fun e => take_next hfk hgk HE.out e
    have HNE : Hid (f ≠ g → decide (L = M) = false) := Lib.hid fun e => decide_eq_false fun h => e (by rw [h, hgk] at hfk; exact (Option.some.inj hfk).symm)
    have HF := Lib.hid fun z (hz : Below w.heap.size w z) => (HV.out.bel hz).all vlOk hfk
    have HG := Lib.hid fun z (hz : Below w.heap.size w z) => (HV'.out.bel hz).all vlOk hgk
    have HAL := Lib.hid (congrArg Bool.not (vtAlike f g))
    clear hfk hgk hlt hlt' HE
    go_upto_region 6 with fail
    refine wp_region_held_drew (S := fun z => Below w.heap.size w z) (by kernel_rfl) hbw.drew (fun hHeld => ?_)
    refine takeL 0 (h := ?_)
    refine takeL 1 (h := ?_)
    refine takeL 2 (h := ?_)
    refine takeL 3 (hy := by intro z hSz; exact St.loadOpAt vlOk (.tmp 18) rfl _ rfl (HF.out z hSz)) (h := ?_)
    refine takeL 4 (h := ?_)
    refine takeL 5 (h := ?_)
    refine takeL 6 (h := ?_)
    refine takeL 7 (hy := by intro z hSz; exact St.loadOpAt vlOk (.tmp 22) rfl _ rfl (HG.out z hSz)) (h := ?_)
    refine takeL 8 (hy := by intro z hSz; exact St.neOp vtEqs (vtTyped f g) (.tmp 19) (.tmp 23) _ rfl rfl rfl HAL.out) (h := ?_)
    refine wpAnyH_done (by kernel_rfl) ?_ _
    by_cases e : f = g
    ·rw [decide_eq_true e]
     have HN := Lib.hid (HNX.out e)
     clear HNX HNE HF HG HAL e
     go_wp2_with fail
     go_roundw
     case rel => exact ⟨k + 1, by omega, by go_num, HN, hHeld⟩
     case measure => simp [intOf]; omega
    ·rw [decide_eq_false e]
     have HD := Lib.hid (HNE.out e)
     clear HNX HNE HF HG HAL e
     go_wp2_with fail
     go_ret
     exact ⟨ret1 (vb HD.out.symm), hHeld⟩
   ·obtain rfl : k = L.length := by omega
    have hd : decide (L = M) = true := decide_eq_true (by
     have := HE.out
     rw [List.take_length, HLEN.out, List.take_length] at this
     exact this)
    have HD := Lib.hid hd
    clear HE hlt hd
    go_wp2_with fail
    go_ret
    exact ⟨ret1 (vb HD.out.symm), hbw⟩
 ·have hd : decide (L = M) = false := decide_eq_false fun h => hlen (by rw [h])
  have hln : ((L.length : Int) != (M.length : Int)) = true := by simp; omega
  rw [hd]
  clear hd hlen
  go_enter Try.func23, Try.ntmps23
  go_wp2_with fail
  go_ret
  exact ⟨rfl, Below.refl _ _⟩
theorem msame_any (x y : Mx) (m n : Ms) (w : World) (hx : MsIs w [] x m) (hy : MsIs w [] y n) (hl : m.votes.length ≤ 1000000) :
  Calls Try.prog 12 #[x.v, y.v] w fun e w' => e = .returned (.bool (decide (m = n))) ∧ Below w.heap.size w w' := by
 obtain ⟨hh, V⟩ := m
 obtain ⟨kk, U⟩ := n
 obtain ⟨xh, xa, xn, xc⟩ := x
 obtain ⟨yh, ya, yn, yc⟩ := y
 obtain rfl : xh = hh := hx.h
 obtain rfl : yh = kk := hy.h
 obtain ⟨k0, f0, t0, b0, s0, v0⟩ := xh
 obtain ⟨k1, f1, t1, b1, s1, v1⟩ := yh
 go_enter Try.func12, Try.ntmps12
 go_wp2_with (refine St.box msD rfl (.tmp 0) ⟨⟨k0, f0, t0, b0, s0, v0⟩, xa, xn, xc⟩ rfl rfl ?_)
 constructor
 intro w1 hI1 hb1 hz1
 clear hz1
 go_wp2_with (refine St.box msD rfl (.tmp 1) ⟨⟨k1, f1, t1, b1, s1, v1⟩, ya, yn, yc⟩ rfl rfl ?_)
 constructor
 intro w2 hJ2 hb2 hz2
 clear hz2
 have hI2 := hI1.up hb2
 have hw2 := hb1.trans (hb2.mono hb1.size)
 have hX2 : St.RdS vtL w2 [] (.slice xa xn xc) V := (hx.bel hw2).votes
 have hY2 : St.RdS vtL w2 [] (.slice ya yn yc) U := (hy.bel hw2).votes
 obtain ⟨a0, a1, a2, a3, a4, -, -, -, -, -, aA⟩ := MxAt.of hI2
 obtain ⟨c0, c1, c2, c3, c4, -, -, -, -, -, cA⟩ := MxAt.of hJ2
 simp only at a0 a1 a2 a3 a4 aA c0 c1 c2 c3 c4 cA
 have hva := vote_at hI2
 have hvb := vote_at hJ2
 have HSM := Lib.hid (mequal_any (.slice xa xn xc) (.slice ya yn yc) V U w2 hX2 hY2 (by have : V.length ≤ 1000000 := hl; omega))
 have HW := Lib.hid hw2
 clear hI1 hb1 hb2 hI2 hJ2 hx hy hw2 hX2 hY2 hl
 by_cases e0 : k0 = k1
 case neg =>
  have HD : Hid (decide ((⟨⟨k0, f0, t0, b0, s0, v0⟩, V⟩ : Ms) = (⟨⟨k1, f1, t1, b1, s1, v1⟩, U⟩ : Ms)) = false) := Lib.hid (decide_eq_false fun e => e0 (by cases e; rfl))
  clear HSM hva hvb
  go_wp2_with fail
  go_ret
  exact ⟨ret1 (vb (by first | exact HD.out.symm | rfl)), HW.out⟩
 subst e0
 by_cases e1 : f0 = f1
 case neg =>
  have HD : Hid (decide ((⟨⟨k0, f0, t0, b0, s0, v0⟩, V⟩ : Ms) = (⟨⟨k0, f1, t1, b1, s1, v1⟩, U⟩ : Ms)) = false) := Lib.hid (decide_eq_false fun e => e1 (by cases e; rfl))
  clear HSM hva hvb
  go_wp2_with fail
  go_ret
  exact ⟨ret1 (vb (by first | exact HD.out.symm | rfl)), HW.out⟩
 subst e1
 by_cases e2 : t0 = t1
 case neg =>
  have HD : Hid (decide ((⟨⟨k0, f0, t0, b0, s0, v0⟩, V⟩ : Ms) = (⟨⟨k0, f0, t1, b1, s1, v1⟩, U⟩ : Ms)) = false) := Lib.hid (decide_eq_false fun e => e2 (by cases e; rfl))
  clear HSM hva hvb
  go_wp2_with fail
  go_ret
  exact ⟨ret1 (vb (by first | exact HD.out.symm | rfl)), HW.out⟩
 subst e2
 by_cases e3 : b0 = b1
 case neg =>
  have HD : Hid (decide ((⟨⟨k0, f0, t0, b0, s0, v0⟩, V⟩ : Ms) = (⟨⟨k0, f0, t0, b1, s1, v1⟩, U⟩ : Ms)) = false) := Lib.hid (decide_eq_false fun e => e3 (by cases e; rfl))
  clear HSM hva hvb
  go_wp2_with fail
  go_ret
  exact ⟨ret1 (vb (by first | exact HD.out.symm | rfl)), HW.out⟩
 subst e3
 by_cases e4 : s0 = s1
 case neg =>
  have HD : Hid (decide ((⟨⟨k0, f0, t0, b0, s0, v0⟩, V⟩ : Ms) = (⟨⟨k0, f0, t0, b0, s1, v1⟩, U⟩ : Ms)) = false) := Lib.hid (decide_eq_false fun e => e4 (by cases e; rfl))
  clear HSM hva hvb
  go_wp2_with fail
  go_ret
  exact ⟨ret1 (vb (by first | exact HD.out.symm | rfl)), HW.out⟩
 subst e4
 by_cases e5 : v0 = v1
 case neg =>
  have HD : Hid (decide ((⟨⟨k0, f0, t0, b0, s0, v0⟩, V⟩ : Ms) = (⟨⟨k0, f0, t0, b0, s0, v1⟩, U⟩ : Ms)) = false) := Lib.hid (decide_eq_false fun e => e5 (by cases e; rfl))
  have hal : St.allAlike vtSp v0.cs v1.cs = false := by rw [vtAlike]; exact decide_eq_false e5
  clear HSM
  go_wp2_with (first | (refine St.loadAt vtOk rfl (.tmp 39) rfl _ rfl hva ?_) | (refine St.loadAt vtOk rfl (.tmp 41) rfl _ rfl hvb ?_) | (refine St.eq vtEqs (vtTyped v0 v1) rfl (.tmp 40) (.tmp 42) _ rfl rfl rfl hal ?_))
  go_ret
  exact ⟨ret1 (vb (by first | exact HD.out.symm | rfl)), HW.out⟩
 subst e5
 have hal : St.allAlike vtSp v0.cs v0.cs = true := vtSelf v0
 have HD : Hid (decide ((⟨⟨k0, f0, t0, b0, s0, v0⟩, V⟩ : Ms) = (⟨⟨k0, f0, t0, b0, s0, v0⟩, U⟩ : Ms)) = decide (V = U)) := Lib.hid (decide_eq_decide.2 ⟨fun e => by cases e; rfl, fun e => by rw [e]⟩)
 go_wp2_with (first | (refine St.loadAt vtOk rfl (.tmp 39) rfl _ rfl hva ?_) | (refine St.loadAt vtOk rfl (.tmp 41) rfl _ rfl hvb ?_) | (refine St.eq vtEqs (vtTyped v0 v0) rfl (.tmp 40) (.tmp 42) _ rfl rfl rfl hal ?_))
 refine HSM.out.mono ?_
 rintro e w3 ⟨rfl, hb3⟩
 have hw3 := HW.out.trans (hb3.mono HW.out.size)
 clear HSM hb3 hva hvb
 go_wp2_with fail
 go_ret
 exact ⟨ret1 (vb HD.out.symm), hw3⟩
end Go.Proofs.Ytpmlfhgdhnofbaa.Ce
