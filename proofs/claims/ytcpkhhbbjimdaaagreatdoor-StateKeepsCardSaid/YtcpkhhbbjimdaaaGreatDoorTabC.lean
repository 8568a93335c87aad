/- The contracts of slices.Grow (of nothing) and slices.Concat, of cells. The contract of least of package table: the least size at which no block ends ahead of its last cell. The contract of cutEnd of package table. The contract of cutStarts of package table. -/
import Derived.Test.YtcpkhhbbjimdaaaGreatDoorCsA
import Derived.Test.YtcpkhhbbjimdaaaGreatDoorBkA
import Derived.Test.YtcpkhhbbjimdaaaGreatDoorLow
import Derived.Lib.AppendZeros
import Derived.Test.YtcpkhhbbjimdaaaGreatDoorBlmA
import Derived.Test.YtcpkhhbbjimdaaaGreatDoorTabA
import Derived.Test.YtcpkhhbbjimdaaaGreatDoorCpA
import Derived.Test.YtcpkhhbbjimdaaaGreatDoorFrmA
set_option maxHeartbeats 8000000
set_option maxRecDepth 100000
namespace Go.Proofs.YtcpkhhbbjimdaaaGreatDoor.Ce
open Go.RowKit
theorem growL_any (n : Nat) (w : World) (hn2 : n ≤ 1000000) :
  Calls Tryz.prog 137 #[.slice none 0 0, .int .i64 (n : Int)] w fun e w' => (∃ v, e = .returned v ∧ OwL w' w.heap.size v []) ∧ Below w.heap.size w w' := by
 have h0 : ¬ (n : Int) < 0 := by omega
 by_cases hn : 0 < n
 ·obtain ⟨i, hi, hi0⟩ : ∃ i, Tryz.prog.info? 47 = some i ∧ (i.zero, i.size, i.bytes) = (some (.agg Cl.zero.cs), 5, 64) := by
   have := cellInfo
   cases hq : Tryz.prog.info? 47 with
   | none => rw [hq] at this; cases this
   | some i => rw [hq] at this; exact ⟨i, rfl, by simpa using this⟩
  simp only [Prod.mk.injEq] at hi0
  obtain ⟨hi0, hi1, hi2⟩ := hi0
  have hrun := fun ty => Lib.run_append_nil_zeros (P := Tryz.prog) w 27 3 ty 47 i (.agg Cl.zero.cs) .i64 .i64 Tryz.underlying27 Tryz.underlying3 hi hi0 n hn (by omega) (by omega) (by rw [hi2]; omega)
  have hcap := grownCap_ge w n 0 47
  have hcm := grownCap_le_maxLen w n 0 47 (by simp [maxLen]; omega)
  generalize grownCap w n 0 47 = c at *
  have h1 : (0 : Int) < (n : Int) := by omega
  have hcm' := hcm
  unfold maxLen at hcm'
  have hzc : (Value.agg Cl.zero.cs).cells.size = 5 := rfl
  obtain ⟨ROW, hROW⟩ : ∃ ROW, ROW = Builtin.zeroCells (Value.agg Cl.zero.cs).cells n ++ Builtin.zeroCells (Value.agg Cl.zero.cs).cells (c - n) := ⟨_, rfl⟩
  have hRs : ROW.size = c * 5 := by
   rw [hROW]
   simp only [Array.size_append, size_zeroCells, hzc]
   omega
  rw [← hROW] at hrun
  have hout : OwL (w.drew.alloc (.cells ROW 47)) w.heap.size (.slice (some ⟨w.heap.size, 0, none⟩) 0 c) [] := by
   refine ⟨rfl, .inr ⟨w.heap.size, c, ROW, rfl, Nat.le_refl _, ?_, Nat.zero_le _, hcm, hRs, by simp [flat5]⟩⟩
   have := heap_alloc_new w.drew (.cells ROW 47)
   exact this
  have hb : Below w.heap.size w (w.drew.alloc (.cells ROW 47)) := ((Below.refl _ _).drew).alloc (Nat.le_refl _) _
  generalize hw1 : w.drew.alloc (.cells ROW 47) = w1 at *
  clear hi hi0 hi1 hi2 hROW hRs hzc
  go_enter Tryz.func137, Tryz.ntmps137
  go_wp2_with (at_builtin; refine Lib.wpList_append_run w rfl (.tmp 20) (.tmp 21) 27 3 rfl (.slice none 0 0) (.int .i64 (n : Int)) rfl rfl _ _ (hrun _) ?_)
  go_ret
  exact ⟨⟨_, rfl, hout⟩, hb⟩
 ·obtain rfl : n = 0 := by omega
  go_enter Tryz.func137, Tryz.ntmps137
  go_wp2_with fail
  go_ret
  exact ⟨⟨_, rfl, OwL.nil _ _⟩, Below.refl _ _⟩
theorem concatL_any (v : Value) (LL : List (List Cl)) (w : World) (hr : RdB w v LL) (hm : LL.flatten.length ≤ 1000000) :
  Calls Tryz.prog 120 #[v] w fun e w' => (∃ x, e = .returned x ∧ OwL w' w.heap.size x LL.flatten) ∧ Below w.heap.size w w' := by
 obtain ⟨A, c, rfl, hc, hcm⟩ := hr.shape
 unfold maxLen at hcm
 have HV := Lib.hid hr
 clear hr
 go_enter Tryz.func120, Tryz.ntmps120
 go_wp2_with fail
 go_loopw [3, 11] (fun p i wr => ∃ j q : Nat, j ≤ LL.length ∧ i = .int .i64 (j : Int) ∧ p = .int .i64 (q : Int) ∧ Hid (q = (LL.take j).flatten.length) ∧ w = wr) (fun _ i _ => LL.length - (intOf i).toNat)
 case atStart => exact ⟨0, 0, by omega, rfl, rfl, Lib.hid (by simp), rfl⟩
 case round =>
  obtain ⟨j, q, hj, rfl, rfl, HQ, rfl⟩ := hrel
  by_cases hlt : j < LL.length
  ·have hfk : LL[j]? = some (LL[j]'hlt) := List.getElem?_eq_getElem _
   generalize LL[j]'hlt = M at hfk
   obtain ⟨b, off, rfl, hb⟩ := HV.out.open_ (by omega)
   obtain ⟨A1, c1, hc0, hcl1, hcm1, -⟩ := HV.out.row hfk
   have HL := Lib.hid (show (LL.take (j + 1)).flatten.length = q + M.length by rw [flatten_snoc hfk, List.length_append, HQ.out])
   have hqm : q + M.length ≤ 1000000 := by
    have := flatten_take_le LL (j + 1)
    rw [HL.out] at this
    omega
   have h0 : ¬ (q : Int) + (M.length : Int) < 0 := by omega
   have hh3 : (0 : Int) ≤ (j : Int) := by omega
   have hh4 : (j : Int) < (LL.length : Int) := by omega
   clear hfk
   go_wp2_with fail
   go_roundw
   case rel => exact ⟨j + 1, q + M.length, by omega, by go_num, by go_num, Lib.hid HL.out.symm, by first | rfl | trivial⟩
   case measure => simp [intOf]; omega
  ·obtain rfl : j = LL.length := by omega
   have hq1 : q ≤ 1000000 := by rw [HQ.out, List.take_length]; exact hm
   clear hlt hj
   go_wp2_with fail
   refine (growL_any q _ hq1).mono ?_
   rintro e w1 ⟨⟨u, rfl, ho⟩, hb1⟩
   go_wp2_with fail
   go_loopw [6, 27] (fun p i w2 => ∃ i' : Nat, i' ≤ LL.length ∧ i = .int .i64 (i' : Int) ∧ OwL w2 w.heap.size p (LL.take i').flatten ∧ Below w.heap.size w w2) (fun _ i _ => LL.length - (intOf i).toNat)
   case atStart => exact ⟨0, by omega, rfl, by simpa using ho, hb1⟩
   case round =>
    clear ho hb1
    obtain ⟨i, hi, rfl, ho, hbw⟩ := hrel
    by_cases hlt : i < LL.length
    ·have hfk : LL[i]? = some (LL[i]'hlt) := List.getElem?_eq_getElem _
     generalize LL[i]'hlt = M at hfk
     obtain ⟨b, off, rfl, hb⟩ := HV.out.open_ (by omega)
     obtain ⟨A1, c1, hc0, hcl1, hcm1, hr1⟩ := HV.out.row hfk
     have hc1 := (hbw.cell (p := ⟨b, off + i, none⟩) hb).trans hc0
     have hr1 := hr1.bel hbw
     have HFS := Lib.hid (flatten_snoc hfk)
     have hl : (LL.take i).flatten.length + M.length ≤ 2199023255552 := by
      have := flatten_take_le LL (i + 1)
      rw [HFS.out, List.length_append] at this
      omega
     have hsz := hbw.size
     have hh3 : (0 : Int) ≤ (i : Int) := by omega
     have hh4 : (i : Int) < (LL.length : Int) := by omega
     clear hfk hc0
     go_wp2_with (at_builtin; refine wpList_appL rfl (.tmp 31) (.tmp 32) rfl rfl ho rfl hr1 hl hsz ?_; intro v' w' ho3 hg h3; have HB := Lib.hid (hbw.grown hg hsz (fun k hk => (ho.lt k hk).1)); have HO := Lib.hid ho3; clear ho3 hg h3 hr1 ho hbw)
     go_roundw
     case rel => exact ⟨i + 1, by omega, by go_num, by rw [HFS.out]; exact HO.out, HB.out⟩
     case measure => simp [intOf]; omega
    ·obtain rfl : i = LL.length := by omega
     rw [List.take_length] at ho
     go_wp2_with fail
     go_ret
     exact ⟨⟨_, rfl, ho⟩, hbw⟩
end Go.Proofs.YtcpkhhbbjimdaaaGreatDoor.Ce
namespace Go.Proofs.YtcpkhhbbjimdaaaGreatDoor.Ce
open Go.RowKit
def most1 (M : List Cl) : Nat := 1 + (flatC (M.take (M.length - 1))).length
def leastQ (LL : List (List Cl)) : Nat → Nat
 | 0 => 1
 | k + 1 => max (leastQ LL k) (most1 (LL.getD k []))
theorem leastQ_ge (LL : List (List Cl)) : ∀ k, 1 ≤ leastQ LL k
 | 0 => Nat.le_refl _
 | k + 1 => by
  have := leastQ_ge LL k
  rw [leastQ]
  omega
theorem leastQ_at {LL : List (List Cl)} {k : Nat} {M : List Cl} (h : LL[k]? = some M) : leastQ LL (k + 1) = max (leastQ LL k) (most1 M) := by
 rw [leastQ, List.getD_eq_getElem?_getD, h]
 rfl
theorem leastQ_mem {LL : List (List Cl)} : ∀ {k j : Nat} {M : List Cl}, LL[j]? = some M → j < k → most1 M ≤ leastQ LL k
 | 0, j, M, _, hj => by omega
 | k + 1, j, M, h, hj => by
  by_cases e : j = k
  ·subst e
   rw [leastQ_at h]
   omega
  ·have := leastQ_mem (k := k) h (by omega)
   rw [leastQ]
   omega
theorem leastQ_le {LL : List (List Cl)} {n : Nat} (h1 : 1 ≤ n) (h : ∀ M ∈ LL, most1 M ≤ n) : ∀ k, leastQ LL k ≤ n
 | 0 => h1
 | k + 1 => by
  have := leastQ_le h1 h k
  rw [leastQ]
  have h2 : most1 (LL.getD k []) ≤ n := by
   rw [List.getD_eq_getElem?_getD]
   cases hk : LL[k]? with
   | none => exact h1
   | some M => exact h M (List.mem_of_getElem? hk)
  omega
theorem least_any (v : Value) (LL : List (List Cl)) (w : World) (hv : RdB w v LL) (hok : ∀ M ∈ LL, (∀ c ∈ M, c.ok) ∧ M ≠ [] ∧ M.length ≤ 1000000) :
  Calls Tryz.prog 121 #[v] w fun e w' => e = .returned (.int .i64 (leastQ LL LL.length : Int)) ∧ Below w.heap.size w w' := by
 obtain ⟨A, c, rfl, hc, hcm⟩ := hv.shape
 unfold maxLen at hcm
 have HV := Lib.hid hv
 have HOK := Lib.hid hok
 have HMX : Hid (∀ k, leastQ LL k ≤ 1000000000) := Lib.hid (leastQ_le (by omega) fun M hM => by
  obtain ⟨h1, h2, h3⟩ := hok M hM
  have := flatC_le (L := M.take (M.length - 1)) fun c hc => h1 c (List.mem_of_mem_take hc)
  rw [List.length_take] at this
  unfold most1
  have : min (M.length - 1) M.length ≤ 1000000 := by omega
  omega)
 clear hv hok
 go_enter Tryz.func121, Tryz.ntmps121
 go_wp2_with fail
 go_loopw [3, 11] (fun p i wr => ∃ j q : Nat, j ≤ LL.length ∧ i = .int .i64 (j : Int) ∧ p = .int .i64 (q : Int) ∧ Hid (q = leastQ LL j) ∧ Below w.heap.size w wr) (fun _ i _ => LL.length - (intOf i).toNat)
 case atStart => exact ⟨0, 1, by omega, rfl, rfl, Lib.hid rfl, Below.refl _ _⟩
 case round =>
  obtain ⟨j, q, hj, rfl, rfl, HQ, hbw⟩ := hrel
  have HBW := Lib.hid hbw
  by_cases hlt : j < LL.length
  ·have hfk : LL[j]? = some (LL[j]'hlt) := List.getElem?_eq_getElem _
   generalize LL[j]'hlt = M at hfk
   obtain ⟨hok, hne, hml⟩ := HOK.out M (List.mem_of_getElem? hfk)
   obtain ⟨b, off, rfl, hb⟩ := HV.out.open_ (by omega)
   obtain ⟨A1, c1, hc0, hcl1, hcm1, hr1⟩ := HV.out.row hfk
   unfold maxLen at hcm1
   have hc1 := (hbw.cell (p := ⟨b, off + j, none⟩) hb).trans hc0
   have HR := Lib.hid (hr1.bel hbw)
   have HL := Lib.hid (leastQ_at hfk)
   have hqm : q ≤ 1000000000 := by rw [HQ.out]; exact HMX.out j
   have hm0 : 0 < M.length := List.length_pos_iff.2 hne
   obtain ⟨n, hn⟩ : ∃ n, M.length = n + 1 := ⟨M.length - 1, by omega⟩
   have HOKM := Lib.hid hok
   have hmf : ∀ k, (flatC (M.take k)).length ≤ 500000000 := fun k => by
    have := flatC_le (L := M.take k) fun c hc => hok c (List.mem_of_mem_take hc)
    rw [List.length_take] at this
    have : min k M.length ≤ 1000000 := by omega
    omega
   have HMF := Lib.hid hmf
   have hM1 : most1 M = 1 + (flatC (M.take n)).length := by unfold most1; rw [hn]; rfl
   have HM1 := Lib.hid hM1
   have hh3 : (0 : Int) ≤ (j : Int) := by omega
   have hh4 : (j : Int) < (LL.length : Int) := by omega
   have HN := Lib.hid hn
   rw [hn] at hc1 hcl1
   have hcl1' : (n : Int) ≤ (c1 : Int) := by omega
   have hn1 : (n : Int) ≤ 1000000 := by omega
   have hw1 : IntKind.i64.wrap (((n + 1 : Nat) : Int) - 1) = (n : Int) := by
    rw [IntKind.wrap_i64]
    omega
   have HRT : Hid (RdL wr [] (.slice A1 n c1) (M.take n)) := Lib.hid (by
    have := HR.out
    rw [hn] at this
    exact this.to_ (by omega))
   obtain ⟨wo, hwo⟩ : ∃ wo, wo = wr := ⟨_, rfl⟩
   subst hwo
   clear hfk hc0 hr1 hok hne hml hmf hM1 hn hm0 hbw hb
   go_wp2_with fail
   go_loopw [6, 21] (fun p i wr => ∃ k : Nat, k ≤ n ∧ i = .int .i64 (k : Int) ∧ (∃ z : Nat, p = .int .i64 (z : Int) ∧ Hid (z = 1 + (flatC (M.take k)).length)) ∧ Below wo.heap.size wo wr) (fun _ i _ => n - (intOf i).toNat)
   case atStart => exact ⟨0, by omega, rfl, ⟨1, rfl, Lib.hid (by simp [flatC])⟩, Below.refl _ _⟩
   case round =>
    obtain ⟨k, hk, rfl, ⟨z, rfl, HZ⟩, hbk⟩ := hrel
    by_cases hlk : k < n
    ·have hkM : k < M.length := by have := HN.out; omega
     have hfk : M[k]? = some (M[k]'hkM) := List.getElem?_eq_getElem _
     generalize M[k]'hkM = f at hfk
     have hfT : (M.take n)[k]? = some f := by rw [List.getElem?_take, if_pos hlk]; exact hfk
     have hrt := HRT.out.bel hbk
     obtain ⟨bm, om, rfl, -⟩ := hrt.open_ (by rw [List.length_take]; omega)
     obtain ⟨h5, -⟩ := hrt.at_ hfT
     obtain ⟨c0, c1', c2, c3, c4⟩ := h5
     have hokf := HOKM.out f (List.mem_of_getElem? hfk)
     have hpu := fun w => put_ok f w hokf
     have HSN := Lib.hid (flatC_snoc hfk)
     have hz1 : z + (cellB f).length ≤ 600000000 := by
      have := HMF.out (k + 1)
      rw [HSN.out, List.length_append] at this
      have := HZ.out
      omega
     have hh5 : (0 : Int) ≤ (k : Int) := by omega
     have hh6 : (k : Int) < (n : Int) := by omega
     have HBK := Lib.hid hbk
     clear hfk hfT hrt hokf hbk
     go_wp2_with (refine allocC rfl rfl ?_)
     constructor
     intro w3 hI3 hb3 hz3
     go_wp2_with (refine storeC (c := f) rfl (.tmp 8) (.tmp 24) rfl rfl rfl hI3 ?_)
     constructor
     intro w4 hs4
     have HI4 := Lib.hid hs4.i
     have HB4 := Lib.hid (bwstep HBK.out (hs4.bel hb3 (Nat.le_refl _)))
     clear hI3 hb3 hz3 hs4 c0 c1' c2 c3 c4
     go_wp2_with (refine loadC rfl (.tmp 8) rfl rfl HI4.out ?_)
     refine (hpu _).mono ?_
     rintro e w5 ⟨⟨x, rfl, hx⟩, hb5⟩
     have HB5 := Lib.hid (bwstep HB4.out hb5)
     obtain ⟨Ax, cx, rfl, -, -⟩ := hx.rd.shapeM
     generalize hcl : (cellB f).length = y at *
     have HY := Lib.hid hcl
     clear hx hb5 hpu hcl
     go_wp2_with fail
     go_roundw
     case rel => exact ⟨k + 1, by omega, by go_num, ⟨z + y, by go_num, Lib.hid (by rw [HSN.out, List.length_append, HZ.out, HY.out]; omega)⟩, HB5.out⟩
     case measure => simp [intOf]; omega
    ·obtain rfl : k = n := by omega
     have hzm : z = most1 M := by rw [HM1.out]; exact HZ.out
     have HBK := Lib.hid (bwstep HBW.out hbk)
     have HZM := Lib.hid hzm
     have hzl : z ≤ 600000000 := by have := HZ.out; have := HMF.out k; omega
     obtain ⟨x, hx, hmx⟩ : ∃ x : Nat, (max (q : Int) (z : Int)) = (x : Int) ∧ x = max q z := ⟨max q z, by omega, rfl⟩
     have HMX2 := Lib.hid hmx
     clear hzm hbk hmx
     go_wp2_with (refine Blm.wpList_max rfl (.tmp 31) (.tmp 32) _ rfl (q : Int) (z : Int) (x : Int) rfl rfl hx ?_)
     go_roundw
     case rel => exact ⟨j + 1, x, by omega, by go_num, by go_num, Lib.hid (by rw [HL.out, HMX2.out, HQ.out, HZM.out]), HBK.out⟩
     case measure => simp [intOf]; omega
  ·obtain rfl : j = LL.length := by omega
   go_wp2_with fail
   go_ret
   exact ⟨ret1 (vi (by rw [HQ.out])), HBW.out⟩
end Go.Proofs.YtcpkhhbbjimdaaaGreatDoor.Ce
namespace Go.Proofs.YtcpkhhbbjimdaaaGreatDoor.Ce
open Go.RowKit Frm
def EndOk (l bd ft : List UInt8) : Prop := ∀ body r, r.length ≤ 65535 → l = body ++ (frm r ++ numB (12 + r.length)) → bd = body ∧ ft = r
theorem end_num {l body r : List UInt8} (hr : r.length ≤ 65535) (h : l = body ++ (frm r ++ numB (12 + r.length))) : l.length - 4 = body.length + (12 + r.length) ∧ 16 ≤ l.length ∧ cnN (l.drop (l.length - 4)) = 12 + r.length ∧ l.take (l.length - 4 - (12 + r.length)) = body ∧ (l.take (l.length - 4)).drop (l.length - 4 - (12 + r.length)) = frm r := by
 have hl := congrArg List.length h
 rw [List.length_append, List.length_append, frm_len, numB_len] at hl
 have e1 : l.length - 4 = body.length + (12 + r.length) := by omega
 have e2 : l.length - 4 - (12 + r.length) = body.length := by omega
 have e3 : (body ++ frm r).length = l.length - 4 := by rw [List.length_append, frm_len]; omega
 refine ⟨e1, by omega, ?_, ?_, ?_⟩
 ·have h2 : l.drop (l.length - 4) = numB (12 + r.length) := by
   rw [← e3]
   conv => lhs; rw [h, ← List.append_assoc]
   rw [List.drop_left]
  rw [h2]
  unfold cnN
  rw [if_pos (by rw [numB_len]; omega)]
  have := Frm.numOf_numB (12 + r.length) (by omega) []
  rwa [List.append_nil] at this
 ·rw [e2]
  conv => lhs; rw [h]
  rw [List.take_left]
 ·have h2 : l.take (l.length - 4) = body ++ frm r := by
   rw [← e3]
   conv => lhs; rw [h, ← List.append_assoc]
   rw [List.take_left]
  rw [e2, h2, List.drop_left]
theorem endOk_no {l : List UInt8} (h : ¬ cnN (l.drop (l.length - 4)) ≤ l.length - 4) : EndOk l [] [] := fun body r hr hl => by
 obtain ⟨e1, -, e2, -⟩ := end_num hr hl
 omega
theorem endOk_not {l bd : List UInt8} {n : Nat} (hn : n = cnN (l.drop (l.length - 4))) (h : ¬ Whole ((l.take (l.length - 4)).drop (l.length - 4 - n))) : EndOk l bd [] := fun body r hr hl => by
 obtain ⟨e1, -, e2, -, e4⟩ := end_num hr hl
 rw [hn, e2, e4] at h
 exact absurd (whole_iff.2 ⟨r, [], by rw [List.append_nil], hr⟩) h
theorem endOk_yes {l r' m : List UInt8} {n : Nat} (hn : n = cnN (l.drop (l.length - 4))) (h : (l.take (l.length - 4)).drop (l.length - 4 - n) = frm r' ++ m) (hr' : r'.length ≤ 65535) : EndOk l (l.take (l.length - 4 - n)) r' := fun body r hr hl => by
 obtain ⟨e1, -, e2, e3, e4⟩ := end_num hr hl
 rw [hn, e2, e4] at h
 obtain ⟨h1, -⟩ := frm_inj (m := []) (by rw [List.append_nil]; exact h) hr hr'
 rw [hn, e2, e3]
 exact ⟨rfl, h1.symm⟩
def CutEnds (l : List UInt8) (B : Nat) (w : World) (e : Ending) (w' : World) : Prop :=
 (∃ x y bd ft, e = .returned (.tuple #[x, y]) ∧ Rd w' B x (bd.map bv) ∧ Ow w' w.heap.size 5 y (ft.map bv) ∧ bd.length ≤ l.length ∧ ft.length ≤ l.length ∧ EndOk l bd ft) ∧ Below w.heap.size w w'
theorem rdUp {w w' : World} {B : Nat} {v : Value} {xs : List Value} (h : Rd w B v xs) (hB : B ≤ w.heap.size) (hb : Below w.heap.size w w') : Rd w' B v xs := h.below (hb.mono hB)
theorem cutEnd_any (v : Value) (l : List UInt8) (B : Nat) (w : World) (hr : Rd w B v (l.map bv)) (hB : B ≤ w.heap.size) (hl : l.length ≤ 1000000000) :
  Calls Tryz.prog 116 #[v] w (CutEnds l B w) := by
 obtain ⟨A, c, rfl, hc, hm⟩ := hr.shapeM
 unfold maxLen at hm
 by_cases h0 : l = []
 ·subst h0
  have hcn := fun v w hr => cutNum_any v [] B w hr (by simp)
  have hno : ¬ Whole [] := not_whole_short (by simp)
  have hcu := fun v w hr hB => Go.Proofs.YtcpkhhbbjimdaaaGreatDoor.cut_no v [] w B hr hB hno (by simp)
  have he : ∀ bd, EndOk [] bd [] := fun bd body r hr hl => by
   have := congrArg List.length hl
   rw [List.length_append, List.length_append, frm_len, numB_len] at this
   simp at this
  have HE := Lib.hid he
  have hmx : (if (0 : Int) > 0 - 4 then (0 : Int) else 0 - 4) = 0 := by omega
  by_cases h1 : c = 0
  ·subst h1
   have hr0 : Rd w B (.slice A 0 0) (([] : List UInt8).map bv) := hr
   have HR := Lib.hid hr0
   clear hr hr0 he hno
   go_enter Tryz.func116, Tryz.ntmps116
   go_wp2_with (refine Blm.wpList_max rfl (.tmp 10) (.const (.int .i64 0)) _ rfl (0 - 4) 0 0 rfl rfl hmx ?_)
   refine (hcn _ _ HR.out).mono ?_
   rintro e w1 ⟨⟨q1, q2, rfl, -⟩, hb1⟩
   have HB1 := Lib.hid hb1
   have h00 : cnN [] = 0 := rfl
   rw [h00]
   clear hb1
   go_wp2_with fail
   refine (hcu _ _ (rdUp HR.out hB HB1.out) (Nat.le_trans hB HB1.out.size)).mono ?_
   rintro e w2 ⟨⟨x2, y2, rfl, hx2, -⟩, hb2⟩
   have HB2 := Lib.hid (bwstep HB1.out hb2)
   have HX2 := Lib.hid (hx2.mono HB1.out.size)
   clear hb2 hx2
   go_wp2_with fail
   go_ret2
   exact ⟨⟨_, _, [], [], rfl, rdUp HR.out hB HB2.out, HX2.out, by simp, by simp, HE.out _⟩, HB2.out⟩
  ·have hr0 : Rd w B (.slice A 0 c) (([] : List UInt8).map bv) := hr
   have HR := Lib.hid hr0
   clear hr hr0 he hno
   go_enter Tryz.func116, Tryz.ntmps116
   go_wp2_with (refine Blm.wpList_max rfl (.tmp 10) (.const (.int .i64 0)) _ rfl (0 - 4) 0 0 rfl rfl hmx ?_)
   refine (hcn _ _ HR.out).mono ?_
   rintro e w1 ⟨⟨q1, q2, rfl, -⟩, hb1⟩
   have HB1 := Lib.hid hb1
   have h00 : cnN [] = 0 := rfl
   rw [h00]
   clear hb1
   go_wp2_with fail
   refine (hcu _ _ (rdUp HR.out hB HB1.out) (Nat.le_trans hB HB1.out.size)).mono ?_
   rintro e w2 ⟨⟨x2, y2, rfl, hx2, -⟩, hb2⟩
   have HB2 := Lib.hid (bwstep HB1.out hb2)
   have HX2 := Lib.hid (hx2.mono HB1.out.size)
   clear hb2 hx2
   go_wp2_with fail
   go_ret2
   exact ⟨⟨_, _, [], [], rfl, rdUp HR.out hB HB2.out, HX2.out, by simp, by simp, HE.out _⟩, HB2.out⟩
 ·have hp : 0 < l.length := List.length_pos_iff.2 h0
  obtain ⟨b, off, rfl⟩ : ∃ b off, A = some ⟨b, off, none⟩ := by
   obtain ⟨b, off, c', e', -⟩ := hr.at_ (by simpa using hp)
   injection e' with e1 _ _
   exact ⟨b, off, e1⟩
  obtain ⟨E, hE⟩ : ∃ E, E = l.length - 4 := ⟨_, rfl⟩
  obtain ⟨N, hN⟩ : ∃ N, N = cnN (l.drop E) := ⟨_, rfl⟩
  have hmx : (if (0 : Int) > (l.length : Int) - 4 then (0 : Int) else (l.length : Int) - 4) = (E : Int) := by split <;> omega
  have HMX := Lib.hid hmx
  have hEl : E < l.length := by omega
  have hcE : ¬ c = E := by omega
  have hr1 := hr.fromC (lo := E) (by omega) hcE
  rw [← List.map_drop] at hr1
  have hcn := fun v w hr => cutNum_any v (l.drop E) B w hr (by rw [List.length_drop]; omega)
  rw [← hN] at hcn
  have hE1 : (E : Int) ≤ (l.length : Int) := by omega
  have hE0 : (0 : Int) ≤ (E : Int) := by omega
  have HNE := Lib.hid (show N = cnN (l.drop (l.length - 4)) by rw [← hE]; exact hN)
  have HEE := Lib.hid hE
  clear hN hE hmx h0 hp
  have HR := Lib.hid hr
  have HR1 := Lib.hid hr1
  clear hr hr1
  by_cases hNE : N ≤ E
  ·have hw2 : IntKind.i64.wrap ((E : Int) - (N : Int)) = ((E - N : Nat) : Int) := by rw [IntKind.wrap_i64]; omega
   have hg : (N : Int) ≤ (E : Int) := by omega
   obtain ⟨D, hD⟩ : ∃ D, D = E - N := ⟨_, rfl⟩
   rw [← hD] at hw2
   have hsub : (E : Int) - (N : Int) = (D : Int) := by omega
   have hDE : (D : Int) ≤ (E : Int) := by omega
   have hD0 : (0 : Int) ≤ (D : Int) := by omega
   have hDl : (D : Int) ≤ (l.length : Int) := by omega
   have hEc : (E : Int) ≤ (c : Int) := by omega
   have hDc : (D : Int) ≤ (c : Int) := by omega
   have hcD : ¬ c = D := by omega
   have hr2 := HR.out.midC (lo := D) (hi := E) (by omega) (by omega) hcD
   rw [← List.map_take, ← List.map_drop] at hr2
   have hr3 := HR.out.cutTo (hi := D) (by omega)
   rw [← List.map_take] at hr3
   have HR2 := Lib.hid hr2
   have HR3 := Lib.hid hr3
   have HDD := Lib.hid hD
   clear hr2 hr3 hD
   have hfin : ∃ ft : List UInt8, ft.length ≤ l.length ∧ EndOk l (l.take D) ft ∧ ∀ (v : Value) (w : World), Rd w B v (((l.take E).drop D).map bv) → B ≤ w.heap.size → Calls Tryz.prog 131 #[v] w fun e w' => (∃ x y q, e = .returned (.tuple #[x, y, .bool q]) ∧ Ow w' w.heap.size 5 x (ft.map bv)) ∧ Below w.heap.size w w' := by
    have hdl : ((l.take E).drop D).length ≤ l.length := by rw [List.length_drop, List.length_take]; omega
    by_cases hwh : Whole ((l.take E).drop D)
    ·obtain ⟨r, m, hb, hr5⟩ := whole_iff.1 hwh
     have hbl := congrArg List.length hb
     rw [List.length_append, frm_len] at hbl
     refine ⟨r, by omega, ?_, fun v w hv hB => (Go.Proofs.YtcpkhhbbjimdaaaGreatDoor.cut_ok v _ r m w B hv hB hb hr5 (by omega)).mono fun e w' ⟨⟨x, y, h1, h2, _⟩, h3⟩ => ⟨⟨x, y, _, h1, h2⟩, h3⟩⟩
     have := endOk_yes (l := l) (n := N) HNE.out (by rw [← HEE.out, ← HDD.out]; exact hb) hr5
     rwa [← HEE.out, ← HDD.out] at this
    ·refine ⟨[], by simp, ?_, fun v w hv hB => (Go.Proofs.YtcpkhhbbjimdaaaGreatDoor.cut_no v _ w B hv hB hwh (by omega)).mono fun e w' ⟨⟨x, y, h1, h2, _⟩, h3⟩ => ⟨⟨x, y, _, h1, h2⟩, h3⟩⟩
     exact endOk_not HNE.out (by rw [← HEE.out, ← HDD.out]; exact hwh)
   obtain ⟨ft, hft, hEO, hcu⟩ := hfin
   have HEO := Lib.hid hEO
   have HCU := Lib.hid hcu
   have HFT := Lib.hid hft
   clear hEO hcu hft
   go_enter Tryz.func116, Tryz.ntmps116
   go_wp2_with (refine Blm.wpList_max rfl (.tmp 10) (.const (.int .i64 0)) _ rfl ((l.length : Int) - 4) 0 (E : Int) rfl rfl HMX.out ?_)
   refine (hcn _ _ HR1.out).mono ?_
   rintro e w1 ⟨⟨q1, q2, rfl, -⟩, hb1⟩
   have HB1 := Lib.hid hb1
   clear hb1
   go_wp2_with fail
   refine (HCU.out _ _ (rdUp HR2.out hB HB1.out) (Nat.le_trans hB HB1.out.size)).mono ?_
   rintro e w2 ⟨⟨x2, y2, q, rfl, hx2⟩, hb2⟩
   have HB2 := Lib.hid (bwstep HB1.out hb2)
   have HX2 := Lib.hid (hx2.mono HB1.out.size)
   clear hb2 hx2
   go_wp2_with fail
   go_ret2
   exact ⟨⟨_, _, l.take D, ft, rfl, rdUp HR3.out hB HB2.out, HX2.out, by rw [List.length_take]; omega, HFT.out, HEO.out⟩, HB2.out⟩
  ·have HEO : Hid (EndOk l [] []) := Lib.hid (endOk_no (by rw [← HNE.out, ← HEE.out]; exact hNE))
   have hg : ¬ (N : Int) ≤ (E : Int) := by omega
   have hg2 : (E : Int) < (N : Int) := by omega
   go_enter Tryz.func116, Tryz.ntmps116
   go_wp2_with (refine Blm.wpList_max rfl (.tmp 10) (.const (.int .i64 0)) _ rfl ((l.length : Int) - 4) 0 (E : Int) rfl rfl HMX.out ?_)
   refine (hcn _ _ HR1.out).mono ?_
   rintro e w1 ⟨⟨q1, q2, rfl, -⟩, hb1⟩
   have HB1 := Lib.hid hb1
   clear hb1
   go_wp2_with fail
   go_ret2
   exact ⟨⟨_, _, [], [], rfl, Rd.nil _ _, Ow.nilB _ _ _, by simp, by simp, HEO.out⟩, HB1.out⟩
end Go.Proofs.YtcpkhhbbjimdaaaGreatDoor.Ce
namespace Go.Proofs.YtcpkhhbbjimdaaaGreatDoor.Ce
open Go.RowKit Frm
def CutStarts (l : List UInt8) (w : World) (e : Ending) (w' : World) : Prop :=
 (∃ x y ss lf D, e = .returned (.tuple #[x, y]) ∧ Ow w' w.heap.size 3 x (ss.map Blm.nvB) ∧ D ≤ w'.heap.size ∧ Rd w' D y (lf.map bv) ∧ lf.length ≤ l.length ∧ ss.length ≤ l.length ∧ (∀ s ∈ ss, s ≤ 4294967295) ∧ ∀ LL t, FootAt l LL t → ss = starts LL 0 ∧ lf = t) ∧ Below w.heap.size w w'
theorem numOf_le (l : List UInt8) : numOf l ≤ 4294967295 := by
 have := Go.Proofs.YtcpkhhbbjimdaaaGreatDoor.numOf_lt l
 omega
structure StS (l : List UInt8) (k : Nat) (ss : List Nat) (lf : List UInt8) : Prop where
 n : ss.length = k
 le : 4 * k + lf.length ≤ l.length
 b : ∀ s ∈ ss, s ≤ 4294967295
 sto : StartsTo l k ss lf
theorem StS.more {l lf m : List UInt8} {k : Nat} {ss : List Nat} {c : Cl} (h : StS l k ss lf) (hk : k < cnN l) (hS : Stands (lf.take 149) c m) (h4 : 4 ≤ m.length) {q : Nat} (hq : q = (lf.take 149).length - (m.drop 4).length) :
  StS l (k + 1) (ss ++ [numOf m]) (lf.drop q) ∧ q ≤ lf.length ∧ 0 < lf.length := by
 subst hq
 have hl := congrArg List.length hS.2
 have hle := h.le
 rw [List.length_append, List.length_take] at hl
 have := cellB_ge hS.1
 refine ⟨⟨by rw [List.length_append, h.n]; rfl, ?_, fun s hs => ?_, startsTo_more h.sto hk hS⟩, ?_, by omega⟩
 ·rw [List.length_drop, List.length_take, List.length_drop]
  omega
 ·rcases List.mem_append.1 hs with hs | hs
  ·exact h.b s hs
  ·rw [List.mem_singleton.1 hs]
   exact numOf_le m
 ·rw [List.length_take, List.length_drop]
  omega
theorem cutStarts_any (v : Value) (l : List UInt8) (B : Nat) (w : World) (hr : Rd w B v (l.map bv)) (hl : l.length ≤ 1000000) :
  Calls Tryz.prog 117 #[v] w (CutStarts l w) := by
 have hcn := cutNum_any v l B w hr (by omega)
 obtain ⟨N, hN⟩ : ∃ N, N = cnN l := ⟨_, rfl⟩
 rw [← hN] at hcn
 have HS0 : Hid (StS l 0 [] (cnR l)) := Lib.hid ⟨rfl, by have := cnR_len l; omega, fun s hs => (by cases hs), startsTo_zero l⟩
 have HN := Lib.hid hN
 clear hN hr
 go_enter Tryz.func117, Tryz.ntmps117
 go_wp2_with fail
 refine hcn.mono ?_
 rintro e w1 ⟨⟨u, q, rfl, hu⟩, hb1⟩
 have HU := Lib.hid hu
 have HB1 := Lib.hid hb1
 clear hcn hu hb1
 go_wp2_with fail
 go_loopw [5, 7, 21] (fun lv sv i wr => ∃ (k : Nat) (ss : List Nat) (lf : List UInt8), k ≤ N ∧ i = .int .i64 (k : Int) ∧ Ow wr w1.heap.size 3 sv (ss.map Blm.nvB) ∧ Rd wr w1.heap.size lv (lf.map bv) ∧ Hid (StS l k ss lf) ∧ Below w1.heap.size w1 wr) (fun _ _ i _ => N - (intOf i).toNat)
 case atStart => exact ⟨0, [], cnR l, by omega, rfl, Ow.nil _ _ _, HU.out.rd, HS0, Below.refl _ _⟩
 case round =>
  obtain ⟨k, ss, lf, hk, rfl, ho, hf, HS, hbw⟩ := hrel
  have hle := HS.out.le
  have hsl := HS.out.n
  have hkb : k ≤ 1000000 := by omega
  have HBW := Lib.hid hbw
  have HO := Lib.hid ho
  have HF := Lib.hid hf
  clear ho hf hbw
  by_cases hlt : k < N
  ·have HLT : Hid (k < cnN l) := Lib.hid (by rw [← HN.out]; exact hlt)
   obtain ⟨Af, cf, rfl, hfc, hfm⟩ := HF.out.shapeM
   unfold maxLen at hfm
   obtain ⟨n, hn⟩ : ∃ n, n = min lf.length 149 := ⟨_, rfl⟩
   have hkl : (lf.take 149).length = n := by rw [List.length_take]; omega
   have hk1 : n ≤ lf.length := by omega
   have hk2 : min (lf.length : Int) 149 = (n : Int) := by omega
   have htk : lf.take 149 = lf.take n := by
    rw [hn]
    by_cases h : lf.length ≤ 149
    ·rw [List.take_of_length_le h, Nat.min_eq_left h, List.take_length]
    ·rw [Nat.min_eq_right (by omega)]
   have hrh := HF.out.cutTo (hi := n) hk1
   rw [← List.map_take, ← htk] at hrh
   have hk0 : (0 : Int) ≤ (n : Int) := by omega
   have hk3 : (n : Int) ≤ (lf.length : Int) := by omega
   have hk4 : (n : Int) ≤ (cf : Int) := by omega
   obtain ⟨wo, hwo⟩ : ∃ wo, wo = wr := ⟨_, rfl⟩
   subst hwo
   by_cases hst : ∃ c m, Stands (lf.take 149) c m
   ·obtain ⟨c, m, hs⟩ := hst
    have hcu := cut_ok _ _ m c _ wo hrh HBW.out.size (by omega) hs
    by_cases h4 : 4 ≤ m.length
    ·have hml : m.length ≤ n := by
      have := congrArg List.length hs.2
      rw [hkl, List.length_append] at this
      omega
     obtain ⟨q, hq⟩ : ∃ q, q = (lf.take 149).length - (m.drop 4).length := ⟨_, rfl⟩
     obtain ⟨hS1, hql, hlp⟩ := HS.out.more HLT.out hs h4 hq
     have HS1 := Lib.hid hS1
     obtain ⟨y, hy⟩ : ∃ y, (m.drop 4).length = y := ⟨_, rfl⟩
     have HY := Lib.hid hy
     have hyn : y ≤ n := by rw [← hy, List.length_drop]; omega
     rw [hkl, hy] at hq
     have hqi : (n : Int) - (y : Int) = (q : Int) := by omega
     have hq0 : (0 : Int) ≤ (q : Int) := by omega
     have hwq : IntKind.i64.wrap (q : Int) = (q : Int) := by rw [IntKind.wrap_i64]; omega
     have hq3 : (q : Int) ≤ (lf.length : Int) := by omega
     have hq4 : (lf.length : Int) ≤ (cf : Int) := by omega
     have hM4 := numOf_le m
     have hcm := fun (w : World) (v : Value) (hr : Rd w w.heap.size v (m.map bv)) => cutNum_ok v m w.heap.size w hr h4 (by omega)
     have hcE : cf = q → ∀ wz, Below w1.heap.size w1 wz → Rd wz w1.heap.size (.slice Af 0 0) ((lf.drop q).map bv) := fun e wz hb => by
      subst e
      have := (HF.out).fromEnd hql
      rw [← List.map_drop] at this
      obtain ⟨A', c', e', p1, p2, p3⟩ := this
      injection e' with e1 e2 e3
      have : lf.drop cf = [] := List.eq_nil_of_length_eq_zero (by simpa using e2.symm)
      rw [this]
      exact ⟨Af, 0, rfl, Nat.le_refl _, by simp [maxLen], fun h => absurd h (by simp)⟩
     have hcN : ¬ cf = q → Rd wo w1.heap.size (.slice (Af.map fun x => x.add q) (lf.length - q) (cf - q)) ((lf.drop q).map bv) := fun e => by
      have := HF.out.from_ hql e
      rwa [← List.map_drop] at this
     have HCE := Lib.hid hcE
     have HCN := Lib.hid hcN
     have hl1 : (ss.map Blm.nvB).length + ([numOf m].map Blm.nvB).length ≤ maxLen := by simp [maxLen]; omega
     have hl2 : ((ss.map Blm.nvB).length + ([numOf m].map Blm.nvB).length) * 8 ≤ 140737488355328 := by simp; omega
     have HL1 := Lib.hid hl1
     have HL2 := Lib.hid hl2
     have HQE : Hid (cf = q → lf.length = q) := Lib.hid fun e => by omega
     have HMA : Hid (List.map Blm.nvB ss ++ List.map Blm.nvB [numOf m] = List.map Blm.nvB (ss ++ [numOf m])) := Lib.hid (by rw [List.map_append])
     clear hn hkl hk1 htk hrh hs hml hS1 hcE hcN hl1 hl2 hlp hle hsl hq hyn
     generalize numOf m = z at *
     generalize lf.drop q = lfq at *
     go_wp2_with fail
     refine hcu.mono ?_
     rintro e w2 ⟨⟨r2, rfl, hr2⟩, hb2⟩
     have HB2 := Lib.hid (bwstep HBW.out hb2)
     have HB2o := Lib.hid hb2
     have HR2 := Lib.hid hr2
     clear hb2 hr2 hcu
     go_wp2_with (refine allocC rfl rfl ?_)
     constructor
     intro w3 hI3 hb3 hz3
     go_wp2_with (refine storeC (c := c) rfl (.tmp 9) (.tmp 31) rfl rfl rfl hI3 ?_)
     constructor
     intro w4 hs4
     have hb4 := hs4.bel hb3 (Nat.le_refl _)
     have HB4 := Lib.hid (bwstep HB2o.out hb4)
     have HR4 := Lib.hid (HR2.out.below hb4).rd
     clear hI3 hb3 hz3 hs4 hb4
     go_wp2_with fail
     refine (hcm _ _ HR4.out).mono ?_
     rintro e w5 ⟨r5, rfl, hr5, hb5⟩
     have HB5 := Lib.hid (bwstep HB4.out hb5)
     have HB15 := Lib.hid (bwstep HBW.out HB5.out)
     obtain ⟨A5, c5, hv5, -, -⟩ := hr5.rd.shapeM
     rw [HY.out] at hv5
     subst hv5
     have HO5 := HO.out.below HB5.out
     have bA := bwalloc (bwrefl w5) (.cells #[.int .i64 (z : Int)] 3)
     have hx0 := Rd.newW (xs := [z].map Blm.nvB) w5 3 #[.int .i64 (z : Int)] rfl (by simp [maxLen]) rfl
     have hx1 := hx0.up (bwrefl (w5.alloc (.cells #[.int .i64 (z : Int)] 3))).drew
     have ho1 := HO5.below bA.drew
     have hB1 := Nat.le_trans HB15.out.size bA.size
     have hBA := bwstep HB15.out bA.drew
     have bA2 := bA.drew
     clear hb5 hr5 hx0 bA hy
     by_cases hcc : cf = q
     ·have hCE := Lib.hid (HCE.out hcc)
      have HLL := Lib.hid (HQE.out hcc)
      clear HCE HCN HQE
      subst hcc
      have hlc := HLL.out
      clear hfc hq3 hq4 hql
      rw [hlc] at *
      clear hlc
      go_wp2_with fail
      go_region_law (refine step_appE Blm.natsT rfl rfl (.tmp 42) (.tmp 44) rfl (by simp [Act.eval]) ho1 (by simp [Act.eval]) hx1 (Blm.one_nv _) HL1.out HL2.out hB1 ?_; intro v6 w6 o6 g6 h6; have HO6 := Lib.hid o6; have HB6 := Lib.hid (hBA.grown g6 hB1 (fun k hk => (ho1.lt k hk).1)); clear o6 g6 h6 ho1 hx1)
      go_wp2_with fail
      rw [HMA.out] at HO6
      go_roundw
      case rel => exact ⟨k + 1, _, _, by omega, by go_num, HO6.out, hCE.out w6 HB6.out, HS1, HB6.out⟩
      case measure => simp [intOf]; omega
     ·have HCM := Lib.hid (HCN.out hcc)
      clear HCE HCN HQE
      go_wp2_with fail
      go_region_law (refine step_appE Blm.natsT rfl rfl (.tmp 42) (.tmp 44) rfl (by simp [Act.eval]) ho1 (by simp [Act.eval]) hx1 (Blm.one_nv _) HL1.out HL2.out hB1 ?_; intro v6 w6 o6 g6 h6; have HO6 := Lib.hid o6; have HB6 := Lib.hid (hBA.grown g6 hB1 (fun k hk => (ho1.lt k hk).1)); have HBO6 := Lib.hid (((bwstep HB5.out bA2).mono HBW.out.size).grown g6 hB1 (fun k hk => (ho1.lt k hk).1)); clear o6 g6 h6 ho1 hx1)
      go_wp2_with fail
      rw [HMA.out] at HO6
      go_roundw
      case rel => exact ⟨k + 1, _, _, by omega, by go_num, HO6.out, HCM.out.below HBO6.out, HS1, HB6.out⟩
      case measure => simp [intOf]; omega
    ·have HNO : Hid (∀ LL t, FootAt l LL t → ([] : List Nat) = starts LL 0 ∧ ([] : List UInt8) = t) := Lib.hid fun LL t hf => startsTo_all (startsTo_none HS.out.sto HLT.out (fun c' m' hs' => by obtain ⟨-, rfl⟩ := hs.one hs'; exact h4) [] [] _) hf
     have h40 : m.length < 4 := by omega
     have H40 := Lib.hid h40
     clear hn hkl hk1 htk hrh hs h4 h40
     go_wp2_with fail
     refine hcu.mono ?_
     rintro e w2 ⟨⟨r2, rfl, hr2⟩, hb2⟩
     have HB2 := Lib.hid (bwstep HBW.out hb2)
     have HR2 := Lib.hid hr2
     clear hb2 hr2 hcu
     go_wp2_with (refine allocC rfl rfl ?_)
     constructor
     intro w3 hI3 hb3 hz3
     go_wp2_with (refine storeC (c := c) rfl (.tmp 9) (.tmp 31) rfl rfl rfl hI3 ?_)
     constructor
     intro w4 hs4
     have hb4 := hs4.bel hb3 (Nat.le_refl _)
     have HB4 := Lib.hid (bwstep HB2.out hb4)
     have HR4 := Lib.hid (HR2.out.below hb4).rd
     clear hI3 hb3 hz3 hs4 hb4
     go_wp2_with fail
     refine (cutNum_no _ m _ _ HR4.out H40.out).mono ?_
     rintro e w5 ⟨r5, rfl, -, hb5⟩
     have HB5 := Lib.hid (bwstep HB1.out (bwstep HB4.out hb5))
     clear hb5
     go_wp2_with fail
     go_ret2
     exact ⟨⟨_, _, [], [], 0, rfl, Ow.nil _ _ _, Nat.zero_le _, Rd.nil _ _, by simp, by simp, fun s hs => (by cases hs), HNO.out⟩, HB5.out⟩
   ·have hcu := cut_no _ (lf.take 149) _ wo hrh HBW.out.size (by omega) hst
    have HNO : Hid (∀ LL t, FootAt l LL t → ([] : List Nat) = starts LL 0 ∧ ([] : List UInt8) = t) := Lib.hid fun LL t hf => startsTo_all (startsTo_none HS.out.sto HLT.out (fun c' m' hs' => absurd ⟨c', m', hs'⟩ hst) [] [] _) hf
    clear hn hkl hk1 htk hrh hst
    go_wp2_with fail
    refine hcu.mono ?_
    rintro e w2 ⟨rfl, hb2⟩
    have HB2 := Lib.hid (bwstep HBW.out hb2)
    clear hb2 hcu
    go_wp2_with (refine allocC rfl rfl ?_)
    constructor
    intro w3 hI3 hb3 hz3
    go_wp2_with (refine storeC (c := Cl.zero) rfl (.tmp 9) (.tmp 31) rfl rfl rfl hI3 ?_)
    constructor
    intro w4 hs4
    have HB4 := Lib.hid (bwstep HB2.out (hs4.bel hb3 (Nat.le_refl _)))
    clear hI3 hb3 hz3 hs4
    go_wp2_with fail
    refine (cutNum_no _ [] 0 _ (Rd.nil _ _) (by simp)).mono ?_
    rintro e w5 ⟨r5, rfl, -, hb5⟩
    have HB5 := Lib.hid (bwstep HB1.out (bwstep HB4.out hb5))
    clear hb5
    go_wp2_with fail
    go_ret2
    exact ⟨⟨_, _, [], [], 0, rfl, Ow.nil _ _ _, Nat.zero_le _, Rd.nil _ _, by simp, by simp, fun s hs => (by cases hs), HNO.out⟩, HB5.out⟩
  ·obtain rfl : k = N := by omega
   have HFIN : Hid (∀ LL t, FootAt l LL t → ss = starts LL 0 ∧ lf = t) := Lib.hid fun LL t hf => startsTo_all (HN.out ▸ HS.out.sto) hf
   have hbb := HS.out.b
   have HBS := Lib.hid hbb
   clear hbb
   go_wp2_with fail
   go_ret2
   exact ⟨⟨_, _, ss, lf, _, rfl, HO.out.mono HB1.out.size, HBW.out.size, HF.out, by omega, by omega, HBS.out, HFIN.out⟩, bwstep HB1.out HBW.out⟩
end Go.Proofs.YtcpkhhbbjimdaaaGreatDoor.Ce
