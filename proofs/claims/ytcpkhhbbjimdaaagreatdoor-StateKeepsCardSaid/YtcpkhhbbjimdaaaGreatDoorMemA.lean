/- A cell is stored into a slice that the call owns. The contract of slices.Insert, of one cell into a slice of cells that the call owns. A table in memory: what it holds, the contracts of what only reads it. A table in memory: the contracts of start, Get and Rows. A table in memory: the contract of Put. -/
import Derived.Test.YtcpkhhbbjimdaaaGreatDoorCsA
import Derived.Test.YtcpkhhbbjimdaaaGreatDoorCbA
import Derived.Test.YtcpkhhbbjimdaaaGreatDoorCpA
import Derived.StillTailTactics
set_option maxHeartbeats 8000000
set_option maxRecDepth 100000
namespace Go.Proofs.YtcpkhhbbjimdaaaGreatDoor.Ce
open Go.RowKit
theorem run_storeL (w : World) (g o : Nat) (cur : Array Value) (c : Cl) (hg : w.heap[g]? = some (.cells cur 47 (0, 0))) (hfit : o + [c].length * 5 ≤ cur.size) :
  (storeVar 47 ⟨g, o, none⟩ c.v).run Tryz.prog w = .ok () (w.setRow g (cpd cur o [c])) := by
 obtain ⟨i, hi, hi0, hi1, hi2⟩ := info_parts cellInfo
 have hst := run_storeCells_at Tryz.prog g o 47 c.cs.toList 0 cur w hg (by rw [show c.cs.toList.length = 5 from rfl]; simpa using hfit) (fun v hv => (Array.all_eq_true_iff_forall_mem.1 (cs_one c)) v (by simpa using hv))
 have h5 : c.v.cells.size = i.size := by rw [hi1]; rfl
 have h6 : c.v.cells.toList = c.cs.toList := rfl
 simp [storeVar, sizeOf, typeInfo, hi, h5, h6, hst, cpd]
 rfl
section
variable {ops : Array Oper} {o : Oper} {a : Act} {w : World} {K0 : Act → World → Prop} {Q : Exit → Act → World → Prop} {g n : Nat} {cur : Array Value} {c : Cl}
theorem wp_storeAt (x y : Operand) (ho : o.op = .store 47 x y) (hx : a.eval x = .pointer (some ⟨g, n, none⟩)) (hy : a.eval y = c.v) (hg : w.heap[g]? = some (.cells cur 47 (0, 0))) (hfit : n + [c].length * 5 ≤ cur.size)
  (h : ∀ w', Turned g (cpd cur n [c]) w w' → K0 (a.put o.dst undef) w') : o.wp Tryz.prog a w K0 Q := by
 unfold Oper.wp execOp
 simp only [ho, hx, hy, Instr.storeAt, Instr.sureAddr, Sem.run_bind, Sem.run_pure, Result.andThen_ok, run_storeL w g n cur c hg hfit]
 exact h _ (Turned.of _ hg)
theorem wpList_storeAt {rest : List Oper} (hgd : o.guard = none) (x y : Operand) (ho : o.op = .store 47 x y) (hx : a.eval x = .pointer (some ⟨g, n, none⟩)) (hy : a.eval y = c.v) (hg : w.heap[g]? = some (.cells cur 47 (0, 0))) (hfit : n + [c].length * 5 ≤ cur.size)
  (h : Held (∀ w', Turned g (cpd cur n [c]) w w' → wpList Tryz.prog ops Q rest (a.put o.dst undef) w')) : wpList Tryz.prog ops Q (o :: rest) a w :=
 wpList_plain hgd fun _ hK => wp_storeAt x y ho hx hy hg hfit fun w' ht => hK _ _ (h.out w' ht)
end
theorem OwL.open_ {w : World} {B : Nat} {v : Value} {L : List Cl} (h : OwL w B v L) (hp : 0 < L.length) : ∃ g cap cur, v = .slice (some ⟨g, 0, none⟩) L.length cap ∧ B ≤ g ∧ w.heap[g]? = some (.cells cur 47 (0, 0)) ∧ L.length ≤ cap ∧ cap ≤ maxLen ∧ cur.size = cap * 5 ∧ cur.toList.take (L.length * 5) = flat5 L := by
 rcases h.2 with ⟨_, h2⟩ | h2
 ·omega
 ·exact h2
theorem cpd_set {cur : Array Value} {L : List Cl} {c : Cl} {k cap : Nat} (hk : k < L.length) (hc : L.length ≤ cap) (hcs : cur.size = cap * 5) (ht : cur.toList.take (L.length * 5) = flat5 L) :
  (cpd cur (k * 5) [c]).size = cap * 5 ∧ (cpd cur (k * 5) [c]).toList.take (L.length * 5) = flat5 (L.set k c) := by
 refine ⟨by rw [cpd_size (by rw [hcs]; simp; omega), hcs], ?_⟩
 have hl : cur.toList.length = cap * 5 := by simpa using hcs
 have e1 : (cpd cur (k * 5) [c]).toList = cur.toList.take (k * 5) ++ (flat5 [c] ++ cur.toList.drop (k * 5 + [c].length * 5)) := by unfold cpd; simp
 have h5 : (flat5 [c]).length = 5 := rfl
 have ht1 : cur.toList.take (k * 5) = flat5 (L.take k) := by rw [flat5_take, ← ht, List.take_take, Nat.min_eq_left (by omega)]
 have htl : (flat5 (L.take k)).length = k * 5 := by rw [flat5_len]; simp; omega
 have ht2 : (cur.toList.drop (k * 5 + [c].length * 5)).take (L.length * 5 - (k + 1) * 5) = flat5 (L.drop (k + 1)) := by
  rw [flat5_drop, ← ht, List.drop_take, show (k + 1) * 5 = k * 5 + [c].length * 5 by simp; omega]
 rw [e1, ht1, List.set_eq_take_append_cons_drop, if_pos hk, flat5_app, show c :: L.drop (k + 1) = [c] ++ L.drop (k + 1) from rfl, flat5_app, ← ht2, List.take_append, htl, List.take_append, h5, show (flat5 (L.take k)).take (L.length * 5) = flat5 (L.take k) from List.take_of_length_le (by rw [htl]; omega), show (flat5 [c]).take (L.length * 5 - k * 5) = flat5 [c] from List.take_of_length_le (by rw [h5]; omega), show L.length * 5 - k * 5 - 5 = L.length * 5 - (k + 1) * 5 by omega]
theorem OwL.stored {w w' : World} {B g cap k : Nat} {cur : Array Value} {L : List Cl} {c : Cl} (hB : B ≤ g) (hk : k < L.length) (hc : L.length ≤ cap) (hm : cap ≤ maxLen) (hcs : cur.size = cap * 5) (ht : cur.toList.take (L.length * 5) = flat5 L) (h : Turned g (cpd cur (k * 5) [c]) w w') :
  OwL w' B (.slice (some ⟨g, 0, none⟩) L.length cap) (L.set k c) := by
 obtain ⟨h1, h2⟩ := cpd_set (c := c) hk hc hcs ht
 refine ⟨by rw [flat5_len], .inr ⟨g, cap, _, by rw [List.length_set], hB, h.i, by rw [List.length_set]; exact hc, hm, h1, by rw [List.length_set]; exact h2⟩⟩
end Go.Proofs.YtcpkhhbbjimdaaaGreatDoor.Ce
namespace Go.Proofs.YtcpkhhbbjimdaaaGreatDoor.Ce
open Go.RowKit
theorem cpd_new {cur : Array Value} {L : List Cl} {f : Cl} {i cap : Nat} (hi : i ≤ L.length) (hc : L.length + 1 ≤ cap) (hcs : cur.size = cap * 5) (ht : cur.toList.take (i * 5) = flat5 (L.take i)) :
  (cpd (cpd cur (i * 5) [f]) ((i + 1) * 5) (L.drop i)).size = cap * 5 ∧ (cpd (cpd cur (i * 5) [f]) ((i + 1) * 5) (L.drop i)).toList.take ((L.length + 1) * 5) = flat5 (ins i f L) := by
 have hl : cur.toList.length = cap * 5 := by simpa using hcs
 generalize hxs : cur.toList = xs at *
 have hd : (flat5 (L.drop i)).length = (L.length - i) * 5 := by rw [flat5_len]; simp
 have hta : (flat5 (L.take i)).length = i * 5 := by rw [flat5_len]; simp; omega
 have h5 : (flat5 [f]).length = 5 := rfl
 have e1 : (cpd cur (i * 5) [f]).toList = flat5 (L.take i) ++ flat5 [f] ++ xs.drop (i * 5 + [f].length * 5) := by unfold cpd; rw [hxs, ht]
 have e2 : (cpd (cpd cur (i * 5) [f]) ((i + 1) * 5) (L.drop i)).toList = flat5 (L.take i) ++ flat5 [f] ++ flat5 (L.drop i) ++ (cpd cur (i * 5) [f]).toList.drop ((i + 1) * 5 + (L.drop i).length * 5) := by
  rw [show (cpd (cpd cur (i * 5) [f]) ((i + 1) * 5) (L.drop i)).toList = (cpd cur (i * 5) [f]).toList.take ((i + 1) * 5) ++ flat5 (L.drop i) ++ (cpd cur (i * 5) [f]).toList.drop ((i + 1) * 5 + (L.drop i).length * 5) from rfl]
  congr 2
  rw [e1, List.take_append_of_le_length (by simp only [List.length_append, hta, h5]; omega), List.take_of_length_le (by simp only [List.length_append, hta, h5]; omega)]
 refine ⟨?_, ?_⟩
 ·have h1 := congrArg List.length e1
  have := congrArg List.length e2
  rw [Array.length_toList] at this
  rw [this]
  simp only [List.length_append, hd, h5, hta, List.length_drop, h1, List.length_singleton]
  omega
 ·rw [e2, flat5_ins, ← List.append_assoc, List.take_append_of_le_length, List.take_of_length_le]
  ·simp only [List.length_append, hd, h5, hta]
   omega
  ·simp only [List.length_append, hd, h5, hta]
   omega
def InsEnd (w : World) (B : Nat) (ob : Option Nat) (L : List Cl) (e : Ending) (w' : World) : Prop :=
 ∃ v', e = .returned v' ∧ OwL w' B v' L ∧ w.grownBy w' ob ∧ (v'.ownBlock = ob ∨ v'.ownBlock = some w.heap.size)
theorem sizeFive (w : World) : (Go.sizeOf 47).run Tryz.prog w = .ok 5 w := by
 obtain ⟨i, hi, hi0, hi1, hi2⟩ := info_parts cellInfo
 simp [sizeOf, typeInfo, hi, hi1]
theorem over_no (w : World) (g vb o la ca lb cb : Nat) (cur : Array Value) (f : Cl) (hg : w.heap[g]? = some (.cells cur 47 (0, 0))) (hz : 0 < cur.size) (hf : InC vb f w) (hne : vb ≠ g) :
  (callFunc 101 #[.slice (some ⟨vb, 0, none⟩) la ca, .slice (some ⟨g, o, none⟩) lb cb]).run Tryz.prog w = .ok (.value (.bool false)) w := by
 rw [run_callFunc_extern Tryz.func101 (by kernel_rfl) (by kernel_rfl) (by kernel_rfl) (e := Extern.SlicesOverlaps.overlaps #[27, 27] #[4]) (by kernel_rfl),
  Lib.run_overlaps_apart w 27 4 47 Tryz.underlying27 5 sizeFive ⟨vb, 0, none⟩ ⟨g, o, none⟩ la ca lb cb hne 47 47 f.cs.size cur.size (by simp [World.shape?, hf.h]) (by simp [World.shape?, hg]) (by omega) (by simp [World.frozen?, hf.h]) (by simp [World.frozen?, hf.h])]
 rfl
theorem one_at {vb : Nat} {f : Cl} {w : World} (hf : InC vb f w) : ∀ j v, (flat5 [f])[j]? = some v → w.cell? ((⟨vb, 0, none⟩ : Addr).add j) = some v := fun j v hj => hf.all j v hj
theorem RdL.oneB {vb : Nat} {f : Cl} {w : World} (hf : InC vb f w) : RdL w [] (.slice (some ⟨vb, 0, none⟩) 1 1) [f] := by
 refine ⟨_, _, rfl, Nat.le_refl _, by simp [maxLen], fun _ => ⟨vb, 0, rfl, hf.lt, by simp, fun i u hu => ?_⟩⟩
 have := one_at hf i u hu
 rwa [Addr.add_lit] at this
theorem insert_end (v : Value) (L : List Cl) (f : Cl) (vb B : Nat) (w : World) (ob : Option Nat) (hob : v.ownBlock = ob) (ho : OwL w B v L) (hf : InC vb f w) (hB : B ≤ w.heap.size) (hL : L.length < 2199023255552) :
  Calls Tryz.prog 85 #[v, .int .i64 (L.length : Int), .slice (some ⟨vb, 0, none⟩) 1 1] w (InsEnd w B ob (L ++ [f])) := by
 obtain ⟨A, c, rfl, hc, hm⟩ := (ho.rd (S := []) (fun _ h => by cases h)).shape
 unfold maxLen at hm
 have HO := Lib.hid ho
 have HOB := Lib.hid hob
 have HF := Lib.hid hf
 have hn0 : (0 : Int) ≤ (L.length : Int) := by omega
 have hn1 : (L.length : Int) ≤ (c : Int) := by omega
 clear ho hf hob
 go_enter Tryz.func85, Tryz.ntmps85
 go_wp2_with (at_builtin; refine wpList_appL (v := .slice A L.length c) rfl (.tmp 23) (.tmp 24) rfl rfl HO.out rfl (RdL.oneB HF.out) (by simp; omega) hB ?_; intro v1 w1 h1 h2 h3; rw [HOB.out] at h2 h3)
 all_goals
  go_ret
  exact ⟨_, rfl, h1, h2, h3⟩
theorem insert_room (g i c : Nat) (cur : Array Value) (L : List Cl) (f : Cl) (vb B : Nat) (w : World) (hg : w.heap[g]? = some (.cells cur 47 (0, 0))) (hBg : B ≤ g) (hi : i < L.length) (hroom : L.length + 1 ≤ c) (hm : c ≤ maxLen) (hcs : cur.size = c * 5) (ht : cur.toList.take (L.length * 5) = flat5 L)
  (hf : InC vb f w) (hne : vb ≠ g) :
  Calls Tryz.prog 85 #[.slice (some ⟨g, 0, none⟩) L.length c, .int .i64 (i : Int), .slice (some ⟨vb, 0, none⟩) 1 1] w (InsEnd w B (some g) (ins i f L)) := by
 have hm63 : c ≤ 2 ^ 63 - 1 := hm
 have HG := Lib.hid hg
 have HF := Lib.hid hf
 have HOV := Lib.hid (fun o la ca lb cb => over_no w g vb o la ca lb cb cur f hg (by omega) hf hne)
 have HP := Lib.hid (cpd_room (f := f) (Nat.le_of_lt hi) hroom hcs ht)
 have HX : Hid (∀ j v, (flat5 (L.drop i))[j]? = some v → w.drew.cell? ((⟨g, i * 5, none⟩ : Addr).add j) = some v) := Lib.hid fun j v hj => by
  rw [Addr.add_lit]
  refine (cell_of_row w g (i * 5 + j) cur _ (0, 0) hg).trans ?_
  rw [flat5_drop, List.getElem?_drop, ← ht, List.getElem?_take] at hj
  split at hj
  ·simpa using hj
  ·cases hj
 have HD : Hid ((L.drop i).length = L.length - i) := Lib.hid (by simp)
 have HS : Hid ((i + 1) * 5 + (L.drop i).length * 5 ≤ cur.size) := Lib.hid (by rw [HD.out]; omega)
 have HCS := Lib.hid hcs
 have HNE := Lib.hid hne
 have hz2 : ¬ ((i : Int) = (L.length : Int)) := by omega
 have hn3 : ¬ ((c : Int) < (L.length : Int) + 1) := by omega
 have hw1 : IntKind.i64.wrap ((i : Int) + 1) = (i : Int) + 1 := by rw [IntKind.wrap_i64]; omega
 have hb1 : (0 : Int) ≤ (i : Int) + 1 := by omega
 have hin : i ≤ L.length := by omega
 have htn : ((i : Int) + 1).toNat = i + 1 := by omega
 have hb2 : ¬ (c = i + 1) := by omega
 have hb3 : (i : Int) ≤ (L.length : Int) + 1 := by omega
 have hb4 : ¬ (c = i) := by omega
 clear hg hf hcs ht hne
 go_enter Tryz.func85, Tryz.ntmps85
 go_wp2_with (simp only [HOV.out])
 go_region_law (refine step_copyL (g := g) (o := (i + 1) * 5) (dLen := L.length - i) (dCap := c - (i + 1)) (ad := ⟨g, i * 5, none⟩) (sLen := L.length + 1 - i) (sCap := c - i) rfl (.tmp 73) (.tmp 76) rfl (by simp [Act.eval, Act.put]) (by simp [Act.eval, Act.put]) HG.out (M := L.drop i) (by rw [HD.out]; simp only [Nat.min_def]; split <;> omega) HX.out HS.out ?_; intro w1 ht1)
 have HT1 := Lib.hid ht1
 have HS1 : Hid (i * 5 + [f].length * 5 ≤ (cpd cur ((i + 1) * 5) (L.drop i)).size) := Lib.hid (by rw [cpd_size HS.out, HCS.out]; simp; omega)
 clear ht1
 go_wp2_with (refine wpList_copyL (g := g) (o := i * 5) (dLen := L.length + 1 - i) (dCap := c - i) (ad := ⟨vb, 0, none⟩) (sLen := 1) (sCap := 1) rfl (.tmp 80) (.tmp 81) rfl (by simp [Act.eval]) (by simp [Act.eval]) HT1.out.i (M := [f]) (by simp only [List.length_singleton, Nat.min_def]; split <;> omega) (one_at (HT1.out.other (HF.out.up (Below.refl _ _).drew) HNE.out)) HS1.out ?_; intro w2 ht2)
 go_ret
 exact ⟨_, rfl, ⟨by rw [flat5_len], .inr ⟨g, c, _, by rw [ins_len (Nat.le_of_lt hi)]; rfl, hBg, ht2.i, by rw [ins_len (Nat.le_of_lt hi)]; exact hroom, hm, HP.out.1, by rw [ins_len (Nat.le_of_lt hi)]; exact HP.out.2⟩⟩, HT1.out.grown2 ht2, .inl rfl⟩
theorem insert_grow (b c i : Nat) (L : List Cl) (f : Cl) (vb B : Nat) (ob : Option Nat) (w : World) (hr : RdL w [] (.slice (some ⟨b, 0, none⟩) L.length c) L) (hB : B ≤ w.heap.size) (hi : i < L.length) (hnc : L.length ≤ c) (hroom : c < L.length + 1) (hL : L.length < 2199023255552)
  (hf : InC vb f w) :
  Calls Tryz.prog 85 #[.slice (some ⟨b, 0, none⟩) L.length c, .int .i64 (i : Int), .slice (some ⟨vb, 0, none⟩) 1 1] w (InsEnd w B ob (ins i f L)) := by
 obtain rfl : c = L.length := by omega
 obtain ⟨i0, hi0, hz0, hzs, hzb⟩ := info_parts cellInfo
 have hik : i + (L.length + 1 - i) = L.length + 1 := by omega
 obtain ⟨b', off', e, hb, -, hcell⟩ := hr.open_ (by omega)
 simp only [Option.some.injEq, Addr.mk.injEq, and_true] at e
 obtain ⟨rfl, rfl⟩ := e
 have hold : (Builtin.firstCells i0.size i (.slice (some ⟨b, 0, none⟩) i L.length)).run Tryz.prog w.drew = .ok (flat5 (L.take i)).toArray w.drew := by
  rw [hzs]
  exact run_firstCells_some w.drew 5 i ⟨b, 0, none⟩ i L.length (flat5 (L.take i)) (by rw [flat5_len]; simp; omega) (fun j v hj => by
   rw [Addr.add_lit]
   rw [flat5_take, List.getElem?_take] at hj
   split at hj
   ·exact hcell j v hj
   ·cases hj)
 obtain ⟨G, hG⟩ : ∃ G, G = grownCap w (L.length + 1) L.length 47 := ⟨_, rfl⟩
 have hGn : L.length + 1 ≤ G := by rw [hG]; exact grownCap_ge w _ _ _
 have hGm : G ≤ maxLen := by rw [hG]; exact grownCap_le_maxLen w _ _ _ (by unfold maxLen; omega)
 obtain ⟨ROW, hROW⟩ : ∃ ROW : Array Value, ROW = (flat5 (L.take i)).toArray ++ Builtin.zeroCells (Value.agg Cl.zero.cs).cells (L.length + 1 - i) ++ Builtin.zeroCells (Value.agg Cl.zero.cs).cells (G - (L.length + 1)) := ⟨_, rfl⟩
 have hkk : (L.length : Int) + 1 - (i : Int) = ((L.length + 1 - i : Nat) : Int) := by omega
 have hrz : ∀ ty, (Builtin.append_ #[27, 3] ty #[.slice (some ⟨b, 0, none⟩) i L.length, .int .i64 ((L.length : Int) + 1 - (i : Int))]).run Tryz.prog w = .ok (.slice (some ⟨w.heap.size, 0, none⟩) (L.length + 1) G) (w.drew.alloc (.cells ROW 47)) := fun ty => by
  have h := Lib.run_append_grow_zeros w 27 3 ty 47 i0 _ .i64 .i64 Tryz.underlying27 Tryz.underlying3 hi0 hz0 (some ⟨b, 0, none⟩) i L.length (flat5 (L.take i)) hold (L.length + 1 - i) (by omega) (by omega) (by omega) (by omega) (by rw [hzb]; omega) (by rw [hzb, hik]; exact growslice_fits hroom (by omega))
  rw [hik] at h
  rw [hkk, hROW, hG]
  exact h
 have hta : (flat5 (L.take i)).length = i * 5 := by rw [flat5_len]; simp; omega
 have hzc : (Value.agg Cl.zero.cs).cells.size = 5 := rfl
 have hRs : ROW.size = G * 5 := by
  rw [hROW]
  simp only [Array.size_append, List.size_toArray, size_zeroCells, hta, hzc]
  omega
 have hRt : ROW.toList.take (i * 5) = flat5 (L.take i) := by
  rw [hROW]
  simp only [Array.toList_append, List.append_assoc]
  rw [List.take_append_of_le_length (by rw [hta]; exact Nat.le_refl _), List.take_of_length_le (by rw [hta]; exact Nat.le_refl _)]
 obtain ⟨W1, hW1⟩ : ∃ W1, W1 = w.drew.alloc (.cells ROW 47) := ⟨_, rfl⟩
 rw [← hW1] at hrz
 have hG1 : W1.heap[w.heap.size]? = some (.cells ROW 47 (0, 0)) := by rw [hW1]; exact heap_alloc_new w.drew _
 have hb1 : Below w.heap.size w W1 := by rw [hW1]; exact bwalloc (Below.refl _ _).drew _
 have HP := Lib.hid (cpd_new (f := f) (Nat.le_of_lt hi) hGn hRs hRt)
 have HF1 := Lib.hid (hf.up hb1)
 have HB1 := Lib.hid hb1
 have HG1 := Lib.hid hG1
 have HX : Hid (∀ W : World, (∀ k, k ≠ w.heap.size → W.heap[k]? = W1.heap[k]?) → ∀ j v, (flat5 (L.drop i))[j]? = some v → W.cell? ((⟨b, i * 5, none⟩ : Addr).add j) = some v) := Lib.hid fun W hW j v hj => by
  rw [Addr.add_lit]
  rw [flat5_drop, List.getElem?_drop] at hj
  have := hcell _ _ hj
  rw [Nat.zero_add] at this
  exact (World.cell?_of_block (w := W1) (a := ⟨b, i * 5 + j, none⟩) (hW b (by omega))).trans ((hb1.cell (p := ⟨b, i * 5 + j, none⟩) hb).trans this)
 have HRZ := Lib.hid hrz
 have HD : Hid ((L.drop i).length = L.length - i) := Lib.hid (by simp)
 have HS1 : Hid (i * 5 + [f].length * 5 ≤ ROW.size) := Lib.hid (by rw [hRs]; simp; omega)
 have HS2 : Hid ((i + 1) * 5 + (L.drop i).length * 5 ≤ (cpd ROW (i * 5) [f]).size) := Lib.hid (by rw [cpd_size HS1.out, hRs, HD.out]; omega)
 have hz2 : ¬ ((i : Int) = (L.length : Int)) := by omega
 have hz3 : (L.length : Int) < (L.length : Int) + 1 := by omega
 have hw1 : IntKind.i64.wrap ((i : Int) + 1) = (i : Int) + 1 := by rw [IntKind.wrap_i64]; omega
 have hbb : (0 : Int) ≤ (i : Int) + 1 := by omega
 have hin : i ≤ L.length := by omega
 have htn : ((i : Int) + 1).toNat = i + 1 := by omega
 have hb3 : (i : Int) ≤ (L.length : Int) := by omega
 have hGi : ¬ (G = i) := by omega
 have hGim : ¬ (G = i + 1) := by omega
 have hci : ¬ (L.length = i) := by omega
 have hG63 : G ≤ 2 ^ 63 - 1 := hGm
 have hne1 : ¬ vb = w.heap.size := by have := hf.lt; omega
 have HNE := Lib.hid hne1
 clear hne1 hrz hr hf hold hcell hG hROW hRs hRt hW1 hG1 hb1 hkk hik hta hzc hi0 hz0 hzs hzb
 go_enter Tryz.func85, Tryz.ntmps85
 go_wp2_with (first
  | (at_builtin; refine Lib.wpList_append_run _ rfl (.tmp 34) (.tmp 39) _ _ rfl _ _ rfl rfl _ _ (HRZ.out _) ?_)
  | (refine wpList_copyL (g := w.heap.size) (o := i * 5) (dLen := L.length + 1 - i) (dCap := G - i) (ad := ⟨vb, 0, none⟩) (sLen := 1) (sCap := 1) rfl (.tmp 43) (.tmp 44) rfl (by simp [Act.eval]) (by simp [Act.eval]) HG1.out (M := [f]) (by simp only [List.length_singleton, Nat.min_def]; split <;> omega) (one_at HF1.out) HS1.out ?_; intro w2 ht2))
 have HT2 := Lib.hid ht2
 clear ht2
 go_region_law (refine step_copyL (g := w.heap.size) (o := (i + 1) * 5) (dLen := L.length - i) (dCap := G - (i + 1)) (ad := ⟨b, i * 5, none⟩) (sLen := L.length - i) (sCap := L.length - i) rfl (.tmp 50) (.tmp 53) rfl (by simp [Act.eval, Act.put]) (by simp [Act.eval, Act.put]) HT2.out.i (M := L.drop i) (by rw [HD.out]; simp only [Nat.min_def]; split <;> omega) (HX.out _ HT2.out.o) HS2.out ?_; intro w3 ht3)
 have HT3 := Lib.hid ht3
 clear ht3
 go_wp2_with fail
 go_ret
 have hl := ins_len (f := f) (Nat.le_of_lt hi)
 have hb3 := (HB1.out.trans HT2.out.b).drew.trans (HT3.out.b)
 exact ⟨_, rfl, ⟨by rw [flat5_len], .inr ⟨w.heap.size, G, _, by rw [hl]; rfl, hB, HT3.out.i, by rw [hl]; exact hGn, hGm, HP.out.1, by rw [hl]; exact HP.out.2⟩⟩, ⟨hb3.os, hb3.tape, hb3.output, hb3.size, fun k hk _ => hb3.block k hk⟩, .inr rfl⟩
theorem insert_any (v : Value) (L : List Cl) (f : Cl) (vb B i : Nat) (w : World) (ob : Option Nat) (hob : v.ownBlock = ob) (ho : OwL w B v L) (hf : InC vb f w) (hB : B ≤ w.heap.size) (hL : L.length < 2199023255552) (hi : i ≤ L.length) (hne : ob ≠ some vb) :
  Calls Tryz.prog 85 #[v, .int .i64 (i : Int), .slice (some ⟨vb, 0, none⟩) 1 1] w (InsEnd w B ob (ins i f L)) := by
 by_cases he : i = L.length
 ·subst he
  have : ins L.length f L = L ++ [f] := by simp [ins]
  rw [this]
  exact insert_end v L f vb B w ob hob ho hf hB hL
 ·have hr := ho.rd (S := []) (fun _ h => by cases h)
  obtain ⟨h1, h2⟩ := ho
  rcases h2 with ⟨_, h2⟩ | ⟨g, c, cur, rfl, hBg, hg, hnc, hm, hcs, ht⟩
  ·omega
  ·obtain rfl : ob = some g := hob.symm
   by_cases hroom : L.length + 1 ≤ c
   ·exact insert_room g i c cur L f vb B w hg hBg (by omega) hroom hm hcs ht hf (fun e => hne (by rw [e]))
   ·exact insert_grow g c i L f vb B _ w hr hB (by omega) hnc (by omega) hL hf
end Go.Proofs.YtcpkhhbbjimdaaaGreatDoor.Ce
namespace Go.Proofs.YtcpkhhbbjimdaaaGreatDoor.Ce
open Go.RowKit
def szs : List Cl → Int
 | [] => 0
 | c :: L => ((cellB c).length : Int) + szs L
theorem szs_app : ∀ A C : List Cl, szs (A ++ C) = szs A + szs C
 | [], C => by simp [szs]
 | c :: A, C => by rw [List.cons_append, szs, szs, szs_app A C]; omega
structure MemV (w : World) (b : Nat) (v : Value) (L : List Cl) : Prop where
 h : w.heap[b]? = some (.cells #[v, .int .i64 (szs L)] 55 (0, 0))
 own : OwL w 0 v L
 ne : v.ownBlock ≠ some b
def blks (b : Nat) (v : Value) : List Nat := b :: v.ownBlock.toList
section
variable {w w' : World} {b : Nat} {v : Value} {L : List Cl}
theorem MemV.c0 (h : MemV w b v L) : w.cell? ⟨b, 0, none⟩ = some v := cell_of_row _ _ 0 _ _ _ h.h
theorem MemV.c1 (h : MemV w b v L) : w.cell? ⟨b, 1, none⟩ = some (.int .i64 (szs L)) := cell_of_row _ _ 1 _ _ _ h.h
theorem MemV.lt (h : MemV w b v L) : b < w.heap.size := (Array.getElem?_eq_some_iff.1 h.h).1
theorem MemV.up (h : MemV w b v L) (hb : Below w.heap.size w w') : MemV w' b v L := ⟨(hb.block b h.lt).trans h.h, h.own.below hb, h.ne⟩
theorem MemV.rd (h : MemV w b v L) : RdL w [] v L := h.own.rd (fun _ h => by cases h)
theorem MemV.shape (h : MemV w b v L) : ∃ A c, v = .slice A L.length c ∧ L.length ≤ c ∧ c ≤ maxLen := h.rd.shape
theorem mem_blks {k : Nat} : k ∈ blks b v ↔ k = b ∨ v.ownBlock = some k := by simp [blks]
theorem MemV.blk_lt (h : MemV w b v L) : ∀ k ∈ blks b v, k < w.heap.size := fun k hk => by
 rcases mem_blks.1 hk with rfl | hk
 ·exact h.lt
 ·exact (h.own.lt k hk).2
end
theorem mnew_any (w : World) : Calls Tryz.prog 32 #[] w fun e w' => (∃ b, e = .returned (.pointer (some ⟨b, 0, none⟩)) ∧ w.heap.size ≤ b ∧ MemV w' b (.slice none 0 0) []) ∧ Below w.heap.size w w' := by
 go_enter Tryz.func32, Tryz.ntmps32
 go_wp2
 go_ret
 exact ⟨⟨w.heap.size, rfl, Nat.le_refl _, ⟨heap_alloc_new _ _, OwL.nil _ _, by simp [Value.ownBlock]⟩⟩, bwalloc (Below.refl _ _) _⟩
theorem csize_any (c : Cl) (w : World) (hok : c.ok) : Calls Tryz.prog 84 #[c.v] w fun e w' => e = .returned (.int .i64 ((cellB c).length : Int)) ∧ Below w.heap.size w w' := by
 go_enter Tryz.func84, Tryz.ntmps84
 go_wp2_with (refine boxC rfl (.tmp 0) c rfl rfl ?_)
 constructor
 intro w1 hI1 hb1 _
 go_wp2_with (refine loadC rfl (.tmp 1) rfl rfl hI1 ?_)
 refine (put_ok c _ hok).mono ?_
 rintro e w2 ⟨⟨x, rfl, hx⟩, hb2⟩
 have HB := Lib.hid (bwstep hb1 hb2)
 obtain ⟨A, cp, rfl, -, -⟩ := hx.rd.shapeM
 clear hx hb1 hb2 hI1
 go_wp2_with fail
 go_ret
 exact ⟨rfl, HB.out⟩
def MC (b : Nat) (v : Value) (g : Nat) (c : Cl) (w0 w' : World) : Prop :=
 w'.cell? ⟨b, 0, none⟩ = some v ∧ w'.cell? ⟨g, 0, none⟩ = some (.string c.row) ∧ w'.cell? ⟨g, 1, none⟩ = some (.string c.col) ∧ w'.cell? ⟨g, 2, none⟩ = some (.int .i64 c.at_) ∧ w'.cell? ⟨g, 3, none⟩ = some (.string c.val) ∧ w'.cell? ⟨g, 4, none⟩ = some (.bool c.gone) ∧ Below w0.heap.size w0 w'
theorem MC.of {b g : Nat} {v : Value} {L : List Cl} {c : Cl} {w0 w' : World} (h : MemV w0 b v L) (hi : InC g c w0) (hb : Below w0.heap.size w0 w') : MC b v g c w0 w' :=
 let p := hi.up hb; ⟨(h.up hb).c0, p.c0, p.c1, p.c2, p.c3, p.c4, hb⟩
theorem MC.bel {b g : Nat} {v : Value} {c : Cl} {w0 w' : World} (h : MC b v g c w0 w') : Below w0.heap.size w0 w' := h.2.2.2.2.2.2
end Go.Proofs.YtcpkhhbbjimdaaaGreatDoor.Ce
namespace Go.Proofs.YtcpkhhbbjimdaaaGreatDoor.Ce
open Go.RowKit
theorem RdL.mid {w : World} {S : List Nat} {L : List Cl} {A : Option Addr} {n c lo hi : Nat} (h : RdL w S (.slice A n c) L) (h1 : lo ≤ hi) (h2 : hi ≤ L.length) :
  ∃ A', (if c = lo then A else A.map (·.add (lo * 5))) = A' ∧ RdL w S (.slice A' (hi - lo) (c - lo)) ((L.take hi).drop lo) := by
 refine ⟨_, rfl, ?_⟩
 have hc : L.length ≤ c := by obtain ⟨_, _, e, q, _⟩ := h; injection e with _ _ e; subst e; exact q
 have hm : c ≤ maxLen := by obtain ⟨_, _, e, _, q, _⟩ := h; injection e with _ _ e; subst e; exact q
 rcases Nat.eq_zero_or_pos (hi - lo) with h0 | hp
 ·rw [h0, List.drop_of_length_le (by simp; omega)]
  exact RdL.none_ (by omega)
 ·rw [if_neg (by omega)]
  obtain ⟨b, off, rfl, -, -⟩ := h.open_ (by omega)
  have := (h.to_ h2).from_ (k := lo) (by simp; omega)
  rw [Option.map_some, Addr.add_lit]
  exact this
theorem MemV.mid {w : World} {b : Nat} {A : Option Addr} {c : Nat} {L : List Cl} (h : MemV w b (.slice A L.length c) L) {lo hi : Nat} (h1 : lo ≤ hi) (h2 : hi ≤ L.length) : RdL w [] (.slice (if c = lo then A else A.map (·.add (lo * 5))) (hi - lo) (c - lo)) ((L.take hi).drop lo) := by
 obtain ⟨A', rfl, q⟩ := h.rd.mid h1 h2
 exact q
def Mc0 (b : Nat) (v : Value) (w0 w' : World) : Prop := w'.cell? ⟨b, 0, none⟩ = some v ∧ Below w0.heap.size w0 w'
theorem Mc0.of {b : Nat} {v : Value} {L : List Cl} {w0 w' : World} (h : MemV w0 b v L) (hb : Below w0.heap.size w0 w') : Mc0 b v w0 w' := ⟨(h.up hb).c0, hb⟩
end Go.Proofs.YtcpkhhbbjimdaaaGreatDoor.Ce
namespace Go.Proofs.YtcpkhhbbjimdaaaGreatDoor.Ce
open Go.RowKit
theorem cellB_pos {c : Cl} (h : c.ok) : (cellB c).length ≤ 401 := by
 rw [cellB_len]
 have := h.r2
 have := h.c2
 have := h.v
 omega
theorem szs_bound : ∀ {L : List Cl}, (∀ c ∈ L, c.ok) → 0 ≤ szs L ∧ szs L ≤ 401 * (L.length : Int)
 | [], _ => by simp [szs]
 | c :: L, h => by
  have ih := szs_bound (L := L) fun x hx => h x (by simp [hx])
  have := cellB_pos (h c (by simp))
  simp only [szs, List.length_cons]
  omega
theorem szs_ins {L : List Cl} {k : Nat} {c : Cl} : szs (ins k c L) = szs L + ((cellB c).length : Int) := by
 have : szs L = szs (L.take k) + szs (L.drop k) := by rw [← szs_app, List.take_append_drop]
 unfold ins
 rw [szs_app, szs, this]
 omega
theorem szs_set {L : List Cl} {k : Nat} {c d : Cl} (h : L[k]? = some d) : szs (L.set k c) = szs L - ((cellB d).length : Int) + ((cellB c).length : Int) := by
 obtain ⟨hk, hd⟩ := List.getElem?_eq_some_iff.1 h
 have h1 : szs L = szs (L.take k) + szs (L.drop k) := by rw [← szs_app, List.take_append_drop]
 rw [List.drop_eq_getElem_cons hk, hd, szs] at h1
 rw [List.set_eq_take_append_cons_drop, if_pos hk, szs_app, szs, h1]
 omega
theorem szs_ge {L : List Cl} (hok : ∀ c ∈ L, c.ok) {k : Nat} {d : Cl} (h : L[k]? = some d) : ((cellB d).length : Int) ≤ szs L := by
 obtain ⟨hk, hd⟩ := List.getElem?_eq_some_iff.1 h
 have h1 : szs L = szs (L.take k) + szs (L.drop k) := by rw [← szs_app, List.take_append_drop]
 rw [List.drop_eq_getElem_cons hk, hd, szs] at h1
 have h2 := (szs_bound (L := L.take k) fun x hx => hok x (List.mem_of_mem_take hx)).1
 have h3 := (szs_bound (L := L.drop (k + 1)) fun x hx => hok x (List.mem_of_mem_drop hx)).1
 omega
theorem put1_set {L : List Cl} {c d : Cl} {k : Nat} (hk : Place L c k) (hd : L[k]? = some d) (h0 : ccmp d c = 0) : put1 c L = L.set k c := by
 have hlt := (List.getElem?_eq_some_iff.1 hd).1
 rw [put1_at hk.le (fun j e hj he => ccmp_lt.2 (hk.lt j e hj he)) (fun e he hq => hk.ge k e (Nat.le_refl _) he (ccmp_lt.1 hq)), if_pos (by rw [hd, Option.map_some, h0]), List.set_eq_take_append_cons_drop, if_pos hlt]
theorem put1_ins {L : List Cl} {c : Cl} {k : Nat} (hk : Place L c k) (hf : fnd L c k = false) : put1 c L = ins k c L := by
 rw [put1_at hk.le (fun j e hj he => ccmp_lt.2 (hk.lt j e hj he)) (fun e he hq => hk.ge k e (Nat.le_refl _) he (ccmp_lt.1 hq)), if_neg ?_]
 ·rfl
 ·intro h
  unfold fnd at hf
  cases hd : L[k]? with
  | none => rw [hd] at h; cases h
  | some d =>
   rw [hd] at h hf
   simp only [Option.map_some, Option.some.injEq] at h
   simp [h] at hf
theorem fnd_true {L : List Cl} {c : Cl} {k : Nat} (hf : fnd L c k = true) : ∃ d, L[k]? = some d ∧ ccmp d c = 0 := by
 unfold fnd at hf
 cases hd : L[k]? with
 | none => rw [hd] at hf; cases hf
 | some d => rw [hd] at hf; exact ⟨d, rfl, by simpa using hf⟩
structure MemZ (w : World) (b : Nat) (v : Value) (L : List Cl) (z : Int) : Prop where
 h : w.heap[b]? = some (.cells #[v, .int .i64 z] 55 (0, 0))
 own : OwL w 0 v L
 ne : v.ownBlock ≠ some b
section
variable {w w' : World} {b : Nat} {v : Value} {L : List Cl} {z : Int}
theorem MemV.toZ (h : MemV w b v L) : MemZ w b v L (szs L) := ⟨h.h, h.own, h.ne⟩
theorem MemZ.toV (h : MemZ w b v L z) (e : z = szs L) : MemV w b v L := ⟨e ▸ h.h, h.own, h.ne⟩
theorem MemZ.c0 (h : MemZ w b v L z) : w.cell? ⟨b, 0, none⟩ = some v := cell_of_row _ _ 0 _ _ _ h.h
theorem MemZ.c1 (h : MemZ w b v L z) : w.cell? ⟨b, 1, none⟩ = some (.int .i64 z) := cell_of_row _ _ 1 _ _ _ h.h
theorem MemZ.f0 (h : MemZ w b v L z) : w.frozen? ⟨b, 0, none⟩ = false := frozen_of_row _ _ _ _ _ h.h
theorem MemZ.f1 (h : MemZ w b v L z) : w.frozen? ⟨b, 1, none⟩ = false := frozen_of_row _ _ _ _ _ h.h
theorem MemZ.lt (h : MemZ w b v L z) : b < w.heap.size := (Array.getElem?_eq_some_iff.1 h.h).1
theorem MemZ.up (h : MemZ w b v L z) (hb : Below w.heap.size w w') : MemZ w' b v L z := ⟨(hb.block b h.lt).trans h.h, h.own.below hb, h.ne⟩
theorem grown_set (w : World) (b k : Nat) (u : Value) : w.grownBy (w.setCell ⟨b, k, none⟩ u) (some b) :=
 ⟨rfl, rfl, rfl, by simp [World.setCell], fun i _ hn => Below.heap_setCell _ _ _ _ fun e => hn (by rw [e])⟩
theorem OwL.kept {B : Nat} {row : Option Nat} (h : OwL w B v L) (hg : w.grownBy w' row) (hne : v.ownBlock ≠ none → v.ownBlock ≠ row) : OwL w' B v L :=
 World.ownsRow.kept h hg (by
  cases e : v.ownBlock with
  | none => exact .inl rfl
  | some k => exact .inr (by rw [← e]; exact hne (by rw [e]; simp)))
theorem MemZ.set1 (h : MemZ w b v L z) (y : Int) : MemZ (w.setCell ⟨b, 1, none⟩ (.int .i64 y)) b v L y :=
 ⟨(heap_setCell_same w b 1 _ _ (.int .i64 y) h.h).trans rfl, h.own.kept (grown_set _ _ _ _) fun _ => h.ne, h.ne⟩
end
structure PutM (w : World) (S0 : List Nat) (b g : Nat) (c : Cl) (v : Value) (L : List Cl) (z : Int) (w' : World) : Prop where
 m : MemZ w' b v L z
 i : InC g c w'
 kp : Kp S0 w w'
 bS : b ∈ S0
 gb : g ≠ b
 gv : v.ownBlock ≠ some g
 all : ∀ k ∈ blks b v, k ∈ S0 ∨ w.heap.size ≤ k
section
variable {w x y : World} {S0 : List Nat} {b g : Nat} {c : Cl} {v : Value} {L : List Cl} {z : Int}
theorem PutM.up (h : PutM w S0 b g c v L z x) (hb : Below x.heap.size x y) : PutM w S0 b g c v L z y := ⟨h.m.up hb, h.i.up hb, h.kp.bel hb, h.bS, h.gb, h.gv, h.all⟩
theorem PutM.drew (h : PutM w S0 b g c v L z x) : PutM w S0 b g c v L z x.drew := h.up (Below.refl _ _).drew
theorem PutM.set1 (h : PutM w S0 b g c v L z x) (t : Int) : PutM w S0 b g c v L t (x.setCell ⟨b, 1, none⟩ (.int .i64 t)) :=
 ⟨h.m.set1 t, ⟨(Below.heap_setCell x ⟨b, 1, none⟩ _ g (by simpa using h.gb)).trans h.i.h⟩, h.kp.trans (Kp.set x (S := S0) (p := ⟨b, 1, none⟩) h.bS _) (fun _ h => .inl h), h.bS, h.gb, h.gv, h.all⟩
def ZC (b : Nat) (z : Int) (g : Nat) (c : Cl) (w0 w' : World) : Prop :=
 w'.cell? ⟨b, 1, none⟩ = some (.int .i64 z) ∧ w'.frozen? ⟨b, 1, none⟩ = false ∧ w'.cell? ⟨g, 0, none⟩ = some (.string c.row) ∧ w'.cell? ⟨g, 1, none⟩ = some (.string c.col) ∧ w'.cell? ⟨g, 2, none⟩ = some (.int .i64 c.at_) ∧ w'.cell? ⟨g, 3, none⟩ = some (.string c.val) ∧ w'.cell? ⟨g, 4, none⟩ = some (.bool c.gone) ∧ Below w0.heap.size w0 w'
theorem ZC.of (h : PutM w S0 b g c v L z x) (hb : Below x.heap.size x y) : ZC b z g c x y :=
 let q := h.up hb; let p := q.i; ⟨q.m.c1, q.m.f1, p.c0, p.c1, p.c2, p.c3, p.c4, hb⟩
end
end Go.Proofs.YtcpkhhbbjimdaaaGreatDoor.Ce
