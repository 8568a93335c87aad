/- The contract of slices.Insert, of one cell into a slice of cells that the call owns. -/
import Derived.Test.YtffkbepcdidnjaaIns
namespace Go.Proofs.Ytffkbepcdidnjaa.Ce
open Go.RowKit

/-- what the two copies leave in a new row -/
theorem cpd_new {cur : Array Value} {L : List Cl} {f : Cl} {i cap : Nat} (hi : i ≤ L.length) (hc : L.length + 1 ≤ cap) (hcs : cur.size = cap * 5) (ht : cur.toList.take (i * 5) = flat5 (L.take i)) :
    (cpd (cpd cur (i * 5) [f]) ((i + 1) * 5) (L.drop i)).size = cap * 5 ∧ (cpd (cpd cur (i * 5) [f]) ((i + 1) * 5) (L.drop i)).toList.take ((L.length + 1) * 5) = flat5 (ins i f L) := by
  have hl : cur.toList.length = cap * 5 := by simpa using hcs
  generalize hxs : cur.toList = xs at *
  have hd : (flat5 (L.drop i)).length = (L.length - i) * 5 := by rw [flat5_len]; simp
  have hta : (flat5 (L.take i)).length = i * 5 := by rw [flat5_len]; simp; omega
  have h5 : (flat5 [f]).length = 5 := rfl
  have e1 : (cpd cur (i * 5) [f]).toList = flat5 (L.take i) ++ flat5 [f] ++ xs.drop (i * 5 + [f].length * 5) := by unfold cpd; rw [hxs, ht]
  have e2 : (cpd (cpd cur (i * 5) [f]) ((i + 1) * 5) (L.drop i)).toList = flat5 (L.take i) ++ flat5 [f] ++ flat5 (L.drop i) ++ (cpd cur (i * 5) [f]).toList.drop ((i + 1) * 5 + (L.drop i).length * 5) := by
    rw [show (cpd (cpd cur (i * 5) [f]) ((i + 1) * 5) (L.drop i)).toList = (cpd cur (i * 5) [f]).toList.take ((i + 1) * 5) ++ flat5 (L.drop i) ++ (cpd cur (i * 5) [f]).toList.drop ((i + 1) * 5 + (L.drop i).length * 5) from rfl]
    congr 2
    rw [e1, List.take_append_of_le_length (by simp only [List.length_append, hta, h5]; omega), List.take_of_length_le (by simp only [List.length_append, hta, h5]; omega)]
  refine ⟨?_, ?_⟩
  · have h1 := congrArg List.length e1
    have := congrArg List.length e2
    rw [Array.length_toList] at this
    rw [this]
    simp only [List.length_append, hd, h5, hta, List.length_drop, h1, List.length_singleton]
    omega
  · rw [e2, flat5_ins, ← List.append_assoc, List.take_append_of_le_length, List.take_of_length_le]
    · simp only [List.length_append, hd, h5, hta]
      omega
    · simp only [List.length_append, hd, h5, hta]
      omega
/-- what Insert leaves -/
def InsEnd (w : World) (B : Nat) (ob : Option Nat) (L : List Cl) (e : Ending) (w' : World) : Prop :=
  ∃ v', e = .returned v' ∧ OwL w' B v' L ∧ w.grownBy w' ob ∧ (v'.ownBlock = ob ∨ v'.ownBlock = some w.heap.size)
theorem sizeFive (w : World) : (Go.sizeOf 29).run Try.prog w = .ok 5 w := by
  obtain ⟨i, hi, hi0, hi1, hi2⟩ := info_parts cellInfo
  simp [sizeOf, typeInfo, hi, hi1]
theorem over_no (w : World) (g vb o la ca lb cb : Nat) (cur : Array Value) (f : Cl) (hg : w.heap[g]? = some (.cells cur 29 (0, 0))) (hz : 0 < cur.size) (hf : InC vb f w) (hne : vb ≠ g) :
    (callFunc 39 #[.slice (some ⟨vb, 0, none⟩) la ca, .slice (some ⟨g, o, none⟩) lb cb]).run Try.prog w = .ok (.value (.bool false)) w := by
  rw [run_callFunc_extern Try.func39 (by kernel_rfl) (by kernel_rfl) (by kernel_rfl) (e := Extern.SlicesOverlaps.overlaps #[22, 22] #[4]) (by kernel_rfl),
    Lib.run_overlaps_apart w 22 4 29 Try.underlying22 5 sizeFive ⟨vb, 0, none⟩ ⟨g, o, none⟩ la ca lb cb hne 29 29 f.cs.size cur.size (by simp [World.shape?, hf.h]) (by simp [World.shape?, hg]) (by omega) (by simp [World.frozen?, hf.h]) (by simp [World.frozen?, hf.h])]
  rfl
theorem one_at {vb : Nat} {f : Cl} {w : World} (hf : InC vb f w) : ∀ j v, (flat5 [f])[j]? = some v → w.cell? ((⟨vb, 0, none⟩ : Addr).add j) = some v := fun j v hj => hf.all j v hj
theorem RdL.oneB {vb : Nat} {f : Cl} {w : World} (hf : InC vb f w) : RdL w [] (.slice (some ⟨vb, 0, none⟩) 1 1) [f] := by
  refine ⟨_, _, rfl, Nat.le_refl _, by simp [maxLen], fun _ => ⟨vb, 0, rfl, hf.lt, by simp, fun i u hu => ?_⟩⟩
  have := one_at hf i u hu
  rwa [Addr.add_lit] at this
set_option maxHeartbeats 4000000 in
set_option maxRecDepth 100000 in
theorem insert_end (v : Value) (L : List Cl) (f : Cl) (vb B : Nat) (w : World) (ob : Option Nat) (hob : v.ownBlock = ob) (ho : OwL w B v L) (hf : InC vb f w) (hB : B ≤ w.heap.size) (hL : L.length < 2199023255552) :
    Calls Try.prog 28 #[v, .int .i64 (L.length : Int), .slice (some ⟨vb, 0, none⟩) 1 1] w (InsEnd w B ob (L ++ [f])) := by
  obtain ⟨A, c, rfl, hc, hm⟩ := (ho.rd (S := []) (fun _ h => by cases h)).shape
  unfold maxLen at hm
  have HO := Lib.hid ho
  have HOB := Lib.hid hob
  have HF := Lib.hid hf
  have hn0 : (0 : Int) ≤ (L.length : Int) := by omega
  have hn1 : (L.length : Int) ≤ (c : Int) := by omega
  clear ho hf hob
  go_enter Try.func28, Try.ntmps28
  go_wp2_with (at_builtin; refine wpList_appL (v := .slice A L.length c) rfl (.tmp 23) (.tmp 24) rfl rfl HO.out rfl (RdL.oneB HF.out) (by simp; omega) hB ?_; intro v1 w1 h1 h2 h3; rw [HOB.out] at h2 h3)
  all_goals
    go_ret
    exact ⟨_, rfl, h1, h2, h3⟩
set_option maxHeartbeats 4000000 in
set_option maxRecDepth 100000 in
theorem insert_room (g i c : Nat) (cur : Array Value) (L : List Cl) (f : Cl) (vb B : Nat) (w : World) (hg : w.heap[g]? = some (.cells cur 29 (0, 0))) (hBg : B ≤ g) (hi : i < L.length) (hroom : L.length + 1 ≤ c) (hm : c ≤ maxLen) (hcs : cur.size = c * 5) (ht : cur.toList.take (L.length * 5) = flat5 L)
    (hf : InC vb f w) (hne : vb ≠ g) :
    Calls Try.prog 28 #[.slice (some ⟨g, 0, none⟩) L.length c, .int .i64 (i : Int), .slice (some ⟨vb, 0, none⟩) 1 1] w (InsEnd w B (some g) (ins i f L)) := by
  have hm63 : c ≤ 2 ^ 63 - 1 := hm
  have HG := Lib.hid hg
  have HF := Lib.hid hf
  have HOV := Lib.hid (fun o la ca lb cb => over_no w g vb o la ca lb cb cur f hg (by omega) hf hne)
  have HP := Lib.hid (cpd_room (f := f) (Nat.le_of_lt hi) hroom hcs ht)
  have HX : Hid (∀ j v, (flat5 (L.drop i))[j]? = some v → w.drew.cell? ((⟨g, i * 5, none⟩ : Addr).add j) = some v) := Lib.hid fun j v hj => by
    rw [Addr.add_lit]
    refine (cell_of_row w g (i * 5 + j) cur _ (0, 0) hg).trans ?_
    rw [flat5_drop, List.getElem?_drop, ← ht, List.getElem?_take] at hj
    split at hj
    · simpa using hj
    · cases hj
  have HD : Hid ((L.drop i).length = L.length - i) := Lib.hid (by simp)
  have HS : Hid ((i + 1) * 5 + (L.drop i).length * 5 ≤ cur.size) := Lib.hid (by rw [HD.out]; omega)
  have HCS := Lib.hid hcs
  have HNE := Lib.hid hne
  have hz2 : ¬ ((i : Int) = (L.length : Int)) := by omega
  have hn3 : ¬ ((c : Int) < (L.length : Int) + 1) := by omega
  have hw1 : IntKind.i64.wrap ((i : Int) + 1) = (i : Int) + 1 := by rw [IntKind.wrap_i64]; omega
  have hb1 : (0 : Int) ≤ (i : Int) + 1 := by omega
  have hin : i ≤ L.length := by omega
  have htn : ((i : Int) + 1).toNat = i + 1 := by omega
  have hb2 : ¬ (c = i + 1) := by omega
  have hb3 : (i : Int) ≤ (L.length : Int) + 1 := by omega
  have hb4 : ¬ (c = i) := by omega
  clear hg hf hcs ht hne
  go_enter Try.func28, Try.ntmps28
  go_wp2_with (simp only [HOV.out])
  go_region_law (refine step_copyL (g := g) (o := (i + 1) * 5) (dLen := L.length - i) (dCap := c - (i + 1)) (ad := ⟨g, i * 5, none⟩) (sLen := L.length + 1 - i) (sCap := c - i) rfl (.tmp 73) (.tmp 76) rfl (by simp [Act.eval, Act.put]) (by simp [Act.eval, Act.put]) HG.out (M := L.drop i) (by rw [HD.out]; simp only [Nat.min_def]; split <;> omega) HX.out HS.out ?_; intro w1 ht1)
  have HT1 := Lib.hid ht1
  have HS1 : Hid (i * 5 + [f].length * 5 ≤ (cpd cur ((i + 1) * 5) (L.drop i)).size) := Lib.hid (by rw [cpd_size HS.out, HCS.out]; simp; omega)
  clear ht1
  go_wp2_with (refine wpList_copyL (g := g) (o := i * 5) (dLen := L.length + 1 - i) (dCap := c - i) (ad := ⟨vb, 0, none⟩) (sLen := 1) (sCap := 1) rfl (.tmp 80) (.tmp 81) rfl (by simp [Act.eval]) (by simp [Act.eval]) HT1.out.i (M := [f]) (by simp only [List.length_singleton, Nat.min_def]; split <;> omega) (one_at (HT1.out.other (HF.out.up (Below.refl _ _).drew) HNE.out)) HS1.out ?_; intro w2 ht2)
  go_ret
  exact ⟨_, rfl, ⟨by rw [flat5_len], .inr ⟨g, c, _, by rw [ins_len (Nat.le_of_lt hi)]; rfl, hBg, ht2.i, by rw [ins_len (Nat.le_of_lt hi)]; exact hroom, hm, HP.out.1, by rw [ins_len (Nat.le_of_lt hi)]; exact HP.out.2⟩⟩, HT1.out.grown2 ht2, .inl rfl⟩
set_option maxHeartbeats 4000000 in
set_option maxRecDepth 100000 in
theorem insert_grow (b c i : Nat) (L : List Cl) (f : Cl) (vb B : Nat) (ob : Option Nat) (w : World) (hr : RdL w [] (.slice (some ⟨b, 0, none⟩) L.length c) L) (hB : B ≤ w.heap.size) (hi : i < L.length) (hnc : L.length ≤ c) (hroom : c < L.length + 1) (hL : L.length < 2199023255552)
    (hf : InC vb f w) :
    Calls Try.prog 28 #[.slice (some ⟨b, 0, none⟩) L.length c, .int .i64 (i : Int), .slice (some ⟨vb, 0, none⟩) 1 1] w (InsEnd w B ob (ins i f L)) := by
  obtain rfl : c = L.length := by omega
  obtain ⟨i0, hi0, hz0, hzs, hzb⟩ := info_parts cellInfo
  have hik : i + (L.length + 1 - i) = L.length + 1 := by omega
  obtain ⟨b', off', e, hb, -, hcell⟩ := hr.open_ (by omega)
  simp only [Option.some.injEq, Addr.mk.injEq, and_true] at e
  obtain ⟨rfl, rfl⟩ := e
  have hold : (Builtin.firstCells i0.size i (.slice (some ⟨b, 0, none⟩) i L.length)).run Try.prog w.drew = .ok (flat5 (L.take i)).toArray w.drew := by
    rw [hzs]
    exact run_firstCells_some w.drew 5 i ⟨b, 0, none⟩ i L.length (flat5 (L.take i)) (by rw [flat5_len]; simp; omega) (fun j v hj => by
      rw [Addr.add_lit]
      rw [flat5_take, List.getElem?_take] at hj
      split at hj
      · exact hcell j v hj
      · cases hj)
  obtain ⟨G, hG⟩ : ∃ G, G = grownCap w (L.length + 1) L.length 29 := ⟨_, rfl⟩
  have hGn : L.length + 1 ≤ G := by rw [hG]; exact grownCap_ge w _ _ _
  have hGm : G ≤ maxLen := by rw [hG]; exact grownCap_le_maxLen w _ _ _ (by unfold maxLen; omega)
  obtain ⟨ROW, hROW⟩ : ∃ ROW : Array Value, ROW = (flat5 (L.take i)).toArray ++ Builtin.zeroCells (Value.agg Cl.zero.cs).cells (L.length + 1 - i) ++ Builtin.zeroCells (Value.agg Cl.zero.cs).cells (G - (L.length + 1)) := ⟨_, rfl⟩
  have hkk : (L.length : Int) + 1 - (i : Int) = ((L.length + 1 - i : Nat) : Int) := by omega
  have hrz : ∀ ty, (Builtin.append_ #[22, 3] ty #[.slice (some ⟨b, 0, none⟩) i L.length, .int .i64 ((L.length : Int) + 1 - (i : Int))]).run Try.prog w = .ok (.slice (some ⟨w.heap.size, 0, none⟩) (L.length + 1) G) (w.drew.alloc (.cells ROW 29)) := fun ty => by
    have h := Lib.run_append_grow_zeros w 22 3 ty 29 i0 _ .i64 .i64 Try.underlying22 Try.underlying3 hi0 hz0 (some ⟨b, 0, none⟩) i L.length (flat5 (L.take i)) hold (L.length + 1 - i) (by omega) (by omega) (by omega) (by omega) (by rw [hzb]; omega) (by rw [hzb, hik]; exact growslice_fits hroom (by omega))
    rw [hik] at h
    rw [hkk, hROW, hG]
    exact h
  have hta : (flat5 (L.take i)).length = i * 5 := by rw [flat5_len]; simp; omega
  have hzc : (Value.agg Cl.zero.cs).cells.size = 5 := rfl
  have hRs : ROW.size = G * 5 := by
    rw [hROW]
    simp only [Array.size_append, List.size_toArray, size_zeroCells, hta, hzc]
    omega
  have hRt : ROW.toList.take (i * 5) = flat5 (L.take i) := by
    rw [hROW]
    simp only [Array.toList_append, List.append_assoc]
    rw [List.take_append_of_le_length (by rw [hta]; exact Nat.le_refl _), List.take_of_length_le (by rw [hta]; exact Nat.le_refl _)]
  obtain ⟨W1, hW1⟩ : ∃ W1, W1 = w.drew.alloc (.cells ROW 29) := ⟨_, rfl⟩
  rw [← hW1] at hrz
  have hG1 : W1.heap[w.heap.size]? = some (.cells ROW 29 (0, 0)) := by rw [hW1]; exact heap_alloc_new w.drew _
  have hb1 : Below w.heap.size w W1 := by rw [hW1]; exact bwalloc (Below.refl _ _).drew _
  have HP := Lib.hid (cpd_new (f := f) (Nat.le_of_lt hi) hGn hRs hRt)
  have HF1 := Lib.hid (hf.up hb1)
  have HB1 := Lib.hid hb1
  have HG1 := Lib.hid hG1
  have HX : Hid (∀ W : World, (∀ k, k ≠ w.heap.size → W.heap[k]? = W1.heap[k]?) → ∀ j v, (flat5 (L.drop i))[j]? = some v → W.cell? ((⟨b, i * 5, none⟩ : Addr).add j) = some v) := Lib.hid fun W hW j v hj => by
    rw [Addr.add_lit]
    rw [flat5_drop, List.getElem?_drop] at hj
    have := hcell _ _ hj
    rw [Nat.zero_add] at this
    exact (World.cell?_of_block (w := W1) (a := ⟨b, i * 5 + j, none⟩) (hW b (by omega))).trans ((hb1.cell (p := ⟨b, i * 5 + j, none⟩) hb).trans this)
  have HRZ := Lib.hid hrz
  have HD : Hid ((L.drop i).length = L.length - i) := Lib.hid (by simp)
  have HS1 : Hid (i * 5 + [f].length * 5 ≤ ROW.size) := Lib.hid (by rw [hRs]; simp; omega)
  have HS2 : Hid ((i + 1) * 5 + (L.drop i).length * 5 ≤ (cpd ROW (i * 5) [f]).size) := Lib.hid (by rw [cpd_size HS1.out, hRs, HD.out]; omega)
  have hz2 : ¬ ((i : Int) = (L.length : Int)) := by omega
  have hz3 : (L.length : Int) < (L.length : Int) + 1 := by omega
  have hw1 : IntKind.i64.wrap ((i : Int) + 1) = (i : Int) + 1 := by rw [IntKind.wrap_i64]; omega
  have hbb : (0 : Int) ≤ (i : Int) + 1 := by omega
  have hin : i ≤ L.length := by omega
  have htn : ((i : Int) + 1).toNat = i + 1 := by omega
  have hb3 : (i : Int) ≤ (L.length : Int) := by omega
  have hGi : ¬ (G = i) := by omega
  have hGim : ¬ (G = i + 1) := by omega
  have hci : ¬ (L.length = i) := by omega
  have hG63 : G ≤ 2 ^ 63 - 1 := hGm
  have hne1 : ¬ vb = w.heap.size := by have := hf.lt; omega
  have HNE := Lib.hid hne1
  clear hne1 hrz hr hf hold hcell hG hROW hRs hRt hW1 hG1 hb1 hkk hik hta hzc hi0 hz0 hzs hzb
  go_enter Try.func28, Try.ntmps28
  go_wp2_with (first
    | (at_builtin; refine Lib.wpList_append_run _ rfl (.tmp 34) (.tmp 39) _ _ rfl _ _ rfl rfl _ _ (HRZ.out _) ?_)
    | (refine wpList_copyL (g := w.heap.size) (o := i * 5) (dLen := L.length + 1 - i) (dCap := G - i) (ad := ⟨vb, 0, none⟩) (sLen := 1) (sCap := 1) rfl (.tmp 43) (.tmp 44) rfl (by simp [Act.eval]) (by simp [Act.eval]) HG1.out (M := [f]) (by simp only [List.length_singleton, Nat.min_def]; split <;> omega) (one_at HF1.out) HS1.out ?_; intro w2 ht2))
  have HT2 := Lib.hid ht2
  clear ht2
  go_region_law (refine step_copyL (g := w.heap.size) (o := (i + 1) * 5) (dLen := L.length - i) (dCap := G - (i + 1)) (ad := ⟨b, i * 5, none⟩) (sLen := L.length - i) (sCap := L.length - i) rfl (.tmp 50) (.tmp 53) rfl (by simp [Act.eval, Act.put]) (by simp [Act.eval, Act.put]) HT2.out.i (M := L.drop i) (by rw [HD.out]; simp only [Nat.min_def]; split <;> omega) (HX.out _ HT2.out.o) HS2.out ?_; intro w3 ht3)
  have HT3 := Lib.hid ht3
  clear ht3
  go_wp2_with fail
  go_ret
  have hl := ins_len (f := f) (Nat.le_of_lt hi)
  have hb3 := (HB1.out.trans HT2.out.b).drew.trans (HT3.out.b)
  exact ⟨_, rfl, ⟨by rw [flat5_len], .inr ⟨w.heap.size, G, _, by rw [hl]; rfl, hB, HT3.out.i, by rw [hl]; exact hGn, hGm, HP.out.1, by rw [hl]; exact HP.out.2⟩⟩, ⟨hb3.os, hb3.tape, hb3.output, hb3.size, fun k hk _ => hb3.block k hk⟩, .inr rfl⟩
/-- of whatever slice of the call's own -/
theorem insert_any (v : Value) (L : List Cl) (f : Cl) (vb B i : Nat) (w : World) (ob : Option Nat) (hob : v.ownBlock = ob) (ho : OwL w B v L) (hf : InC vb f w) (hB : B ≤ w.heap.size) (hL : L.length < 2199023255552) (hi : i ≤ L.length) (hne : ob ≠ some vb) :
    Calls Try.prog 28 #[v, .int .i64 (i : Int), .slice (some ⟨vb, 0, none⟩) 1 1] w (InsEnd w B ob (ins i f L)) := by
  by_cases he : i = L.length
  · subst he
    have : ins L.length f L = L ++ [f] := by simp [ins]
    rw [this]
    exact insert_end v L f vb B w ob hob ho hf hB hL
  · have hr := ho.rd (S := []) (fun _ h => by cases h)
    obtain ⟨h1, h2⟩ := ho
    rcases h2 with ⟨_, h2⟩ | ⟨g, c, cur, rfl, hBg, hg, hnc, hm, hcs, ht⟩
    · omega
    · obtain rfl : ob = some g := hob.symm
      by_cases hroom : L.length + 1 ≤ c
      · exact insert_room g i c cur L f vb B w hg hBg (by omega) hroom hm hcs ht hf (fun e => hne (by rw [e]))
      · exact insert_grow g c i L f vb B _ w hr hB (by omega) hnc (by omega) hL hf
end Go.Proofs.Ytffkbepcdidnjaa.Ce
