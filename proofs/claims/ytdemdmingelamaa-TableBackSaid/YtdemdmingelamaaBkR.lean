/- The contract of the reference's Cut of layer 10. The contract of the reference's Put of layer 10. -/
import Derived.Test.YtdemdmingelamaaBkP
import Derived.Test.YtdemdmingelamaaCsA
import Derived.Test.YtdemdmingelamaaCrA
import Derived.Test.YtdemdmingelamaaFrmRQ
namespace Go.Proofs.Ytdemdmingelamaa.Ce
open Go.RowKit

/-- the blocks that are made, and the one that is being made -/
structure CutR (w0 w : World) (v : Value) (vs : List Value) (LL : List (List Cl)) (u : Value) (now : List Cl) : Prop where
  b : OwB w w0.heap.size v vs LL
  n : OwL w w0.heap.size u now
  ap : ∀ (j : Nat) (x : Value), vs[j]? = some x → ∀ k, x.ownBlock = some k → u.ownBlock ≠ some k
  bel : Below w0.heap.size w0 w
section
variable {w0 w w' : World} {v u v' u' : Value} {vs : List Value} {LL : List (List Cl)} {now now' : List Cl}
theorem CutR.up (h : CutR w0 w v vs LL u now) (hb : Below w.heap.size w w') : CutR w0 w' v vs LL u now := ⟨h.b.below hb, h.n.below hb, h.ap, bwtrans h.bel hb (Nat.le_refl _)⟩
theorem CutR.fresh (h : CutR w0 w v vs LL u now) : CutR w0 w v vs LL (.slice none 0 0) [] := ⟨h.b, OwL.nil _ _, (fun _ _ _ _ _ h => by cases h), h.bel⟩
theorem OwB.rowAt (h : OwB w w0.heap.size v vs LL) {j : Nat} {x : Value} (hj : vs[j]? = some x) : ∃ L, LL[j]? = some L ∧ OwL w w0.heap.size x L := by
  have hl := (List.getElem?_eq_some_iff.1 hj).1
  have hL : LL[j]? = some (LL[j]'(by rw [← h.len]; exact hl)) := List.getElem?_eq_getElem _
  exact ⟨_, hL, h.row j x _ hj hL⟩
/-- what is being made has grown -/
theorem CutR.app (h : CutR w0 w v vs LL u now) (ho : OwL w' w0.heap.size u' now') (hg : w.grownBy w' u.ownBlock) (h3 : u'.ownBlock = u.ownBlock ∨ u'.ownBlock = some w.heap.size) : CutR w0 w' v vs LL u' now' := by
  refine ⟨⟨h.b.out.kept hg (fun k hk e => ow_apart h.b.out h.n k e hk), h.b.len, fun j x L hx hL => (h.b.row j x L hx hL).keptR hg (h.ap j x hx)⟩, ho, fun j x hx k hk e => ?_, h.bel.grown hg h.bel.size fun k hk => (h.n.lt k hk).1⟩
  rcases h3 with h3 | h3
  · exact h.ap j x hx k hk (h3 ▸ e)
  · rw [h3] at e
    injection e with e
    obtain ⟨L, -, hr⟩ := h.b.rowAt hx
    have := (hr.lt k hk).2
    omega
theorem CutR.push (h : CutR w0 w v vs LL u now) (hb : OwB w' w0.heap.size v' (vs ++ [u]) (LL ++ [now])) (hg : w.grownBy w' v.ownBlock) : CutR w0 w' v' (vs ++ [u]) (LL ++ [now]) (.slice none 0 0) [] :=
  ⟨hb, OwL.nil _ _, (fun _ _ _ _ _ h => by cases h), h.bel.grown hg h.bel.size h.b.out.ge⟩
end
set_option maxHeartbeats 4000000 in
set_option maxRecDepth 100000 in
theorem rbcut_ok (v : Value) (L : List Cl) (size : Int) (w : World) (hv : RdL w [] v L) (hok : ∀ c ∈ L, c.ok) (hl : L.length ≤ 1000000) :
    Calls Try.prog 20 #[v, .int .i64 size] w fun e w' => (∃ x vs, e = .returned x ∧ OwB w' w.heap.size x vs (cutB size L)) ∧ Below w.heap.size w w' := by
  obtain ⟨A, cp, rfl, hc, hm⟩ := hv.shape
  unfold maxLen at hm
  have HV := Lib.hid hv
  have HOK := Lib.hid hok
  clear hv hok
  go_enter Try.func20, Try.ntmps20
  go_wp2_with fail
  go_loopw [5, 6, 7, 8] (fun p u n i wr => ∃ (k m : Nat) (LL : List (List Cl)) (vs : List Value) (now : List Cl), k ≤ L.length ∧ i = .int .i64 (k : Int) ∧ n = .int .i64 (m : Int) ∧ m ≤ 401 * k ∧ Hid (CutR w wr p vs LL u now) ∧ Hid (LL ++ cutG size (L.drop k) m now = cutB size L ∧ LL.length ≤ k ∧ now.length ≤ k ∧ (k = L.length → now = []))) (fun _ _ _ i _ => L.length - (intOf i).toNat)
  case atStart => exact ⟨0, 0, [], [], [], by omega, rfl, rfl, by omega, Lib.hid ⟨OwB.nil _ _, OwL.nil _ _, fun _ _ h => by simp at h, Below.refl _ _⟩, Lib.hid ⟨rfl, by simp, by simp, fun _ => rfl⟩⟩
  case round =>
    obtain ⟨k, m, LL, vs, now, hk, rfl, rfl, hm4, HC, HG⟩ := hrel
    by_cases hlt : k < L.length
    · obtain ⟨b, off, rfl, -, -⟩ := HV.out.open_ (by omega)
      have hh3 : (0 : Int) ≤ (k : Int) := by omega
      have hh4 : (k : Int) < (L.length : Int) := by omega
      have hfk : L[k]? = some (L[k]'hlt) := List.getElem?_eq_getElem _
      generalize L[k]'hlt = f at hfk
      have hat := fun wz (hz : Below w.heap.size w wz) => (HV.out.bel hz).at_ hfk
      have HAT := Lib.hid hat
      have hok := HOK.out f (List.mem_of_getElem? hfk)
      have hcl := cellB_le hok
      have hpu := fun w => rput_ok f w hok
      have HFK := Lib.hid hfk
      obtain ⟨⟨c0, c1, c2, c3, c4⟩, -⟩ := HAT.out wr HC.out.bel
      have bA := bwalloc (bwrefl wr) (.cells #[.string f.row, .string f.col, .int .i64 f.at_, .string f.val, .bool f.gone] 42)
      have hx1 := RdL.one wr [] f (by simp) 42
      have hc1 := HC.out.up bA
      have HC1 := Lib.hid hc1
      have ho1 := hc1.n
      have hB1 := hc1.bel.size
      have hlA : now.length + [f].length ≤ 2199023255552 := by have := HG.out.2.2.1; simp; omega
      clear hfk hat hok bA hc1
      go_wp2_with (at_builtin; refine wpList_appL rfl (.tmp 15) (.tmp 20) rfl rfl ho1 rfl hx1 hlA hB1 ?_; intro v5 w5 ho5 hg5 h5; have HC5 := Lib.hid (HC1.out.app ho5 hg5 h5); obtain ⟨⟨c0, c1, c2, c3, c4⟩, -⟩ := HAT.out w5 HC5.out.bel; clear ho5 hg5 h5 ho1 hx1 HC1)
      refine (hpu _).mono ?_
      rintro e w6 ⟨⟨x, rfl, hx⟩, hb6⟩
      obtain ⟨Ax, cx, rfl, -, -⟩ := hx.rd.shapeM
      have HC6 := Lib.hid (HC5.out.up hb6)
      clear hx hb6 hpu HC5 c0 c1 c2 c3 c4 hh3
      obtain ⟨nf, hnf⟩ : ∃ nf, nf = (cellB f).length := ⟨_, rfl⟩
      rw [← hnf] at hcl
      rw [← hnf]
      have HNF := Lib.hid hnf
      clear hnf
      by_cases hge : size ≤ (m : Int) + (nf : Int)
      · have hgb : decide (size ≤ (m : Int) + (nf : Int)) = true := decide_eq_true hge
        have HFU := Lib.hid (cutG_full (n := m) (now := now) HFK.out (size := size) (by rw [← HNF.out]; omega))
        have HGG : Hid ((LL ++ [now ++ [f]]) ++ cutG size (L.drop (k + 1)) 0 [] = cutB size L ∧ (LL ++ [now ++ [f]]).length ≤ k + 1 ∧ ([] : List Cl).length ≤ k + 1 ∧ (k + 1 = L.length → ([] : List Cl) = [])) := Lib.hid (by
          refine ⟨?_, by have := HG.out.2.1; rw [List.length_append, List.length_singleton]; omega, by simp, fun _ => rfl⟩
          rw [← HG.out.1, HFU.out, List.append_assoc, List.singleton_append])
        clear hge
        have hn5 := (HC6.out.n.rd (S := []) (fun _ h => by cases h)).shape
        obtain ⟨An, cn, rfl, -, -⟩ := hn5
        have bA := bwalloc (bwrefl w6) (.cells #[.slice An (now ++ [f]).length cn] 22)
        have hC7 := HC6.out.up bA
        have hob := hC7.b
        have hou := hC7.n
        have HC7 := Lib.hid hC7
        have hrd : Rd (w6.alloc (.cells #[.slice An (now ++ [f]).length cn] 22)) _ (.slice (some ⟨w6.heap.size, 0, none⟩) 1 1) [.slice An (now ++ [f]).length cn] := Rd.newW w6 22 #[.slice An (now ++ [f]).length cn] rfl (by simp [maxLen]) rfl
        have hsz9 := hC7.bel.size
        have hll : LL.length ≤ 1000000000 := by have := HG.out.2.1; omega
        clear hC7 bA
        generalize (now ++ [f]).length = nl at *
        go_wp2_with (at_builtin; refine wpList_pushB rfl (.tmp 40) (.tmp 42) rfl rfl hob hou rfl hrd hll hsz9 ?_; intro v7 w7 ho7 hg7; have HC8 := Lib.hid (HC7.out.push ho7 hg7); clear ho7 hg7 hob hou hrd hsz9)
        go_roundw
        case rel => exact ⟨k + 1, 0, LL ++ [now ++ [f]], _, [], by omega, by go_num, rfl, by omega, HC8, Lib.hid ⟨HGG.out.1, HGG.out.2.1, by simp, fun _ => rfl⟩⟩
        case measure => simp [intOf]; omega
      · have hgb : decide (size ≤ (m : Int) + (nf : Int)) = false := decide_eq_false hge
        have HFU := Lib.hid (cutG_more (n := m) (now := now) HFK.out (size := size) (by rw [← HNF.out]; omega))
        by_cases hlast : k + 1 = L.length
        · have hlb : (((k : Int) + 1) == (L.length : Int)) = true := by rw [beq_iff_eq]; omega
          have HGG : Hid ((LL ++ [now ++ [f]]) ++ cutG size (L.drop (k + 1)) 0 [] = cutB size L ∧ (LL ++ [now ++ [f]]).length ≤ k + 1 ∧ ([] : List Cl).length ≤ k + 1 ∧ (k + 1 = L.length → ([] : List Cl) = [])) := Lib.hid (by
            refine ⟨?_, by have := HG.out.2.1; rw [List.length_append, List.length_singleton]; omega, by simp, fun _ => rfl⟩
            rw [cutG_nil (k := k + 1) (L := L) (by omega), List.append_nil, ← HG.out.1, HFU.out, cutG_end (by omega) (by simp)])
          have HLA := Lib.hid hlast
          clear hge hlast
          have hn5 := (HC6.out.n.rd (S := []) (fun _ h => by cases h)).shape
          obtain ⟨An, cn, rfl, -, -⟩ := hn5
          have bA := bwalloc (bwrefl w6) (.cells #[.slice An (now ++ [f]).length cn] 22)
          have hC7 := HC6.out.up bA
          have hob := hC7.b
          have hou := hC7.n
          have HC7 := Lib.hid hC7
          have hrd : Rd (w6.alloc (.cells #[.slice An (now ++ [f]).length cn] 22)) _ (.slice (some ⟨w6.heap.size, 0, none⟩) 1 1) [.slice An (now ++ [f]).length cn] := Rd.newW w6 22 #[.slice An (now ++ [f]).length cn] rfl (by simp [maxLen]) rfl
          have hsz9 := hC7.bel.size
          have hll : LL.length ≤ 1000000000 := by have := HG.out.2.1; omega
          clear hC7 bA
          generalize (now ++ [f]).length = nl at *
          go_wp2_with (at_builtin; refine wpList_pushB rfl (.tmp 40) (.tmp 42) rfl rfl hob hou rfl hrd hll hsz9 ?_; intro v7 w7 ho7 hg7; have HC8 := Lib.hid (HC7.out.push ho7 hg7); clear ho7 hg7 hob hou hrd hsz9)
          go_roundw
          case rel => exact ⟨k + 1, 0, LL ++ [now ++ [f]], _, [], by omega, by go_num, rfl, by omega, HC8, Lib.hid ⟨HGG.out.1, HGG.out.2.1, by simp, fun _ => rfl⟩⟩
          case measure => simp [intOf]; omega
        · have hlb : (((k : Int) + 1) == (L.length : Int)) = false := beq_false_of_ne (by omega)
          have HGG : Hid (LL ++ cutG size (L.drop (k + 1)) (m + nf) (now ++ [f]) = cutB size L ∧ LL.length ≤ k + 1 ∧ (now ++ [f]).length ≤ k + 1 ∧ (k + 1 = L.length → now ++ [f] = [])) := Lib.hid (by
            refine ⟨?_, by have := HG.out.2.1; omega, by have := HG.out.2.2.1; rw [List.length_append, List.length_singleton]; omega, fun e => absurd e hlast⟩
            rw [← HG.out.1, HFU.out, HNF.out])
          clear hge hlast
          go_wp2_with fail
          go_roundw
          case rel => exact ⟨k + 1, m + nf, LL, vs, now ++ [f], by omega, by go_num, by go_num, by omega, HC6, HGG⟩
          case measure => simp [intOf]; omega
    · obtain rfl : k = L.length := by omega
      have HF : Hid (LL = cutB size L) := Lib.hid (by
        have := HG.out.1
        rwa [HG.out.2.2.2 rfl, cutG_nil (Nat.le_refl _), List.append_nil] at this)
      go_wp2_with fail
      go_ret
      exact ⟨⟨_, rfl, vs, by rw [← HF.out]; exact HC.out.b⟩, HC.out.bel⟩
end Go.Proofs.Ytdemdmingelamaa.Ce

namespace Go.Proofs.Ytdemdmingelamaa.Ce
open Go.RowKit Frm

set_option maxHeartbeats 2000000 in
set_option maxRecDepth 100000 in
theorem rbput_ok (v : Value) (L : List Cl) (w : World) (hv : RdL w [] v L) (hok : ∀ c ∈ L, c.ok) (hl : (recB L).length ≤ 65535) :
    Calls Try.prog 40 #[v] w fun e w' => (∃ x, e = .returned x ∧ Ow w' w.heap.size 5 x ((blkB L).map bv)) ∧ Below w.heap.size w w' := by
  obtain ⟨A, cp, rfl, hc, hm⟩ := hv.shape
  unfold maxLen at hm
  have hge := flatC_ge hok
  have hrl := recB_len L
  have hln : L.length ≤ 65535 := by omega
  have HOK := Lib.hid hok
  have HV := Lib.hid hv
  have HL := Lib.hid hl
  clear hv hok hl hge hrl
  go_enter Try.func40, Try.ntmps40
  go_wp2_with fail
  refine (rnum_ok _ _ (by omega)).mono ?_
  rintro e w2 ⟨q, rfl, hq, hb2⟩
  have HB2 := Lib.hid hb2
  have HQ := Lib.hid hq
  clear hq hb2
  go_wp2_with fail
  go_loopw [3, 4] (fun p i wr => ∃ k : Nat, k ≤ L.length ∧ i = .int .i64 (k : Int) ∧ Ow wr w.heap.size 5 p ((numB L.length ++ flatC (L.take k)).map bv) ∧ Below w.heap.size w wr) (fun _ i _ => L.length - (intOf i).toNat)
  case atStart => exact ⟨0, by omega, rfl, by simpa [flatC] using HQ.out, HB2.out⟩
  case round =>
    obtain ⟨k, hk, rfl, ho, hbe⟩ := hrel
    have HBE := Lib.hid hbe
    have HO := Lib.hid ho
    clear ho
    by_cases hlt : k < L.length
    · obtain ⟨b, off, rfl, -, -⟩ := HV.out.open_ (by omega)
      have hh3 : (0 : Int) ≤ (k : Int) := by omega
      have hh4 : (k : Int) < (L.length : Int) := by omega
      have hfk : L[k]? = some (L[k]'hlt) := List.getElem?_eq_getElem _
      generalize L[k]'hlt = f at hfk
      obtain ⟨h5, hbl⟩ := (HV.out.bel hbe).at_ hfk
      have HSN := Lib.hid (flatC_snoc hfk)
      have hok := HOK.out f (List.mem_of_getElem? hfk)
      have hcl := cellB_le hok
      have hpu := fun w => rput_ok f w hok
      have hft := flatC_le (L := L.take k) fun c hc => HOK.out c (List.mem_of_mem_take hc)
      rw [List.length_take] at hft
      have hsz : (numB L.length ++ flatC (L.take k)).length + (cellB f).length ≤ 140737488355328 := by
        rw [List.length_append, numB_len]
        have : min k L.length ≤ 65535 := by omega
        omega
      have HSZ := Lib.hid hsz
      obtain ⟨c0, c1, c2, c3, c4⟩ := h5
      clear hfk hbe hok hcl hft hsz hbl
      go_wp2_with fail
      refine (hpu _).mono ?_
      rintro e w5 ⟨⟨x, rfl, hx⟩, hb5⟩
      have hbe := bwtrans HBE.out hb5 (Nat.le_refl _)
      have ho5 := HO.out.below hb5
      have hxr := hx.rd
      have hsz := HSZ.out
      have hB5 := hbe.size
      clear hx hb5 hpu c0 c1 c2 c3 c4
      go_wp2_with (at_builtin; refine wpList_appB bytesT rfl (.tmp 14) (.tmp 19) rfl rfl ho5 rfl hxr hsz hB5 ?_; intro v6 w6 ho6 hg6 _; have HO6 := Lib.hid ho6; have HBE6 := Lib.hid (hbe.grown hg6 hB5 ho5.ge); clear ho6 hg6)
      go_roundw
      case rel => exact ⟨k + 1, by omega, by go_num, by rw [HSN.out, ← List.append_assoc]; exact HO6.out, HBE6.out⟩
      case measure => simp [intOf]; omega
    · obtain rfl : k = L.length := by omega
      have ho9 := HO.out
      rw [List.take_length] at ho9
      have hfp := rfput_ok _ (recB L) wr ho9.rd HL.out
      clear ho9 hbe
      go_wp2_with fail
      refine hfp.mono ?_
      rintro e w6 ⟨⟨z, rfl, hz⟩, hb6⟩
      have HZ := Lib.hid (hz.mono HBE.out.size)
      have HB6 := Lib.hid (bwstep HBE.out hb6)
      clear hz hb6 hfp
      go_wp2_with fail
      go_ret
      exact ⟨⟨_, rfl, HZ.out⟩, HB6.out⟩
end Go.Proofs.Ytdemdmingelamaa.Ce
