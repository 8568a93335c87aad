/- The contract of block.Cut. -/
import Derived.Test.YtgcbmdolbmmljaaGreatBkP
import Derived.Test.YtgcbmdolbmmljaaGreatCsA
import Derived.Test.YtgcbmdolbmmljaaGreatCso
import Derived.Test.YtgcbmdolbmmljaaGreatCpA
import Derived.Deep.RegionLaw
namespace Go.Proofs.YtgcbmdolbmmljaaGreat.Ce
open Go.RowKit

set_option maxHeartbeats 1000000 in
set_option maxRecDepth 100000 in
theorem bcut_no (v : Value) (L : List Cl) (size : Int) (w : World) (hv : RdL w [] v L) (hs : ¬ (Sorted L ∧ 1 ≤ size)) (hl : L.length ≤ 1000000000) :
    Calls Tryz.prog 73 #[v, .int .i64 size] w fun e w' => e = .returned (.tuple #[.slice none 0 0, .int .i64 1]) ∧ Below w.heap.size w w' := by
  obtain ⟨A, cp, rfl, hc, hm⟩ := hv.shape
  unfold maxLen at hm
  by_cases h0 : size < 1
  · clear hs hv hc
    go_enter Tryz.func73, Tryz.ntmps73
    go_wp2
    go_step3
    go_wp2
    rw [Exit.noGoto_ret]
    go_ret2
    exact ⟨rfl, Below.refl _ _⟩
  · have hso := sorted_any (.slice A L.length cp) L w hv (by omega)
    rw [sortedB_false (fun h => hs ⟨h, by omega⟩)] at hso
    have hl0 : decide (size < 1) = false := decide_eq_false h0
    clear hs hv h0
    go_enter Tryz.func73, Tryz.ntmps73
    go_wp2
    go_step3
    go_wp2_with fail
    refine hso.mono ?_
    rintro e w1 ⟨rfl, hb1⟩
    have HB1 := Lib.hid hb1
    clear hb1 hso
    go_wp2_with fail
    rw [Exit.noGoto_ret]
    go_ret2
    exact ⟨rfl, HB1.out⟩
def slen0 : Value → Nat
  | .slice _ n _ => n
  | _ => 0
set_option maxHeartbeats 4000000 in
set_option maxRecDepth 100000 in
theorem bcut_ok (v : Value) (L : List Cl) (size : Int) (w : World) (hv : RdL w [] v L) (hs : Sorted L) (h1 : 1 ≤ size) (hl : L.length ≤ 1000000) :
    Calls Tryz.prog 73 #[v, .int .i64 size] w fun e w' => (∃ x vs, e = .returned (.tuple #[x, .int .i64 0]) ∧ OwB w' w.heap.size x vs (cutB size L)) ∧ Below w.heap.size w w' := by
  obtain ⟨A, cp, rfl, hc, hm⟩ := hv.shape
  unfold maxLen at hm
  have hso := sorted_any (.slice A L.length cp) L w hv (by omega)
  rw [sortedB_true hs] at hso
  have hl0 : decide (size < 1) = false := decide_eq_false (by omega)
  have HV := Lib.hid hv
  have HOK := Lib.hid hs.ok
  clear hs hv
  go_enter Tryz.func73, Tryz.ntmps73
  go_wp2
  go_step3
  go_wp2_with fail
  refine hso.mono ?_
  rintro e w1 ⟨rfl, hb1⟩
  have HB1 := Lib.hid hb1
  clear hb1 hso
  go_wp2_with fail
  go_step3
  go_wp2_with fail
  go_loopw [0, 6] (fun l p wr => ∃ (k : Nat) (LL : List (List Cl)) (vs : List Value), k ≤ L.length ∧ RdL w [] l (L.drop k) ∧ OwB wr w.heap.size p vs LL ∧ Hid (LL ++ cutG size (L.drop k) 0 [] = cutB size L ∧ LL.length ≤ k) ∧ Below w.heap.size w wr) (fun l _ _ => slen0 l)
  case atStart => exact ⟨0, [], [], by omega, HV.out, OwB.nil _ _, Lib.hid ⟨rfl, by simp⟩, HB1.out⟩
  case round =>
    obtain ⟨k, LL, vs, hk, hr, ho, HG, hbw⟩ := hrel
    obtain ⟨p0, hp0⟩ : ∃ p0, p0 = u6 := ⟨_, rfl⟩
    subst hp0
    obtain ⟨wo, hwo⟩ : ∃ wo, wo = wr := ⟨_, rfl⟩
    subst hwo
    have HR := Lib.hid hr
    have HO := Lib.hid ho
    have HBW := Lib.hid hbw
    clear hr ho hbw HB1
    obtain ⟨Al, cl, rfl, hcl, hml⟩ := HR.out.shape
    unfold maxLen at hml
    by_cases hlt : k < L.length
    · obtain ⟨b, off, rfl, -, -⟩ := HR.out.open_ (by simp; omega)
      have hdl : (L.drop k).length = L.length - k := by simp
      obtain ⟨M, hM⟩ : ∃ M, M = L.drop k := ⟨_, rfl⟩
      rw [← hM] at hcl hdl
      have HRM : Hid (RdL w [] (.slice (some ⟨b, off, none⟩) M.length cl) M) := Lib.hid (by have := HR.out; rwa [← hM] at this)
      have hsl : (L.drop k).length = M.length := by rw [hM]
      rw [hsl]
      have HMM := Lib.hid hM
      have HOM : Hid (∀ c ∈ M, c.ok) := Lib.hid fun c hc => HOK.out c (List.mem_of_mem_drop (hM ▸ hc))
      have hmp : 0 < M.length := by omega
      have HDL := Lib.hid hdl
      have hML : M.length ≤ 1000000 := by omega
      have hmi : (0 : Int) < (M.length : Int) := by omega
      clear hsl hM HR hdl
      go_wp2_with fail
      go_loopw [0, 6, 7, 22] (fun l p n i wy => ∃ j : Nat, j ≤ M.length ∧ l = .slice (some ⟨b, off, none⟩) M.length cl ∧ p = p0 ∧ i = .int .i64 (j : Int) ∧ n = .int .i64 ((flatC (M.take j)).length : Int) ∧ Hid (cutG size (M.drop j) (flatC (M.take j)).length (M.take j) = cutG size M 0 []) ∧ Below wo.heap.size wo wy) (fun _ _ _ i _ => M.length - (intOf i).toNat)
      case atStart => exact ⟨0, by omega, rfl, rfl, rfl, by simp [flatC], Lib.hid (by simp [flatC]), Below.refl _ _⟩
      case round =>
        obtain ⟨j, hj, rfl, rfl, rfl, rfl, HJ, hbj⟩ := hrel
        have HBJ := Lib.hid hbj
        by_cases hlj : j < M.length
        · have hh3 : (0 : Int) ≤ (j : Int) := by omega
          have hh4 : (j : Int) < (M.length : Int) := by omega
          have hfj : M[j]? = some (M[j]'hlj) := List.getElem?_eq_getElem _
          generalize M[j]'hlj = f at hfj
          obtain ⟨h5, hbl⟩ := (HRM.out.bel (bwtrans HBW.out hbj (Nat.le_refl _))).at_ hfj
          have HSN := Lib.hid (flatC_snoc hfj)
          have HFJ := Lib.hid hfj
          have hok := HOM.out f (List.mem_of_getElem? hfj)
          have hcle := cellB_le hok
          have hpu := fun w => put_ok f w hok
          have hft := flatC_le (L := M.take j) fun c hc => HOM.out c (List.mem_of_mem_take hc)
          rw [List.length_take] at hft
          have hz : (flatC (M.take j)).length ≤ 401 * M.length := by
            have : min j M.length ≤ M.length := Nat.min_le_right _ _
            omega
          obtain ⟨c0, c1, c2, c3, c4⟩ := h5
          clear hfj hbj hok hft hbl
          go_wp2_with (refine allocC rfl rfl ?_)
          constructor
          intro w3 hI3 hb3 hz3
          go_wp2_with (refine storeC (c := f) rfl (.tmp 9) (.tmp 26) rfl rfl rfl hI3 ?_)
          constructor
          intro w4 hs4
          have HI4 := Lib.hid hs4.i
          have HB4 := Lib.hid (bwstep HBJ.out (hs4.bel hb3 (Nat.le_refl _)))
          clear hI3 hb3 hz3 hs4 c0 c1 c2 c3 c4
          go_wp2_with (refine loadC rfl (.tmp 9) rfl rfl HI4.out ?_)
          refine (hpu _).mono ?_
          rintro e w5 ⟨⟨x, rfl, hx⟩, hb5⟩
          obtain ⟨Ax, cx, rfl, -, -⟩ := hx.rd.shapeM
          have HB5 := Lib.hid (bwstep HB4.out hb5)
          clear hx hb5 hpu HB4 HI4
          have HNN := Lib.hid (show (flatC (M.take (j + 1))).length = (flatC (M.take j)).length + (cellB f).length by rw [HSN.out, List.length_append])
          generalize hn0 : (flatC (M.take j)).length = n0 at *
          generalize hnf : (cellB f).length = nf at *
          have hz1 : (cellB f).length = nf := hnf
          have HNF := Lib.hid hnf
          have HN0 := Lib.hid hn0
          clear hn0 hnf hz1
          by_cases hge : size ≤ (n0 : Int) + (nf : Int)
          · have hgb : decide (size ≤ (n0 : Int) + (nf : Int)) = true := decide_eq_true hge
            have HFU := Lib.hid (cutG_full (n := n0) (now := M.take j) HFJ.out (size := size) (by rw [HNF.out]; omega))
            have hw1 := IntWalk.i64_in ((j : Int) + 1) (by omega)
            have hk0 : (0 : Int) ≤ (j : Int) + 1 := by omega
            have hk1 : (j : Int) + 1 ≤ (M.length : Int) := by omega
            have hk2 : (M.length : Int) ≤ (cl : Int) := by omega
            have hk3 : (j : Int) + 1 ≤ (cl : Int) := by omega
            have hk4 : ((j : Int) + 1).toNat = j + 1 := by omega
            have hj1 : j + 1 ≤ M.length := by omega
            have HTO : Hid (∀ wz, Below w.heap.size w wz → RdL wz [] (.slice (some ⟨b, off, none⟩) (j + 1) cl) (M.take (j + 1))) := Lib.hid fun wz hz => (HRM.out.bel hz).to_ hj1
            have HTL : Hid ((M.take (j + 1)).length = j + 1 ∧ (M.take (j + 1)).length ≤ 1000000 ∧ LL.length ≤ 1000000000) := Lib.hid (by have := HG.out.2; rw [List.length_take]; omega)
            have HMD : Hid (M.drop (j + 1) = L.drop (k + (j + 1))) := Lib.hid (by rw [HMM.out, List.drop_drop])
            have HGG : Hid ((LL ++ [M.take (j + 1)]) ++ cutG size (L.drop (k + (j + 1))) 0 [] = cutB size L ∧ (LL ++ [M.take (j + 1)]).length ≤ k + (j + 1)) := Lib.hid (by
              refine ⟨?_, by have := HG.out.2; rw [List.length_append, List.length_singleton]; omega⟩
              obtain ⟨hl9, rfl⟩ := List.getElem?_eq_some_iff.1 HFJ.out
              rw [← HG.out.1, ← HMM.out, ← HJ.out, HFU.out, HMD.out, List.append_assoc, List.singleton_append, List.take_succ_eq_append_getElem hl9])
            have HKJ : Hid (k + (j + 1) ≤ L.length) := Lib.hid (by have := HDL.out; omega)
            have HME := Lib.hid (show M.length - (j + 1) < M.length by omega)
            clear hge HSN HNN
            by_cases hcj : cl = j + 1
            · have HML : Hid (M.length = j + 1) := Lib.hid (by omega)
              have HFR : Hid (RdL w [] (.slice (some ⟨b, off, none⟩) 0 0) (L.drop (k + (j + 1)))) := Lib.hid (by
                rw [← HMD.out, List.drop_of_length_le (by rw [HML.out]; omega)]
                exact RdL.none_ (by simp [maxLen]))
              have hB5 := HB5.out.drew
              subst hcj
              go_wp2_with fail
              go_region_law (first
                | (go_simp; go_at_call 55; refine (cloneL_any _ (M.take (j + 1)) _ [] (HTO.out _ (bwtrans HBW.out hB5 (Nat.le_refl _))) HTL.out.2.1).mono ?_; rintro e wc ⟨⟨u, rfl, hu⟩, hbc⟩; have hul := HTL.out.1; obtain ⟨Au, cu, rfl, -, -⟩ := (hu.rd (S := []) (fun _ h => by cases h)).shape; rw [hul] at *; have hbA := bwalloc hbc (.cells #[.slice Au (j + 1) cu] 32); have hob := HO.out.below (bwstep hB5 hbA); have hou := (hu.below (bwalloc (bwrefl wc) (.cells #[.slice Au (j + 1) cu] 32))).mono (Nat.le_trans HBW.out.size hB5.size); have hrd : Rd (wc.alloc (.cells #[.slice Au (j + 1) cu] 32)) _ (.slice (some ⟨wc.heap.size, 0, none⟩) 1 1) [.slice Au (j + 1) cu] := Rd.newW wc 32 #[.slice Au (j + 1) cu] rfl (by simp [maxLen]) rfl; have hbw9 := bwtrans HBW.out (bwstep hB5 hbA) (Nat.le_refl _); have hsz9 := hbw9.size; clear hul hu hbc hbA)
                | (refine step_pushB rfl (.tmp 35) (.tmp 41) rfl (by simp [Act.eval]) hob hou (by simp [Act.eval]) hrd HTL.out.2.2 hsz9 ?_; intro v7 w7 ho7 hg7; have HO7 := Lib.hid ho7; have HB7 := Lib.hid (hbw9.grown hg7 hsz9 hob.out.ge); clear ho7 hg7 hob hou hrd hbw9 hsz9))
              go_simp
              go_wp2_with fail
              go_roundw
              case rel => exact ⟨k + (j + 1), LL ++ [M.take (j + 1)], _, HKJ.out, HFR.out, HO7.out, HGG, HB7.out⟩
              case measure => show 0 < M.length; exact hmp
            · have HFR : Hid (RdL w [] (.slice (some ⟨b, off + (j + 1) * 5, none⟩) (M.length - (j + 1)) (cl - (j + 1))) (L.drop (k + (j + 1)))) := Lib.hid (by have := HRM.out.from_ hj1; rwa [HMD.out] at this)
              have hB5 := HB5.out.drew
              go_wp2_with fail
              go_region_law (first
                | (go_simp; go_at_call 55; refine (cloneL_any _ (M.take (j + 1)) _ [] (HTO.out _ (bwtrans HBW.out hB5 (Nat.le_refl _))) HTL.out.2.1).mono ?_; rintro e wc ⟨⟨u, rfl, hu⟩, hbc⟩; have hul := HTL.out.1; obtain ⟨Au, cu, rfl, -, -⟩ := (hu.rd (S := []) (fun _ h => by cases h)).shape; rw [hul] at *; have hbA := bwalloc hbc (.cells #[.slice Au (j + 1) cu] 32); have hob := HO.out.below (bwstep hB5 hbA); have hou := (hu.below (bwalloc (bwrefl wc) (.cells #[.slice Au (j + 1) cu] 32))).mono (Nat.le_trans HBW.out.size hB5.size); have hrd : Rd (wc.alloc (.cells #[.slice Au (j + 1) cu] 32)) _ (.slice (some ⟨wc.heap.size, 0, none⟩) 1 1) [.slice Au (j + 1) cu] := Rd.newW wc 32 #[.slice Au (j + 1) cu] rfl (by simp [maxLen]) rfl; have hbw9 := bwtrans HBW.out (bwstep hB5 hbA) (Nat.le_refl _); have hsz9 := hbw9.size; clear hul hu hbc hbA)
                | (refine step_pushB rfl (.tmp 35) (.tmp 41) rfl (by simp [Act.eval]) hob hou (by simp [Act.eval]) hrd HTL.out.2.2 hsz9 ?_; intro v7 w7 ho7 hg7; have HO7 := Lib.hid ho7; have HB7 := Lib.hid (hbw9.grown hg7 hsz9 hob.out.ge); clear ho7 hg7 hob hou hrd hbw9 hsz9))
              go_simp
              go_wp2_with fail
              go_roundw
              case rel => exact ⟨k + (j + 1), LL ++ [M.take (j + 1)], _, HKJ.out, HFR.out, HO7.out, HGG, HB7.out⟩
              case measure => exact HME.out
          · have hgb : decide (size ≤ (n0 : Int) + (nf : Int)) = false := decide_eq_false hge
            have HFU := Lib.hid (cutG_more (n := n0) (now := M.take j) HFJ.out (size := size) (by rw [HNF.out]; omega))
            have HJ2 : Hid (cutG size (M.drop (j + 1)) (flatC (M.take (j + 1))).length (M.take (j + 1)) = cutG size M 0 []) := Lib.hid (by
              obtain ⟨hl9, rfl⟩ := List.getElem?_eq_some_iff.1 HFJ.out
              rw [← HJ.out, HFU.out, HNN.out, HNF.out, ← List.take_succ_eq_append_getElem hl9])
            have HNI : Hid (((flatC (M.take (j + 1))).length : Int) = (n0 : Int) + (nf : Int)) := Lib.hid (by rw [HNN.out]; omega)
            clear hge HSN
            go_wp2_with fail
            go_roundw
            case rel => exact ⟨j + 1, by omega, rfl, rfl, by go_num, by rw [HNI.out], HJ2, HB5.out⟩
            case measure => simp [intOf]; omega
        · obtain rfl : j = M.length := by omega
          have hcl := fun wz (hz : Below w.heap.size w wz) => cloneL_any (.slice (some ⟨b, off, none⟩) M.length cl) M wz [] (HRM.out.bel hz) hML
          have HCL := Lib.hid hcl
          have HGG : Hid ((LL ++ [M]) ++ cutG size (L.drop L.length) 0 [] = cutB size L ∧ (LL ++ [M]).length ≤ L.length ∧ LL.length ≤ 1000000000) := Lib.hid (by
            refine ⟨?_, ?_, ?_⟩
            · rw [cutG_nil (L := L) (Nat.le_refl _), List.append_nil, ← HG.out.1, ← HMM.out, ← HJ.out, List.take_length, cutG_end (Nat.le_refl _) (fun e => by rw [e] at hmp; simp at hmp)]
            · have := HG.out.2; rw [List.length_append, List.length_singleton]; omega
            · have := HG.out.2; omega)
          have HLD : Hid (RdL w [] (.slice none 0 0) (L.drop L.length)) := Lib.hid (by rw [List.drop_length]; exact RdL.nil _ _)
          clear hcl hbj HJ
          go_wp2_with fail
          refine (HCL.out _ (bwtrans HBW.out HBJ.out (Nat.le_refl _))).mono ?_
          rintro e wc ⟨⟨u, rfl, hu⟩, hbc⟩
          obtain ⟨Au, cu, rfl, -, -⟩ := (hu.rd (S := []) (fun _ h => by cases h)).shape
          have hbA := bwalloc hbc (.cells #[.slice Au M.length cu] 32)
          have hob := HO.out.below (bwstep HBJ.out hbA)
          have hou := (hu.below (bwalloc (bwrefl wc) (.cells #[.slice Au M.length cu] 32))).mono (Nat.le_trans HBW.out.size HBJ.out.size)
          have hrd : Rd (wc.alloc (.cells #[.slice Au M.length cu] 32)) _ (.slice (some ⟨wc.heap.size, 0, none⟩) 1 1) [.slice Au M.length cu] := Rd.newW wc 32 #[.slice Au M.length cu] rfl (by simp [maxLen]) rfl
          have hbw9 := bwtrans HBW.out (bwstep HBJ.out hbA) (Nat.le_refl _)
          have hsz9 := hbw9.size
          clear hu hbc hbA
          go_wp2_with (at_builtin; refine wpList_pushB rfl (.tmp 48) (.tmp 51) rfl rfl hob hou rfl hrd HGG.out.2.2 hsz9 ?_; intro v7 w7 ho7 hg7; have HO7 := Lib.hid ho7; have HB7 := Lib.hid (hbw9.grown hg7 hsz9 hob.out.ge); clear ho7 hg7 hob hou hrd hbw9 hsz9)
          go_roundw
          case rel => exact ⟨L.length, LL ++ [M], _, Nat.le_refl _, HLD.out, HO7.out, Lib.hid ⟨HGG.out.1, HGG.out.2.1⟩, HB7.out⟩
          case measure => show 0 < M.length; exact hmp
    · obtain rfl : k = L.length := by omega
      rw [List.drop_length]
      have HF : Hid (LL = cutB size L) := Lib.hid (by
        have := HG.out.1
        rwa [cutG_nil (Nat.le_refl _), List.append_nil] at this)
      clear hcl
      go_wp2_with fail
      rw [Exit.noGoto_ret]
      go_ret2
      exact ⟨⟨_, vs, rfl, by rw [← HF.out]; exact HO.out⟩, HBW.out⟩
end Go.Proofs.YtgcbmdolbmmljaaGreat.Ce
