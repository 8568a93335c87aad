/- The contracts of the reference functions of layer 13: Sorts, Few. -/
import Derived.Test.YtknkdehjgkjljaaMgr
import Derived.IntWalk
namespace Go.Proofs.Ytknkdehjgkjljaa.Ce
open Go.RowKit

set_option maxHeartbeats 4000000 in
set_option maxRecDepth 100000 in
theorem rsorts_any (v : Value) (LL : List (List Cl)) (w : World) (hv : RdB w v LL) (hok : ∀ M ∈ LL, ∀ c ∈ M, c.ok) (hl : ∀ M ∈ LL, M.length ≤ 1000000) (hn : LL.length ≤ 1000000) :
    Calls Try.prog 12 #[v] w fun e w' => (∃ x vs, e = .returned x ∧ OwB w' w.heap.size x vs (LL.map sortC)) ∧ Below w.heap.size w w' := by
  obtain ⟨A, c, rfl, hc, hm⟩ := hv.shape
  unfold maxLen at hm
  have HV := Lib.hid hv
  have HOK := Lib.hid hok
  have HLN := Lib.hid hl
  clear hv hok hl
  go_enter Try.func12, Try.ntmps12
  go_wp2_with fail
  go_loopw [3, 4] (fun o i wr => ∃ (k : Nat) (vs : List Value), k ≤ LL.length ∧ i = .int .i64 (k : Int) ∧ Hid (OwB wr w.heap.size o vs ((LL.take k).map sortC)) ∧ Below w.heap.size w wr) (fun _ i _ => LL.length - (intOf i).toNat)
  case atStart => exact ⟨0, [], Nat.zero_le _, rfl, Lib.hid (by simpa using OwB.nil _ _), Below.refl _ _⟩
  case round =>
    obtain ⟨k, vs, hk, rfl, HO, hbw⟩ := hrel
    have HBW := Lib.hid hbw
    by_cases hlt : k < LL.length
    · have hfk : LL[k]? = some (LL[k]'hlt) := List.getElem?_eq_getElem _
      have HS : Hid ((LL.take (k + 1)).map sortC = (LL.take k).map sortC ++ [sortC (LL[k]'hlt)]) := Lib.hid (by rw [List.take_succ_eq_append_getElem hlt, List.map_append]; rfl)
      generalize LL[k]'hlt = M at hfk HS
      have hMm := List.mem_of_getElem? hfk
      obtain ⟨b, off, rfl, hb⟩ := HV.out.open_ (by omega)
      obtain ⟨A1, c1, hc0, hcl1, hcm1, hr1⟩ := HV.out.row hfk
      unfold maxLen at hcm1
      have hc1 := (hbw.cell (p := ⟨b, off + k, none⟩) hb).trans hc0
      have HP := Lib.hid (rsort_any (.slice A1 M.length c1) M wr (hr1.bel hbw) (HOK.out M hMm) (HLN.out M hMm))
      have hh3 : (0 : Int) ≤ (k : Int) := by omega
      have hh4 : (k : Int) < (LL.length : Int) := by omega
      have hln : ((LL.take k).map sortC).length ≤ 1000000000 := by simp; omega
      generalize (LL.take k).map sortC = F at HO HS hln
      clear hfk hMm hbw hc0 hr1
      obtain ⟨wo, hwo⟩ : ∃ wo, wo = wr := ⟨_, rfl⟩
      subst hwo
      go_wp2_with fail
      refine HP.out.mono ?_
      rintro e w2 ⟨⟨v2, rfl, h2⟩, hb2⟩
      obtain ⟨A2, c2, hv2, -, -⟩ := (h2.rd (S := []) (fun _ h => by cases h)).shape
      have HV2 := Lib.hid hv2
      subst hv2
      generalize hn2 : (sortC M).length = n2 at *
      clear hn2
      have hB2 := bwalloc (bwstep HBW.out hb2) (.cells #[.slice A2 n2 c2] 27)
      have hO2 := (HO.out.below hb2).below (bwalloc (bwrefl w2) (.cells #[.slice A2 n2 c2] 27))
      have hu2 := (h2.mono HBW.out.size).below (bwalloc (bwrefl w2) (.cells #[.slice A2 n2 c2] 27))
      have hx2 := Rd.newW (xs := [.slice A2 n2 c2]) w2 27 #[.slice A2 n2 c2] rfl (by simp [maxLen]) rfl
      have hs2 := hB2.size
      clear h2 hb2 HP hc1
      go_wp2_with (at_builtin; refine wpList_pushB rfl (.tmp 11) (.tmp 17) rfl rfl hO2 hu2 rfl hx2 hln hs2 ?_; intro v3 w3 ho3 hg3; have HO3 := Lib.hid ho3; have HB3 := Lib.hid (hB2.grown hg3 hs2 hO2.out.ge); clear ho3 hg3)
      go_roundw
      case rel => exact ⟨k + 1, _, by omega, by go_num, Lib.hid (by rw [HS.out]; exact HO3.out), HB3.out⟩
      case measure => simp [intOf]; omega
    · obtain rfl : k = LL.length := by omega
      rw [List.take_length] at HO
      go_wp2_with fail
      go_ret
      exact ⟨⟨_, _, rfl, HO.out⟩, HBW.out⟩
/-- few lists, of few right cells -/
def Few13 (LL : List (List Cl)) : Prop := LL.length ≤ 20 ∧ LL.flatten.length ≤ 100 ∧ ∀ M ∈ LL, M.length ≤ 80 ∧ ∀ c ∈ M, c.ok
def Few13End (LL : List (List Cl)) (w : World) (e : Ending) (w' : World) : Prop := (∃ q : Bool, e = .returned (.bool q) ∧ (q = true → Few13 LL)) ∧ Below w.heap.size w w'
theorem flatlen_snoc {LL : List (List Cl)} {k : Nat} {M : List Cl} (h : LL[k]? = some M) : (LL.take (k + 1)).flatten.length = (LL.take k).flatten.length + M.length := by
  obtain ⟨hl, rfl⟩ := List.getElem?_eq_some_iff.1 h
  rw [List.take_succ_eq_append_getElem hl, List.flatten_append, List.length_append]
  simp
set_option maxHeartbeats 4000000 in
set_option maxRecDepth 100000 in
theorem rfew13_any (v : Value) (LL : List (List Cl)) (w : World) (hv : RdB w v LL) (hz : ∀ M ∈ LL, M.length < 2199023255552) (hn : LL.length ≤ 140737488351232) :
    Calls Try.prog 11 #[v] w (Few13End LL w) := by
  obtain ⟨A, c, rfl, hc, hm⟩ := hv.shape
  unfold maxLen at hm
  have HV := Lib.hid hv
  have HZ := Lib.hid hz
  clear hv hz
  go_enter Try.func11, Try.ntmps11
  go_wp2_with fail
  go_loopw [3, 4] (fun n i wr => ∃ k m : Nat, k ≤ LL.length ∧ k ≤ 50 ∧ i = .int .i64 (k : Int) ∧ n = .int .i64 (m : Int) ∧ m ≤ 100 ∧ Hid (m = (LL.take k).flatten.length ∧ ∀ M ∈ LL.take k, M.length ≤ 80 ∧ ∀ c ∈ M, c.ok) ∧ Below w.heap.size w wr) (fun _ i _ => LL.length - (intOf i).toNat)
  case atStart => exact ⟨0, 0, Nat.zero_le _, by omega, rfl, rfl, by omega, Lib.hid ⟨rfl, by simp⟩, Below.refl _ _⟩
  case round =>
    obtain ⟨k, m, hk, hk5, rfl, rfl, hm1, HS, hbw⟩ := hrel
    have HBW := Lib.hid hbw
    by_cases hlt : k < LL.length ∧ k < 50
    · obtain ⟨hlt, hlt5⟩ := hlt
      have hfk : LL[k]? = some (LL[k]'hlt) := List.getElem?_eq_getElem _
      have HTK : Hid (∀ M ∈ LL.take (k + 1), M ∈ LL.take k ∨ M = LL[k]'hlt) := Lib.hid fun M hM => by
        rw [List.take_succ_eq_append_getElem hlt, List.mem_append, List.mem_singleton] at hM
        exact hM
      generalize LL[k]'hlt = M at hfk HTK
      have hMm := List.mem_of_getElem? hfk
      have HFS := Lib.hid (flatlen_snoc hfk)
      have hMz := HZ.out M hMm
      obtain ⟨b, off, rfl, hb⟩ := HV.out.open_ (by omega)
      obtain ⟨A1, c1, hc0, hcl1, hcm1, hr1⟩ := HV.out.row hfk
      unfold maxLen at hcm1
      have hc1 := (hbw.cell (p := ⟨b, off + k, none⟩) hb).trans hc0
      have HP := Lib.hid (efew_any (.slice A1 M.length c1) M wr (hr1.bel hbw))
      have hh3 : (0 : Int) ≤ (k : Int) := by omega
      have hh4 : (k : Int) < (LL.length : Int) := by omega
      have hh5 : (k : Int) < 50 := by omega
      clear hfk hMm hbw hc0 hr1
      obtain ⟨wo, hwo⟩ : ∃ wo, wo = wr := ⟨_, rfl⟩
      subst hwo
      by_cases hbig : m + M.length ≤ 100
      · have hb1 : decide ((100 : Int) < (m : Int) + (M.length : Int)) = false := decide_eq_false (by omega)
        go_wp2_with fail
        refine HP.out.mono ?_
        rintro e w2 ⟨⟨q, rfl, hq⟩, hb2⟩
        have HB2 := Lib.hid (bwstep HBW.out hb2)
        have HQ := Lib.hid hq
        clear hb2 hq HP
        cases q
        · go_wp2_with fail
          go_ret
          exact ⟨⟨false, rfl, fun h => by cases h⟩, HB2.out⟩
        · go_wp2_with fail
          go_roundw
          case rel => exact ⟨k + 1, m + M.length, by omega, by omega, by go_num, by go_num, hbig, Lib.hid ⟨by rw [HFS.out, HS.out.1], fun X hX => (HTK.out X hX).elim (HS.out.2 X) fun e => e ▸ HQ.out (by first | trivial | rfl)⟩, HB2.out⟩
          case measure => simp [intOf]; omega
      · go_wp2_with fail
        go_ret
        exact ⟨⟨false, rfl, fun h => by cases h⟩, HBW.out⟩
    · go_wp2_with fail
      all_goals
        go_ret
        refine ⟨⟨_, rfl, fun h => ?_⟩, HBW.out⟩
        have h20 : LL.length ≤ 20 := by
          have := of_decide_eq_true h
          omega
        have : k = LL.length := by omega
        subst this
        have hs := HS.out
        rw [List.take_length] at hs
        exact ⟨h20, by omega, hs.2⟩
end Go.Proofs.Ytknkdehjgkjljaa.Ce
