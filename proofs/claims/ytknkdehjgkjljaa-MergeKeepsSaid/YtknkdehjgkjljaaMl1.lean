/- The walks of MergeAll and MergeCleans. -/
import Derived.Test.YtknkdehjgkjljaaMgO
import Derived.Test.YtknkdehjgkjljaaCpo
namespace Go.Proofs.Ytknkdehjgkjljaa
open Go.RowKit Ce

/-- what few lists, each put in order, are -/
structure Ce.Lists (SL : List (List Cl)) : Prop where
  srt : ∀ M ∈ SL, Srt M
  ok : ∀ M ∈ SL, ∀ c ∈ M, c.ok
  fl : SL.flatten.length ≤ 100
  n : SL.length ≤ 20
theorem Ce.Lists.le {SL : List (List Cl)} (h : Lists SL) : ∀ M ∈ SL, M.length ≤ 100 := fun _ hM => Nat.le_trans (mem_flatten_le hM) h.fl
theorem Ce.map_flat_le : ∀ {LL : List (List Cl)}, (∀ M ∈ LL, ∀ c ∈ M, c.ok) → (LL.map sortC).flatten.length ≤ LL.flatten.length
  | [], _ => by simp
  | M :: LL, h => by
    have h1 := (sortC_ok (h M (by simp))).2.2
    have h2 := Ce.map_flat_le (LL := LL) fun A hA => h A (by simp [hA])
    rw [List.map_cons, List.flatten_cons, List.flatten_cons, List.length_append, List.length_append]
    omega
theorem Ce.few_sorts {LL : List (List Cl)} (h : Few13 LL) : Lists (LL.map sortC) := by
  obtain ⟨h1, h2, h3⟩ := h
  have hok : ∀ M ∈ LL, ∀ c ∈ M, c.ok := fun M hM => (h3 M hM).2
  refine ⟨fun M hM => ?_, fun M hM => ?_, Nat.le_trans (map_flat_le hok) h2, by simpa using h1⟩
  · obtain ⟨A, hA, rfl⟩ := List.mem_map.1 hM
    exact (sortC_ok (hok A hA)).1
  · obtain ⟨A, hA, rfl⟩ := List.mem_map.1 hM
    exact (sortC_ok (hok A hA)).2.1
theorem Ce.clean_ok {L : List Cl} {t : Int} (h : ∀ c ∈ L, c.ok) : ∀ c ∈ cleanP t L, c.ok := fun c hc => h c (List.mem_filter.1 hc).1
theorem Ce.vis_ok {L : List Cl} {t : Int} (h : ∀ c ∈ L, c.ok) : ∀ c ∈ visP t L, c.ok := fun c hc => h c (List.mem_filter.1 hc).1
theorem Ce.vis_len (L : List Cl) (t : Int) : (visP t L).length ≤ L.length := List.length_filter_le _ _
theorem Ce.all_len2 {SL : List (List Cl)} (h : Lists SL) : (allP SL).length ≤ 100 := Nat.le_trans (all_len SL) h.fl
theorem Ce.OwL.rd0 {w : World} {B : Nat} {v : Value} {L : List Cl} (h : OwL w B v L) : RdL w [] v L := h.rd (fun _ h => by cases h)
set_option maxHeartbeats 8000000 in
set_option maxRecDepth 100000 in
theorem mergeAll_walk (v : Value) (LL : List (List Cl)) (w : World) (hv : RdB w v LL) (hz : ∀ M ∈ LL, M.length < 2199023255552) (hy : LL.length ≤ 140737488351232) : Calls Try.prog 3 #[v] w fun e w' => e = .returned (.bool true) ∧ Below w.heap.size w w' := by
  have HV := Lib.hid hv
  clear hv
  go_enter Try.func3, Try.ntmps3
  go_wp2_with fail
  refine (awake13_ok _).mono ?_
  rintro e w1 ⟨rfl, hb1⟩
  have HK1 := Lib.hid hb1
  clear hb1
  go_wp2_with fail
  refine (rfew13_any v LL _ (HV.out.bel HK1.out) hz hy).mono ?_
  rintro e w2 ⟨⟨q, rfl, hq⟩, hb2⟩
  have HK2 := Lib.hid (bwstep HK1.out hb2)
  clear hb2 HK1
  cases q
  · clear hq
    go_wp2_with fail
    refine (awake13_ok _).mono ?_
    rintro e w9 ⟨rfl, hb9⟩
    have H9 := Lib.hid (bwstep HK2.out hb9)
    clear hb9
    go_wp2_with fail
    go_ret
    exact ⟨rfl, H9.out⟩
  · have hfew : Few13 LL := hq rfl
    have HLS := Lib.hid (few_sorts hfew)
    have HOK := Lib.hid (fun M hM => (hfew.2.2 M hM).2)
    have HLE := Lib.hid (fun M hM => (hfew.2.2 M hM).1)
    have hn20 := hfew.1
    clear hq hfew
    go_wp2_with fail
    refine (rsorts_any v LL _ (HV.out.bel HK2.out) HOK.out (fun M hM => Nat.le_trans (HLE.out M hM) (by decide)) (by omega)).mono ?_
    rintro e w3 ⟨⟨x3, vs, rfl, hx3⟩, hb3⟩
    have HB3 := Lib.hid (bwstep HK2.out hb3)
    have HX := Lib.hid hx3.rd
    generalize LL.map sortC = SL at *
    clear hx3 hb3
    have hal := all_len2 HLS.out
    go_wp2_with fail
    refine (all_any x3 SL _ HX.out HLS.out.srt (Nat.le_trans HLS.out.fl (by decide)) (Nat.le_trans HLS.out.n (by decide))).mono ?_
    rintro e w4 ⟨⟨x4, rfl, hx4⟩, hb4⟩
    have HA4 := Lib.hid hx4.rd0
    have HB4 := Lib.hid (bwstep HB3.out hb4)
    have HX4 := Lib.hid (HX.out.bel hb4)
    clear hx4 hb4
    go_wp2_with fail
    refine (rall_any x3 SL _ HX4.out HLS.out.ok (Nat.le_trans HLS.out.fl (by decide)) (Nat.le_trans HLS.out.n (by decide))).mono ?_
    rintro e w5 ⟨⟨x5, rfl, hx5⟩, hb5⟩
    have HA5 := Lib.hid hx5.rd0
    have HA4' := Lib.hid (HA4.out.bel hb5)
    have HB5 := Lib.hid (bwstep HB4.out hb5)
    clear hx5 hb5
    go_wp2_with fail
    refine (rsameL_self x4 x5 (allP SL) _ HA4'.out HA5.out (by omega)).mono ?_
    rintro e w6 ⟨rfl, hb6⟩
    have HB6 := Lib.hid (bwstep HB5.out hb6)
    clear hb6
    go_wp2_with fail
    go_ret
    exact ⟨rfl, HB6.out⟩
set_option maxHeartbeats 8000000 in
set_option maxRecDepth 100000 in
theorem mergeCleans_walk (v : Value) (L : List Cl) (a1 : Int) (w : World) (hv : RdL w [] v L) (_w1 : (Lit.int .i64 a1).wf = true) : Calls Try.prog 4 #[v, .int .i64 a1] w fun e w' => e = .returned (.bool true) ∧ Below w.heap.size w w' := by
  have HV := Lib.hid hv
  clear hv
  go_enter Try.func4, Try.ntmps4
  go_wp2_with fail
  refine (awake13_ok _).mono ?_
  rintro e w1 ⟨rfl, hb1⟩
  have HK1 := Lib.hid hb1
  clear hb1
  go_wp2_with fail
  refine (efew_any v L _ (HV.out.bel HK1.out)).mono ?_
  rintro e w2 ⟨⟨q, rfl, hq⟩, hb2⟩
  have HK2 := Lib.hid (bwstep HK1.out hb2)
  clear hb2 HK1
  cases q
  · clear hq
    go_wp2_with fail
    refine (awake13_ok _).mono ?_
    rintro e w9 ⟨rfl, hb9⟩
    have H9 := Lib.hid (bwstep HK2.out hb9)
    clear hb9
    go_wp2_with fail
    go_ret
    exact ⟨rfl, H9.out⟩
  · obtain ⟨hl80, hok⟩ := hq rfl
    have HOK := Lib.hid hok
    have hsc := sortC_ok hok
    clear hq hok
    go_wp2_with fail
    refine (rsort_any v L _ (HV.out.bel HK2.out) HOK.out (by omega)).mono ?_
    rintro e w3 ⟨⟨x3, rfl, hx3⟩, hb3⟩
    have HB3 := Lib.hid (bwstep HK2.out hb3)
    have hs3 : (sortC L).length ≤ 80 := Nat.le_trans hsc.2.2 hl80
    have HSS := Lib.hid hsc.1
    have HSO := Lib.hid hsc.2.1
    generalize sortC L = S at *
    have HX := Lib.hid (hx3.rd (S := []) (fun _ h => by cases h))
    clear hsc hb3
    have HX3 := HX
    clear hx3 HX
    go_wp2_with fail
    refine (clean_any x3 S a1 _ HX3.out HSS.out (by omega)).mono ?_
    rintro e wa ⟨⟨xa, rfl, hxa⟩, hba⟩
    have HAa := Lib.hid hxa.rd0
    have HBa := Lib.hid (bwstep HB3.out hba)
    have HXa := Lib.hid (HX3.out.bel hba)
    clear hxa hba
    go_wp2_with fail
    refine (rclean_any x3 S a1 _ HXa.out HSS.out (by omega) HSO.out).mono ?_
    rintro e wb ⟨⟨xb, rfl, hxb⟩, hbb⟩
    have HAb := Lib.hid hxb.rd0
    have HAa' := Lib.hid (HAa.out.bel hbb)
    have HBb := Lib.hid (bwstep HBa.out hbb)
    have HXb := Lib.hid (HXa.out.bel hbb)
    clear hxb hbb
    go_wp2_with fail
    refine (rsameL_self xa xb (cleanP a1 S) _ HAa'.out HAb.out (Nat.le_trans (List.length_filter_le _ _) (by omega))).mono ?_
    rintro e w4 ⟨rfl, hbc⟩
    have HB4 := Lib.hid (bwstep HBb.out hbc)
    have HX4 := Lib.hid (HXb.out.bel hbc)
    clear hbc HAa HAb HAa' HXa HXb HBa HBb
    go_wp2_with fail
    refine (vis_any x3 S a1 _ HX4.out HSS.out (by omega)).mono ?_
    rintro e wa ⟨⟨xa, rfl, hxa⟩, hba⟩
    have HAa := Lib.hid hxa.rd0
    have HBa := Lib.hid (bwstep HB4.out hba)
    have HXa := Lib.hid (HX4.out.bel hba)
    clear hxa hba
    go_wp2_with fail
    refine (rvis_any x3 S a1 _ HXa.out HSS.out (by omega) HSO.out).mono ?_
    rintro e wb ⟨⟨xb, rfl, hxb⟩, hbb⟩
    have HAb := Lib.hid hxb.rd0
    have HAa' := Lib.hid (HAa.out.bel hbb)
    have HBb := Lib.hid (bwstep HBa.out hbb)
    have HXb := Lib.hid (HXa.out.bel hbb)
    clear hxb hbb
    go_wp2_with fail
    refine (rsameL_self xa xb (visP a1 S) _ HAa'.out HAb.out (Nat.le_trans (List.length_filter_le _ _) (by omega))).mono ?_
    rintro e w5 ⟨rfl, hbc⟩
    have HB5 := Lib.hid (bwstep HBb.out hbc)
    have HX5 := Lib.hid (HXb.out.bel hbc)
    clear hbc HAa HAb HAa' HXa HXb HBa HBb
    go_wp2_with fail
    go_ret
    exact ⟨rfl, HB5.out⟩
end Go.Proofs.Ytknkdehjgkjljaa
