/- The statements of layer 4: the walk of MatrixAny. -/
import Derived.Test.YtjhnbhgpnmfdgaaMatZ
import Derived.IntWalk
namespace Go.Proofs.Ytjhnbhgpnmfdgaa
open Go.RowKit
open Mx (rw rw_len rw_get rw_congr dl cod mm dt rws sm fm)

theorem intsT : ET Try.prog 33 3 (.int .i64 0) 8 := ⟨Try.underlying33, by kernel_rfl⟩
theorem u32Of {s : Int} (h : (Lit.int .u32 s).wf = true) : ∃ t : Nat, s = (t : Int) ∧ t < 4294967296 := by
  have := bounds_u32 h
  exact ⟨s.toNat, by omega, by omega⟩
/-- places that are picked, behind k rounds: left are to come -/
structure Pick (c k left : Nat) (l : List Nat) : Prop where
  len : l.length + left = c
  nd : l.Nodup
  lt : ∀ a ∈ l, a < k
theorem Pick.start (c : Nat) : Pick c 0 c [] := ⟨by simp, List.nodup_nil, by simp⟩
theorem Pick.take {c k left : Nat} {l : List Nat} (h : Pick c k (left + 1) l) : Pick c (k + 1) left (l ++ [k]) := by
  refine ⟨by have := h.len; simp; omega, ?_, fun a ha => ?_⟩
  · rw [List.nodup_append]
    refine ⟨h.nd, by simp, fun a ha b hb e => ?_⟩
    have := h.lt a ha
    rw [List.mem_singleton] at hb
    omega
  · rcases List.mem_append.1 ha with ha | ha
    · have := h.lt a ha; omega
    · rw [List.mem_singleton] at ha; omega
theorem Pick.take' {c k left : Nat} {l : List Nat} (h : Pick c k left l) (h0 : 0 < left) : Pick c (k + 1) (left - 1) (l ++ [k]) := by
  obtain ⟨m, rfl⟩ : ∃ m, left = m + 1 := ⟨left - 1, by omega⟩
  exact h.take
theorem Pick.skip {c k left : Nat} {l : List Nat} (h : Pick c k left l) : Pick c (k + 1) left l := ⟨h.len, h.nd, fun a ha => by have := h.lt a ha; omega⟩
/-- rows that are picked have a contrary -/
theorem pick_inv {c r : Nat} {l : List Nat} (h : Pick c r 0 l) (hr : r ≤ 256) (y : Nat → UInt8) (hy : ∃ j, j < c ∧ y j ≠ 0) (hz : ∀ i, i < c → sm c (fun j => fm (cod c (l.getD i 0) j) (y j)) = 0) : False := by
  obtain ⟨j, hj, hne⟩ := hy
  refine hne (Mx.cod_any hr l (by have := h.len; omega) h.nd h.lt y (fun a ha => ?_) j hj)
  obtain ⟨i, hi, rfl⟩ := List.getElem_of_mem ha
  have := hz i (by have := h.len; omega)
  rw [show l.getD i 0 = l[i] by simp [List.getD, hi]] at this
  exact this
set_option maxHeartbeats 16000000 in
set_option maxRecDepth 100000 in
theorem matrixAny_walk (a0 a1 a2 : Int) (w : World) (ha0 : (Lit.int .u8 a0).wf = true) (ha1 : (Lit.int .u8 a1).wf = true) (ha2 : (Lit.int .u32 a2).wf = true) :
    Calls Try.prog 6 #[.int .u8 a0, .int .u8 a1, .int .u32 a2] w fun e w' => e = .returned (.bool true) ∧ Below w.heap.size w w' := by
  obtain ⟨k, rfl, hk⟩ := u8Of ha0
  obtain ⟨m, rfl, hm⟩ := u8Of ha1
  obtain ⟨x, rfl, hx⟩ := u32Of ha2
  obtain ⟨c, hc, hc1, hc5⟩ : ∃ c : Nat, 1 + (k : Int) % 5 = (c : Int) ∧ 1 ≤ c ∧ c ≤ 5 := ⟨1 + k % 5, by omega, by omega, by omega⟩
  obtain ⟨r, hrr, hcr, hr12⟩ : ∃ r : Nat, (c : Int) + (m : Int) % 8 = (r : Int) ∧ c ≤ r ∧ r ≤ 12 := ⟨c + m % 8, by omega, by omega, by omega⟩
  have HC := Lib.hid hc
  have HR := Lib.hid hrr
  clear ha0 ha1 ha2 hc hrr
  go_enter Try.func6, Try.ntmps6
  go_wp2_with fail
  rw [HC.out, HR.out]
  clear HC HR hk hm
  refine (awake_ok _).mono ?_
  rintro e wa ⟨rfl, hb⟩
  go_wp2_with fail
  go_loopw [9, 10, 11, 12] (fun p q s i wr => ∃ k left : Nat, ∃ l : List Nat, ∃ x : Nat, k ≤ r ∧ left ≤ r - k ∧ i = .int .i64 k ∧ q = .int .i64 left ∧ x < 4294967296 ∧ s = .int .u32 x ∧ Pick c k left l ∧ Ow wr wa.heap.size 3 p (l.map nvI) ∧ Below wa.heap.size wa wr) (fun _ _ _ i _ => r - (intOf i).toNat)
  case atStart => exact ⟨0, c, [], x, by omega, by omega, rfl, rfl, hx, rfl, Pick.start c, Ow.nil _ _ _, Below.refl _ _⟩
  case round =>
    clear hx
    obtain ⟨k, left, l, x, hk, hlr, rfl, rfl, hx, rfl, hP, ho, hbw⟩ := hrel
    by_cases hlt : k < r
    · have hlen := hP.len
      have HP := Lib.hid hP
      have hx2 : x / 2 < 4294967296 := by omega
      clear hP
      by_cases hA : r = k + left
      · have HL : Hid (0 < left) := Lib.hid (by omega)
        have tA : ((r : Int) - (k : Int) == (left : Int)) = true := by simp; omega
        have HA := Lib.hid hA
        clear hA
        have hone : One [nvI k] := one_one rfl
        have hrd : Rd (wr.alloc (.cells #[.int .i64 (k : Int)] 3)) _ (.slice (some ⟨wr.heap.size, 0, none⟩) 1 1) [nvI k] := Rd.newW wr 3 #[.int .i64 (k : Int)] rfl (by simp [maxLen]) rfl
        have hb2 : Below wr.heap.size wr (wr.alloc (.cells #[.int .i64 (k : Int)] 3)) := bwalloc (Below.refl _ _) _
        have ho2 := ho.below hb2
        have hbw2 := bwstep hbw hb2
        have hsz := hbw2.size
        have hl1 : (l.map nvI).length + [nvI k].length ≤ maxLen := by simp [maxLen]; omega
        have hl2 : ((l.map nvI).length + [nvI k].length) * 8 ≤ 140737488355328 := by simp; omega
        clear ho hb2
        go_wp2_with (at_builtin; refine wpList_app intsT rfl rfl (.tmp 48) (.tmp 50) rfl rfl ho2 rfl hrd hone hl1 hl2 hsz ?_; intro v' w' ho3 hg h3; have HB := Lib.hid (hbw2.grown hg hsz ho2.ge); have HO : Hid (Ow w' wa.heap.size 3 v' ((l ++ [k]).map nvI)) := Lib.hid (by rw [List.map_append]; exact ho3); clear ho3 hg h3 hrd ho2 hone hbw2)
        go_roundw
        case rel =>
          have hA := HA.out
          exact ⟨k + 1, left - 1, l ++ [k], x / 2, by omega, by omega, by go_num, vi (by omega), hx2, by simp, HP.out.take' HL.out, HO.out, HB.out⟩
        case measure => simp [intOf]; omega
      · have tA : ((r : Int) - (k : Int) == (left : Int)) = false := by simp; omega
        by_cases hB : 0 < left
        · by_cases hC : x % 2 = 1
          · have tC : ((x : Int) % 2 == 1) = true := by simp; omega
            have HL := Lib.hid hB
            have hone : One [nvI k] := one_one rfl
            have hrd : Rd (wr.alloc (.cells #[.int .i64 (k : Int)] 3)) _ (.slice (some ⟨wr.heap.size, 0, none⟩) 1 1) [nvI k] := Rd.newW wr 3 #[.int .i64 (k : Int)] rfl (by simp [maxLen]) rfl
            have hb2 : Below wr.heap.size wr (wr.alloc (.cells #[.int .i64 (k : Int)] 3)) := bwalloc (Below.refl _ _) _
            have ho2 := ho.below hb2
            have hbw2 := bwstep hbw hb2
            have hsz := hbw2.size
            have hl1 : (l.map nvI).length + [nvI k].length ≤ maxLen := by simp [maxLen]; omega
            have hl2 : ((l.map nvI).length + [nvI k].length) * 8 ≤ 140737488355328 := by simp; omega
            clear ho hb2
            go_wp2_with (at_builtin; refine wpList_app intsT rfl rfl (.tmp 48) (.tmp 50) rfl rfl ho2 rfl hrd hone hl1 hl2 hsz ?_; intro v' w' ho3 hg h3; have HB := Lib.hid (hbw2.grown hg hsz ho2.ge); have HO : Hid (Ow w' wa.heap.size 3 v' ((l ++ [k]).map nvI)) := Lib.hid (by rw [List.map_append]; exact ho3); clear ho3 hg h3 hrd ho2 hone hbw2)
            go_roundw
            case rel => exact ⟨k + 1, left - 1, l ++ [k], x / 2, by omega, by omega, by go_num, vi (by omega), hx2, by simp, HP.out.take' HL.out, HO.out, HB.out⟩
            case measure => simp [intOf]; omega
          · have tC : ((x : Int) % 2 == 1) = false := by simp; omega
            go_wp2_with fail
            go_roundw
            case rel => exact ⟨k + 1, left, l, x / 2, by omega, by omega, by go_num, rfl, hx2, by simp, HP.out.skip, ho, hbw⟩
            case measure => simp [intOf]; omega
        · go_wp2_with fail
          go_roundw
          case rel => exact ⟨k + 1, left, l, x / 2, by omega, by omega, by go_num, rfl, hx2, by simp, HP.out.skip, ho, hbw⟩
          case measure => simp [intOf]; omega
    · obtain rfl : k = r := by omega
      obtain rfl : left = 0 := by omega
      have hl1 := ho.rd
      have hlen := hP.len
      have HP := Lib.hid hP
      have hbb := bwstep hb hbw
      clear hP ho hbw hb
      go_wp2_with fail
      refine (coding_any c k _ hc1 hcr (by omega)).mono ?_
      rintro e wb ⟨⟨y, vy, rfl, hy⟩, hbx⟩
      have y1 := hy.rd
      have l1 := hl1.up hbx
      have hbb := bwstep hbb hbx
      clear hbx hy hl1
      go_wp2_with fail
      refine (rows_ok _ _ k _ l _ y1 l1 (fun i hi => HP.out.lt _ (List.getElem_mem hi)) (by omega) (fun i _ => by rw [rw_len]; omega)).mono ?_
      rintro e wc ⟨⟨z, vz, rfl, hz⟩, hbx⟩
      rw [show l.length = c by omega] at hz
      have z1 := hz.rd
      have hbb := bwstep hbb hbx
      clear hbx hz y1 l1
      go_wp2_with fail
      refine (invert_any _ c (fun i => cod c (l.getD i 0)) _ z1 (by omega) (by omega)).mono ?_
      rintro e wd ⟨⟨u, vu, X, rfl, hu, hX1, -, -⟩ | ⟨-, -, y', hy1, hy2⟩, hbx⟩
      · have u1 := hu.rd
        have z1 := z1.up hbx
        have hbb := bwstep hbb hbx
        have HX := Lib.hid hX1
        clear hbx hu hX1
        go_wp2_with fail
        refine (rmmul_any _ _ c c c X _ _ u1 z1 (by omega) (by omega) (by omega) (by omega) (by omega)).mono ?_
        rintro e we ⟨⟨p, vp, rfl, hp⟩, hbx⟩
        have p1 := hp.rd
        have hbb := bwstep hbb hbx
        clear hbx hp u1 z1
        go_wp2_with fail
        refine (rcod_any c c _ (by omega) (by omega)).mono ?_
        rintro e wf ⟨⟨q, vq, rfl, hq⟩, hbx⟩
        have q1 := hq.rd
        have p1 := p1.up hbx
        have hbb := bwstep hbb hbx
        clear hbx hq
        go_wp2_with fail
        refine (Calls.bel (rsameM_any _ _ c c _ _ _ _ _ p1 q1)).mono ?_
        rintro e wg ⟨rfl, hbx⟩
        rw [sameM_rw fun i hi j hj => by rw [HX.out i hi j hj]; unfold cod; rw [if_pos hi]]
        have hbb := bwstep hbb hbx
        clear hbx p1 q1
        go_wp2_with fail
        go_ret
        exact ⟨rfl, hbb⟩
      · exact absurd trivial (fun _ => pick_inv HP.out (by omega) y' hy1 hy2)
end Go.Proofs.Ytjhnbhgpnmfdgaa
