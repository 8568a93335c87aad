/- The statements of layer 4: the walk of MatrixKeeps. -/
import Derived.Test.YtjhnbhgpnmfdgaaMatW
namespace Go.Proofs.Ytjhnbhgpnmfdgaa
open Go.RowKit
open Mx (rw rw_len rw_get rw_congr dl cod mm dt rws)

theorem xor255' (u : UInt8) : Value.int .u8 (bits .xor .u8 (u.toNat : Int) 255) = bv (u ^^^ 255) := by
  have := xor_n8 u.toNat 255 u.toNat_lt (by omega)
  rw [show (255 : Int) = ((255 : Nat) : Int) from rfl, this]
  unfold bv
  rw [UInt8.toNat_xor]
  rfl
/-- '[]byte{}' as the row that is being built -/
theorem Bld.empty {w1 wr : World} {v : Value} {vs : Nat → Value} {n : Nat} {g : Nat → List UInt8} (h : OwM wr w1.heap.size v vs n g) (hb : Below w1.heap.size w1 wr) :
    Bld w1 (wr.alloc (.cells #[] 5)) v vs n g (.slice (some ⟨wr.heap.size, 0, none⟩) 0 0) [] := by
  have hb2 : Below wr.heap.size wr (wr.alloc (.cells #[] 5)) := bwalloc (Below.refl _ _) _
  refine ⟨h.below hb2, Ow.empty wr hb.size _, fun j hj k hk e => ?_, fun k hk e => ?_, bwstep hb hb2⟩
  · have := ((h.row j hj).lt k e).2
    have : wr.heap.size = k := by injection hk
    omega
  · have := (h.out.lt k e).2
    have : wr.heap.size = k := by injection hk
    omega
theorem zero_lt1 {n : Nat} (hn : 0 < n) : ∀ k (h : k < [0].length), [0][k] < n := by
  intro k h
  have hk : k = 0 := by simpa using h
  subst hk
  exact hn
/-- what Invert answers, as far as memory goes -/
theorem keeps_inv (v : Value) (n q : Nat) (a : Mx.M) (w : World) (ha : RdM w w.heap.size v n (fun i => rw q (a i))) (hn : 0 < n) (hq : 0 < q) (hn2 : n ≤ 1000000000) :
    Calls Try.prog 17 #[v] w fun e w' => (∃ (x : Value) (vs : Nat → Value) (X : Mx.M) (nx : Nat) (okb : Bool), e = .returned (.tuple #[x, .bool okb]) ∧ nx ≤ n ∧ OwM w' w.heap.size x vs nx (fun i => rw n (X i))) ∧ Below w.heap.size w w' := by
  by_cases h : n = q
  · subst h
    refine (invert_any v n a w ha hn hn2).mono ?_
    rintro e w' ⟨⟨x, vs, X, he, hx, -, -, -⟩ | ⟨he, -, -⟩, hb⟩
    · exact ⟨⟨x, vs, X, n, true, he, Nat.le_refl _, hx⟩, hb⟩
    · exact ⟨⟨_, _, a, 0, false, he, Nat.zero_le _, OwM.nil _ _ _⟩, hb⟩
  · refine (invert_no v n q a w ha hn hq h).mono ?_
    rintro e w' ⟨he, rfl⟩
    exact ⟨⟨_, _, a, 0, false, he, Nat.zero_le _, OwM.nil _ _ _⟩, Below.refl _ _⟩
set_option maxHeartbeats 16000000 in
set_option maxRecDepth 100000 in
theorem matrixKeeps_walk (v : Value) (n : Nat) (g : Nat → List UInt8) (w : World) (hr : RdM w w.heap.size v n g) :
    Calls Try.prog 7 #[v] w fun e w' => e = .returned (.bool true) ∧ Below w.heap.size w w' := by
  go_enter Try.func7, Try.ntmps7
  go_wp2_with fail
  refine (awake_ok _).mono ?_
  rintro e wa ⟨rfl, hb⟩
  have h1 := hr.up hb
  clear hr
  go_wp2_with fail
  refine (Calls.bel (few_any _ n g 8 _ _ h1)).mono ?_
  rintro e wb ⟨rfl, hbx⟩
  have k1 := h1.up hbx
  have hbb := bwstep hb hbx
  clear h1 hb hbx
  by_cases f1 : few n g 8 = true
  · rw [f1]
    obtain ⟨q, a, hn, hn', hq, hq', m1, -⟩ := few_out k1 f1
    clear k1 f1
    obtain ⟨A1, c1, rfl, hc1, hm1⟩ := m1.shape
    obtain ⟨b1, o1, rfl, hb1⟩ := m1.open_ hn
    unfold maxLen at hm1
    go_wp2_with fail
    go_loopw [3, 4] (fun p i wr => ∃ k : Nat, k ≤ n ∧ i = .int .i64 k ∧ (∃ vs, OwM wr wb.heap.size p vs k (fun i => rw q (a i))) ∧ Below wb.heap.size wb wr) (fun _ i _ => n - (intOf i).toNat)
    case atStart => exact ⟨0, by omega, rfl, ⟨_, OwM.nil _ _ _⟩, Below.refl _ _⟩
    case round =>
      obtain ⟨k, hk, rfl, ⟨vs, ho⟩, hw⟩ := hrel
      by_cases hlt : k < n
      · obtain ⟨A2, c2, hcell2, h2c, h2m, hr2⟩ := (m1.up hw).rowT hlt
        have hE := Bld.empty ho hw
        have hrow := hr2.below (bwalloc (Below.refl _ _) (.cells #[] 5))
        have hsz0 := hE.bel.size
        have hcell3 := ((bwalloc (Below.refl _ _) (.cells #[] 5) : Below wr.heap.size wr _).cell (p := ⟨b1, o1 + k, none⟩) (Nat.lt_of_lt_of_le hb1 hw.size)).trans hcell2
        have hlen0 : ([] : List UInt8).length + (rw q (a k)).length ≤ 140737488355328 := by rw [rw_len]; simp; omega
        unfold maxLen at h2m
        clear ho hr2
        go_wp2_with (first
          | (at_builtin; refine wpList_app rowsT rfl rfl (.tmp 24) (.tmp 31) rfl rfl hB2.om.out rfl hrd hone hl1 hl2 hsz ?_; intro v' w' ho hg h3; have HB := Lib.hid (hB2.push ho hg h3); clear ho hg h3 hrd hB2 hone)
          | (at_builtin; refine wpList_appB bytesT rfl (.tmp 25) (.tmp 29) rfl rfl hE.ro rfl hrow hlen0 hsz0 ?_; intro u w2 ho hg h3; have hB1 := hE.app ho hg h3; rw [List.nil_append] at hB1; obtain ⟨Au, cu, rfl, -, -⟩ := hB1.ro.rd.shapeR; have hone : One [Value.slice Au q cu] := one_one rfl; have hrd : Rd (w2.alloc (.cells #[.slice Au q cu] 29)) _ (.slice (some ⟨w2.heap.size, 0, none⟩) 1 1) [.slice Au q cu] := Rd.newW w2 29 #[.slice Au q cu] rfl (by simp [maxLen]) rfl; have hB2 := hB1.up (bwalloc (Below.refl _ _) (.cells #[.slice Au q cu] 29)); have hsz := hB2.bel.size; have hl1 : ((List.range k).map vs).length + [Value.slice Au q cu].length ≤ maxLen := (by simp [maxLen]; omega); have hl2 : (((List.range k).map vs).length + [Value.slice Au q cu].length) * 24 ≤ 140737488355328 := (by simp; omega); clear ho hg h3 hE hB1 hrow hlen0 hsz0))
        go_roundw
        case rel => exact ⟨k + 1, by omega, by go_num, ⟨_, HB.out.1.congr fun i' _ => by
          by_cases e : i' = k
          · rw [if_pos e, e]
          · rw [if_neg e]⟩, HB.out.2⟩
        case measure => simp [intOf]; omega
      · obtain rfl : k = n := by omega
        have s1 := ho.rd
        have m2 := m1.up hw
        have hbb := bwstep hbb hw
        clear ho m1 hw
        go_wp2_with fail
        refine (keeps_inv _ k q a _ m2 hn hq (by omega)).mono ?_
        rintro e wd ⟨⟨x, vx, X, nx, okb, rfl, hnx, hx⟩, hbx⟩
        obtain ⟨Ax, cx, rfl, hcx, hmx⟩ := hx.rd.shape
        unfold maxLen at hmx
        go_wp2_with fail
        go_loopw [7] (fun i w' => ∃ j : Nat, j ≤ nx ∧ i = .int .i64 j ∧ (∃ X : Mx.M, OwM w' wr.heap.size (.slice Ax nx cx) vx nx (fun i => rw k (X i))) ∧ Below wr.heap.size wr w') (fun i _ => nx - (intOf i).toNat)
        case atStart => exact ⟨0, by omega, rfl, ⟨X, hx⟩, hbx⟩
        case round =>
          clear hx hbx
          obtain ⟨j, hj, rfl, ⟨X, hx⟩, hbx⟩ := hrel
          by_cases hjl : j < nx ∧ okb = true
          · obtain ⟨hjl, rfl⟩ := hjl
            obtain ⟨gb, g2, c2, rfl, hv, hcell, h2c, h2m, hBg, hgs, hcv, hfz, hset⟩ := hx.at_ (k := 0) hjl (by omega)
            have hs := hset (X j 0 ^^^ 255)
            rw [← xor255'] at hs
            have HS := Lib.hid hs
            have HB := Lib.hid (hbx.setCell (p := ⟨g2, 0, none⟩) hBg (.int .u8 (bits .xor .u8 ((X j 0).toNat : Int) 255)))
            have hk0 : 0 < k := by omega
            clear hset hs hx hbx hv
            go_wp2_with fail
            go_region
            go_wp2_with fail
            go_roundw
            case rel => exact ⟨j + 1, by omega, by go_num, ⟨_, HS.out.below (bwN 1)⟩, below_drewN HB.out 1⟩
            case measure => simp [intOf]; omega
          · have m3 := m2.up hbx
            have s2 := s1.up hbx
            have hbb := bwstep hbb hbx
            have hstop : j < nx → okb = false := fun h => by
              cases okb
              · rfl
              · exact absurd ⟨h, rfl⟩ hjl
            clear hx m2 s1 hbx hjl
            by_cases hjn : j < nx
            · obtain rfl := hstop hjn
              clear hstop
              go_wp2_with fail
              have hn1 : Rd (wr.alloc (.cells #[.int .i64 0] 3)) _ (.slice (some ⟨wr.heap.size, 0, none⟩) 1 1) ([0].map nvI) := Rd.newW wr 3 #[.int .i64 0] rfl (by simp [maxLen]) rfl
              have hba := bwalloc (bwrefl wr) (.cells #[.int .i64 0] 3)
              have m3 := m3.up hba
              have s2 := s2.up hba
              have hbb := bwstep hbb hba
              generalize hwq : wr.alloc (.cells #[.int .i64 0] 3) = wq at *
              clear hwq hba
              refine (rows_ok _ _ k _ [0] _ m3 hn1 (zero_lt1 hn) (by simp) (fun i _ => by rw [rw_len]; omega)).mono ?_
              rintro e we ⟨⟨y, vy, rfl, hy⟩, hby⟩
              obtain ⟨Ay, cy, rfl, hcy, hmy⟩ := hy.rd.shape
              unfold maxLen at hmy
              clear hn1
              go_wp2_with fail
              go_loopw [9] (fun i wz => ∃ j : Nat, j ≤ 1 ∧ i = .int .i64 j ∧ (∃ X : Mx.M, OwM wz wq.heap.size (.slice Ay 1 cy) vy 1 (fun i => rw q (X i))) ∧ Below wq.heap.size wq wz) (fun i _ => 1 - (intOf i).toNat)
              case atStart => exact ⟨0, by omega, rfl, ⟨_, hy⟩, hby⟩
              case round =>
                clear hy hby
                obtain ⟨j, hj, rfl, ⟨Y, hy⟩, hby⟩ := hrel
                by_cases hj1 : j < 1
                · obtain rfl : j = 0 := by omega
                  obtain ⟨gb, g2, c2, rfl, hv, hcell, h2c, h2m, hBg, hgs, hcv, hfz, hset⟩ := hy.at_ (k := 0) hj1 hq
                  have hs := hset (Y 0 0 ^^^ 255)
                  rw [← xor255'] at hs
                  have HS := Lib.hid hs
                  have HB := Lib.hid (hby.setCell (p := ⟨g2, 0, none⟩) hBg (.int .u8 (bits .xor .u8 ((Y 0 0).toNat : Int) 255)))
                  clear hset hs hy hby hv
                  go_wp2_with fail
                  go_region
                  go_wp2_with fail
                  go_roundw
                  case rel => exact ⟨1, by omega, rfl, ⟨_, HS.out.below (bwN 1)⟩, below_drewN HB.out 1⟩
                  case measure => simp [intOf]
                · obtain rfl : j = 1 := by omega
                  have m4 := m3.up hby
                  have s3 := s2.up hby
                  have hbb := bwstep hbb hby
                  clear hy m3 s2 hby
                  go_wp2_with fail
                  refine (Calls.bel (rsameM_any _ _ k k _ _ _ _ _ m4 s3)).mono ?_
                  rintro e wg ⟨rfl, hbx⟩
                  rw [sameM_rw fun _ _ _ _ => rfl]
                  have hbb := bwstep hbb hbx
                  clear hbx m4 s3
                  go_wp2_with fail
                  go_ret
                  exact ⟨rfl, hbb⟩
            · clear hstop
              go_wp2_with fail
              have hn1 : Rd (wr.alloc (.cells #[.int .i64 0] 3)) _ (.slice (some ⟨wr.heap.size, 0, none⟩) 1 1) ([0].map nvI) := Rd.newW wr 3 #[.int .i64 0] rfl (by simp [maxLen]) rfl
              have hba := bwalloc (bwrefl wr) (.cells #[.int .i64 0] 3)
              have m3 := m3.up hba
              have s2 := s2.up hba
              have hbb := bwstep hbb hba
              generalize hwq : wr.alloc (.cells #[.int .i64 0] 3) = wq at *
              clear hwq hba
              refine (rows_ok _ _ k _ [0] _ m3 hn1 (zero_lt1 hn) (by simp) (fun i _ => by rw [rw_len]; omega)).mono ?_
              rintro e we ⟨⟨y, vy, rfl, hy⟩, hby⟩
              obtain ⟨Ay, cy, rfl, hcy, hmy⟩ := hy.rd.shape
              unfold maxLen at hmy
              clear hn1
              go_wp2_with fail
              go_loopw [9] (fun i wz => ∃ j : Nat, j ≤ 1 ∧ i = .int .i64 j ∧ (∃ X : Mx.M, OwM wz wq.heap.size (.slice Ay 1 cy) vy 1 (fun i => rw q (X i))) ∧ Below wq.heap.size wq wz) (fun i _ => 1 - (intOf i).toNat)
              case atStart => exact ⟨0, by omega, rfl, ⟨_, hy⟩, hby⟩
              case round =>
                clear hy hby
                obtain ⟨j, hj, rfl, ⟨Y, hy⟩, hby⟩ := hrel
                by_cases hj1 : j < 1
                · obtain rfl : j = 0 := by omega
                  obtain ⟨gb, g2, c2, rfl, hv, hcell, h2c, h2m, hBg, hgs, hcv, hfz, hset⟩ := hy.at_ (k := 0) hj1 hq
                  have hs := hset (Y 0 0 ^^^ 255)
                  rw [← xor255'] at hs
                  have HS := Lib.hid hs
                  have HB := Lib.hid (hby.setCell (p := ⟨g2, 0, none⟩) hBg (.int .u8 (bits .xor .u8 ((Y 0 0).toNat : Int) 255)))
                  clear hset hs hy hby hv
                  go_wp2_with fail
                  go_region
                  go_wp2_with fail
                  go_roundw
                  case rel => exact ⟨1, by omega, rfl, ⟨_, HS.out.below (bwN 1)⟩, below_drewN HB.out 1⟩
                  case measure => simp [intOf]
                · obtain rfl : j = 1 := by omega
                  have m4 := m3.up hby
                  have s3 := s2.up hby
                  have hbb := bwstep hbb hby
                  clear hy m3 s2 hby
                  go_wp2_with fail
                  refine (Calls.bel (rsameM_any _ _ k k _ _ _ _ _ m4 s3)).mono ?_
                  rintro e wg ⟨rfl, hbx⟩
                  rw [sameM_rw fun _ _ _ _ => rfl]
                  have hbb := bwstep hbb hbx
                  clear hbx m4 s3
                  go_wp2_with fail
                  go_ret
                  exact ⟨rfl, hbb⟩
  · have f1' : few n g 8 = false := by simpa using f1
    rw [f1']
    clear k1 f1
    go_wp2_with fail
    refine (awake_ok _).mono ?_
    rintro e we ⟨rfl, hbx⟩
    have hbb := bwstep hbb hbx
    go_wp2_with fail
    go_ret
    exact ⟨rfl, hbb⟩
end Go.Proofs.Ytjhnbhgpnmfdgaa
