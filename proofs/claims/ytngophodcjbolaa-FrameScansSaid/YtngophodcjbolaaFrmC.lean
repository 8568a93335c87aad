/- The contracts of package frame: Put, All, Cut, Scan. -/
import Derived.Test.YtngophodcjbolaaFrmT
import Derived.Test.YtngophodcjbolaaConc
namespace Go.Proofs.Ytngophodcjbolaa
open Go.RowKit Crc Frm

/-- '[][]byte{a, b, c, d}' -/
theorem RdM.build4 {w : World} {a b c d : Value} {x y z u : List UInt8} (e : Nat) (ha : Rd w w.heap.size a (x.map bv)) (hb : Rd w w.heap.size b (y.map bv)) (hc : Rd w w.heap.size c (z.map bv)) (hd : Rd w w.heap.size d (u.map bv)) :
    RdM (w.alloc (.cells #[a, b, c, d] e)) (w.alloc (.cells #[a, b, c, d] e)).heap.size (.slice (some ⟨w.heap.size, 0, none⟩) 4 4) 4 (gl [x, y, z, u]) := by
  have hal := bwalloc (bwrefl w) (.cells #[a, b, c, d] e)
  refine ⟨fun i => [a, b, c, d].getD i undef, Rd.newW w e #[a, b, c, d] rfl (by simp [maxLen]) rfl, fun j hj => ?_⟩
  match j, hj with
  | 0, _ => exact ha.up hal
  | 1, _ => exact hb.up hal
  | 2, _ => exact hc.up hal
  | 3, _ => exact hd.up hal
theorem RdM.build2 {w : World} {a b : Value} {x y : List UInt8} (e : Nat) (ha : Rd w w.heap.size a (x.map bv)) (hb : Rd w w.heap.size b (y.map bv)) :
    RdM (w.alloc (.cells #[a, b] e)) (w.alloc (.cells #[a, b] e)).heap.size (.slice (some ⟨w.heap.size, 0, none⟩) 2 2) 2 (gl [x, y]) := by
  have hal := bwalloc (bwrefl w) (.cells #[a, b] e)
  refine ⟨fun i => [a, b].getD i undef, Rd.newW w e #[a, b] rfl (by simp [maxLen]) rfl, fun j hj => ?_⟩
  match j, hj with
  | 0, _ => exact ha.up hal
  | 1, _ => exact hb.up hal
theorem flatG4 (x y z u : List UInt8) : flatG (gl [x, y, z, u]) 4 = x ++ (y ++ (z ++ u)) := by
  show ((([] ++ x) ++ y) ++ z) ++ u = _
  simp
set_option maxHeartbeats 1000000 in
set_option maxRecDepth 100000 in
theorem fput_ok (v : Value) (r : List UInt8) (w : World) (hr : Rd w w.heap.size v (r.map bv)) (hl : r.length ≤ 65535) :
    Calls Try.prog 12 #[v] w fun e w' => (∃ x, e = .returned x ∧ Ow w' w.heap.size 5 x ((frm r).map bv)) ∧ Below w.heap.size w w' := by
  obtain ⟨A, c, rfl, hc, hm⟩ := hr.shapeM
  unfold maxLen at hm
  go_enter Try.func12, Try.ntmps12
  go_wp2_with fail
  refine (num_ok _ _ (by omega)).mono ?_
  rintro e w1 ⟨q1, rfl, h1, hb1⟩
  go_wp2_with fail
  refine (fsum_any _ _ _ _ h1.rd (by rw [numB_len]; omega)).mono ?_
  rintro e w2 ⟨q2, rfl, h2, hb2⟩
  have hbb := bwstep hb1 hb2
  go_wp2_with fail
  refine (fsum_any _ _ _ _ (hr.up hbb) (by omega)).mono ?_
  rintro e w3 ⟨q3, rfl, h3, hb3⟩
  have hm4 := RdM.build4 25 (h1.rd.up (bwstep hb2 hb3)) (h2.rd.up hb3) h3.rd ((hr.up hbb).up hb3)
  have hbb := bwstep hbb hb3
  have hfl : (flatG (gl [numB r.length, sumB (numB r.length), sumB r, r]) 4).length = 12 + r.length := by rw [flatG4]; exact frm_len r
  obtain ⟨A1, c1, rfl, -, -⟩ := h1.rd.shapeM
  obtain ⟨A2, c2, rfl, -, -⟩ := h2.rd.shapeM
  obtain ⟨A3, c3, rfl, -, -⟩ := h3.rd.shapeM
  have hbl := bwalloc hbb (.cells #[.slice A1 (numB r.length).length c1, .slice A2 (sumB (numB r.length)).length c2, .slice A3 (sumB r).length c3, .slice A r.length c] 25)
  have hcc := concatG_any _ 4 _ _ hm4 (by omega) (by omega) (by omega)
  clear h1 h2 h3 hb1 hb2 hb3 hm4 hbb hr hfl
  go_wp2_with fail
  refine hcc.mono ?_
  rintro e w4 ⟨⟨q4, rfl, h4⟩, hb4⟩
  go_wp2_with fail
  go_ret
  rw [flatG4] at h4
  exact ⟨⟨_, rfl, h4.mono hbl.size⟩, bwstep hbl hb4⟩
set_option maxHeartbeats 400000 in
theorem fput_long (v : Value) (r : List UInt8) (w : World) (B : Nat) (hr : Rd w B v (r.map bv)) (hl : 65535 < r.length) :
    Calls Try.prog 12 #[v] w fun e w' => e = .returned (.slice none 0 0) ∧ w' = w := by
  obtain ⟨A, c, rfl, hc, hm⟩ := hr.shapeM
  unfold maxLen at hm
  go_enter Try.func12, Try.ntmps12
  go_wp2_with fail
  go_ret
  exact ⟨rfl, rfl⟩
set_option maxHeartbeats 1000000 in
set_option maxRecDepth 100000 in
theorem all_any (v : Value) (L : List (List UInt8)) (w : World) (hr : RdM w w.heap.size v L.length (gl L)) (hl : ∀ r ∈ L, r.length ≤ 65535) (hf : (flat L).length ≤ 1000000000000) :
    Calls Try.prog 14 #[v] w fun e w' => (∃ x, e = .returned x ∧ Ow w' w.heap.size 5 x ((flat L).map bv)) ∧ Below w.heap.size w w' := by
  obtain ⟨A, c, rfl, hc, hcm⟩ := hr.shape
  unfold maxLen at hcm
  go_enter Try.func14, Try.ntmps14
  go_wp2_with fail
  go_loopw [3, 5, 8] (fun p _ i wr => ∃ k : Nat, k ≤ L.length ∧ i = .int .i64 (k : Int) ∧ Ow wr w.heap.size 5 p ((flat (L.take k)).map bv) ∧ Below w.heap.size w wr) (fun _ _ i _ => L.length - (intOf i).toNat)
  case atStart => exact ⟨0, by omega, rfl, Ow.nilB _ _ _, Below.refl _ _⟩
  case round =>
    obtain ⟨k, hk, rfl, ho, hbw⟩ := hrel
    by_cases hlt : k < L.length
    · obtain ⟨b, off, rfl, -⟩ := hr.open_ (by omega)
      obtain ⟨A1, c1, hcell1, h1c, h1m, hr1⟩ := (hr.up hbw).row hlt
      have hg := gl_at L hlt
      rw [hg] at hcell1 hr1 h1c
      have hrl := hl _ (List.getElem_mem hlt)
      have HS := Lib.hid (flat_snoc L k hlt)
      have hle : (flat (L.take k)).length + (frm L[k]).length ≤ 140737488355328 := by
        have := Frm.flat_take_le L (k + 1)
        rw [HS.out, List.length_append] at this
        omega
      clear hg
      go_wp2_with fail
      refine (fput_ok _ _ _ hr1 hrl).mono ?_
      rintro e w1 ⟨⟨q, rfl, hq⟩, hb1⟩
      have hsz := (bwstep hbw hb1).size
      have hbw := bwstep hbw hb1
      have ho := ho.below hb1
      have hqr := hq.rd
      clear hr1 hcell1
      go_wp2_with (at_builtin; refine wpList_appB bytesT rfl (.tmp 12) (.tmp 14) rfl rfl ho rfl hqr hle hsz ?_; intro v' w' ho3 hg h3; have HB := Lib.hid (hbw.grown hg hsz ho.ge); have HO := Lib.hid ho3; clear ho3 hg h3)
      go_roundw
      case rel => exact ⟨k + 1, by omega, by go_num, by rw [HS.out]; exact HO.out, HB.out⟩
      case measure => simp [intOf]; omega
    · obtain rfl : k = L.length := by omega
      rw [List.take_length] at ho
      go_wp2_with fail
      go_ret
      exact ⟨⟨_, rfl, ho⟩, hbw⟩
set_option maxHeartbeats 1000000 in
set_option maxRecDepth 100000 in
theorem cut_ok (v : Value) (b r m : List UInt8) (w : World) (B : Nat) (hr : Rd w B v (b.map bv)) (hB : B ≤ w.heap.size) (hb : b = frm r ++ m) (hr5 : r.length ≤ 65535) (hl : b.length ≤ 1000000000000) :
    Calls Try.prog 17 #[v] w fun e w' => (∃ x y, e = .returned (.tuple #[x, y, .bool true]) ∧ Ow w' w.heap.size 5 x (r.map bv) ∧ Ow w' w.heap.size 5 y (m.map bv)) ∧ Below w.heap.size w w' := by
  have hlen : r.length ≤ 1000000000000 ∧ m.length ≤ 1000000000000 := by
    rw [hb, List.length_append, frm_len] at hl
    omega
  go_enter Try.func17, Try.ntmps17
  go_wp2_with fail
  refine (split_ok _ b r m _ _ hr hB hb hr5 hl).mono ?_
  rintro e w1 ⟨⟨x, y, rfl, hx, hy⟩, hb1⟩
  have hB1 := Nat.le_trans hB hb1.size
  go_wp2_with fail
  refine (bclone_any _ _ _ _ hx hB1 hlen.1).mono ?_
  rintro e w2 ⟨x2, rfl, hx2, hb2⟩
  go_wp2_with fail
  refine (bclone_any _ _ _ _ (hy.below (hb2.mono hB1)) (Nat.le_trans hB1 hb2.size) hlen.2).mono ?_
  rintro e w3 ⟨y2, rfl, hy2, hb3⟩
  go_wp2_with fail
  go_ret3
  exact ⟨⟨_, _, rfl, (hx2.below hb3).mono hb1.size, hy2.mono (bwstep hb1 hb2).size⟩, bwstep (bwstep hb1 hb2) hb3⟩
set_option maxHeartbeats 1000000 in
set_option maxRecDepth 100000 in
theorem cut_no (v : Value) (b : List UInt8) (w : World) (B : Nat) (hr : Rd w B v (b.map bv)) (hB : B ≤ w.heap.size) (hno : ¬ Whole b) (hl : b.length ≤ 1000000000000) :
    Calls Try.prog 17 #[v] w fun e w' => (∃ x y, e = .returned (.tuple #[x, y, .bool false]) ∧ Ow w' w.heap.size 5 x (([] : List UInt8).map bv) ∧ Ow w' w.heap.size 5 y (([] : List UInt8).map bv)) ∧ Below w.heap.size w w' := by
  have hcl := fun w => bclone_any (.slice none 0 0) [] w 0 (Rd.nil _ _) (Nat.zero_le _) (by simp)
  go_enter Try.func17, Try.ntmps17
  go_wp2_with fail
  refine (split_no _ b _ _ hr hB hno hl).mono ?_
  rintro e w1 ⟨rfl, hb1⟩
  go_wp2_with fail
  refine (hcl _).mono ?_
  rintro e w2 ⟨x2, rfl, hx2, hb2⟩
  go_wp2_with fail
  refine (hcl _).mono ?_
  rintro e w3 ⟨y2, rfl, hy2, hb3⟩
  go_wp2_with fail
  go_ret3
  exact ⟨⟨_, _, rfl, (hx2.below hb3).mono hb1.size, hy2.mono (bwstep hb1 hb2).size⟩, bwstep (bwstep hb1 hb2) hb3⟩
set_option maxHeartbeats 2000000 in
set_option maxRecDepth 100000 in
theorem scan_any (v : Value) (b m : List UInt8) (R : List (List UInt8)) (w : World) (hr : Rd w w.heap.size v (b.map bv)) (hs : Scanned b R m) (hl : b.length ≤ 1000000000000) :
    Calls Try.prog 15 #[v] w fun e w' => (∃ x vs, e = .returned (.tuple #[x, .int .i64 ((flat R).length : Int)]) ∧ OwM w' w.heap.size x vs R.length (gl R)) ∧ Below w.heap.size w w' := by
  obtain ⟨A, c, rfl, hc, hcm⟩ := hr.shapeM
  obtain ⟨hbR, hR, hno⟩ := hs
  have hbl : b.length = (flat R).length + m.length := by rw [hbR, List.length_append]
  have HBL := Lib.hid hbl
  have hfl := flat_len R
  have hRl : R.length ≤ 1000000000000 := by omega
  clear hbl hfl
  have HB0 := Lib.hid (show b = flat (R.drop 0) ++ m from hbR)
  clear hbR
  unfold maxLen at hcm
  go_enter Try.func15, Try.ntmps15
  go_wp2_with fail
  go_loopw [4, 5, 6, 7, 8] (fun p q _ _ _ wr => ∃ (k : Nat) (t : List UInt8), k ≤ R.length ∧ (∃ vs, OwM wr w.heap.size p vs k (gl R)) ∧ Rd wr w.heap.size q (t.map bv) ∧ Hid (t = flat (R.drop k) ++ m) ∧ Below w.heap.size w wr) (fun _ q _ _ _ _ => slen q)
  case atStart => exact ⟨0, b, by omega, ⟨_, OwM.nil _ _ _⟩, hr, HB0, Below.refl _ _⟩
  case round =>
    clear hr
    obtain ⟨k, t, hk, ⟨vs, ho⟩, hq, HT, hbw⟩ := hrel
    have hsz := hbw.size
    by_cases hlt : k < R.length
    · obtain ⟨t2, ht2⟩ : ∃ t2, t2 = flat (R.drop (k + 1)) ++ m := ⟨_, rfl⟩
      obtain ⟨r, hr⟩ : ∃ r, r = R[k] := ⟨_, rfl⟩
      have e1 : t = frm r ++ t2 := by rw [HT.out, ht2, hr, flat_drop R k hlt, List.append_assoc]
      have hrk : r.length ≤ 65535 := by rw [hr]; exact hR _ (List.getElem_mem hlt)
      have hll : t.length ≤ 1000000000000 := by
        have := HBL.out
        rw [flat_split R k, List.length_append] at this
        rw [HT.out, List.length_append]
        omega
      have hlt2 : t2.length < t.length := by rw [e1, List.length_append, frm_len]; omega
      obtain ⟨A1, c1, rfl, -, -⟩ := hq.shapeM
      have hsp := split_ok _ _ _ _ _ _ hq hsz e1 hrk hll
      have HE := Lib.hid (show r = gl R k by rw [hr, gl_at R hlt])
      have HT2 := Lib.hid ht2
      clear e1 hll hq hr ht2
      go_wp2_with fail
      refine hsp.mono ?_
      rintro e w1 ⟨⟨x, y, rfl, hx, hy⟩, hb1⟩
      go_wp2_with fail
      refine (bclone_any _ _ _ _ hx (Nat.le_trans hsz hb1.size) (by omega)).mono ?_
      rintro e w2 ⟨u, rfl, hu, hb2⟩
      have hy := hy.below (hb2.mono (Nat.le_trans hsz hb1.size))
      have hb2 := bwstep hb1 hb2
      have hu := hu.mono hb1.size
      have hB0 := Bld.of ho hbw hu hb2
      obtain ⟨Au, cu, rfl, -, -⟩ := hu.rd.shapeM
      obtain ⟨Ay, cy, rfl, -, -⟩ := hy.shapeM
      have hone : One [Value.slice Au r.length cu] := one_one rfl
      have hrd : Rd (w2.alloc (.cells #[.slice Au r.length cu] 25)) _ (.slice (some ⟨w2.heap.size, 0, none⟩) 1 1) [.slice Au r.length cu] := Rd.newW w2 25 #[.slice Au r.length cu] rfl (by simp [maxLen]) rfl
      have hy := hy.below (((Below.refl w.heap.size w2).alloc (Nat.le_trans hsz hb2.size) (.cells #[.slice Au r.length cu] 25)))
      have hB2 := hB0.up (bwalloc (Below.refl _ _) (.cells #[.slice Au r.length cu] 25))
      have hs2 := hB2.bel.size
      have hl1 : ((List.range k).map vs).length + [Value.slice Au r.length cu].length ≤ maxLen := (by simp [maxLen]; omega)
      have hl2 : (((List.range k).map vs).length + [Value.slice Au r.length cu].length) * 24 ≤ 140737488355328 := (by simp; omega)
      have HY := Lib.hid (fun (w' : World) (h : Below w.heap.size (w2.alloc (.cells #[.slice Au r.length cu] 25)) w') => hy.below h)
      clear ho hbw hu hb2 hx hb1 hB0 hy
      go_wp2_with (at_builtin; refine wpList_app rowsT rfl rfl (.tmp 24) (.tmp 27) rfl rfl hB2.om.out rfl hrd hone hl1 hl2 hs2 ?_; intro v' w' ho hg h3; have HB := Lib.hid (hB2.push ho hg h3); have HG := Lib.hid (HY.out w' ((Below.refl w.heap.size _).grown hg hs2 hB2.om.out.ge)); clear ho hg h3 hrd hB2 hone HY)
      go_roundw
      case rel => exact ⟨k + 1, t2, by omega, ⟨_, HB.out.1.congr fun i hi => by
        by_cases e : i = k
        · subst e; rw [if_pos rfl, HE.out]
        · rw [if_neg e]⟩, HG.out, HT2, HB.out.2⟩
      case measure => simpa [slen] using hlt2
    · obtain rfl : k = R.length := by omega
      obtain rfl : t = m := by rw [HT.out, List.drop_length, flat_nil, List.nil_append]
      obtain ⟨A1, c1, rfl, -, -⟩ := hq.shapeM
      have hml : t.length ≤ 1000000000000 := by have := HBL.out; omega
      have hsp := split_no _ _ _ _ hq hsz hno hml
      have HD := Lib.hid (show (b.length : Int) - (t.length : Int) = ((flat R).length : Int) by have := HBL.out; omega)
      go_wp2_with fail
      refine hsp.mono ?_
      rintro e w1 ⟨rfl, hb1⟩
      go_wp2_with fail
      go_ret2
      exact ⟨⟨_, vs, ret2 rfl (vi HD.out), ho.below hb1⟩, bwstep hbw hb1⟩
end Go.Proofs.Ytngophodcjbolaa
