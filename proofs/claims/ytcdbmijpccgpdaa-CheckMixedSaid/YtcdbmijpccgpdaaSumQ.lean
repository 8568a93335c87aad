/- CheckMixed: its walk. -/
import Derived.Test.YtcdbmijpccgpdaaSumN
import Derived.Test.YtcdbmijpccgpdaaOwn
namespace Go.Proofs.Ytcdbmijpccgpdaa
open Go.RowKit Crc

theorem three (a b c : UInt8) : (#[Value.int .u8 (bits .xor .u8 (bits .xor .u8 (a.toNat : Int) (b.toNat : Int)) (c.toNat : Int))]).toList = [a ^^^ b ^^^ c].map bv := by
  rw [xor_u8, xor_u8]; rfl
/-- four slices of bytes of the call's own -/
structure Four (w1 : World) (xs ys zs us : List UInt8) (a b c d : Value) (wr : World) : Prop where
  oa : Ow wr w1.heap.size 5 a (xs.map bv)
  ob : Ow wr w1.heap.size 5 b (ys.map bv)
  oc : Ow wr w1.heap.size 5 c (zs.map bv)
  od : Ow wr w1.heap.size 5 d (us.map bv)
  ab : Apart a b
  ac : Apart a c
  ad : Apart a d
  bc : Apart b c
  bd : Apart b d
  cd : Apart c d
  bel : Below w1.heap.size w1 wr
theorem Four.rot {w1 wr : World} {xs ys zs us : List UInt8} {a b c d : Value} (h : Four w1 xs ys zs us a b c d wr) : Four w1 ys zs us xs b c d a wr :=
  ⟨h.ob, h.oc, h.od, h.oa, h.bc, h.bd, h.ab.symm, h.cd, h.ac.symm, h.ad.symm, h.bel⟩
theorem Four.up {w1 wr w' : World} {xs ys zs us : List UInt8} {a b c d : Value} (h : Four w1 xs ys zs us a b c d wr) (hb : Below wr.heap.size wr w') : Four w1 xs ys zs us a b c d w' :=
  ⟨h.oa.below hb, h.ob.below hb, h.oc.below hb, h.od.below hb, h.ab, h.ac, h.ad, h.bc, h.bd, h.cd, bwstep h.bel hb⟩
theorem Four.alloc {w1 wr : World} {xs ys zs us : List UInt8} {a b c d : Value} (h : Four w1 xs ys zs us a b c d wr) (o : Obj) : Four w1 xs ys zs us a b c d (wr.alloc o) := h.up (bwalloc (Below.refl _ _) o)
theorem Four.drew {w1 wr : World} {xs ys zs us : List UInt8} {a b c d : Value} (h : Four w1 xs ys zs us a b c d wr) : Four w1 xs ys zs us a b c d wr.drew := h.up ((Below.refl _ _).drew)
theorem Four.app {w1 wr wa : World} {xs ys zs us m : List UInt8} {a b c d a' : Value} (h : Four w1 xs ys zs us a b c d wr) (ho : Ow wa w1.heap.size 5 a' ((xs ++ m).map bv)) (hg : wr.grownBy wa a.ownBlock)
    (h3 : a'.ownBlock = a.ownBlock ∨ a'.ownBlock = some wr.heap.size) : Four w1 (xs ++ m) ys zs us a' b c d wa :=
  ⟨ho, h.ob.kept hg h.ab.symm, h.oc.kept hg h.ac.symm, h.od.kept hg h.ad.symm, (h.ab.symm.app h.ob h3).symm, (h.ac.symm.app h.oc h3).symm, (h.ad.symm.app h.od h3).symm, h.bc, h.bd, h.cd, h.bel.grown hg h.bel.size h.oa.ge⟩
def Mix (w1 : World) (l : List (UInt8 × UInt8 × UInt8)) (a b c d : Value) (wr : World) : Prop := Four w1 (l.map (·.1)) (l.map (·.2.1)) (l.map (·.2.2)) (mix3 l) a b c d wr
theorem Mix.nil (w1 : World) : Mix w1 [] (.slice none 0 0) (.slice none 0 0) (.slice none 0 0) (.slice none 0 0) w1 :=
  ⟨Ow.nilB _ _ _, Ow.nilB _ _ _, Ow.nilB _ _ _, Ow.nilB _ _ _, Apart.nil _, Apart.nil _, Apart.nil _, Apart.nil _, Apart.nil _, Apart.nil _, Below.refl _ _⟩

theorem Mix.snoc {w1 wr : World} {l : List (UInt8 × UInt8 × UInt8)} {k : Nat} (hk : k < l.length) {y0 y1 y2 : UInt8} (hy : l[k] = (y0, y1, y2)) {xs ys zs us : List UInt8} {a b c d : Value}
    (h1 : (l.take k).map (·.1) = xs) (h2 : (l.take k).map (·.2.1) = ys) (h3 : (l.take k).map (·.2.2) = zs) (h4 : mix3 (l.take k) = us) (h : Four w1 (xs ++ [y0]) (ys ++ [y1]) (zs ++ [y2]) (us ++ [y0 ^^^ y1 ^^^ y2]) a b c d wr) :
    Mix w1 (l.take (k + 1)) a b c d wr := by
  unfold Mix mix3 at *
  rw [List.take_succ_eq_append_getElem hk, hy, List.map_append, List.map_append, List.map_append, List.map_append, h1, h2, h3, h4]
  exact h

set_option maxHeartbeats 2000000 in
set_option maxRecDepth 100000 in
theorem checkMixed_walk (x : Value) (l : List (UInt8 × UInt8 × UInt8)) (w : World) (hx : Rd3 w w.heap.size x l) :
    Calls Try.prog 5 #[x] w fun e w' => e = .returned (.bool true) ∧ Below w.heap.size w w' := by
  obtain ⟨A, cap, rfl, hc, hm, hxc⟩ := hx
  have HX := Lib.hid hxc
  clear hxc
  by_cases h1 : l.length ≤ 1000
  · go_enter Try.func5, Try.ntmps5
    go_wp2_with fail
    refine (awake_ok _).mono ?_
    rintro e w1 ⟨rfl, hb1⟩
    go_wp2_with fail
    go_loopw [3, 4, 5, 6, 7] (fun a b c d i wr => ∃ k : Nat, k ≤ l.length ∧ i = .int .i64 k ∧ Mix w1 (l.take k) a b c d wr) (fun _ _ _ _ i _ => l.length - (intOf i).toNat)
    case atStart => exact ⟨0, by omega, rfl, Mix.nil _⟩
    case round =>
      obtain ⟨k, hk, rfl, hM⟩ := hrel
      by_cases hlt : k < l.length
      · obtain ⟨p, off, rfl, hp, hcell⟩ := HX.out (by omega)
        obtain ⟨c0, c1, c2⟩ := hcell k hlt
        clear hcell
        generalize hyy : l[k] = yy at c0 c1 c2
        have HY := Lib.hid hyy
        clear hyy
        obtain ⟨y0, y1, y2⟩ := yy
        have hkeep : ∀ (W : World), Below w1.heap.size w1 W → W.cell? ⟨p, off + k * 3, none⟩ = some (bv y0) ∧ W.cell? ⟨p, off + k * 3 + 1, none⟩ = some (bv y1) ∧ W.cell? ⟨p, off + k * 3 + 2, none⟩ = some (bv y2) := by
          intro W hW
          have hWW := bwstep hb1 hW
          exact ⟨(hWW.cell hp).trans c0, (hWW.cell hp).trans c1, (hWW.cell hp).trans c2⟩
        have HK := Lib.hid hkeep
        clear hkeep c0 c1 c2
        obtain ⟨q0, q1, q2⟩ := HK.out _ hM.bel
        simp only [bv] at q0 q1 q2
        have hlen := List.length_take_of_le hk
        unfold Mix at hM
        generalize hxs : (l.take k).map (·.1) = xs at hM
        generalize hys : (l.take k).map (·.2.1) = ys at hM
        generalize hzs : (l.take k).map (·.2.2) = zs at hM
        generalize hus : mix3 (l.take k) = us at hM
        have lx : xs.length ≤ 1000 := by rw [← hxs]; simp; omega
        have ly : ys.length ≤ 1000 := by rw [← hys]; simp; omega
        have lz : zs.length ≤ 1000 := by rw [← hzs]; simp; omega
        have lu : us.length ≤ 1000 := by rw [← hus]; simp [mix3]; omega
        have HXS := Lib.hid hxs
        have HYS := Lib.hid hys
        have HZS := Lib.hid hzs
        have HUS := Lib.hid hus
        clear hxs hys hzs hus hlen
        have MA := hM.alloc (.cells #[.int .u8 (y0.toNat : Int)] 5)
        clear hM
        go_wp2_with (first
          | (at_builtin; refine wpList_appB bytesT rfl (.tmp 22) (.tmp 28) rfl rfl MA.oa rfl (Rd.newW _ _ _ rfl (by simp [maxLen]) (rfl : _ = [y0].map bv)) (by simp; omega) MA.bel.size ?_; intro va wa hoa hga hra; have M1 := (MA.app hoa hga hra).rot; obtain ⟨q0, q1, q2⟩ := HK.out _ M1.bel; simp only [bv] at q0 q1 q2; have MB := M1.alloc (.cells #[.int .u8 (y1.toNat : Int)] 5))
          | (at_builtin; refine wpList_appB bytesT rfl (.tmp 30) (.tmp 36) rfl rfl MB.oa rfl (Rd.newW _ _ _ rfl (by simp [maxLen]) (rfl : _ = [y1].map bv)) (by simp; omega) MB.bel.size ?_; intro vb wb hob hgb hrb; have M2 := (MB.app hob hgb hrb).rot; obtain ⟨q0, q1, q2⟩ := HK.out _ M2.bel; simp only [bv] at q0 q1 q2; have MC := M2.alloc (.cells #[.int .u8 (y2.toNat : Int)] 5))
          | (at_builtin; refine wpList_appB bytesT rfl (.tmp 38) (.tmp 44) rfl rfl MC.oa rfl (Rd.newW _ _ _ rfl (by simp [maxLen]) (rfl : _ = [y2].map bv)) (by simp; omega) MC.bel.size ?_; intro vc wc hoc hgc hrc; have M3 := (MC.app hoc hgc hrc).rot; obtain ⟨q0, q1, q2⟩ := HK.out _ M3.bel; simp only [bv] at q0 q1 q2))
        have MD := (M3.drew).alloc (.cells #[.int .u8 (bits .xor .u8 (bits .xor .u8 (y0.toNat : Int) (y1.toNat : Int)) (y2.toNat : Int))] 5)
        have hv3 := three y0 y1 y2
        have HV3 := Lib.hid hv3
        clear hv3
        go_region_law (refine step_appB bytesT rfl (.tmp 46) (.tmp 64) rfl (by simp [Act.eval, Act.put]) MD.oa (by simp [Act.eval, Act.put]) (Rd.newW _ _ _ rfl (by simp [maxLen]) HV3.out) (by simp; omega) MD.bel.size ?_; intro vd wd hod hgd hrd; have M4 := (MD.app hod hgd hrd).rot; clear MD)
        all_goals
          go_wp2_with fail
          go_roundw
          case rel => exact ⟨k + 1, by omega, by go_num, Mix.snoc hlt HY.out HXS.out HYS.out HZS.out HUS.out M4⟩
          case measure => simp [intOf]; omega
      · obtain rfl : k = l.length := by omega
        rw [List.take_length] at hM
        unfold Mix at hM
        have hA := hM.oa.rd
        have hB := hM.ob.rd
        have hC := hM.oc.rd
        have hD := hM.od.rd
        have hbb := bwstep hb1 hM.bel
        have HM := Lib.hid (sum_mix l)
        clear hM
        go_wp2_with fail
        refine (sum_any _ (mix3 l) _ _ hD (by simp [mix3]; omega)).mono ?_
        rintro e w' ⟨rfl, rfl⟩
        go_wp2_with fail
        refine (sum_any _ (l.map (·.1)) _ _ hA (by simp; omega)).mono ?_
        rintro e w' ⟨rfl, rfl⟩
        go_wp2_with fail
        refine (sum_any _ (l.map (·.2.1)) _ _ hB (by simp; omega)).mono ?_
        rintro e w' ⟨rfl, rfl⟩
        go_wp2_with fail
        refine (sum_any _ (l.map (·.2.2)) _ _ hC (by simp; omega)).mono ?_
        rintro e w' ⟨rfl, rfl⟩
        go_wp2_with fail
        go_ret
        exact ⟨ret1 (vb (by rw [xor_vw, xor_vw, HM.out]; exact beq_self_eq_true _)), hbb⟩
  · go_enter Try.func5, Try.ntmps5
    go_wp2_with fail
    refine (awake_ok _).mono ?_
    rintro e w1 ⟨rfl, hb1⟩
    go_wp2_with fail
    refine (awake_ok _).mono ?_
    rintro e w2 ⟨rfl, hb2⟩
    go_wp2_with fail
    go_ret
    exact ⟨rfl, bwstep hb1 hb2⟩
end Go.Proofs.Ytcdbmijpccgpdaa
