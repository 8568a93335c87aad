/- Layer 17's law SlotKeeps. -/
import Derived.Test.YtofhnomljfbckaaVoI
import Derived.Deep.RegionHeld3
import Derived.BigQuiet
import Derived.Test.YtofhnomljfbckaaLow
set_option maxHeartbeats 8000000
set_option maxRecDepth 100000
namespace Go.Proofs.Ytofhnomljfbckaa.Ce
open Go.RowKit
theorem xor255_vt (u : UInt8) : Value.int .u8 (bits .xor .u8 (u.toNat : Int) 255) = bv (u ^^^ 255) := by
 have := xor_u8 u 255
 exact congrArg (Value.int .u8) this
theorem slotKeeps_gen (I : SlotI) (c : Vt) (w : World) : Calls Try.prog 6 #[c.v] w fun e w' => e = .returned (.bool true) ∧ Below w.heap.size w w' := by
 have hcc := vtSelf c
 have hss : sameB (vtB c) (vtB c) = true := sameB_self _
 have hrr := fun w1 => rright17_any c w1
 go_enter Try.func6, Try.ntmps6
 go_wp2_with (refine St.box vtD rfl (.tmp 0) c rfl rfl ?_)
 constructor
 intro w1 hI1 hb1 hz1
 clear hz1
 go_wp2_with fail
 refine (awake17_ok I _).mono ?_
 rintro e w2 ⟨rfl, hb2⟩
 have hI2 := hI1.up hb2
 have hw2 := bwstep hb1 hb2
 clear hI1 hb1 hb2
 go_wp2_with (refine St.load vtOk rfl (.tmp 1) rfl rfl hI2 ?_)
 refine (hrr _).mono ?_
 rintro e w3 ⟨rfl, hb3⟩
 have hI3 := hI2.up hb3
 have hw3 := bwstep hw2 hb3
 clear hI2 hw2 hb3 hrr
 by_cases hR : c.Right
 ·rw [decide_eq_true hR]
  go_wp2_with (refine St.load vtOk rfl (.tmp 1) rfl rfl hI3 ?_)
  refine (I.put_yes c _ hR).mono ?_
  rintro e w4 ⟨x4, rfl, ho4, hb4⟩
  have hlen : (vtB c).length ≤ 1000 := by have := vtB_len c; have := hR.2.2.2.2.2; omega
  have HIA := Lib.hid fun z (hz : Below w3.heap.size w3 z) => hI3.bel hz hI3.lt
  have HW3 := Lib.hid hw3
  obtain ⟨s, hs⟩ : ∃ s, vtB c = s := ⟨_, rfl⟩
  have HV := Lib.hid hs
  rw [hs] at ho4 hlen hss
  clear hs hI3 hw3
  obtain ⟨A4, c4, rfl, hc4, hm4⟩ := ho4.rd.shapeM
  unfold maxLen at hm4
  go_wp2_with (at_builtin; refine wpList_appB bytesT rfl (.tmp 26) (.tmp 27) rfl rfl (Ow.empty _ (Nat.le_refl _) _) rfl (ho4.rd.up ((Below.refl _ _).alloc (Nat.le_refl _) _)) (by simp; omega) (by simp) ?_; intro v5 w5 ho5 hg5 _; have hB5 := Ow.emptyG hg5)
  rw [List.nil_append] at ho5
  have HA : Hid (∀ k, v5.ownBlock = some k → w4.heap.size ≤ k) := Lib.hid ho5.ge
  have HFB : Hid (∀ k, (Value.slice A4 s.length c4).ownBlock = some k → k < w4.heap.size) := Lib.hid fun k hk => (ho4.lt k hk).2
  have hO5 := ho4.below hB5
  have hq5 := bwstep hb4 hB5
  clear hg5 hB5 ho4 hb4
  obtain ⟨A5, c5, rfl, hc5, hm5⟩ := ho5.rd.shapeM
  refine (I.get_vote c _ _ hR (by rw [HV.out]; exact hO5.rd)).mono ?_
  rintro e w6 ⟨rfl, hb6⟩
  have hO6 := hO5.below hb6
  have ho6 := ho5.below hb6
  have hq6 := bwstep hq5 hb6
  clear hO5 ho5 hq5 hb6
  go_wp2_with (refine St.alloc vtOk rfl rfl ?_)
  constructor
  intro w7 hJ7 hb7 hz7
  clear hz7
  go_wp2_with (refine St.store vtOk (c := c) rfl (.tmp 7) (.tmp 33) rfl rfl rfl hJ7 ?_)
  constructor
  intro w8 hs8
  have hJ8 := hs8.i
  have hb8 := hs8.bel hb7 (Nat.le_refl _)
  have hO8 := hO6.below hb8
  have ho8 := ho6.below hb8
  have hq8 := bwstep hq6 hb8
  clear hs8 hJ7 hO6 ho6 hq6 hb7 hb8
  go_wp2_with fail
  refine (rsame_bel _ _ _ _ _ _ _ hO8.rd ho8.rd).mono ?_
  rintro e w9 ⟨rfl, hb9⟩
  rw [hss]
  have hJ9 := hJ8.up hb9
  have hO9 := hO8.below hb9
  have ho9 := ho8.below hb9
  have hq9 := bwstep hq8 hb9
  have hI9 := HIA.out _ hq9
  clear hJ8 hO8 ho8 hq8 hb9
  go_wp2_with (first | refine St.load vtOk rfl (.tmp 7) rfl rfl hJ9 ?_ | refine St.load vtOk rfl (.tmp 1) rfl rfl hI9 ?_ | refine St.eq vtEqs (vtTyped c c) rfl (.tmp 39) (.tmp 40) _ rfl rfl rfl hcc ?_)
  clear hJ9 hI9
  go_loopw [10] (fun i wr => ∃ (k : Nat) (g : List UInt8), k ≤ s.length ∧ i = .int .i64 k ∧ g.length = s.length ∧ Ow wr w3.heap.size 5 (.slice A4 s.length c4) (g.map bv) ∧ Ow wr w4.heap.size 5 (.slice A5 s.length c5) (s.map bv) ∧ Below w3.heap.size w3 wr) (fun i _ => s.length - (intOf i).toNat)
  case atStart => exact ⟨0, s, Nat.zero_le _, rfl, rfl, hO9, ho9, hq9⟩
  case round =>
   clear hO9 ho9 hq9
   obtain ⟨k, g, hk, rfl, hgl, ho, hwas, hb⟩ := hrel
   by_cases hlt : k < s.length
   ·obtain ⟨gb, rfl, hgB, hgs, hgc, hgf, hst⟩ := ho.at_ (k := k) (by rw [List.length_map]; omega)
    rw [List.getElem_map] at hgc
    have HO0 := Lib.hid fun u : UInt8 => hst (bv u)
    have HB0 := Lib.hid fun u : UInt8 => hb.setCell (p := ⟨gb, k, none⟩) hgB (bv u)
    have HW0 := Lib.hid fun u : UInt8 => hwas.kept (grownBy_setCell wr gb k (bv u)) (fun j hj e => by
     have h1 := HA.out j hj
     have h2 := HFB.out gb rfl
     injection e with e
     omega)
    clear hst ho hwas hb
    generalize g[k]'(by omega) = gk at hgc
    have HO := Lib.hid (HO0.out (gk ^^^ 255))
    rw [← List.map_set] at HO
    have HW := Lib.hid (HW0.out (gk ^^^ 255))
    have HB := Lib.hid (HB0.out (gk ^^^ 255))
    have HX := Lib.hid (xor255_vt gk)
    have HL : Hid ((g.set k (gk ^^^ 255)).length = s.length) := Lib.hid (by rw [List.length_set]; exact hgl)
    simp only [bv] at hgc
    clear hgl HO0 HB0 HW0
    go_wp2_with fail
    rw [HX.out]
    go_roundw
    case rel => exact ⟨k + 1, _, by omega, by go_num, HL.out, HO.out, HW.out, HB.out⟩
    case measure => simp [intOf]; omega
   ·have hI := HIA.out _ hb
    have hw := HW3.out.trans (hb.mono HW3.out.size)
    have hrw := hwas.rd
    clear ho hwas hb hgl HIA HW3
    go_wp2_with (refine St.load vtOk rfl (.tmp 1) rfl rfl hI ?_)
    refine (I.put_yes c _ hR).mono ?_
    rintro e w10 ⟨x10, rfl, ho10, hb10⟩
    have hr10 := ho10.rd
    have hrw10 := hrw.up hb10
    have hw10 := bwstep hw hb10
    rw [HV.out] at hr10
    clear hI hw hrw ho10 hb10
    go_wp2_with fail
    refine (rsame_bel _ _ _ _ _ _ _ hr10 hrw10).mono ?_
    rintro e w11 ⟨rfl, hb11⟩
    rw [hss]
    have hw11 := bwstep hw10 hb11
    clear hw10 hr10 hrw10 hb11
    go_wp2_with fail
    go_ret
    exact ⟨rfl, hw11⟩
 ·rw [decide_eq_false hR]
  go_wp2_with fail
  refine (awake17_ok I _).mono ?_
  rintro e w4 ⟨rfl, hb4⟩
  have hw4 := bwstep hw3 hb4
  clear hw3 hb4 hI3
  go_wp2_with fail
  go_ret
  exact ⟨rfl, hw4⟩
end Go.Proofs.Ytofhnomljfbckaa.Ce
