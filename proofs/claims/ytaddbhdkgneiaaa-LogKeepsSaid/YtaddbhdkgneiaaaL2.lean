/- Layer 18's law LogReads, over package log's contracts. -/
import Derived.Test.YtaddbhdkgneiaaaLgG
set_option maxHeartbeats 8000000
set_option maxRecDepth 100000
namespace Go.Proofs.Ytaddbhdkgneiaaa.Ce
open Go.RowKit Dk
def ReadI : Prop := ∀ (x : Value) (b m : List UInt8) (R : List (List UInt8)) (w : World), Rd w w.heap.size x (b.map bv) → Frm.Scanned b R m → b.length ≤ 1000000 →
  Calls Try.prog 6 #[x] w fun e w' => (∃ v, e = .returned (.tuple #[.int .i64 (Lg.nil.reads R).most, v]) ∧ St.RdS vtL w' [] v (Lg.nil.reads R).votes) ∧ Below w.heap.size w w'
theorem logReads_gen {Own : World → Value → Nat → Lg → List Nat → Prop} (I : LogI Own) (HRd : ReadI) (x : Value) (s : List UInt8) (w : World) (hx : Rd w w.heap.size x (s.map bv)) : Calls Try.prog 3 #[x] w fun e w' => e = .returned (.bool true) ∧ Below w.heap.size w w' := by
 obtain ⟨A, cp, rfl, hc, hm⟩ := hx.shapeM
 obtain ⟨R, m, hs⟩ := Frm.scan_ex s.length s (Nat.le_refl _)
 have HS := Lib.hid hs
 have HU : Hid ((Lg.nil.reads R).used ≤ s.length) := Lib.hid (used_le hs)
 have HVL : Hid ((Lg.nil.reads R).votes.length ≤ 64) := Lib.hid (Lg.nil_ok.reads.len)
 have HX := Lib.hid hx
 clear hs hx
 go_enter Try.func3, Try.ntmps3
 go_wp2_with fail
 refine (awake18_ok I _).mono ?_
 rintro e w1 ⟨rfl, hb1⟩
 by_cases hlen : (3000 : Int) < (s.length : Int)
 ·go_wp2_with fail
  refine (awake18_ok I _).mono ?_
  rintro e w2 ⟨rfl, hb2⟩
  have hw2 := bwstep hb1 hb2
  clear hb1 hb2
  go_wp2_with fail
  go_ret
  exact ⟨rfl, hw2⟩
 go_wp2_with fail
 refine (HRd _ s m R _ (HX.out.up hb1) HS.out (by omega)).mono ?_
 rintro e w2 ⟨⟨v, rfl, hv⟩, hb2⟩
 have hw2 := bwstep hb1 hb2
 clear hb1 hb2
 go_wp2_with fail
 refine (rread18_any _ s m R _ (HX.out.up hw2) HS.out (by omega)).mono ?_
 rintro e w3 ⟨⟨u, rfl, hu⟩, hb3⟩
 have hv3 := hv.bel hb3
 have hw3 := bwstep hw2 hb3
 obtain ⟨Au, cu, rfl, -, -⟩ := hu.shape
 obtain ⟨Av, cv, rfl, -, -⟩ := hv3.shape
 have HV3 := Lib.hid hv3
 have HU3 := Lib.hid hu
 have HW3 := Lib.hid hw3
 clear hw2 hb3 hv hu hv3 hw3
 go_wp2_with fail
 refine (dnew_any 5000 _ (by omega) (by omega)).mono ?_
 rintro e w4 ⟨db, mb, rfl, hd4, hb4⟩
 have hd4 : DiskAt w4 w3.heap.size (.pointer (some ⟨db, 0, none⟩)) db mb 5000 0 [] := hd4
 have hk4 : DkAt w4 w3.heap.size (.pointer (some ⟨db, 0, none⟩)) 5000 [] db mb [] := ⟨hd4, rfl, by omega, by simp [Dk.total], hb4.size⟩
 have hx4 : RdS w4 (fp db mb []) (.slice A s.length cp) s := RdS.of_low ((HX.out.up HW3.out).below hb4) hb4.size hd4.ge
 have HB4 := Lib.hid hb4
 clear hd4 hb4
 go_wp2_with fail
 refine (hk4.append .none hx4 (by omega)).mono ?_
 rintro e w5 ⟨E, M5, rfl, ⟨L5, hk5, hp5, hs5⟩, hE⟩
 have hM5 : M5 = [⟨logNm, s, 0⟩] := by
  rcases hE with ⟨-, -, h⟩ | ⟨-, -, t, h1, h2, -⟩
  ·simp [byt] at h; omega
  ·have : t = 0 := by simpa [byt] using h1
   rw [h2, this]; rfl
 subst hM5
 have HB5 := Lib.hid (HB4.out.trans (hp5.below hk4.at_.ge hk4.hB))
 have hd5 := hk5.at_
 have hL5 := hk5.fil
 have hB5 := hk5.hB
 clear hE hk4 hx4 hp5 hs5 HB4 hk5
 have ht5 : Dk.total [(⟨logNm, s, 0⟩ : Dk.Fl)] = (byt (some s)).length := by simp [Dk.total, byt]
 rw [ht5] at hd5
 have hop := I.open_ (o := some s) hd5 (by rw [hL5]; exact .some s 0 (Nat.zero_le _)) (by show s.length ≤ _; omega) (by omega) hB5 HS.out
 clear ht5
 go_wp2_with fail
 refine hop.mono ?_
 rintro e w6 ⟨lb, L6, T6, rfl, hl6, ho6, hT6, hp6, hs6⟩
 have HB6 := Lib.hid (HB5.out.trans (hp6.below hd5.ge hB5))
 have hwf := LogWf.opened (o := some s) HS.out
 have hlo : LogAt Own w6 w3.heap.size (.pointer (some ⟨db, 0, none⟩)) 5000 (openO (some s) R) lb (Lg.nil.reads R) (T6 ++ fp db mb L6) := ⟨db, mb, L6, T6, hl6, ho6, hwf, fun k hk => ⟨(hT6 k hk).2, Nat.le_trans hB5 (hT6 k hk).1⟩, rfl⟩
 have HLD := Lib.hid hl6
 have HLO := Lib.hid hlo
 have hbyt : byt (openO (some s) R) = s.take (Lg.nil.reads R).used := rfl
 clear hop hd5 hL5 hB5 hl6 ho6 hT6 hp6 hs6 hwf hlo HB5
 generalize openO (some s) R = o6 at *
 have hnn : ((Lg.nil.reads R).most != (Lg.nil.reads R).most) = false := by simp
 have hne : ((Lg.nil.reads R).most == (Lg.nil.reads R).most) = true := by simp
 go_wp2_with fail
 refine (rvsame_self _ _ _ _ (HV3.out.bel HB6.out) (HU3.out.bel HB6.out) HVL.out).mono ?_
 rintro e w7 ⟨rfl, hb7⟩
 have HLD7 := Lib.hid (HLD.out.keep (fun k hk => hb7.block k (HLD.out.at_.lt k hk)) hb7.size)
 have HLO7 := Lib.hid (HLO.out.up I hb7)
 have HB7 := Lib.hid (bwstep HB6.out hb7)
 clear hb7 HLD HLO HB6
 go_wp2_with fail
 refine HLD7.out.synced_any.mono ?_
 rintro e w8 ⟨⟨c, E8, rfl, hc8⟩, hb8⟩
 have hc8 := hc8.rd
 rw [hbyt] at hc8
 obtain ⟨t, ht⟩ : ∃ t, t = s.take (Lg.nil.reads R).used := ⟨_, rfl⟩
 rw [← ht] at hc8
 have HTK := Lib.hid ht
 clear ht
 obtain ⟨Ac, cc, rfl, -, -⟩ := hc8.shapeM
 have HC8 := Lib.hid hc8
 have HLO8 := Lib.hid (HLO7.out.up I hb8)
 have HB8 := Lib.hid (bwstep HB7.out hb8)
 clear hb8 HLD7 HLO7 HB7 hc8
 go_wp2_with fail
 refine (I.promised HLO8.out).mono ?_
 rintro e w9 ⟨rfl, hb9⟩
 have HC9 := Lib.hid (HC8.out.up hb9)
 have HLO9 := Lib.hid (HLO8.out.up I hb9)
 have HB9 := Lib.hid (bwstep HB8.out hb9)
 clear hb9 HC8 HLO8 HB8
 go_wp2_with fail
 refine (I.votes HLO9.out).mono ?_
 rintro e w10 ⟨⟨y, rfl, hy⟩, hb10⟩
 have hy10 := hy.rd (S := []) (by simp)
 have HC10 := Lib.hid (HC9.out.up hb10)
 have HB10 := Lib.hid (bwstep HB9.out hb10)
 clear hb10 HC9 HLO9 HB9 hy
 go_wp2_with fail
 refine (rvsame_self _ _ _ _ hy10 (HU3.out.bel HB10.out) HVL.out).mono ?_
 rintro e w11 ⟨rfl, hb11⟩
 have HC11 := Lib.hid (HC10.out.up hb11)
 have HB11 := Lib.hid (bwstep HB10.out hb11)
 have hx11 := (HX.out.up (HW3.out.trans (HB11.out.mono HW3.out.size)))
 have hcut := hx11.cutTo HU.out
 rw [← List.map_take, ← HTK.out] at hcut
 have hu0 : (0 : Int) ≤ ((Lg.nil.reads R).used : Int) := by omega
 have hu1 : ((Lg.nil.reads R).used : Int) ≤ (cp : Int) := by have := HU.out; omega
 clear hb11 hy10 HC10 HB10 hx11
 go_wp2_with fail
 refine (rsame_self _ _ _ _ HC11.out hcut).mono ?_
 rintro e w12 ⟨rfl, hb12⟩
 have HB12 := Lib.hid (HW3.out.trans ((bwstep HB11.out hb12).mono HW3.out.size))
 clear hb12
 go_wp2_with fail
 go_ret
 exact ⟨rfl, HB12.out⟩
end Go.Proofs.Ytaddbhdkgneiaaa.Ce
