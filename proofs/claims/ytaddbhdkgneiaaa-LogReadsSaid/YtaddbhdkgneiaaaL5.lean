/- Layer 18's law LogKeeps, over package log's contracts. -/
import Derived.Test.YtaddbhdkgneiaaaLgG
import Derived.Deep.RegionHeld3
set_option maxHeartbeats 8000000
set_option maxRecDepth 100000
namespace Go.Proofs.Ytaddbhdkgneiaaa.Ce
open Go.RowKit Dk
theorem one_votes (c : Vt) (n : Nat) : (Lg.nil.one 0 c n).votes = [c] := by
 rw [one_vt]
 show addV [] c = [c]
 rw [addV_last (by simp)]
 rfl
def KeS (Own : World → Value → Nat → Lg → List Nat → Prop) (B : Nat) (d : Value) (cap : Nat) (o : Option (List UInt8)) (lb : Nat) (g : Lg) (S : List Nat) (w : World) (c : Vt) (z : World) : Prop := vtD.In w.heap.size c z ∧ LogAt Own z B d cap o lb g S ∧ Below w.heap.size w z
theorem logKeeps_gen {Own : World → Value → Nat → Lg → List Nat → Prop} (I : LogI Own) (c : Vt) (w : World) : Calls Try.prog 4 #[c.v] w fun e w' => e = .returned (.bool true) ∧ Below w.heap.size w w' := by
 have hrr := fun w1 => rright17_any c w1
 go_enter Try.func4, Try.ntmps4
 go_wp2_with (refine St.box vtD rfl (.tmp 0) c rfl rfl ?_)
 constructor
 intro w1 hI1 hb1 hz1
 go_wp2_with fail
 refine (awake18_ok I _).mono ?_
 rintro e w2 ⟨rfl, hb2⟩
 have hI2 := hI1.up hb2
 have hw2 := bwstep hb1 hb2
 clear hI1 hb1 hb2 hz1
 by_cases hR : c.Right
 case neg =>
  rw [decide_eq_false hR] at hrr
  go_wp2_with (refine St.load vtOk rfl (.tmp 1) rfl rfl hI2 ?_)
  refine (hrr _).mono ?_
  rintro e w3 ⟨rfl, hb3⟩
  have hw3 := bwstep hw2 hb3
  clear hI2 hw2 hb3 hrr
  go_wp2_with fail
  refine (awake18_ok I _).mono ?_
  rintro e w4 ⟨rfl, hb4⟩
  have hw4 := bwstep hw3 hb4
  clear hw3 hb4
  go_wp2_with fail
  go_ret
  exact ⟨rfl, hw4⟩
 rw [decide_eq_true hR] at hrr
 have HRB : Hid (c.Right ∧ Lg.nil.most ≤ c.ballot) := Lib.hid ⟨hR, by have := hR.2.2.1; have := hR.2.2.2.1; simp [Lg.nil]; omega⟩
 have HRL : Hid ((byt none).length + (12 + (vtB c).length) ≤ 5000) := Lib.hid (by have := vtB_len c; have := hR.2.2.2.2.2; simp [byt]; omega)
 clear hR
 go_wp2_with (refine St.load vtOk rfl (.tmp 1) rfl rfl hI2 ?_)
 refine (hrr _).mono ?_
 rintro e w3 ⟨rfl, hb3⟩
 have hI3 := hI2.up hb3
 have hw3 := bwstep hw2 hb3
 have HG : Hid (w.heap.size < w3.heap.size) := Lib.hid hI3.lt
 clear hI2 hw2 hb3 hrr
 go_wp2_with fail
 refine (dnew_any 5000 _ (by omega) (by omega)).mono ?_
 rintro e w4 ⟨db, mb, rfl, hd4, hb4⟩
 have hd4 : DiskAt w4 w3.heap.size (.pointer (some ⟨db, 0, none⟩)) db mb 5000 0 [] := hd4
 have hI4 := hI3.up hb4
 have hw4 := bwstep hw3 hb4
 have hz4 := hb4.size
 clear hI3 hw3 hb4
 go_wp2_with fail
 refine (I.fresh hd4 (by omega) hz4).mono ?_
 rintro e w5 ⟨lb, S5, rfl, hl5, -, hb5⟩
 have hI5 := hI4.bel hb5 HG.out
 have hw5 := hw4.trans (hb5.mono (Nat.le_of_lt HG.out))
 clear hd4 hI4 hw4 hb5 hz4
 go_wp2_with (refine St.load vtOk rfl (.tmp 1) rfl rfl hI5 ?_)
 refine (I.vote c hl5).mono ?_
 rintro e w6 ⟨E, o6, g6, rfl, hE, S6, hl6, hk6, hs6⟩
 obtain ⟨rfl, ho6, hg6⟩ := hE.yes HRB.out HRL.out
 have hv6 : g6.votes = [c] := by rw [hg6, one_votes]
 have hb6 := hk6.below hl5.ge hl5.caps.2.2
 have hI6 := hI5.bel hb6 HG.out
 have hw6 := hw5.trans (hb6.mono (Nat.le_of_lt HG.out))
 have HV6 := Lib.hid hv6
 clear hE hl5 hI5 hw5 hk6 hs6 hb6 ho6 hg6 hv6 HRB HRL
 go_wp2_with fail
 refine (I.votes hl6).mono ?_
 rintro e w7 ⟨⟨x, rfl, hx⟩, hb7⟩
 rw [HV6.out] at hx
 obtain ⟨gx, cap, cur, rfl, hgx, hcx, h1x, h2x, h3x, -⟩ := hx.open_ (by simp)
 have hl7 := hl6.up I hb7
 have hI7 := hI6.up hb7
 have hw7 := bwstep hw6 hb7
 have hlt6 := hl6.lt I
 have HNX : Hid (gx ∉ S6) := Lib.hid fun h => by have := hlt6 _ h; omega
 have HNG : Hid (w.heap.size < gx) := Lib.hid (by have := hI6.lt; omega)
 have HK7 : Hid (KeS Own w3.heap.size (.pointer (some ⟨db, 0, none⟩)) 5000 o6 lb g6 S6 w c w7) := Lib.hid ⟨hI7, hl7, hw7⟩
 have HC7 : Hid (∃ cur : Array Value, w7.heap[gx]? = some (.cells cur 43 (0, 0)) ∧ 5 ≤ cur.size) := Lib.hid ⟨cur, hcx, by rw [h3x]; show 5 ≤ cap * 5; simp at h1x; omega⟩
 have hcap : cap ≤ 9223372036854775807 := by unfold maxLen at h2x; exact h2x
 clear hl6 hI6 hw6 hb7 hx hgx hcx h3x h2x hl7 hI7 hw7 hlt6 HG
 simp only [List.length_singleton] at h1x ⊢
 go_wp2_with fail
 go_loopw [6] (fun i wr => ∃ k : Nat, k ≤ 1 ∧ i = .int .i64 (k : Int) ∧ Hid (KeS Own w3.heap.size (.pointer (some ⟨db, 0, none⟩)) 5000 o6 lb g6 S6 w c wr) ∧ Hid (∃ cur : Array Value, wr.heap[gx]? = some (.cells cur 43 (0, 0)) ∧ 5 ≤ cur.size)) (fun i _ => 1 - (intOf i).toNat)
 case atStart => exact ⟨0, by omega, rfl, HK7, HC7⟩
 case round =>
  obtain ⟨k, hk, rfl, HK, HC⟩ := hrel
  clear HK7 HC7
  by_cases hlt : k < 1
  ·obtain rfl : k = 0 := by omega
   obtain ⟨cur, hcx, hcs⟩ := HC.out
   have HFIT : Hid (0 + vtL.k ≤ cur.size) := Lib.hid (by show 0 + 5 ≤ cur.size; omega)
   have HCX := Lib.hid hcx
   clear HC hcx hcs
   go_wp2_with (refine St.storeAt (c := Vt.zero) (g := gx) (n := 0) vlOk rfl (.tmp 39) (.tmp 38) rfl (by simp [Act.eval]) rfl HCX.out HFIT.out ?_)
   constructor
   intro wz hT
   have HKZ : Hid (KeS Own w3.heap.size (.pointer (some ⟨db, 0, none⟩)) 5000 o6 lb g6 S6 w c wz) := Lib.hid ⟨HK.out.1.kept (hT.o _ (Nat.ne_of_lt HNG.out)), HK.out.2.1.keep I (fun k hk => hT.o k fun e => HNX.out (e ▸ hk)) (Nat.le_of_eq hT.z.symm), HK.out.2.2.trans (hT.b.mono (Nat.le_of_lt HNG.out))⟩
   have HCZ : Hid (∃ cur : Array Value, wz.heap[gx]? = some (.cells cur 43 (0, 0)) ∧ 5 ≤ cur.size) := Lib.hid ⟨_, hT.i, by rw [St.cpd_size (show 0 + Vt.zero.cs.toList.length ≤ cur.size from HFIT.out)]; have := HFIT.out; omega⟩
   clear hT HFIT HCX HK
   go_wp2_with fail
   go_roundw
   case rel => exact ⟨1, by omega, by go_num, HKZ, HCZ⟩
   case measure => simp [intOf]
  ·have HV := Lib.hid HV6.out
   have HT := Lib.hid (show KeS Own w3.heap.size (.pointer (some ⟨db, 0, none⟩)) 5000 o6 lb g6 S6 w c wr.drew from ⟨HK.out.1.up (Below.refl _ _).drew, HK.out.2.1.up I (Below.refl _ _).drew, HK.out.2.2.drew⟩)
   have HU := Lib.hid fun (a b : World) (h : KeS Own w3.heap.size (.pointer (some ⟨db, 0, none⟩)) 5000 o6 lb g6 S6 w c a) (hb : Below a.heap.size a b) => (show KeS Own w3.heap.size (.pointer (some ⟨db, 0, none⟩)) 5000 o6 lb g6 S6 w c b from ⟨h.1.up hb, h.2.1.up I hb, bwstep h.2.2 hb⟩)
   clear HK HC HV6
   have HVO : Hid (∀ z, KeS Own w3.heap.size (.pointer (some ⟨db, 0, none⟩)) 5000 o6 lb g6 S6 w c z → Calls Try.prog 14 #[.pointer (some ⟨lb, 0, none⟩)] z fun e w' => (∃ v, e = .returned v ∧ St.RdS vtL w' [] v [c]) ∧ Below z.heap.size z w') := Lib.hid fun z hz => (I.votes hz.2.1).mono (by rintro e w' ⟨⟨v, rfl, hv⟩, hb⟩; rw [HV.out] at hv; exact ⟨⟨v, rfl, hv.rd (by simp)⟩, hb⟩)
   have HCI : Hid (∀ z, KeS Own w3.heap.size (.pointer (some ⟨db, 0, none⟩)) 5000 o6 lb g6 S6 w c z → vtD.In w.heap.size c z) := Lib.hid fun z hz => hz.1
   have HBE : Hid (∀ z, KeS Own w3.heap.size (.pointer (some ⟨db, 0, none⟩)) 5000 o6 lb g6 S6 w c z → Below w.heap.size w z) := Lib.hid fun z hz => hz.2.2
   have hcc : decide ([c] = [c]) = true := decide_eq_true rfl
   generalize HKE : KeS Own w3.heap.size (.pointer (some ⟨db, 0, none⟩)) 5000 o6 lb g6 S6 w c = KS at *
   clear HV HKE
   go_upto_region 14 with fail
   refine wp_region_held_drew (S := KS) (by kernel_rfl) HT.out (fun hHeld => ?_)
   refine takeL 0 (h := ?_)
   refine takeL 2 (v := .agg #[.int .i64 c.slot, .int .i64 c.ballot, .int .i64 c.origin, .bool c.full, .string c.bytes]) (hy := by intro z hSz; exact St.loadOp vtOk (.tmp 1) rfl rfl (HCI.out z hSz)) (h := ?_)
   generalize wr.drew = z0 at hHeld ⊢
   refine wpAnyH_ready (rs := [1, 3]) (by kernel_rfl) (by simp) ?_
   refine AllReadyH.cons (o := _) (by (try simp only [List.getElem?_toArray]); (try simp only [List.getElem?_cons_succ]); (try simp only [List.getElem?_cons_zero]); rfl) (fun K hK => ?_) ?_
   ·go_simp
    go_at_call 14
    refine (HVO.out _ hHeld).mono ?_
    rintro e z1 ⟨⟨v, rfl, hv⟩, hb1⟩
    refine hK.out _ _ (HU.out _ _ hHeld hb1) (fun hH1 => ?_)
    clear hK K
    ((try simp only [Act.put]); (try simp only [List.setIfInBounds_toArray]); (try simp only [List.set_cons_succ]); (try simp only [List.set_cons_zero]))
    refine wpAnyH_ready (rs := [3]) (by kernel_rfl) (by simp) ?_
    refine AllReadyH.cons (o := _) (by (try simp only [List.getElem?_toArray]); (try simp only [List.getElem?_cons_succ]); (try simp only [List.getElem?_cons_zero]); rfl) (fun K hK => ?_) AllReadyH.nil
    go_simp
    have bz2 := bwalloc (bwrefl z1) (.cells #[.int .i64 c.slot, .int .i64 c.ballot, .int .i64 c.origin, .bool c.full, .string c.bytes] 43)
    have xz2 : St.RdS vtL (z1.alloc (.cells #[.int .i64 c.slot, .int .i64 c.ballot, .int .i64 c.origin, .bool c.full, .string c.bytes] 43)) [] (.slice (some ⟨z1.heap.size, 0, none⟩) 1 1) [c] := St.RdS.new z1 [] [c] _ rfl (by simp) (by simp [maxLen]) _
    have hv2 := hv.bel bz2
    generalize z1.alloc (.cells #[.int .i64 c.slot, .int .i64 c.ballot, .int .i64 c.origin, .bool c.full, .string c.bytes] 43) = z2 at bz2 xz2 hv2 ⊢
    refine hK.out _ _ (HU.out _ _ hH1 bz2) (fun hH2 => ?_)
    clear hK K
    ((try simp only [Act.put]); (try simp only [List.setIfInBounds_toArray]); (try simp only [List.set_cons_succ]); (try simp only [List.set_cons_zero]))
    refine wpAnyH_ready (rs := [4]) (by kernel_rfl) (by simp) ?_
    refine AllReadyH.cons (o := _) (by (try simp only [List.getElem?_toArray]); (try simp only [List.getElem?_cons_succ]); (try simp only [List.getElem?_cons_zero]); rfl) (fun K hK => ?_) AllReadyH.nil
    go_simp
    go_at_call 11
    refine (rvsame_any _ _ [c] [c] _ hv2 xz2 (by simp)).mono ?_
    rintro e z3 ⟨rfl, hb3⟩
    rw [hcc]
    refine hK.out _ _ (HU.out _ _ hH2 hb3) (fun hH3 => ?_)
    clear hK K
    ((try simp only [Act.put]); (try simp only [List.setIfInBounds_toArray]); (try simp only [List.set_cons_succ]); (try simp only [List.set_cons_zero]))
    refine takeL 5 (h := ?_)
    refine wpAnyH_done (by kernel_rfl) ?_ _
    go_wp2_with fail
    go_ret
    exact ⟨rfl, HBE.out _ hH3⟩
   ·refine AllReadyH.cons (o := _) (by (try simp only [List.getElem?_toArray]); (try simp only [List.getElem?_cons_succ]); (try simp only [List.getElem?_cons_zero]); rfl) (fun K hK => ?_) AllReadyH.nil
    go_simp
    have bz2 := bwalloc (bwrefl z0) (.cells #[.int .i64 c.slot, .int .i64 c.ballot, .int .i64 c.origin, .bool c.full, .string c.bytes] 43)
    have xz2 : St.RdS vtL (z0.alloc (.cells #[.int .i64 c.slot, .int .i64 c.ballot, .int .i64 c.origin, .bool c.full, .string c.bytes] 43)) [] (.slice (some ⟨z0.heap.size, 0, none⟩) 1 1) [c] := St.RdS.new z0 [] [c] _ rfl (by simp) (by simp [maxLen]) _
    generalize z0.alloc (.cells #[.int .i64 c.slot, .int .i64 c.ballot, .int .i64 c.origin, .bool c.full, .string c.bytes] 43) = z2 at bz2 xz2 ⊢
    refine hK.out _ _ (HU.out _ _ hHeld bz2) (fun hH2 => ?_)
    clear hK K
    ((try simp only [Act.put]); (try simp only [List.setIfInBounds_toArray]); (try simp only [List.set_cons_succ]); (try simp only [List.set_cons_zero]))
    refine wpAnyH_ready (rs := [1]) (by kernel_rfl) (by simp) ?_
    refine AllReadyH.cons (o := _) (by (try simp only [List.getElem?_toArray]); (try simp only [List.getElem?_cons_succ]); (try simp only [List.getElem?_cons_zero]); rfl) (fun K hK => ?_) AllReadyH.nil
    go_simp
    go_at_call 14
    refine (HVO.out _ hH2).mono ?_
    rintro e z1 ⟨⟨v, rfl, hv⟩, hb1⟩
    have xz1 := xz2.bel hb1
    refine hK.out _ _ (HU.out _ _ hH2 hb1) (fun hH1 => ?_)
    clear hK K
    ((try simp only [Act.put]); (try simp only [List.setIfInBounds_toArray]); (try simp only [List.set_cons_succ]); (try simp only [List.set_cons_zero]))
    refine wpAnyH_ready (rs := [4]) (by kernel_rfl) (by simp) ?_
    refine AllReadyH.cons (o := _) (by (try simp only [List.getElem?_toArray]); (try simp only [List.getElem?_cons_succ]); (try simp only [List.getElem?_cons_zero]); rfl) (fun K hK => ?_) AllReadyH.nil
    go_simp
    go_at_call 11
    refine (rvsame_any _ _ [c] [c] _ hv xz1 (by simp)).mono ?_
    rintro e z3 ⟨rfl, hb3⟩
    rw [hcc]
    refine hK.out _ _ (HU.out _ _ hH1 hb3) (fun hH3 => ?_)
    clear hK K
    ((try simp only [Act.put]); (try simp only [List.setIfInBounds_toArray]); (try simp only [List.set_cons_succ]); (try simp only [List.set_cons_zero]))
    refine takeL 5 (h := ?_)
    refine wpAnyH_done (by kernel_rfl) ?_ _
    go_wp2_with fail
    go_ret
    exact ⟨rfl, HBE.out _ hH3⟩
end Go.Proofs.Ytaddbhdkgneiaaa.Ce
