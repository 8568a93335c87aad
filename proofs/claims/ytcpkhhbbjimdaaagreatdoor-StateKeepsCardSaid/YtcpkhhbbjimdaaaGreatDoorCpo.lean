/- The contracts of the reference's Put1 and Sort of layer 8. -/
import Derived.Test.YtcpkhhbbjimdaaaGreatDoorCbA
import Derived.Deep.RegionLaw
set_option maxHeartbeats 8000000
set_option maxRecDepth 100000
namespace Go.Proofs.YtcpkhhbbjimdaaaGreatDoor.Ce
open Go.RowKit
theorem Cl.ok.sh {c : Cl} (h : c.ok) : Sh c := ⟨by have := h.r2; omega, by have := h.c2; omega⟩
structure PutS (w W : World) (v r : Value) (L Ld : List Cl) (f : Cl) (k : Nat) : Prop where
 bel : Below w.heap.size w W
 box : InC w.heap.size f W
 rd : RdL W [] v L
 rr : RdL W [] r Ld
 kl : k ≤ L.length
 dl : Ld.length ≤ L.length
 ans : put1 f L = (L.take k ++ [f]) ++ Ld
theorem put1_eq {f g : Cl} {L : List Cl} {k : Nat} (hg : L[k]? = some g) (hk : k ≤ L.length) (hlt : ∀ j d, j < k → L[j]? = some d → ccmp d f = -1) (he : keq g f) : put1 f L = (L.take k ++ [f]) ++ L.drop (k + 1) := by
 rw [put1_at hk hlt (fun d hd => by rw [hg] at hd; injection hd with hd; subst hd; rw [ccmp_eq.2 he]; omega), hg, Option.map_some, ccmp_eq.2 he, if_pos rfl]
 simp
theorem put1_gt {f g : Cl} {L : List Cl} {k : Nat} (hg : L[k]? = some g) (hk : k ≤ L.length) (hlt : ∀ j d, j < k → L[j]? = some d → ccmp d f = -1) (h1 : ccmp g f ≠ -1) (h0 : ccmp g f ≠ 0) : put1 f L = (L.take k ++ [f]) ++ L.drop k := by
 rw [put1_at hk hlt (fun d hd => by rw [hg] at hd; injection hd with hd; subst hd; exact h1), hg, Option.map_some, if_neg (fun h => h0 (Option.some.inj h))]
 simp
theorem put1_end {f : Cl} {L : List Cl} (hlt : ∀ j d, j < L.length → L[j]? = some d → ccmp d f = -1) : put1 f L = (L.take L.length ++ [f]) ++ [] := by
 rw [put1_at (Nat.le_refl _) hlt (fun d hd => by rw [List.getElem?_eq_none (Nat.le_refl _)] at hd; cases hd), List.getElem?_eq_none (Nat.le_refl _), Option.map_none, if_neg (by simp), List.drop_length]
 simp
theorem rput1_any (v : Value) (L : List Cl) (f : Cl) (w : World) (hv : RdL w [] v L) (hf : f.ok) (hok : ∀ c ∈ L, c.ok) (hL : L.length ≤ 1000000) :
  Calls Tryz.prog 36 #[v, f.v] w fun e w' => (∃ v', e = .returned v' ∧ OwL w' w.heap.size v' (put1 f L)) ∧ Below w.heap.size w w' := by
 obtain ⟨A, c, rfl, hc, hm⟩ := hv.shape
 unfold maxLen at hm
 have HOK := Lib.hid hok
 clear hok
 go_enter Tryz.func36, Tryz.ntmps36
 go_wp2_with (refine boxC rfl (.tmp 1) f rfl rfl ?_)
 constructor
 intro w1 hI1 hb1 hz1
 have HV := Lib.hid (hv.bel hb1)
 have HI := Lib.hid hI1
 have HB := Lib.hid hb1
 clear hv hI1 hb1 hz1
 go_wp2_with fail
 go_loopw [5] (fun i wr => ∃ k : Nat, k ≤ L.length ∧ i = .int .i64 (k : Int) ∧ Hid (∀ j d, j < k → L[j]? = some d → ccmp d f = -1) ∧ Below w1.heap.size w1 wr) (fun i _ => L.length - (intOf i).toNat)
 case atStart => exact ⟨0, by omega, rfl, Lib.hid (fun j d hj => by omega), Below.refl _ _⟩
 case round =>
  obtain ⟨k, hk, rfl, HJ, hbw⟩ := hrel
  have HBW := Lib.hid hbw
  by_cases hlt : k < L.length
  ·obtain ⟨b, off, rfl, -, -⟩ := HV.out.open_ (by omega)
   have hh3 : (0 : Int) ≤ (k : Int) := by omega
   have hh4 : (k : Int) < (L.length : Int) := by omega
   have hfk : L[k]? = some (L[k]'hlt) := List.getElem?_eq_getElem _
   generalize L[k]'hlt = g at hfk
   have hgo := HOK.out g (List.mem_of_getElem? hfk)
   have hcmp := fun w => rcompare_any g f w hgo.sh hf.sh
   obtain ⟨h5, hbl⟩ := (HV.out.bel hbw).at_ hfk
   have HT : Hid (TwoC b (off + k * 5) g w.heap.size f wr wr.drew) := Lib.hid (TwoC.of h5 hbl (HI.out.up hbw) (Below.refl _ _).drew)
   have HU : Hid (∀ x y : World, TwoC b (off + k * 5) g w.heap.size f wr x → Below x.heap.size x y → TwoC b (off + k * 5) g w.heap.size f wr y) := Lib.hid fun x y hS hb => TwoC.of h5 hbl (HI.out.up hbw) (bwstep hS.bel hb)
   have HFK := Lib.hid hfk
   clear hfk h5 hbl hbw hgo
   by_cases hkl : klt g f
   ·rw [ccmp_lt.2 hkl] at hcmp
    go_wp2_with fail
    go_region_held3 (fun w' => w'.cell? ⟨b, off + k * 5, none⟩ = some (.string g.row) ∧ w'.cell? ⟨b, off + k * 5 + 1, none⟩ = some (.string g.col) ∧ w'.cell? ⟨b, off + k * 5 + 2, none⟩ = some (.int .i64 g.at_) ∧ w'.cell? ⟨b, off + k * 5 + 3, none⟩ = some (.string g.val) ∧ w'.cell? ⟨b, off + k * 5 + 4, none⟩ = some (.bool g.gone) ∧ w'.cell? ⟨w.heap.size, 0, none⟩ = some (.string f.row) ∧ w'.cell? ⟨w.heap.size, 1, none⟩ = some (.string f.col) ∧ w'.cell? ⟨w.heap.size, 2, none⟩ = some (.int .i64 f.at_) ∧ w'.cell? ⟨w.heap.size, 3, none⟩ = some (.string f.val) ∧ w'.cell? ⟨w.heap.size, 4, none⟩ = some (.bool f.gone) ∧ Below wr.heap.size wr w') (first | exact HT.out | assumption | exact HU.out _ _ (by assumption) (by assumption))
     (first | (go_at_call 48; refine (hcmp _).mono ?_; rintro e wn ⟨rfl, hbwn⟩))
    go_wp2_with fail
    go_roundw
    case rel =>
     refine ⟨k + 1, by omega, by go_num, Lib.hid (fun j d hj hd => ?_), bwstep HBW.out (bwstep (Below.refl _ _).drew hbwn)⟩
     by_cases e : j = k
     ·subst e
      rw [HFK.out] at hd
      injection hd with hd
      subst hd
      exact ccmp_lt.2 hkl
     ·exact HJ.out j d (by omega) hd
    case measure => simp [intOf]; omega
   ·have hfk := HFK.out
    have h6 : ¬ c = k := by omega
    have hi1 : (k : Int) ≤ (L.length : Int) := by omega
    have hi2 : (L.length : Int) ≤ (c : Int) := by omega
    by_cases hke : keq g f
    ·have HANS := Lib.hid (put1_eq hfk (Nat.le_of_lt hlt) HJ.out hke)
     rw [ccmp_eq.2 hke] at hcmp
     clear hfk
     go_wp2_with fail
     go_region_held3 (fun w' => w'.cell? ⟨b, off + k * 5, none⟩ = some (.string g.row) ∧ w'.cell? ⟨b, off + k * 5 + 1, none⟩ = some (.string g.col) ∧ w'.cell? ⟨b, off + k * 5 + 2, none⟩ = some (.int .i64 g.at_) ∧ w'.cell? ⟨b, off + k * 5 + 3, none⟩ = some (.string g.val) ∧ w'.cell? ⟨b, off + k * 5 + 4, none⟩ = some (.bool g.gone) ∧ w'.cell? ⟨w.heap.size, 0, none⟩ = some (.string f.row) ∧ w'.cell? ⟨w.heap.size, 1, none⟩ = some (.string f.col) ∧ w'.cell? ⟨w.heap.size, 2, none⟩ = some (.int .i64 f.at_) ∧ w'.cell? ⟨w.heap.size, 3, none⟩ = some (.string f.val) ∧ w'.cell? ⟨w.heap.size, 4, none⟩ = some (.bool f.gone) ∧ Below wr.heap.size wr w') (first | exact HT.out | assumption | exact HU.out _ _ (by assumption) (by assumption))
      (first | (go_at_call 48; refine (hcmp _).mono ?_; rintro e wn ⟨rfl, hbwn⟩))
     have HBW2 := Lib.hid (bwstep HBW.out (bwstep (Below.refl wr.heap.size wr).drew hbwn))
     clear HT HU
     have hfk := HFK.out
     obtain ⟨h5, hbl⟩ := (HV.out.bel HBW2.out).at_ hfk
     have HT : Hid (TwoC b (off + k * 5) g w.heap.size f wn wn.drew) := Lib.hid (TwoC.of h5 hbl (HI.out.up HBW2.out) (Below.refl _ _).drew)
     have HU : Hid (∀ x y : World, TwoC b (off + k * 5) g w.heap.size f wn x → Below x.heap.size x y → TwoC b (off + k * 5) g w.heap.size f wn y) := Lib.hid fun x y hS hb => TwoC.of h5 hbl (HI.out.up HBW2.out) (bwstep hS.bel hb)
     clear hfk h5 hbl hbwn
     go_wp2_with fail
     go_region_held3 (fun w' => w'.cell? ⟨b, off + k * 5, none⟩ = some (.string g.row) ∧ w'.cell? ⟨b, off + k * 5 + 1, none⟩ = some (.string g.col) ∧ w'.cell? ⟨b, off + k * 5 + 2, none⟩ = some (.int .i64 g.at_) ∧ w'.cell? ⟨b, off + k * 5 + 3, none⟩ = some (.string g.val) ∧ w'.cell? ⟨b, off + k * 5 + 4, none⟩ = some (.bool g.gone) ∧ w'.cell? ⟨w.heap.size, 0, none⟩ = some (.string f.row) ∧ w'.cell? ⟨w.heap.size, 1, none⟩ = some (.string f.col) ∧ w'.cell? ⟨w.heap.size, 2, none⟩ = some (.int .i64 f.at_) ∧ w'.cell? ⟨w.heap.size, 3, none⟩ = some (.string f.val) ∧ w'.cell? ⟨w.heap.size, 4, none⟩ = some (.bool f.gone) ∧ Below wn.heap.size wn w') (first | exact HT.out | assumption | exact HU.out _ _ (by assumption) (by assumption))
      (first | (go_at_call 48; refine (hcmp _).mono ?_; rintro e wm ⟨rfl, hbwm⟩))
     have hw1 : IntKind.i64.wrap ((k : Int) + 1) = (k : Int) + 1 := IntWalk.i64_in _ (by omega)
     have hi3 : (0 : Int) ≤ (k : Int) + 1 := by omega
     have hi4 : (k : Int) + 1 ≤ (L.length : Int) := by omega
     have hi5 : ((k : Int) + 1).toNat = k + 1 := by omega
     have HBW3 := Lib.hid (bwstep HBW2.out (bwstep (Below.refl wn.heap.size wn).drew hbwm))
     clear HT HU
     by_cases hc1 : c = k + 1
     ·subst hc1
      have hlk : L.length = k + 1 := by omega
      have PS0 : PutS w wm (.slice (some ⟨b, off, none⟩) L.length (k + 1)) (.slice (some ⟨b, off, none⟩) 0 0) L (L.drop (k + 1)) f k := ⟨bwstep HB.out HBW3.out, HI.out.up HBW3.out, HV.out.bel HBW3.out, by rw [List.drop_eq_nil_of_le (by omega)]; exact RdL.none_ (by simp [maxLen]), by omega, by simp, HANS.out⟩
      have PS := Lib.hid PS0
      generalize L.drop (k + 1) = Ld at *
      clear PS0 HANS HBW3 hbwm HFK HJ
      rw [hlk] at PS ⊢
      go_wp2_with fail
      clear hi1 hi2 hi3 hi4 hi5 hw1 hh3 hh4 h6 hcmp hc
      generalize wm = W at *
      have hbz := PS.out.box.lt
      have hB := PS.out.bel
      have hsW := hB.size
      have hhW := PS.out.box
      obtain ⟨Lt, hLt⟩ : ∃ Lt, Lt = L.take k := ⟨_, rfl⟩
      have HANS : Hid (put1 f L = (Lt ++ [f]) ++ Ld) := by rw [hLt]; exact PS.out.ans
      have hdl := PS.out.dl
      have hkl := PS.out.kl
      have hcut := PS.out.rd.to_ PS.out.kl
      have r1 := hcut
      rw [← hLt] at r1
      have l1 : ([] : List Cl).length + Lt.length ≤ 1000000000 := by rw [hLt]; simp; omega
      have l2 : Lt.length + [f].length ≤ 1000000000 := by rw [hLt]; simp; omega
      have l3 : (Lt ++ [f]).length + Ld.length ≤ 1000000000 := by rw [hLt]; simp; omega
      have r3 := PS.out.rr
      have bE := (bwalloc (bwrefl W) (.cells #[] 47))
      have bF := (bwalloc (bwrefl W) (.cells #[.string f.row, .string f.col, .int .i64 f.at_, .string f.val, .bool f.gone] 47))
      have bEF := bwalloc bE (.cells #[.string f.row, .string f.col, .int .i64 f.at_, .string f.val, .bool f.gone] 47)
      have bFE := bwalloc bF (.cells #[] 47)
      obtain ⟨a0, a1, a2, a3, a4⟩ := boxCells (X := W) hhW rfl
      obtain ⟨b0, b1, b2, b3, b4⟩ := boxCells (X := W.alloc (.cells #[] 47)) hhW (bE.block _ hbz)
      have e1 : OwL (W.alloc (.cells #[] 47)).drew W.heap.size (.slice (some ⟨W.heap.size, 0, none⟩) 0 0) [] := OwL.empty W (Nat.le_refl _) _ rfl
      have e2 : OwL ((W.alloc (.cells #[] 47)).alloc (.cells #[.string f.row, .string f.col, .int .i64 f.at_, .string f.val, .bool f.gone] 47)).drew W.heap.size (.slice (some ⟨W.heap.size, 0, none⟩) 0 0) [] := e1.below (bwalloc (bwrefl _) (.cells #[.string f.row, .string f.col, .int .i64 f.at_, .string f.val, .bool f.gone] 47))
      have e3 : OwL ((W.alloc (.cells #[.string f.row, .string f.col, .int .i64 f.at_, .string f.val, .bool f.gone] 47)).alloc (.cells #[] 47)).drew W.heap.size (.slice (some ⟨W.heap.size + 1, 0, none⟩) 0 0) [] := by
       have := OwL.empty (B := W.heap.size) (W.alloc (.cells #[.string f.row, .string f.col, .int .i64 f.at_, .string f.val, .bool f.gone] 47)) bF.size _ rfl
       have e : (W.alloc (.cells #[.string f.row, .string f.col, .int .i64 f.at_, .string f.val, .bool f.gone] 47)).heap.size = W.heap.size + 1 := by simp
       rw [e] at this
       exact this
      have x2 : RdL ((W.alloc (.cells #[] 47)).alloc (.cells #[.string f.row, .string f.col, .int .i64 f.at_, .string f.val, .bool f.gone] 47)).drew [W.heap.size] (.slice (some ⟨W.heap.size + 1, 0, none⟩) 1 1) [f] := by
       have := RdL.one (W.alloc (.cells #[] 47)) [W.heap.size] f (by simp) 47
       have e : (W.alloc (.cells #[] 47)).heap.size = W.heap.size + 1 := by simp
       rw [e] at this
       exact this
      have x3 : RdL ((W.alloc (.cells #[.string f.row, .string f.col, .int .i64 f.at_, .string f.val, .bool f.gone] 47)).alloc (.cells #[] 47)).drew [W.heap.size + 1] (.slice (some ⟨W.heap.size, 0, none⟩) 1 1) [f] := (RdL.one W [W.heap.size + 1] f (by simp) 47).bel (bwalloc (bwrefl _) (.cells #[] 47)).drew
      have q1 := r1.bel bE
      have q2 := r1.bel bEF
      have q3 := r1.bel bFE
      have s1 := bE.size
      have s2 := bEF.size
      have s3 := bFE.size
      have y1 := bE.drew
      have y2 := bEF.drew
      have y3 := bFE.drew
      have HBW := Lib.hid hB
      have HR3 := Lib.hid (fun (Z : World) (hb : Below W.heap.size W Z) => r3.bel hb)
      have HHW := Lib.hid hhW
      have HBZ := Lib.hid hbz
      have HX2 := Lib.hid x2
      have HX3 := Lib.hid x3
      have k0 : (0 : Int) ≤ (k : Int) := by omega
      have k1 : (k : Int) ≤ (k + 1 : Int) := by omega
      have k5 : k ≤ k + 1 := by omega
      have k7 : (k : Int) ≤ (k : Int) + 1 := by omega
      clear r1 r3 hLt PS bF bE bFE bEF hhW hbz x2 x3 hB hcut
      go_region_law (first
       | (refine step_appL rfl (.tmp 42) (.tmp 45) rfl (by simp [Act.eval]) e1 (by simp [Act.eval]) q1 l1 s1 ?_; intro v1 w1 p1 g1 h1; rw [List.nil_append] at p1; have z1 := y1.grown g1 y1.size (fun q hq => (e1.lt q hq).1); obtain ⟨d0, d1, d2, d3, d4⟩ := boxCells (X := w1) HHW.out (z1.block _ HBZ.out); have bF1 := bwalloc (bwrefl w1) (.cells #[.string f.row, .string f.col, .int .i64 f.at_, .string f.val, .bool f.gone] 47); have p1 := p1.below bF1; have xf := RdL.one w1 [] f (by simp) 47; have z1 := z1.alloc z1.size (.cells #[.string f.row, .string f.col, .int .i64 f.at_, .string f.val, .bool f.gone] 47); have t1 := z1.size; clear g1 h1)
       | (refine step_appL rfl (.tmp 42) (.tmp 45) rfl (by simp [Act.eval]) e2 (by simp [Act.eval]) q2 l1 s2 ?_; intro v1 w1 p1 g1 h1; rw [List.nil_append] at p1; have z1 := y2.grown g1 y2.size (fun q hq => (e2.lt q hq).1); have xf := HX2.out.up (Kp.grown (S := [W.heap.size]) g1 fun k e => List.mem_singleton.2 (Option.some.inj e).symm) (fun _ hk => .inl hk); have t1 := z1.size; clear g1 h1)
       | (refine step_appL rfl (.tmp 42) (.tmp 45) rfl (by simp [Act.eval]) e3 (by simp [Act.eval]) q3 l1 s3 ?_; intro v1 w1 p1 g1 h1; rw [List.nil_append] at p1; have z1 := y3.grown g1 y3.size (fun q hq => (e3.lt q hq).1); have xf := HX3.out.up (Kp.grown (S := [W.heap.size + 1]) g1 fun k e => List.mem_singleton.2 (Option.some.inj e).symm) (fun _ hk => .inl hk); have t1 := z1.size; clear g1 h1)
       | (refine step_appL rfl (.tmp 46) (.tmp 48) rfl (by simp [Act.eval]) p1 (by simp [Act.eval]) xf l2 t1 ?_; intro v2 w2 p2 g2 h2; have z2 := z1.grown g2 z1.size (fun q hq => (p1.lt q hq).1); have r3 := HR3.out _ z2; have t2 := z2.size; clear g2 h2)
       | (refine step_appL rfl (.tmp 49) (.tmp 50) rfl (by simp [Act.eval]) p2 (by simp [Act.eval]) r3 l3 t2 ?_; intro v3 w3 p3 g3 h3; have HZ3 := Lib.hid (z2.grown g3 z2.size (fun q hq => (p2.lt q hq).1)); have HP3 := Lib.hid p3; clear g3 h3 p3))
      all_goals (go_wp2_with fail; go_ret; exact ⟨⟨_, rfl, by rw [HANS.out]; exact HP3.out.mono hsW⟩, HBW.out.trans (HZ3.out.mono hsW)⟩)
     ·have PS0 : PutS w wm (.slice (some ⟨b, off, none⟩) L.length c) (.slice (some ⟨b, off + (k + 1) * 5, none⟩) (L.length - (k + 1)) (c - (k + 1))) L (L.drop (k + 1)) f k := ⟨bwstep HB.out HBW3.out, HI.out.up HBW3.out, HV.out.bel HBW3.out, (HV.out.bel HBW3.out).from_ (by omega), by omega, by simp, HANS.out⟩
      have PS := Lib.hid PS0
      generalize L.drop (k + 1) = Ld at *
      clear PS0 HANS HBW3 hbwm HFK HJ
      go_wp2_with fail
      clear hi1 hi3 hi4 hi5 hw1 hh3 hh4 h6 hcmp hc1
      generalize wm = W at *
      have hbz := PS.out.box.lt
      have hB := PS.out.bel
      have hsW := hB.size
      have hhW := PS.out.box
      obtain ⟨Lt, hLt⟩ : ∃ Lt, Lt = L.take k := ⟨_, rfl⟩
      have HANS : Hid (put1 f L = (Lt ++ [f]) ++ Ld) := by rw [hLt]; exact PS.out.ans
      have hdl := PS.out.dl
      have hkl := PS.out.kl
      have hcut := PS.out.rd.to_ PS.out.kl
      have r1 := hcut
      rw [← hLt] at r1
      have l1 : ([] : List Cl).length + Lt.length ≤ 1000000000 := by rw [hLt]; simp; omega
      have l2 : Lt.length + [f].length ≤ 1000000000 := by rw [hLt]; simp; omega
      have l3 : (Lt ++ [f]).length + Ld.length ≤ 1000000000 := by rw [hLt]; simp; omega
      have r3 := PS.out.rr
      have bE := (bwalloc (bwrefl W) (.cells #[] 47))
      have bF := (bwalloc (bwrefl W) (.cells #[.string f.row, .string f.col, .int .i64 f.at_, .string f.val, .bool f.gone] 47))
      have bEF := bwalloc bE (.cells #[.string f.row, .string f.col, .int .i64 f.at_, .string f.val, .bool f.gone] 47)
      have bFE := bwalloc bF (.cells #[] 47)
      obtain ⟨a0, a1, a2, a3, a4⟩ := boxCells (X := W) hhW rfl
      obtain ⟨b0, b1, b2, b3, b4⟩ := boxCells (X := W.alloc (.cells #[] 47)) hhW (bE.block _ hbz)
      have e1 : OwL (W.alloc (.cells #[] 47)).drew W.heap.size (.slice (some ⟨W.heap.size, 0, none⟩) 0 0) [] := OwL.empty W (Nat.le_refl _) _ rfl
      have e2 : OwL ((W.alloc (.cells #[] 47)).alloc (.cells #[.string f.row, .string f.col, .int .i64 f.at_, .string f.val, .bool f.gone] 47)).drew W.heap.size (.slice (some ⟨W.heap.size, 0, none⟩) 0 0) [] := e1.below (bwalloc (bwrefl _) (.cells #[.string f.row, .string f.col, .int .i64 f.at_, .string f.val, .bool f.gone] 47))
      have e3 : OwL ((W.alloc (.cells #[.string f.row, .string f.col, .int .i64 f.at_, .string f.val, .bool f.gone] 47)).alloc (.cells #[] 47)).drew W.heap.size (.slice (some ⟨W.heap.size + 1, 0, none⟩) 0 0) [] := by
       have := OwL.empty (B := W.heap.size) (W.alloc (.cells #[.string f.row, .string f.col, .int .i64 f.at_, .string f.val, .bool f.gone] 47)) bF.size _ rfl
       have e : (W.alloc (.cells #[.string f.row, .string f.col, .int .i64 f.at_, .string f.val, .bool f.gone] 47)).heap.size = W.heap.size + 1 := by simp
       rw [e] at this
       exact this
      have x2 : RdL ((W.alloc (.cells #[] 47)).alloc (.cells #[.string f.row, .string f.col, .int .i64 f.at_, .string f.val, .bool f.gone] 47)).drew [W.heap.size] (.slice (some ⟨W.heap.size + 1, 0, none⟩) 1 1) [f] := by
       have := RdL.one (W.alloc (.cells #[] 47)) [W.heap.size] f (by simp) 47
       have e : (W.alloc (.cells #[] 47)).heap.size = W.heap.size + 1 := by simp
       rw [e] at this
       exact this
      have x3 : RdL ((W.alloc (.cells #[.string f.row, .string f.col, .int .i64 f.at_, .string f.val, .bool f.gone] 47)).alloc (.cells #[] 47)).drew [W.heap.size + 1] (.slice (some ⟨W.heap.size, 0, none⟩) 1 1) [f] := (RdL.one W [W.heap.size + 1] f (by simp) 47).bel (bwalloc (bwrefl _) (.cells #[] 47)).drew
      have q1 := r1.bel bE
      have q2 := r1.bel bEF
      have q3 := r1.bel bFE
      have s1 := bE.size
      have s2 := bEF.size
      have s3 := bFE.size
      have y1 := bE.drew
      have y2 := bEF.drew
      have y3 := bFE.drew
      have HBW := Lib.hid hB
      have HR3 := Lib.hid (fun (Z : World) (hb : Below W.heap.size W Z) => r3.bel hb)
      have HHW := Lib.hid hhW
      have HBZ := Lib.hid hbz
      have HX2 := Lib.hid x2
      have HX3 := Lib.hid x3
      have k0 : (0 : Int) ≤ (k : Int) := by omega
      have k1 : (k : Int) ≤ (c : Int) := by omega
      have k5 : k ≤ c := by omega
      clear r1 r3 hLt PS bF bE bFE bEF hhW hbz x2 x3 hB hcut
      go_region_law (first
       | (refine step_appL rfl (.tmp 42) (.tmp 45) rfl (by simp [Act.eval]) e1 (by simp [Act.eval]) q1 l1 s1 ?_; intro v1 w1 p1 g1 h1; rw [List.nil_append] at p1; have z1 := y1.grown g1 y1.size (fun q hq => (e1.lt q hq).1); obtain ⟨d0, d1, d2, d3, d4⟩ := boxCells (X := w1) HHW.out (z1.block _ HBZ.out); have bF1 := bwalloc (bwrefl w1) (.cells #[.string f.row, .string f.col, .int .i64 f.at_, .string f.val, .bool f.gone] 47); have p1 := p1.below bF1; have xf := RdL.one w1 [] f (by simp) 47; have z1 := z1.alloc z1.size (.cells #[.string f.row, .string f.col, .int .i64 f.at_, .string f.val, .bool f.gone] 47); have t1 := z1.size; clear g1 h1)
       | (refine step_appL rfl (.tmp 42) (.tmp 45) rfl (by simp [Act.eval]) e2 (by simp [Act.eval]) q2 l1 s2 ?_; intro v1 w1 p1 g1 h1; rw [List.nil_append] at p1; have z1 := y2.grown g1 y2.size (fun q hq => (e2.lt q hq).1); have xf := HX2.out.up (Kp.grown (S := [W.heap.size]) g1 fun k e => List.mem_singleton.2 (Option.some.inj e).symm) (fun _ hk => .inl hk); have t1 := z1.size; clear g1 h1)
       | (refine step_appL rfl (.tmp 42) (.tmp 45) rfl (by simp [Act.eval]) e3 (by simp [Act.eval]) q3 l1 s3 ?_; intro v1 w1 p1 g1 h1; rw [List.nil_append] at p1; have z1 := y3.grown g1 y3.size (fun q hq => (e3.lt q hq).1); have xf := HX3.out.up (Kp.grown (S := [W.heap.size + 1]) g1 fun k e => List.mem_singleton.2 (Option.some.inj e).symm) (fun _ hk => .inl hk); have t1 := z1.size; clear g1 h1)
       | (refine step_appL rfl (.tmp 46) (.tmp 48) rfl (by simp [Act.eval]) p1 (by simp [Act.eval]) xf l2 t1 ?_; intro v2 w2 p2 g2 h2; have z2 := z1.grown g2 z1.size (fun q hq => (p1.lt q hq).1); have r3 := HR3.out _ z2; have t2 := z2.size; clear g2 h2)
       | (refine step_appL rfl (.tmp 49) (.tmp 50) rfl (by simp [Act.eval]) p2 (by simp [Act.eval]) r3 l3 t2 ?_; intro v3 w3 p3 g3 h3; have HZ3 := Lib.hid (z2.grown g3 z2.size (fun q hq => (p2.lt q hq).1)); have HP3 := Lib.hid p3; clear g3 h3 p3))
      all_goals (go_wp2_with fail; go_ret; exact ⟨⟨_, rfl, by rw [HANS.out]; exact HP3.out.mono hsW⟩, HBW.out.trans (HZ3.out.mono hsW)⟩)
    ·have h1 : ccmp g f ≠ -1 := fun e => hkl (ccmp_lt.1 e)
     have h0 : ccmp g f ≠ 0 := fun e => hke (ccmp_eq.1 e)
     have HANS := Lib.hid (put1_gt hfk (Nat.le_of_lt hlt) HJ.out h1 h0)
     have e1 : ccmp g f = 1 := by
      rcases ccmp_cases g f with ⟨e, q⟩ | ⟨e, q⟩ | ⟨e, q⟩
      ·exact absurd e h1
      ·exact absurd e h0
      ·exact e
     rw [e1] at hcmp
     clear hfk h1 h0 e1
     go_wp2_with fail
     go_region_held3 (fun w' => w'.cell? ⟨b, off + k * 5, none⟩ = some (.string g.row) ∧ w'.cell? ⟨b, off + k * 5 + 1, none⟩ = some (.string g.col) ∧ w'.cell? ⟨b, off + k * 5 + 2, none⟩ = some (.int .i64 g.at_) ∧ w'.cell? ⟨b, off + k * 5 + 3, none⟩ = some (.string g.val) ∧ w'.cell? ⟨b, off + k * 5 + 4, none⟩ = some (.bool g.gone) ∧ w'.cell? ⟨w.heap.size, 0, none⟩ = some (.string f.row) ∧ w'.cell? ⟨w.heap.size, 1, none⟩ = some (.string f.col) ∧ w'.cell? ⟨w.heap.size, 2, none⟩ = some (.int .i64 f.at_) ∧ w'.cell? ⟨w.heap.size, 3, none⟩ = some (.string f.val) ∧ w'.cell? ⟨w.heap.size, 4, none⟩ = some (.bool f.gone) ∧ Below wr.heap.size wr w') (first | exact HT.out | assumption | exact HU.out _ _ (by assumption) (by assumption))
      (first | (go_at_call 48; refine (hcmp _).mono ?_; rintro e wn ⟨rfl, hbwn⟩))
     have HBW2 := Lib.hid (bwstep HBW.out (bwstep (Below.refl wr.heap.size wr).drew hbwn))
     clear HT HU
     have hfk := HFK.out
     obtain ⟨h5, hbl⟩ := (HV.out.bel HBW2.out).at_ hfk
     have HT : Hid (TwoC b (off + k * 5) g w.heap.size f wn wn.drew) := Lib.hid (TwoC.of h5 hbl (HI.out.up HBW2.out) (Below.refl _ _).drew)
     have HU : Hid (∀ x y : World, TwoC b (off + k * 5) g w.heap.size f wn x → Below x.heap.size x y → TwoC b (off + k * 5) g w.heap.size f wn y) := Lib.hid fun x y hS hb => TwoC.of h5 hbl (HI.out.up HBW2.out) (bwstep hS.bel hb)
     clear hfk h5 hbl hbwn
     go_wp2_with fail
     go_region_held3 (fun w' => w'.cell? ⟨b, off + k * 5, none⟩ = some (.string g.row) ∧ w'.cell? ⟨b, off + k * 5 + 1, none⟩ = some (.string g.col) ∧ w'.cell? ⟨b, off + k * 5 + 2, none⟩ = some (.int .i64 g.at_) ∧ w'.cell? ⟨b, off + k * 5 + 3, none⟩ = some (.string g.val) ∧ w'.cell? ⟨b, off + k * 5 + 4, none⟩ = some (.bool g.gone) ∧ w'.cell? ⟨w.heap.size, 0, none⟩ = some (.string f.row) ∧ w'.cell? ⟨w.heap.size, 1, none⟩ = some (.string f.col) ∧ w'.cell? ⟨w.heap.size, 2, none⟩ = some (.int .i64 f.at_) ∧ w'.cell? ⟨w.heap.size, 3, none⟩ = some (.string f.val) ∧ w'.cell? ⟨w.heap.size, 4, none⟩ = some (.bool f.gone) ∧ Below wn.heap.size wn w') (first | exact HT.out | assumption | exact HU.out _ _ (by assumption) (by assumption))
      (first | (go_at_call 48; refine (hcmp _).mono ?_; rintro e wm ⟨rfl, hbwm⟩))
     have HBW3 := Lib.hid (bwstep HBW2.out (bwstep (Below.refl wn.heap.size wn).drew hbwm))
     clear HT HU
     have PS0 : PutS w wm (.slice (some ⟨b, off, none⟩) L.length c) (.slice (some ⟨b, off + k * 5, none⟩) (L.length - k) (c - k)) L (L.drop k) f k := ⟨bwstep HB.out HBW3.out, HI.out.up HBW3.out, HV.out.bel HBW3.out, (HV.out.bel HBW3.out).from_ (by omega), by omega, by simp, HANS.out⟩
     have PS := Lib.hid PS0
     generalize L.drop k = Ld at *
     clear PS0 HANS HBW3 hbwm HFK HJ
     go_wp2_with fail
     clear hi1 hh3 hh4 h6 hcmp
     generalize wm = W at *
     have hbz := PS.out.box.lt
     have hB := PS.out.bel
     have hsW := hB.size
     have hhW := PS.out.box
     obtain ⟨Lt, hLt⟩ : ∃ Lt, Lt = L.take k := ⟨_, rfl⟩
     have HANS : Hid (put1 f L = (Lt ++ [f]) ++ Ld) := by rw [hLt]; exact PS.out.ans
     have hdl := PS.out.dl
     have hkl := PS.out.kl
     have hcut := PS.out.rd.to_ PS.out.kl
     have r1 := hcut
     rw [← hLt] at r1
     have l1 : ([] : List Cl).length + Lt.length ≤ 1000000000 := by rw [hLt]; simp; omega
     have l2 : Lt.length + [f].length ≤ 1000000000 := by rw [hLt]; simp; omega
     have l3 : (Lt ++ [f]).length + Ld.length ≤ 1000000000 := by rw [hLt]; simp; omega
     have r3 := PS.out.rr
     have bE := (bwalloc (bwrefl W) (.cells #[] 47))
     have bF := (bwalloc (bwrefl W) (.cells #[.string f.row, .string f.col, .int .i64 f.at_, .string f.val, .bool f.gone] 47))
     have bEF := bwalloc bE (.cells #[.string f.row, .string f.col, .int .i64 f.at_, .string f.val, .bool f.gone] 47)
     have bFE := bwalloc bF (.cells #[] 47)
     obtain ⟨a0, a1, a2, a3, a4⟩ := boxCells (X := W) hhW rfl
     obtain ⟨b0, b1, b2, b3, b4⟩ := boxCells (X := W.alloc (.cells #[] 47)) hhW (bE.block _ hbz)
     have e1 : OwL (W.alloc (.cells #[] 47)).drew W.heap.size (.slice (some ⟨W.heap.size, 0, none⟩) 0 0) [] := OwL.empty W (Nat.le_refl _) _ rfl
     have e2 : OwL ((W.alloc (.cells #[] 47)).alloc (.cells #[.string f.row, .string f.col, .int .i64 f.at_, .string f.val, .bool f.gone] 47)).drew W.heap.size (.slice (some ⟨W.heap.size, 0, none⟩) 0 0) [] := e1.below (bwalloc (bwrefl _) (.cells #[.string f.row, .string f.col, .int .i64 f.at_, .string f.val, .bool f.gone] 47))
     have e3 : OwL ((W.alloc (.cells #[.string f.row, .string f.col, .int .i64 f.at_, .string f.val, .bool f.gone] 47)).alloc (.cells #[] 47)).drew W.heap.size (.slice (some ⟨W.heap.size + 1, 0, none⟩) 0 0) [] := by
      have := OwL.empty (B := W.heap.size) (W.alloc (.cells #[.string f.row, .string f.col, .int .i64 f.at_, .string f.val, .bool f.gone] 47)) bF.size _ rfl
      have e : (W.alloc (.cells #[.string f.row, .string f.col, .int .i64 f.at_, .string f.val, .bool f.gone] 47)).heap.size = W.heap.size + 1 := by simp
      rw [e] at this
      exact this
     have x2 : RdL ((W.alloc (.cells #[] 47)).alloc (.cells #[.string f.row, .string f.col, .int .i64 f.at_, .string f.val, .bool f.gone] 47)).drew [W.heap.size] (.slice (some ⟨W.heap.size + 1, 0, none⟩) 1 1) [f] := by
      have := RdL.one (W.alloc (.cells #[] 47)) [W.heap.size] f (by simp) 47
      have e : (W.alloc (.cells #[] 47)).heap.size = W.heap.size + 1 := by simp
      rw [e] at this
      exact this
     have x3 : RdL ((W.alloc (.cells #[.string f.row, .string f.col, .int .i64 f.at_, .string f.val, .bool f.gone] 47)).alloc (.cells #[] 47)).drew [W.heap.size + 1] (.slice (some ⟨W.heap.size, 0, none⟩) 1 1) [f] := (RdL.one W [W.heap.size + 1] f (by simp) 47).bel (bwalloc (bwrefl _) (.cells #[] 47)).drew
     have q1 := r1.bel bE
     have q2 := r1.bel bEF
     have q3 := r1.bel bFE
     have s1 := bE.size
     have s2 := bEF.size
     have s3 := bFE.size
     have y1 := bE.drew
     have y2 := bEF.drew
     have y3 := bFE.drew
     have HBW := Lib.hid hB
     have HR3 := Lib.hid (fun (Z : World) (hb : Below W.heap.size W Z) => r3.bel hb)
     have HHW := Lib.hid hhW
     have HBZ := Lib.hid hbz
     have HX2 := Lib.hid x2
     have HX3 := Lib.hid x3
     have k0 : (0 : Int) ≤ (k : Int) := by omega
     have k1 : (k : Int) ≤ (c : Int) := by omega
     have k5 : k ≤ c := by omega
     clear r1 r3 hLt PS bF bE bFE bEF hhW hbz x2 x3 hB hcut
     go_region_law (first
      | (refine step_appL rfl (.tmp 42) (.tmp 45) rfl (by simp [Act.eval]) e1 (by simp [Act.eval]) q1 l1 s1 ?_; intro v1 w1 p1 g1 h1; rw [List.nil_append] at p1; have z1 := y1.grown g1 y1.size (fun q hq => (e1.lt q hq).1); obtain ⟨d0, d1, d2, d3, d4⟩ := boxCells (X := w1) HHW.out (z1.block _ HBZ.out); have bF1 := bwalloc (bwrefl w1) (.cells #[.string f.row, .string f.col, .int .i64 f.at_, .string f.val, .bool f.gone] 47); have p1 := p1.below bF1; have xf := RdL.one w1 [] f (by simp) 47; have z1 := z1.alloc z1.size (.cells #[.string f.row, .string f.col, .int .i64 f.at_, .string f.val, .bool f.gone] 47); have t1 := z1.size; clear g1 h1)
      | (refine step_appL rfl (.tmp 42) (.tmp 45) rfl (by simp [Act.eval]) e2 (by simp [Act.eval]) q2 l1 s2 ?_; intro v1 w1 p1 g1 h1; rw [List.nil_append] at p1; have z1 := y2.grown g1 y2.size (fun q hq => (e2.lt q hq).1); have xf := HX2.out.up (Kp.grown (S := [W.heap.size]) g1 fun k e => List.mem_singleton.2 (Option.some.inj e).symm) (fun _ hk => .inl hk); have t1 := z1.size; clear g1 h1)
      | (refine step_appL rfl (.tmp 42) (.tmp 45) rfl (by simp [Act.eval]) e3 (by simp [Act.eval]) q3 l1 s3 ?_; intro v1 w1 p1 g1 h1; rw [List.nil_append] at p1; have z1 := y3.grown g1 y3.size (fun q hq => (e3.lt q hq).1); have xf := HX3.out.up (Kp.grown (S := [W.heap.size + 1]) g1 fun k e => List.mem_singleton.2 (Option.some.inj e).symm) (fun _ hk => .inl hk); have t1 := z1.size; clear g1 h1)
      | (refine step_appL rfl (.tmp 46) (.tmp 48) rfl (by simp [Act.eval]) p1 (by simp [Act.eval]) xf l2 t1 ?_; intro v2 w2 p2 g2 h2; have z2 := z1.grown g2 z1.size (fun q hq => (p1.lt q hq).1); have r3 := HR3.out _ z2; have t2 := z2.size; clear g2 h2)
      | (refine step_appL rfl (.tmp 49) (.tmp 50) rfl (by simp [Act.eval]) p2 (by simp [Act.eval]) r3 l3 t2 ?_; intro v3 w3 p3 g3 h3; have HZ3 := Lib.hid (z2.grown g3 z2.size (fun q hq => (p2.lt q hq).1)); have HP3 := Lib.hid p3; clear g3 h3 p3))
     all_goals (go_wp2_with fail; go_ret; exact ⟨⟨_, rfl, by rw [HANS.out]; exact HP3.out.mono hsW⟩, HBW.out.trans (HZ3.out.mono hsW)⟩)
  ·obtain rfl : k = L.length := by omega
   have HANS := Lib.hid (put1_end HJ.out)
   by_cases hck : c = L.length
   ·subst hck
    go_wp2_with fail
    go_quiet (fail)
    go_wp2_with fail
    have hbw2 := below_drewN hbw nq
    generalize wr.drewN nq = wq at *
    go_quiet (fail)
    go_wp2_with fail
    have hbw3 := below_drewN hbw2 nq
    generalize wq.drewN nq = W at *
    have PS0 : PutS w W (.slice A L.length L.length) (.slice A 0 0) L [] f L.length := ⟨bwstep HB.out hbw3, HI.out.up hbw3, HV.out.bel hbw3, RdL.none_ (by simp [maxLen]), Nat.le_refl _, by simp, HANS.out⟩
    have PS := Lib.hid PS0
    obtain ⟨Ld, hLd⟩ : ∃ Ld : List Cl, Ld = [] := ⟨_, rfl⟩
    rw [← hLd] at PS
    clear PS0 HANS hbw hbw2 hbw3 hLd HJ
    have hbz := PS.out.box.lt
    have hB := PS.out.bel
    have hsW := hB.size
    have hhW := PS.out.box
    obtain ⟨Lt, hLt⟩ : ∃ Lt, Lt = L.take L.length := ⟨_, rfl⟩
    have HANS : Hid (put1 f L = (Lt ++ [f]) ++ Ld) := by rw [hLt]; exact PS.out.ans
    have hdl := PS.out.dl
    have hkl := PS.out.kl
    have hcut := PS.out.rd.to_ PS.out.kl
    have r1 := hcut
    rw [← hLt] at r1
    have l1 : ([] : List Cl).length + Lt.length ≤ 1000000000 := by rw [hLt]; simp; omega
    have l2 : Lt.length + [f].length ≤ 1000000000 := by rw [hLt]; simp; omega
    have l3 : (Lt ++ [f]).length + Ld.length ≤ 1000000000 := by rw [hLt]; simp; omega
    have r3 := PS.out.rr
    have bE := (bwalloc (bwrefl W) (.cells #[] 47))
    have bF := (bwalloc (bwrefl W) (.cells #[.string f.row, .string f.col, .int .i64 f.at_, .string f.val, .bool f.gone] 47))
    have bEF := bwalloc bE (.cells #[.string f.row, .string f.col, .int .i64 f.at_, .string f.val, .bool f.gone] 47)
    have bFE := bwalloc bF (.cells #[] 47)
    obtain ⟨a0, a1, a2, a3, a4⟩ := boxCells (X := W) hhW rfl
    obtain ⟨b0, b1, b2, b3, b4⟩ := boxCells (X := W.alloc (.cells #[] 47)) hhW (bE.block _ hbz)
    have e1 : OwL (W.alloc (.cells #[] 47)).drew W.heap.size (.slice (some ⟨W.heap.size, 0, none⟩) 0 0) [] := OwL.empty W (Nat.le_refl _) _ rfl
    have e2 : OwL ((W.alloc (.cells #[] 47)).alloc (.cells #[.string f.row, .string f.col, .int .i64 f.at_, .string f.val, .bool f.gone] 47)).drew W.heap.size (.slice (some ⟨W.heap.size, 0, none⟩) 0 0) [] := e1.below (bwalloc (bwrefl _) (.cells #[.string f.row, .string f.col, .int .i64 f.at_, .string f.val, .bool f.gone] 47))
    have e3 : OwL ((W.alloc (.cells #[.string f.row, .string f.col, .int .i64 f.at_, .string f.val, .bool f.gone] 47)).alloc (.cells #[] 47)).drew W.heap.size (.slice (some ⟨W.heap.size + 1, 0, none⟩) 0 0) [] := by
     have := OwL.empty (B := W.heap.size) (W.alloc (.cells #[.string f.row, .string f.col, .int .i64 f.at_, .string f.val, .bool f.gone] 47)) bF.size _ rfl
     have e : (W.alloc (.cells #[.string f.row, .string f.col, .int .i64 f.at_, .string f.val, .bool f.gone] 47)).heap.size = W.heap.size + 1 := by simp
     rw [e] at this
     exact this
    have x2 : RdL ((W.alloc (.cells #[] 47)).alloc (.cells #[.string f.row, .string f.col, .int .i64 f.at_, .string f.val, .bool f.gone] 47)).drew [W.heap.size] (.slice (some ⟨W.heap.size + 1, 0, none⟩) 1 1) [f] := by
     have := RdL.one (W.alloc (.cells #[] 47)) [W.heap.size] f (by simp) 47
     have e : (W.alloc (.cells #[] 47)).heap.size = W.heap.size + 1 := by simp
     rw [e] at this
     exact this
    have x3 : RdL ((W.alloc (.cells #[.string f.row, .string f.col, .int .i64 f.at_, .string f.val, .bool f.gone] 47)).alloc (.cells #[] 47)).drew [W.heap.size + 1] (.slice (some ⟨W.heap.size, 0, none⟩) 1 1) [f] := (RdL.one W [W.heap.size + 1] f (by simp) 47).bel (bwalloc (bwrefl _) (.cells #[] 47)).drew
    have q1 := r1.bel bE
    have q2 := r1.bel bEF
    have q3 := r1.bel bFE
    have s1 := bE.size
    have s2 := bEF.size
    have s3 := bFE.size
    have y1 := bE.drew
    have y2 := bEF.drew
    have y3 := bFE.drew
    have HBW := Lib.hid hB
    have HR3 := Lib.hid (fun (Z : World) (hb : Below W.heap.size W Z) => r3.bel hb)
    have HHW := Lib.hid hhW
    have HBZ := Lib.hid hbz
    have HX2 := Lib.hid x2
    have HX3 := Lib.hid x3
    have k0 : (0 : Int) ≤ (L.length : Int) := by omega
    have k1 : (L.length : Int) ≤ (L.length : Int) := by omega
    have k5 : L.length ≤ L.length := by omega
    clear r1 r3 hLt PS bF bE bFE bEF hhW hbz x2 x3 hB hcut
    go_region_law (first
     | (refine step_appL rfl (.tmp 42) (.tmp 45) rfl (by simp [Act.eval]) e1 (by simp [Act.eval]) q1 l1 s1 ?_; intro v1 w1 p1 g1 h1; rw [List.nil_append] at p1; have z1 := y1.grown g1 y1.size (fun q hq => (e1.lt q hq).1); obtain ⟨d0, d1, d2, d3, d4⟩ := boxCells (X := w1) HHW.out (z1.block _ HBZ.out); have bF1 := bwalloc (bwrefl w1) (.cells #[.string f.row, .string f.col, .int .i64 f.at_, .string f.val, .bool f.gone] 47); have p1 := p1.below bF1; have xf := RdL.one w1 [] f (by simp) 47; have z1 := z1.alloc z1.size (.cells #[.string f.row, .string f.col, .int .i64 f.at_, .string f.val, .bool f.gone] 47); have t1 := z1.size; clear g1 h1)
     | (refine step_appL rfl (.tmp 42) (.tmp 45) rfl (by simp [Act.eval]) e2 (by simp [Act.eval]) q2 l1 s2 ?_; intro v1 w1 p1 g1 h1; rw [List.nil_append] at p1; have z1 := y2.grown g1 y2.size (fun q hq => (e2.lt q hq).1); have xf := HX2.out.up (Kp.grown (S := [W.heap.size]) g1 fun k e => List.mem_singleton.2 (Option.some.inj e).symm) (fun _ hk => .inl hk); have t1 := z1.size; clear g1 h1)
     | (refine step_appL rfl (.tmp 42) (.tmp 45) rfl (by simp [Act.eval]) e3 (by simp [Act.eval]) q3 l1 s3 ?_; intro v1 w1 p1 g1 h1; rw [List.nil_append] at p1; have z1 := y3.grown g1 y3.size (fun q hq => (e3.lt q hq).1); have xf := HX3.out.up (Kp.grown (S := [W.heap.size + 1]) g1 fun k e => List.mem_singleton.2 (Option.some.inj e).symm) (fun _ hk => .inl hk); have t1 := z1.size; clear g1 h1)
     | (refine step_appL rfl (.tmp 46) (.tmp 48) rfl (by simp [Act.eval]) p1 (by simp [Act.eval]) xf l2 t1 ?_; intro v2 w2 p2 g2 h2; have z2 := z1.grown g2 z1.size (fun q hq => (p1.lt q hq).1); have r3 := HR3.out _ z2; have t2 := z2.size; clear g2 h2)
     | (refine step_appL rfl (.tmp 49) (.tmp 50) rfl (by simp [Act.eval]) p2 (by simp [Act.eval]) r3 l3 t2 ?_; intro v3 w3 p3 g3 h3; have HZ3 := Lib.hid (z2.grown g3 z2.size (fun q hq => (p2.lt q hq).1)); have HP3 := Lib.hid p3; clear g3 h3 p3))
    all_goals (go_wp2_with fail; go_ret; exact ⟨⟨_, rfl, by rw [HANS.out]; exact HP3.out.mono hsW⟩, HBW.out.trans (HZ3.out.mono hsW)⟩)
   ·have hnz : ¬ (c - L.length = c) ∨ L.length = 0 := by omega
    go_wp2_with fail
    go_quiet (fail)
    go_wp2_with fail
    have hbw2 := below_drewN hbw nq
    generalize wr.drewN nq = wq at *
    go_quiet (fail)
    go_wp2_with fail
    have hbw3 := below_drewN hbw2 nq
    generalize wq.drewN nq = W at *
    have PS0 : PutS w W (.slice A L.length c) (.slice (A.map fun x => x.add (L.length * 5)) 0 (c - L.length)) L [] f L.length := ⟨bwstep HB.out hbw3, HI.out.up hbw3, HV.out.bel hbw3, RdL.none_ (by unfold maxLen; omega), Nat.le_refl _, by simp, HANS.out⟩
    have PS := Lib.hid PS0
    obtain ⟨Ld, hLd⟩ : ∃ Ld : List Cl, Ld = [] := ⟨_, rfl⟩
    rw [← hLd] at PS
    clear PS0 HANS hbw hbw2 hbw3 hLd HJ
    have hbz := PS.out.box.lt
    have hB := PS.out.bel
    have hsW := hB.size
    have hhW := PS.out.box
    obtain ⟨Lt, hLt⟩ : ∃ Lt, Lt = L.take L.length := ⟨_, rfl⟩
    have HANS : Hid (put1 f L = (Lt ++ [f]) ++ Ld) := by rw [hLt]; exact PS.out.ans
    have hdl := PS.out.dl
    have hkl := PS.out.kl
    have hcut := PS.out.rd.to_ PS.out.kl
    have r1 := hcut
    rw [← hLt] at r1
    have l1 : ([] : List Cl).length + Lt.length ≤ 1000000000 := by rw [hLt]; simp; omega
    have l2 : Lt.length + [f].length ≤ 1000000000 := by rw [hLt]; simp; omega
    have l3 : (Lt ++ [f]).length + Ld.length ≤ 1000000000 := by rw [hLt]; simp; omega
    have r3 := PS.out.rr
    have bE := (bwalloc (bwrefl W) (.cells #[] 47))
    have bF := (bwalloc (bwrefl W) (.cells #[.string f.row, .string f.col, .int .i64 f.at_, .string f.val, .bool f.gone] 47))
    have bEF := bwalloc bE (.cells #[.string f.row, .string f.col, .int .i64 f.at_, .string f.val, .bool f.gone] 47)
    have bFE := bwalloc bF (.cells #[] 47)
    obtain ⟨a0, a1, a2, a3, a4⟩ := boxCells (X := W) hhW rfl
    obtain ⟨b0, b1, b2, b3, b4⟩ := boxCells (X := W.alloc (.cells #[] 47)) hhW (bE.block _ hbz)
    have e1 : OwL (W.alloc (.cells #[] 47)).drew W.heap.size (.slice (some ⟨W.heap.size, 0, none⟩) 0 0) [] := OwL.empty W (Nat.le_refl _) _ rfl
    have e2 : OwL ((W.alloc (.cells #[] 47)).alloc (.cells #[.string f.row, .string f.col, .int .i64 f.at_, .string f.val, .bool f.gone] 47)).drew W.heap.size (.slice (some ⟨W.heap.size, 0, none⟩) 0 0) [] := e1.below (bwalloc (bwrefl _) (.cells #[.string f.row, .string f.col, .int .i64 f.at_, .string f.val, .bool f.gone] 47))
    have e3 : OwL ((W.alloc (.cells #[.string f.row, .string f.col, .int .i64 f.at_, .string f.val, .bool f.gone] 47)).alloc (.cells #[] 47)).drew W.heap.size (.slice (some ⟨W.heap.size + 1, 0, none⟩) 0 0) [] := by
     have := OwL.empty (B := W.heap.size) (W.alloc (.cells #[.string f.row, .string f.col, .int .i64 f.at_, .string f.val, .bool f.gone] 47)) bF.size _ rfl
     have e : (W.alloc (.cells #[.string f.row, .string f.col, .int .i64 f.at_, .string f.val, .bool f.gone] 47)).heap.size = W.heap.size + 1 := by simp
     rw [e] at this
     exact this
    have x2 : RdL ((W.alloc (.cells #[] 47)).alloc (.cells #[.string f.row, .string f.col, .int .i64 f.at_, .string f.val, .bool f.gone] 47)).drew [W.heap.size] (.slice (some ⟨W.heap.size + 1, 0, none⟩) 1 1) [f] := by
     have := RdL.one (W.alloc (.cells #[] 47)) [W.heap.size] f (by simp) 47
     have e : (W.alloc (.cells #[] 47)).heap.size = W.heap.size + 1 := by simp
     rw [e] at this
     exact this
    have x3 : RdL ((W.alloc (.cells #[.string f.row, .string f.col, .int .i64 f.at_, .string f.val, .bool f.gone] 47)).alloc (.cells #[] 47)).drew [W.heap.size + 1] (.slice (some ⟨W.heap.size, 0, none⟩) 1 1) [f] := (RdL.one W [W.heap.size + 1] f (by simp) 47).bel (bwalloc (bwrefl _) (.cells #[] 47)).drew
    have q1 := r1.bel bE
    have q2 := r1.bel bEF
    have q3 := r1.bel bFE
    have s1 := bE.size
    have s2 := bEF.size
    have s3 := bFE.size
    have y1 := bE.drew
    have y2 := bEF.drew
    have y3 := bFE.drew
    have HBW := Lib.hid hB
    have HR3 := Lib.hid (fun (Z : World) (hb : Below W.heap.size W Z) => r3.bel hb)
    have HHW := Lib.hid hhW
    have HBZ := Lib.hid hbz
    have HX2 := Lib.hid x2
    have HX3 := Lib.hid x3
    have k0 : (0 : Int) ≤ (L.length : Int) := by omega
    have k1 : (L.length : Int) ≤ (c : Int) := by omega
    have k5 : L.length ≤ c := by omega
    clear r1 r3 hLt PS bF bE bFE bEF hhW hbz x2 x3 hB hcut
    go_region_law (first
     | (refine step_appL rfl (.tmp 42) (.tmp 45) rfl (by simp [Act.eval]) e1 (by simp [Act.eval]) q1 l1 s1 ?_; intro v1 w1 p1 g1 h1; rw [List.nil_append] at p1; have z1 := y1.grown g1 y1.size (fun q hq => (e1.lt q hq).1); obtain ⟨d0, d1, d2, d3, d4⟩ := boxCells (X := w1) HHW.out (z1.block _ HBZ.out); have bF1 := bwalloc (bwrefl w1) (.cells #[.string f.row, .string f.col, .int .i64 f.at_, .string f.val, .bool f.gone] 47); have p1 := p1.below bF1; have xf := RdL.one w1 [] f (by simp) 47; have z1 := z1.alloc z1.size (.cells #[.string f.row, .string f.col, .int .i64 f.at_, .string f.val, .bool f.gone] 47); have t1 := z1.size; clear g1 h1)
     | (refine step_appL rfl (.tmp 42) (.tmp 45) rfl (by simp [Act.eval]) e2 (by simp [Act.eval]) q2 l1 s2 ?_; intro v1 w1 p1 g1 h1; rw [List.nil_append] at p1; have z1 := y2.grown g1 y2.size (fun q hq => (e2.lt q hq).1); have xf := HX2.out.up (Kp.grown (S := [W.heap.size]) g1 fun k e => List.mem_singleton.2 (Option.some.inj e).symm) (fun _ hk => .inl hk); have t1 := z1.size; clear g1 h1)
     | (refine step_appL rfl (.tmp 42) (.tmp 45) rfl (by simp [Act.eval]) e3 (by simp [Act.eval]) q3 l1 s3 ?_; intro v1 w1 p1 g1 h1; rw [List.nil_append] at p1; have z1 := y3.grown g1 y3.size (fun q hq => (e3.lt q hq).1); have xf := HX3.out.up (Kp.grown (S := [W.heap.size + 1]) g1 fun k e => List.mem_singleton.2 (Option.some.inj e).symm) (fun _ hk => .inl hk); have t1 := z1.size; clear g1 h1)
     | (refine step_appL rfl (.tmp 46) (.tmp 48) rfl (by simp [Act.eval]) p1 (by simp [Act.eval]) xf l2 t1 ?_; intro v2 w2 p2 g2 h2; have z2 := z1.grown g2 z1.size (fun q hq => (p1.lt q hq).1); have r3 := HR3.out _ z2; have t2 := z2.size; clear g2 h2)
     | (refine step_appL rfl (.tmp 49) (.tmp 50) rfl (by simp [Act.eval]) p2 (by simp [Act.eval]) r3 l3 t2 ?_; intro v3 w3 p3 g3 h3; have HZ3 := Lib.hid (z2.grown g3 z2.size (fun q hq => (p2.lt q hq).1)); have HP3 := Lib.hid p3; clear g3 h3 p3))
    all_goals (go_wp2_with fail; go_ret; exact ⟨⟨_, rfl, by rw [HANS.out]; exact HP3.out.mono hsW⟩, HBW.out.trans (HZ3.out.mono hsW)⟩)
end Go.Proofs.YtcpkhhbbjimdaaaGreatDoor.Ce
