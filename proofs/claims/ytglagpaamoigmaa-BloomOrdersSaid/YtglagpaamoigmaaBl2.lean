/- The statements of layer 11: the walks of BloomHolds and BloomOrders. -/
import Derived.Test.YtglagpaamoigmaaBlmW
import Derived.Test.YtglagpaamoigmaaWir
import Derived.Test.YtglagpaamoigmaaSls
namespace Go.Proofs.Ytglagpaamoigmaa.Blm
open Go.RowKit Crc

/-- the filter g has each bit of f -/
def Over (f g : List UInt8) : Prop := g.length = f.length ∧ ∀ i, bitAt f i = true → bitAt g i = true
theorem Over.refl (f : List UInt8) : Over f f := ⟨rfl, fun _ h => h⟩
theorem Over.or {f g : List UInt8} (h : Over f g) {k : Nat} (hk : k < g.length) (m : UInt8) : Over f (g.set k (g[k] ||| m)) := by
  refine ⟨by rw [List.length_set]; exact h.1, fun i hi => ?_⟩
  have := bitAt_or (k := k) (m := m) i (h.2 i hi)
  rwa [List.getD_eq_getElem?_getD, List.getElem?_eq_getElem hk, Option.getD_some] at this
theorem Over.has {l : List ByteArray} {g : List UInt8} (h : Over (mkB (kl l)) g) {k : Nat} (hk : k < l.length) : hasB g l[k].data.toList = true :=
  has_more h.1 h.2 (has_make (List.mem_map.2 ⟨l[k], List.getElem_mem hk, rfl⟩))

set_option maxHeartbeats 2000000 in
set_option maxRecDepth 100000 in
theorem bloomHolds_walk (x : Value) (l : List ByteArray) (y : Value) (more : List UInt8) (w : World) (hx : Rd w w.heap.size x (l.map sv)) (_hl : l.length ≤ 140737488351232) (hm : ∀ s ∈ l, s.size ≤ 140737488351232) (hy : Rd w w.heap.size y (more.map bv)) (_hml : more.length ≤ 140737488351232) :
    Calls Try.prog 5 #[x, y] w fun e w' => e = .returned (.bool true) ∧ Below w.heap.size w w' := by
  have hfw : ∀ w1, Rd w1 w1.heap.size x (l.map sv) → Calls Try.prog 8 #[x] w1 (FewSaid w1 l) := fun w1 h => rfew_any x l w1.heap.size w1 (Nat.le_refl _) h (fun s hs => Nat.le_trans (hm s hs) (by omega))
  obtain ⟨A, c, rfl, hc, hmx⟩ := hx.shapeM
  obtain ⟨A', c', rfl, hc', hmx'⟩ := hy.shapeM
  go_enter Try.func5, Try.ntmps5
  go_wp2_with fail
  refine (lawake_ok _).mono ?_
  rintro e w1 ⟨rfl, hb1⟩
  have hX1 := hx.up hb1
  have hY1 := hy.up hb1
  clear hx hy
  go_wp2_with fail
  refine (hfw _ hX1).mono ?_
  rintro e w2 ⟨q, rfl, hq, hb2⟩
  have hX2 := hX1.up hb2
  have hY2 := hY1.up hb2
  have hb2 := bwstep hb1 hb2
  clear hX1 hY1 hb1 hfw
  by_cases hqm : q = true ∧ more.length ≤ 1000
  · obtain ⟨rfl, h1000⟩ := hqm
    obtain ⟨h100, -⟩ := hq rfl
    clear hq
    go_wp2_with fail
    refine (make_any _ l _ hX2 (by omega) hm).mono ?_
    rintro e w3 ⟨⟨v3, rfl, h3⟩, hb3⟩
    have hX3 := hX2.up hb3
    have hY3 := hY2.up hb3
    have hb3 := bwstep hb2 hb3
    have hR3 := h3.rd
    have hfl : (mkB (kl l)).length ≤ 101 := by
      rw [mkB_len]
      unfold size
      rw [kl_len]
      split <;> omega
    have HV : Hid (∀ g, Over (mkB (kl l)) g → ∀ k (hk : k < l.length), hasB g l[k].data.toList = true) := Lib.hid fun g hg k hk => hg.has hk
    generalize mkB (kl l) = f at hR3 hfl HV h3
    clear hX2 hY2 hb2 h3
    obtain ⟨A3, c3, rfl, hc3, hm3⟩ := hR3.shapeM
    go_wp2_with (at_builtin; refine wpList_appB bytesT rfl (.tmp 24) (.tmp 25) rfl rfl (Ow.empty _ (Nat.le_refl _) _) rfl (hR3.up ((Below.refl _ _).alloc (Nat.le_refl _) _)) (by simp; omega) (by simp) ?_; intro v4 w4 ho4 hg4 _; have hB4 := Ow.emptyG hg4)
    rw [List.nil_append] at ho4
    have HB3 := Lib.hid hb3
    have HR3 := Lib.hid hR3
    have HX3 := Lib.hid hX3
    have HY3 := Lib.hid hY3
    obtain ⟨A4, c4, rfl, hc4, hm4⟩ := ho4.rd.shapeM
    clear hg4 hb3 hR3 hX3 hY3
    unfold maxLen at hm4 hmx'
    go_loopw [7] (fun i wr => ∃ (k : Nat) (g : List UInt8), k ≤ f.length ∧ i = .int .i64 k ∧ Over f g ∧ Ow wr w3.heap.size 5 (.slice A4 f.length c4) (g.map bv) ∧ Below w3.heap.size w3 wr) (fun i _ => f.length - (intOf i).toNat)
    case atStart => exact ⟨0, f, by omega, rfl, Over.refl f, ho4, hB4⟩
    case round =>
      clear ho4 hB4
      obtain ⟨k, g, hk, rfl, hov, ho, hb⟩ := hrel
      have hgl := hov.1
      by_cases hlt : k < f.length ∧ k < more.length
      · obtain ⟨hl1, hl2⟩ := hlt
        have HV2 := Lib.hid (hov.or (k := k) (by omega) more[k])
        obtain ⟨gb, rfl, hgB, hgs, hgc, hgf, hst⟩ := ho.at_ (k := k) (by rw [List.length_map]; omega)
        obtain ⟨bm, om, rfl, hbm, hcm⟩ := (HY3.out.below hb).cellM (by omega)
        have hc2 := hcm k hl2
        rw [List.getElem_map] at hgc
        simp only [bv] at hc2 hgc
        have HO : Hid (∀ u : UInt8, Ow (wr.setCell ⟨gb, k, none⟩ (.int .u8 (u.toNat : Int))) w3.heap.size 5 (.slice (some ⟨gb, 0, none⟩) f.length c4) ((g.set k u).map bv)) := Lib.hid fun u => by rw [List.map_set]; exact hst (bv u)
        have HB := Lib.hid (fun u => hb.setCell (p := ⟨gb, k, none⟩) hgB u)
        clear hst hcm ho hb
        generalize hmk : more[k] = mk at hc2 HV2
        clear hmk
        have HOR := Lib.hid (or_u8 (g[k]'(by omega)) mk)
        generalize hgk : g[k]'(by omega) = gk at hgc HV2 HOR
        clear hgk
        have HL := Lib.hid hgl
        clear hov hgl
        have i1 : (k : Int) < (f.length : Int) := by omega
        have i2 : (k : Int) < (more.length : Int) := by omega
        have hu1 := gk.toNat_lt
        have hu2 := mk.toNat_lt
        obtain ⟨wo, hwo⟩ : ∃ wo, wo = wr := ⟨_, rfl⟩
        subst hwo
        go_wp2_with fail
        go_region
        go_wp2_with fail
        rw [HOR.out]
        have HO2 := Lib.hid ((HO.out (gk ||| mk)).below (Below.refl _ _).drew)
        have HB2 := Lib.hid (HB.out (.int .u8 ((gk ||| mk).toNat : Int))).drew
        go_roundw
        case rel => exact ⟨k + 1, _, by omega, by go_num, HV2.out, HO2.out, HB2.out⟩
        case measure => simp [intOf]; omega
      · have HF := Lib.hid (HV.out f (Over.refl f))
        have HG := Lib.hid (HV.out g hov)
        have hX4 := HX3.out.up hb
        have hR4 := HR3.out.up hb
        have hG4 : Rd wr wr.heap.size (.slice A4 f.length c4) (g.map bv) := ho.rd
        have hb4 := bwstep HB3.out hb
        have hgl : g.length ≤ 101 := by omega
        clear hov ho hb HV HY3 HB3 HR3 HX3
        obtain ⟨wo, hwo⟩ : ∃ wo, wo = wr := ⟨_, rfl⟩
        subst hwo
        rcases Nat.lt_or_ge k f.length with hkf | hkf
        · have hkm : decide (k < more.length) = false := decide_eq_false (by omega)
          have hkn : more.length ≤ k := by omega
          clear hlt hk
          go_wp2_with fail
          go_loopw [8] (fun i wr => ∃ k : Nat, k ≤ l.length ∧ i = .int .i64 k ∧ Below wo.heap.size wo wr) (fun i _ => l.length - (intOf i).toNat)
          case atStart => exact ⟨0, Nat.zero_le _, rfl, Below.refl _ _⟩
          case round =>
            obtain ⟨k, hk, rfl, hb⟩ := hrel
            by_cases hlt : k < l.length
            · obtain ⟨bx, ox, rfl, hbx, hcx⟩ := (hX4.below hb).cellM (by omega)
              have hck := hcx k hlt
              simp only [sv] at hck
              clear hcx
              have hsz := hm _ (List.getElem_mem hlt)
              have HF2 := Lib.hid (HF.out k hlt)
              have HG2 := Lib.hid (HG.out k hlt)
              have hR5 := hR4.up hb
              have hG5 := hG4.up hb
              generalize l[k] = s at hck hsz HF2 HG2
              have hb5 := Lib.hid hb
              clear hb
              go_wp2_with fail
              refine (has_any _ f s _ wr (Nat.le_refl _) hR5 (by omega) hsz).mono ?_
              rintro e w6 ⟨rfl, hb6⟩
              rw [HF2.out]
              have hG6 := hG5.up hb6
              have hck := (hb6.cell (by exact Nat.lt_of_lt_of_le hbx hb5.out.size)).trans hck
              have hb6 := bwstep hb5.out hb6
              clear hR5 hG5 hb5
              go_wp2_with fail
              refine (has_any _ g s _ w6 (Nat.le_refl _) hG6 (by omega) hsz).mono ?_
              rintro e w7 ⟨rfl, hb7⟩
              rw [HG2.out]
              have HB7 := Lib.hid (bwstep hb6 hb7)
              clear hG6 hck hb6 hb7
              go_wp2_with fail
              go_roundw
              case rel => exact ⟨k + 1, by omega, by go_num, HB7.out⟩
              case measure => simp [intOf]; omega
            · have HB7 := Lib.hid (bwstep hb4 hb)
              clear hb hb4 hX4 hR4 hG4
              go_wp2_with fail
              go_ret
              exact ⟨rfl, HB7.out⟩
        · clear hlt hk
          go_wp2_with fail
          go_loopw [8] (fun i wr => ∃ k : Nat, k ≤ l.length ∧ i = .int .i64 k ∧ Below wo.heap.size wo wr) (fun i _ => l.length - (intOf i).toNat)
          case atStart => exact ⟨0, Nat.zero_le _, rfl, Below.refl _ _⟩
          case round =>
            obtain ⟨k, hk, rfl, hb⟩ := hrel
            by_cases hlt : k < l.length
            · obtain ⟨bx, ox, rfl, hbx, hcx⟩ := (hX4.below hb).cellM (by omega)
              have hck := hcx k hlt
              simp only [sv] at hck
              clear hcx
              have hsz := hm _ (List.getElem_mem hlt)
              have HF2 := Lib.hid (HF.out k hlt)
              have HG2 := Lib.hid (HG.out k hlt)
              have hR5 := hR4.up hb
              have hG5 := hG4.up hb
              generalize l[k] = s at hck hsz HF2 HG2
              have hb5 := Lib.hid hb
              clear hb
              go_wp2_with fail
              refine (has_any _ f s _ wr (Nat.le_refl _) hR5 (by omega) hsz).mono ?_
              rintro e w6 ⟨rfl, hb6⟩
              rw [HF2.out]
              have hG6 := hG5.up hb6
              have hck := (hb6.cell (by exact Nat.lt_of_lt_of_le hbx hb5.out.size)).trans hck
              have hb6 := bwstep hb5.out hb6
              clear hR5 hG5 hb5
              go_wp2_with fail
              refine (has_any _ g s _ w6 (Nat.le_refl _) hG6 (by omega) hsz).mono ?_
              rintro e w7 ⟨rfl, hb7⟩
              rw [HG2.out]
              have HB7 := Lib.hid (bwstep hb6 hb7)
              clear hG6 hck hb6 hb7
              go_wp2_with fail
              go_roundw
              case rel => exact ⟨k + 1, by omega, by go_num, HB7.out⟩
              case measure => simp [intOf]; omega
            · have HB7 := Lib.hid (bwstep hb4 hb)
              clear hb hb4 hX4 hR4 hG4
              go_wp2_with fail
              go_ret
              exact ⟨rfl, HB7.out⟩
  · cases q
    · clear hq hqm
      go_wp2_with fail
      refine (lawake_ok _).mono ?_
      rintro e w3 ⟨rfl, hb3⟩
      go_wp2_with fail
      go_ret
      exact ⟨rfl, bwstep hb2 hb3⟩
    · have h1000 : 1000 < more.length := by
        exact Nat.lt_of_not_le fun h => hqm ⟨rfl, h⟩
      clear hq hqm
      go_wp2_with fail
      refine (lawake_ok _).mono ?_
      rintro e w3 ⟨rfl, hb3⟩
      go_wp2_with fail
      go_ret
      exact ⟨rfl, bwstep hb2 hb3⟩
theorem rev_snoc {l : List ByteArray} {k q : Nat} (hk : k < l.length) (hq : l.length - 1 - k = q) (h : q < l.length) : l.reverse.take (k + 1) = l.reverse.take k ++ [l[q]] := by
  subst hq
  rw [List.take_succ_eq_append_getElem (by simpa using hk), List.getElem_reverse]
theorem mk_rev (l : List ByteArray) : mkB (kl l.reverse) = mkB (kl l) := mkB_perm ((List.reverse_perm l).map _)

set_option maxHeartbeats 2000000 in
set_option maxRecDepth 100000 in
theorem bloomOrders_walk (x : Value) (l : List ByteArray) (w : World) (hx : Rd w w.heap.size x (l.map sv)) (_hl : l.length ≤ 140737488351232) (hm : ∀ s ∈ l, s.size ≤ 140737488351232) :
    Calls Try.prog 6 #[x] w fun e w' => e = .returned (.bool true) ∧ Below w.heap.size w w' := by
  have hfw : ∀ w1, Rd w1 w1.heap.size x (l.map sv) → Calls Try.prog 8 #[x] w1 (FewSaid w1 l) := fun w1 h => rfew_any x l w1.heap.size w1 (Nat.le_refl _) h (fun s hs => Nat.le_trans (hm s hs) (by omega))
  obtain ⟨A, c, rfl, hc, hmx⟩ := hx.shapeM
  go_enter Try.func6, Try.ntmps6
  go_wp2_with fail
  refine (lawake_ok _).mono ?_
  rintro e w1 ⟨rfl, hb1⟩
  have hX1 := hx.up hb1
  clear hx
  go_wp2_with fail
  refine (hfw _ hX1).mono ?_
  rintro e w2 ⟨q, rfl, hq, hb2⟩
  have hX2 := hX1.up hb2
  have hb2 := bwstep hb1 hb2
  clear hX1 hb1 hfw
  cases q
  · go_wp2_with fail
    refine (lawake_ok _).mono ?_
    rintro e w3 ⟨rfl, hb3⟩
    go_wp2_with fail
    go_ret
    exact ⟨rfl, bwstep hb2 hb3⟩
  · obtain ⟨h100, -⟩ := hq rfl
    clear hq
    have HX2 := Lib.hid hX2
    have HB2 := Lib.hid hb2
    have HM := Lib.hid hm
    clear hX2 hb2 hm
    go_wp2_with fail
    go_loopw [3, 4] (fun v i wr => ∃ k : Nat, k ≤ l.length ∧ i = .int .i64 ((l.length : Int) - 1 - (k : Int)) ∧ Ow wr w2.heap.size 9 v ((l.reverse.take k).map sv) ∧ Below w2.heap.size w2 wr) (fun _ i _ => (intOf i + 1).toNat)
    case atStart => exact ⟨0, Nat.zero_le _, vi (by simp), Ow.nil _ _ _, Below.refl _ _⟩
    case round =>
      obtain ⟨k, hk, rfl, ho, hb⟩ := hrel
      by_cases hlt : k < l.length
      · obtain ⟨q, hq⟩ : ∃ q, l.length - 1 - k = q := ⟨_, rfl⟩
        have hql : q < l.length := by omega
        have hqi : (l.length : Int) - 1 - (k : Int) = (q : Int) := by omega
        have HQ : Hid ((q : Int) = (l.length : Int) - 1 - (k : Int)) := Lib.hid hqi.symm
        have HT := Lib.hid (rev_snoc hlt hq hql)
        obtain ⟨b, off, rfl, hbb, hcell⟩ := (HX2.out.below hb).cellM (by omega)
        have hck := hcell q hql
        simp only [sv] at hck
        clear hcell hq
        rw [hqi]
        clear hqi
        generalize l[q] = s at hck HT
        have hbe : ∀ o, Below wr.heap.size wr (wr.alloc o) := fun o => bwalloc (Below.refl _ _) o
        have hsz2 : ((l.reverse.take k).map sv).length ≤ 100 := by simp; omega
        have HO := Lib.hid ho
        have HB := Lib.hid hb
        have hbs := hb.size
        clear ho hb
        obtain ⟨wo, hwo⟩ : ∃ wo, wo = wr := ⟨_, rfl⟩
        subst hwo
        go_wp2_with (at_builtin; refine wpList_app textT rfl rfl (.tmp 23) (.tmp 28) rfl rfl (HO.out.below (hbe _)) rfl (Rd.newW (xs := [s].map sv) _ _ _ rfl (by simp [maxLen]) rfl) (one_sv _) (by simp [maxLen]; omega) (by simp; omega) (Nat.le_trans hbs (hbe _).size) ?_; intro v2 w3 ho2 hg2 _; have hb3 := (HB.out.trans ((hbe _).mono hbs)).grown hg2 (Nat.le_trans hbs (hbe _).size) HO.out.ge)
        go_roundw
        case rel => exact ⟨k + 1, by omega, vi (by have := HQ.out; omega), by rw [HT.out, List.map_append]; exact ho2, hb3⟩
        case measure => simp [intOf]
      · obtain rfl : k = l.length := by omega
        rw [List.take_of_length_le (by simp)] at ho
        have HK := Lib.hid ho.rd
        have HX4 := Lib.hid (HX2.out.up hb)
        have HB4 := Lib.hid (bwstep HB2.out hb)
        clear ho hb HX2 HB2
        have hi0 : (l.length : Int) - 1 - (l.length : Int) = -1 := by omega
        rw [hi0]
        clear hi0
        obtain ⟨wo, hwo⟩ : ∃ wo, wo = wr := ⟨_, rfl⟩
        subst hwo
        go_wp2_with fail
        refine (make_any _ l _ HX4.out (by omega) HM.out).mono ?_
        rintro e w5 ⟨⟨v5, rfl, h5⟩, hb5⟩
        have HX5 := Lib.hid (HX4.out.up hb5)
        have HK5 := Lib.hid (HK.out.up hb5)
        have HB5 := Lib.hid (bwstep HB4.out hb5)
        have hfl : (mkB (kl l)).length ≤ 101 := by
          rw [mkB_len]
          unfold size
          rw [kl_len]
          split <;> omega
        have HE2 := Lib.hid (mk_rev l)
        obtain ⟨f, hf⟩ : ∃ f, mkB (kl l) = f := ⟨_, rfl⟩
        have HE : Hid (mkB (kl l) = f) := Lib.hid hf
        rw [hf] at h5 hfl HE2
        clear hf
        obtain ⟨A5, c5, rfl, hc5, hm5⟩ := h5.rd.shapeM
        unfold maxLen at hm5
        go_wp2_with (at_builtin; refine wpList_appB bytesT rfl (.tmp 32) (.tmp 33) rfl rfl (Ow.empty _ (Nat.le_refl _) _) rfl (h5.rd.up ((Below.refl _ _).alloc (Nat.le_refl _) _)) (by simp; omega) (by simp) ?_; intro v6 w6 ho6 hg6 _; have hB6 := Ow.emptyG hg6)
        rw [List.nil_append] at ho6
        have HX6 := Lib.hid (HX5.out.up hB6)
        have HK6 := Lib.hid (HK5.out.up hB6)
        have HB6 := Lib.hid (bwstep HB5.out hB6)
        have HF6 := Lib.hid (h5.below hB6)
        have HA : Hid (∀ k, v6.ownBlock = some k → w5.heap.size ≤ k) := Lib.hid ho6.ge
        have HFB : Hid (∀ k, (Value.slice A5 f.length c5).ownBlock = some k → k < w5.heap.size) := Lib.hid fun k hk => (h5.lt k hk).2
        have HB56 := Lib.hid (bwstep hb5 hB6)
        clear hg6 hB6 h5 HX5 HK5 HB5 hb5
        obtain ⟨A6, c6, rfl, hc6, hm6⟩ := ho6.rd.shapeM
        go_loopw [7] (fun i wr => ∃ (k : Nat) (g : List UInt8), k ≤ f.length ∧ i = .int .i64 k ∧ g.length = f.length ∧ Ow wr wo.heap.size 5 (.slice A5 f.length c5) (g.map bv) ∧ Ow wr w5.heap.size 5 (.slice A6 f.length c6) (f.map bv) ∧ Below wo.heap.size wo wr) (fun i _ => f.length - (intOf i).toNat)
        case atStart => exact ⟨0, f, Nat.zero_le _, rfl, rfl, HF6.out, ho6, HB56.out⟩
        case round =>
          clear HX6 HK6 HB6 HF6 ho6 HB56
          obtain ⟨k, g, hk, rfl, hgl, ho, hwas, hb⟩ := hrel
          by_cases hlt : k < f.length
          · obtain ⟨gb, rfl, hgB, hgs, hgc, hgf, hst⟩ := ho.at_ (k := k) (by rw [List.length_map]; omega)
            rw [List.getElem_map] at hgc
            simp only [bv] at hgc
            have HO := Lib.hid (hst (bv 0))
            rw [← List.map_set] at HO
            have HB := Lib.hid (hb.setCell (p := ⟨gb, k, none⟩) hgB (bv 0))
            have HW := Lib.hid (hwas.kept (grownBy_setCell wr gb k (bv 0)) (fun j hj e => by
              have h1 := HA.out j hj
              have h2 := HFB.out gb rfl
              injection e with e
              omega))
            have HL : Hid ((g.set k 0).length = f.length) := Lib.hid (by rw [List.length_set]; exact hgl)
            clear hst ho hwas hb
            generalize g[k]'(by omega) = gk at hgc
            clear hgl
            go_wp2_with fail
            go_roundw
            case rel => exact ⟨k + 1, _, by omega, by go_num, HL.out, HO.out, HW.out, HB.out⟩
            case measure => simp [intOf]; omega
          · have HX7 := Lib.hid (HX4.out.up hb)
            have HK7 := Lib.hid (HK.out.up hb)
            have HB7 := Lib.hid (bwstep HB4.out hb)
            have HW7 := Lib.hid hwas.rd
            clear HX4 HK HB4 hwas ho hb hgl
            obtain ⟨wp, hwp⟩ : ∃ wp, wp = wr := ⟨_, rfl⟩
            subst hwp
            go_wp2_with fail
            refine (make_any _ l.reverse _ HK7.out (by simp; omega) (fun s hs => HM.out s (List.mem_reverse.1 hs))).mono ?_
            rintro e w8 ⟨⟨v8, rfl, h8⟩, hb8⟩
            rw [HE2.out] at h8
            have HX8 := Lib.hid (HX7.out.up hb8)
            have HB8 := Lib.hid (bwstep HB7.out hb8)
            have HW8 := Lib.hid (HW7.out.up hb8)
            clear HX7 HK7 HB7 HW7
            go_wp2_with fail
            refine (rsame_bel _ _ _ _ _ _ _ h8.rd HW8.out).mono ?_
            rintro e w9 ⟨rfl, hb9⟩
            rw [sameB_self]
            have HX9 := Lib.hid (HX8.out.up hb9)
            have HB9 := Lib.hid (bwstep HB8.out hb9)
            have HW9 := Lib.hid (HW8.out.up hb9)
            clear HX8 HB8 HW8 h8 hb8 hb9
            go_wp2_with fail
            refine (make_any _ l _ HX9.out (by omega) HM.out).mono ?_
            rintro e w10 ⟨⟨v10, rfl, h10⟩, hb10⟩
            rw [HE.out] at h10
            have HB10 := Lib.hid (bwstep HB9.out hb10)
            have HW10 := Lib.hid (HW9.out.up hb10)
            clear HX9 HB9 HW9
            go_wp2_with fail
            refine (rsame_bel _ _ _ _ _ _ _ h10.rd HW10.out).mono ?_
            rintro e w11 ⟨rfl, hb11⟩
            rw [sameB_self]
            have HB11 := Lib.hid (bwstep HB10.out hb11)
            clear HB10 HW10 h10 hb10 hb11
            go_wp2_with fail
            go_ret
            exact ⟨rfl, HB11.out⟩
end Go.Proofs.Ytglagpaamoigmaa.Blm
