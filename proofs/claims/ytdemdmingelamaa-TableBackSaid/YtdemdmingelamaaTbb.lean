/- The contract of the reference's Build of layer 12. -/
import Derived.Test.YtdemdmingelamaaTbk
import Derived.Test.YtdemdmingelamaaBkR
import Derived.Test.YtdemdmingelamaaBlmA
import Derived.Test.YtdemdmingelamaaWir
namespace Go.Proofs.Ytdemdmingelamaa.Ce
open Go.RowKit Frm

theorem entries_app : ∀ (A C : List (List Cl)) (a : Nat), entries (A ++ C) a = entries A a ++ entries C (a + (flatB A).length)
  | [], C, a => by simp [entries, flatB]
  | M :: A, C, a => by
    rw [List.cons_append, entries, entries, entries_app A C, flatB, List.length_append, List.append_assoc, List.append_assoc, Nat.add_assoc]
theorem entries_snoc {LL : List (List Cl)} {k : Nat} {M : List Cl} (h : LL[k]? = some M) : entries (LL.take (k + 1)) 0 = (entries (LL.take k) 0 ++ cellB (keyC (hd M))) ++ numB (flatB (LL.take k)).length := by
  obtain ⟨hl, rfl⟩ := List.getElem?_eq_some_iff.1 h
  rw [List.take_succ_eq_append_getElem hl, entries_app, entries, entries, List.append_nil, Nat.zero_add, List.append_assoc]
theorem entries_take_le (LL : List (List Cl)) (k : Nat) : (entries (LL.take k) 0).length ≤ (entries LL 0).length := by
  have := congrArg List.length (entries_app (LL.take k) (LL.drop k) 0)
  rw [List.take_append_drop, List.length_append] at this
  omega
theorem flatB_le : ∀ {LL : List (List Cl)}, (∀ M ∈ LL, (recB M).length ≤ 65535) → (flatB LL).length ≤ 65547 * LL.length
  | [], _ => by simp [flatB]
  | M :: LL, h => by
    have ih := flatB_le (LL := LL) fun A hA => h A (List.mem_cons_of_mem _ hA)
    have h1 := h M (by simp)
    have h2 : (blkB M).length = 12 + (recB M).length := frm_len _
    rw [flatB, List.length_append, List.length_cons]
    omega
theorem hd_at {M : List Cl} (h : M ≠ []) : M[0]? = some (hd M) := by
  cases M with
  | nil => exact absurd rfl h
  | cons a A => rfl
/-- append of whatever one-cell elements, as one step of a region that draws its order -/
theorem step_appE {P : Program} {ops : Array Oper} {o : Oper} {a : Act} {w : World} {B e t bytes D : Nat} {z v x : Value} {xs ys : List Value} {K : Act → World → Prop} {Q : Exit → Act → World → Prop} {E : Prop} (T : ET P t e z bytes) (hz : z.cells.size = 1) (hgd : o.guard = none) (s y : Operand)
    (ho : o.op = .call { callee := .builtin .append, args := #[s, y], argTypes := #[t, t] })
    (hs : a.eval s = v) (hown : Ow w B e v xs) (hy : a.eval y = x) (hr : Rd w D x ys) (h1 : One ys)
    (hlen : xs.length + ys.length ≤ maxLen) (hby : (xs.length + ys.length) * bytes ≤ 140737488355328) (hB : B ≤ w.heap.size)
    (hK : ∀ v' w', Ow w' B e v' (xs ++ ys) → w.grownBy w' v.ownBlock → (v'.ownBlock = v.ownBlock ∨ v'.ownBlock = some w.heap.size) → K (a.put o.dst v') w') :
    if Region.wanted o (yielded ops a.tmps) = true then Oper.wp P o a w K Q else E := by
  have hw : Region.wanted o (yielded ops a.tmps) = true := by simp [Region.wanted, hgd]
  rw [if_pos hw]
  obtain ⟨v', w', hrun, h2, h3, h4⟩ := run_app (P := P) T hz o.type hown hr h1 hlen hby hB
  unfold Oper.wp
  simp [execOp, ho, resolve, invoke, builtin, hs, hy, hrun, Result.andThen]
  exact hK v' w' h2 h3 h4
/-- the keys' texts -/
def keysS (L : List Cl) : List ByteArray := L.map fun c => keyS c.row c.col
theorem keysS_kl (L : List Cl) : Blm.kl (keysS L) = L.map keyOf := by
  unfold Blm.kl keysS
  rw [List.map_map]
  rfl
theorem keysS_snoc {L : List Cl} {k : Nat} {c : Cl} (h : L[k]? = some c) : keysS (L.take (k + 1)) = keysS (L.take k) ++ [keyS c.row c.col] := by
  obtain ⟨hl, rfl⟩ := List.getElem?_eq_some_iff.1 h
  unfold keysS
  rw [List.take_succ_eq_append_getElem hl, List.map_append]
  rfl

set_option maxHeartbeats 4000000 in
set_option maxRecDepth 100000 in
theorem tbuild_ok (v : Value) (L : List Cl) (size : Int) (w : World) (hv : RdL w [] v L) (hs : Sorted L) (h1 : 1 ≤ size) (hl : L.length ≤ 1000) (hfit : ∀ M ∈ cutB size L, (recB M).length ≤ 65535) (hft : (footR L (cutB size L)).length ≤ 65535) :
    Calls Try.prog 15 #[v, .int .i64 size] w fun e w' => (∃ x, e = .returned x ∧ Ow w' w.heap.size 5 x ((tabB L (cutB size L)).map bv)) ∧ Below w.heap.size w w' := by
  have hrow : ∀ M ∈ cutB size L, Sorted M ∧ M ≠ [] := fun M hM => by
    obtain ⟨j, hj⟩ := List.getElem?_of_mem hM
    exact ⟨cutB_sorted hs hj, (cutB_ok h1 hj).ne⟩
  have hcl := cutB_len size L
  have hok := hs.ok
  have hcut := rbcut_ok v L size w hv hok (by omega)
  obtain ⟨LL, hLL⟩ : ∃ LL, cutB size L = LL := ⟨_, rfl⟩
  rw [hLL] at hrow hfit hft hcl hcut ⊢
  have hfl := flatB_le hfit
  have hen : 4 + (entries LL 0).length ≤ 65535 := by
    unfold footR at hft
    rw [List.length_append, List.length_append, numB_len] at hft
    omega
  obtain ⟨A, cp, rfl, hc, hm⟩ := hv.shape
  unfold maxLen at hm
  have HV := Lib.hid hv
  have HOK := Lib.hid hok
  have HROW := Lib.hid hrow
  have HFIT := Lib.hid hfit
  have HFT := Lib.hid hft
  clear hv hok hrow hfit hft hs hLL
  go_enter Try.func15, Try.ntmps15
  go_wp2_with fail
  refine hcut.mono ?_
  rintro e w1 ⟨⟨x, vs, rfl, hox⟩, hb1⟩
  clear hcut
  have HX1 := Lib.hid hox.rd
  have HB1 := Lib.hid hb1
  obtain ⟨Ax, cx, rfl, hcx, hmx⟩ := hox.rd.shape
  unfold maxLen at hmx
  clear hox hb1
  go_wp2_with fail
  refine (rnum_ok LL.length _ (by omega)).mono ?_
  rintro e w2 ⟨q, rfl, hq, hb2⟩
  have HT2 : Hid (Two w1 5 (numB LL.length ++ entries (LL.take 0) 0) (flatB (LL.take 0)) q (.slice none 0 0) w2) := Lib.hid ⟨by simpa [entries] using hq, by simpa [flatB] using Ow.nilB _ _ _, (Apart.nil _).symm, hb2⟩
  clear hq hb2
  go_wp2_with fail
  go_loopw [6, 7, 8, 9] (fun all foot i _ wr => ∃ k : Nat, k ≤ LL.length ∧ i = .int .i64 (k : Int) ∧ Hid (Two w1 5 (numB LL.length ++ entries (LL.take k) 0) (flatB (LL.take k)) foot all wr)) (fun _ _ i _ _ => LL.length - (intOf i).toNat)
  case atStart => exact ⟨0, by omega, rfl, HT2⟩
  case round =>
    clear HT2
    obtain ⟨k, hk, rfl, HT⟩ := hrel
    by_cases hlt : k < LL.length
    · have hfk : LL[k]? = some (LL[k]'hlt) := List.getElem?_eq_getElem _
      generalize LL[k]'hlt = M at hfk
      have hMm := List.mem_of_getElem? hfk
      obtain ⟨hMs, hMn⟩ := HROW.out M hMm
      have HES := Lib.hid (entries_snoc hfk)
      have HFS := Lib.hid (flatB_snoc hfk)
      have hMl : 0 < M.length := List.length_pos_iff.2 hMn
      have hc0 : M[0]? = some (hd M) := hd_at hMn
      have hok := hMs.ok _ (List.mem_of_getElem? hc0)
      have hkl := cellB_le (keyC_ok hok)
      have hpu := fun w => rput_ok (keyC (hd M)) w (keyC_ok hok)
      have hbp := fun (w : World) (v : Value) (hv : RdL w [] v M) => rbput_ok v M w hv hMs.ok (HFIT.out M hMm)
      have hfle := flatB_take_le LL k
      have hele := entries_take_le LL k
      have hele2 := entries_take_le LL (k + 1)
      have hfle2 := flatB_take_le LL (k + 1)
      rw [HES.out] at hele2
      rw [HFS.out] at hfle2
      simp only [List.length_append, numB_len] at hele2 hfle2
      obtain ⟨bx, ox, rfl, hbx⟩ := (HX1.out.bel HT.out.bel).open_ (by omega)
      obtain ⟨hbx1, -⟩ : bx < w1.heap.size ∧ True := by
        obtain ⟨b, o, e, hb⟩ := HX1.out.open_ (by omega)
        simp only [Option.some.injEq, Addr.mk.injEq, and_true] at e
        exact ⟨e.1 ▸ hb, trivial⟩
      obtain ⟨Am, cm, hcm1, hmc, hmm, hrm1⟩ := HX1.out.row hfk
      have hcm := (HT.out.bel.cell (by exact hbx1)).trans hcm1
      have hrm := hrm1.bel HT.out.bel
      unfold maxLen at hmm
      obtain ⟨bm, om, rfl, hbm, -⟩ := hrm.open_ hMl
      obtain ⟨h5, -⟩ := hrm.at_ hc0
      rw [Nat.zero_mul, Nat.add_zero] at h5
      obtain ⟨c0, c1, c2, c3, c4⟩ := h5
      obtain ⟨f, hf⟩ : ∃ f, hd M = f := ⟨_, rfl⟩
      rw [hf] at c0 c1 c2 c3 c4 HES hpu hok hkl hele2
      have HRM := Lib.hid hrm1
      have HXC : Hid (∀ z : World, Below w1.heap.size w1 z → z.cell? ⟨bx, ox + k, none⟩ = some (.slice (some ⟨bm, om, none⟩) M.length cm)) := Lib.hid fun z hz => (hz.cell (by exact hbx1)).trans hcm1
      have HBP := Lib.hid hbp
      have hh3 : (0 : Int) ≤ (k : Int) := by omega
      have hh4 : (k : Int) < (LL.length : Int) := by omega
      have hm0 : (0 : Int) < (M.length : Int) := by omega
      obtain ⟨A6, c6, rfl, hc6, hm6⟩ := HT.out.ob.rd.shapeM
      unfold maxLen at hm6
      clear hfk hMm hMs hMn hc0 hf hrm hrm1 hcm1 hbp hok
      obtain ⟨wo, hwo⟩ : ∃ wo, wo = wr := ⟨_, rfl⟩
      subst hwo
      go_wp2_with (refine allocC rfl rfl ?_)
      constructor
      intro w3 hI3 hb3 hz3
      go_wp2_with (refine storeC (c := f) rfl (.tmp 9) (.tmp 29) rfl rfl rfl hI3 ?_)
      constructor
      intro w4 hs4
      have HI4 := hs4.i
      have HB4 := Lib.hid (hs4.bel hb3 (Nat.le_refl _))
      have HT4 := Lib.hid (HT.out.up HB4.out)
      have g0 := HI4.c0
      have g1 := HI4.c1
      have g2 := HI4.c2
      clear hI3 hb3 hz3 hs4 c0 c1 c2 c3 c4 hcm HI4
      go_wp2_with fail
      refine (hpu _).mono ?_
      rintro e w5 ⟨⟨x5, rfl, hx5⟩, hb5⟩
      have HT5 := HT4.out.up hb5
      have hr5 := hx5.rd
      have hs5 := HT5.bel.size
      clear hx5 hpu g0 g1 g2 hb5
      have z1 : (numB LL.length ++ entries (LL.take k) 0).length + (cellB (keyC f)).length ≤ 140737488355328 := by rw [List.length_append, numB_len]; omega
      go_wp2_with (at_builtin; refine wpList_appB bytesT rfl (.tmp 30) (.tmp 38) rfl rfl HT5.oa rfl hr5 z1 hs5 ?_; intro v6 w6 ho6 hg6 h6; have HT6 := HT5.app ho6 hg6 h6)
      have HXB : Hid (∀ z : World, Below w1.heap.size w1 z → z.cell? ⟨bx, ox + k, none⟩ = some (.slice (some ⟨bm, om, none⟩) M.length cm)) := HXC
      have HT6' := Lib.hid HT6
      clear HT5 HT6 ho6 hg6 h6 hr5 hs5 z1
      refine (rnum_ok (flatB (LL.take k)).length _ (by omega)).mono ?_
      rintro e w7 ⟨q7, rfl, hq7, hb7⟩
      have HT7 := HT6'.out.up hb7
      have hr7 := hq7.rd
      have hs7 := HT7.bel.size
      have z7 : (numB LL.length ++ entries (LL.take k) 0 ++ cellB (keyC f)).length + (numB (flatB (LL.take k)).length).length ≤ 140737488355328 := by simp only [List.length_append, numB_len]; omega
      clear hq7 hb7 HT6'
      go_wp2_with (at_builtin; refine wpList_appB bytesT rfl (.tmp 40) (.tmp 43) rfl rfl HT7.oa rfl hr7 z7 hs7 ?_; intro v8 w8 ho8 hg8 h8; have HT8 := Lib.hid (HT7.app ho8 hg8 h8); have hc8 := HXB.out _ HT8.out.bel; clear ho8 hg8 h8 hr7 hs7 z7)
      refine (HBP.out _ _ (HRM.out.bel HT8.out.bel)).mono ?_
      rintro e w9 ⟨⟨x9, rfl, hx9⟩, hb9⟩
      have HT9 := (HT8.out.up hb9).rot
      have hr9 := hx9.rd
      have hs9 := HT9.bel.size
      have z9 : (flatB (LL.take k)).length + (blkB M).length ≤ 140737488355328 := by omega
      clear hx9 hb9 HT8 hc8
      go_wp2_with (at_builtin; refine wpList_appB bytesT rfl (.tmp 45) (.tmp 50) rfl rfl HT9.oa rfl hr9 z9 hs9 ?_; intro va wa hoa hga hha; have HTA := Lib.hid (HT9.app hoa hga hha).rot; clear hoa hga hha hr9 hs9 z9)
      rw [← HFS.out, List.append_assoc, List.append_assoc, ← List.append_assoc (entries (LL.take k) 0), ← HES.out] at HTA
      go_roundw
      case rel => exact ⟨k + 1, by omega, by go_num, HTA⟩
      case measure => simp [intOf]; omega
    · obtain rfl : k = LL.length := by omega
      have HV3 := HV.out.bel (bwstep HB1.out HT.out.bel)
      have HT3 : Hid (Two w1 5 (numB LL.length ++ entries LL 0) (flatB LL) u7 u6 wr) := by
        have := HT
        rwa [List.take_length] at this
      clear HT
      obtain ⟨wo, hwo⟩ : ∃ wo, wo = wr := ⟨_, rfl⟩
      subst hwo
      obtain ⟨p6, hp6⟩ : ∃ p6, p6 = u6 := ⟨_, rfl⟩
      subst hp6
      obtain ⟨p7, hp7⟩ : ∃ p7, p7 = u7 := ⟨_, rfl⟩
      subst hp7
      obtain ⟨p9, hp9⟩ : ∃ p9, p9 = u9 := ⟨_, rfl⟩
      subst hp9
      have HV4 := Lib.hid HV3
      clear HV3
      go_wp2_with fail
      go_loopw [10, 11] (fun v i wr => ∃ k : Nat, k ≤ L.length ∧ i = .int .i64 (k : Int) ∧ Ow wr wo.heap.size 9 v ((keysS (L.take k)).map sv) ∧ Below wo.heap.size wo wr) (fun _ i _ => L.length - (intOf i).toNat)
      case atStart => exact ⟨0, Nat.zero_le _, rfl, by simpa [keysS] using Ow.nil _ _ _, Below.refl _ _⟩
      case round =>
        obtain ⟨k, hk, rfl, ho, hb⟩ := hrel
        by_cases hlt : k < L.length
        · obtain ⟨b, off, rfl, -⟩ := HV4.out.open_ (by omega)
          have hh3 : (0 : Int) ≤ (k : Int) := by omega
          have hh4 : (k : Int) < (L.length : Int) := by omega
          have hfk : L[k]? = some (L[k]'hlt) := List.getElem?_eq_getElem _
          generalize L[k]'hlt = f at hfk
          obtain ⟨h5, hbl⟩ := (HV4.out.bel hb).at_ hfk
          have HKS := Lib.hid (keysS_snoc hfk)
          have hokf := HOK.out f (List.mem_of_getElem? hfk)
          have htk := fun w => tkey_any f.row f.col w (by have := hokf.r2; omega) (by have := hokf.c2; omega)
          have hsz2 : (keysS (L.take k)).length ≤ 1000 := by simp [keysS]; omega
          have HO := Lib.hid ho
          have HBW := Lib.hid hb
          have HBS := hb.size
          have HT : Hid (wr.drew.cell? ⟨b, off + k * 5, none⟩ = some (.string f.row) ∧ wr.drew.cell? ⟨b, off + k * 5 + 1, none⟩ = some (.string f.col) ∧ Below wo.heap.size wo wr.drew) := Lib.hid ⟨h5.1, h5.2.1, hb.drew⟩
          have hrow : ∀ y : World, Below wo.heap.size wo y → y.cell? ⟨b, off + k * 5, none⟩ = some (.string f.row) ∧ y.cell? ⟨b, off + k * 5 + 1, none⟩ = some (.string f.col) ∧ Below wo.heap.size wo y := fun y hy => ⟨((HV4.out.bel hy).at_ hfk).1.1, ((HV4.out.bel hy).at_ hfk).1.2.1, hy⟩
          have HU : Hid (∀ x y : World, (x.cell? ⟨b, off + k * 5, none⟩ = some (.string f.row) ∧ x.cell? ⟨b, off + k * 5 + 1, none⟩ = some (.string f.col) ∧ Below wo.heap.size wo x) → Below x.heap.size x y → (y.cell? ⟨b, off + k * 5, none⟩ = some (.string f.row) ∧ y.cell? ⟨b, off + k * 5 + 1, none⟩ = some (.string f.col) ∧ Below wo.heap.size wo y)) := Lib.hid fun x y hS hb => hrow y (bwstep hS.2.2 hb)
          have HU2 : Hid (∀ x y : World, (x.cell? ⟨b, off + k * 5, none⟩ = some (.string f.row) ∧ x.cell? ⟨b, off + k * 5 + 1, none⟩ = some (.string f.col) ∧ Below wo.heap.size wo x) → Below wo.heap.size x y → (y.cell? ⟨b, off + k * 5, none⟩ = some (.string f.row) ∧ y.cell? ⟨b, off + k * 5 + 1, none⟩ = some (.string f.col) ∧ Below wo.heap.size wo y)) := Lib.hid fun x y hS hb => hrow y (hS.2.2.trans hb)
          obtain ⟨c0, c1, -, -, -⟩ := h5
          have HG : ∀ (x : World), Below wr.heap.size wr x → wo.heap.size ≤ x.heap.size := fun x hx => Nat.le_trans HBS hx.size
          clear hfk hokf ho hb hrow
          obtain ⟨wi, hwi⟩ : ∃ wi, wi = wr := ⟨_, rfl⟩
          subst hwi
          go_wp2_with fail
          go_region_held3 (fun w' => w'.cell? ⟨b, off + k * 5, none⟩ = some (.string f.row) ∧ w'.cell? ⟨b, off + k * 5 + 1, none⟩ = some (.string f.col) ∧ Below wo.heap.size wo w') (first | exact HT.out | assumption | exact HU.out _ _ (by assumption) (by assumption) | exact HU.out _ _ (by assumption) (bwalloc (Below.refl _ _) _) | exact HU2.out _ _ (by assumption) (by assumption))
            (first
              | (refine step_appE textT rfl rfl (.tmp 58) (.tmp 70) rfl (by simp [Act.eval]) (HO.out.below (bwalloc HWA _)) (by simp [Act.eval]) (Rd.newW (xs := [keyS f.row f.col].map sv) _ _ _ rfl (by simp [maxLen]) rfl) (one_sv _) (by simp [maxLen]; omega) (by simp; omega) (HG _ (bwalloc HWA _)) ?_; intro v3 w3 o3 g3 h3; have O3 : Hid (Ow w3 wo.heap.size 9 v3 ((keysS (L.take k)).map sv ++ [keyS f.row f.col].map sv)) := Lib.hid o3; have hg3 := bwgrown g3 HO.out.ge (HG _ (bwalloc HWA _)); clear o3 h3)
              | (go_at_call 24; refine (htk _).mono ?_; rintro e wa ⟨rfl, hba⟩; have HWA := bwstep (Below.refl _ _).drew hba))
          all_goals
            have HB3 : Hid (w3.cell? ⟨b, off + k * 5, none⟩ = some (.string f.row) ∧ w3.cell? ⟨b, off + k * 5 + 1, none⟩ = some (.string f.col) ∧ Below wo.heap.size wo w3) := Lib.hid (by assumption)
            rw [← List.map_append, ← HKS.out] at O3
            go_wp2_with fail
            go_roundw
            case rel => exact ⟨k + 1, by omega, by go_num, O3.out, HB3.out.2.2⟩
            case measure => simp [intOf]; omega
        · obtain rfl : k = L.length := by omega
          rw [List.take_length] at ho
          have HKR := Lib.hid ho.rd
          have HT4 := HT3.out.up hb
          have hks : ∀ s ∈ keysS L, s.size ≤ 140737488351232 := by
            intro s hs
            obtain ⟨c, hc, rfl⟩ := List.mem_map.1 hs
            have hk := HOK.out c hc
            have h1 := hk.r2
            have h2 := hk.c2
            show (⟨(keyT c.row c.col).toArray⟩ : ByteArray).size ≤ _
            rw [ba_size]
            unfold keyT
            rw [List.length_append, textB_len, textB_len]
            omega
          have hkl : (keysS L).length = L.length := by simp [keysS]
          have hmk := Blm.rmake_any _ (keysS L) wr HKR.out (by omega) hks
          rw [keysS_kl] at hmk
          have hfl2 := filt_len L
          have HFD : Hid (Blm.mkB (L.map keyOf) = filt L) := Lib.hid rfl
          rw [HFD.out] at hmk
          have HFR : Hid (numB LL.length ++ entries LL 0 ++ textB ⟨(filt L).toArray⟩ = footR L LL) := Lib.hid (by unfold footR; rw [List.append_assoc])
          have HTB : Hid (flatB LL ++ frm (footR L LL) ++ numB (12 + (footR L LL).length) = tabB L LL) := Lib.hid (by unfold tabB; rw [List.append_assoc])
          generalize filt L = fl at hmk hfl2 HFR
          have hba : (⟨fl.toArray⟩ : ByteArray).size = fl.length := ba_size fl
          clear HFD HKR hks hkl ho HT3 HV4
          have HT4' := Lib.hid HT4
          clear HT4 hb
          obtain ⟨wi, hwi⟩ : ∃ wi, wi = wr := ⟨_, rfl⟩
          subst hwi
          go_wp2_with fail
          refine hmk.mono ?_
          rintro e wa ⟨⟨xa, rfl, hxa⟩, hba2⟩
          have HTA := HT4'.out.up hba2
          have hcv := run_str (P := Try.prog) (w := wa) Try.underlying26 Try.underlying5 Try.underlying9 hxa.rd
          generalize (⟨fl.toArray⟩ : ByteArray) = sf at hcv HFR hba
          clear hxa hmk hba2 HT4'
          go_wp2_with fail
          clear hcv
          refine (rtext_ok sf _ (by omega)).mono ?_
          rintro e wb ⟨xb, rfl, hxb, hbb⟩
          have HTB2 := HTA.up hbb
          have hrb := hxb.rd
          have hsb := HTB2.bel.size
          have zb : (numB LL.length ++ entries LL 0).length + (textB sf).length ≤ 140737488355328 := by rw [List.length_append, numB_len, textB_len]; omega
          clear hxb hbb HTA
          go_wp2_with (at_builtin; refine wpList_appB bytesT rfl (.tmp 72) (.tmp 76) rfl rfl HTB2.oa rfl hrb zb hsb ?_; intro vc wc hoc hgc hhc; have HTC := HTB2.app hoc hgc hhc; clear hoc hgc hhc hrb hsb zb)
          rw [HFR.out] at HTC
          refine (rfput_ok _ (footR L LL) _ HTC.oa.rd HFT.out).mono ?_
          rintro e wd ⟨⟨xd, rfl, hxd⟩, hbd⟩
          have HTD := (HTC.up hbd).rot
          have hrd := hxd.rd
          have hfr : (frm (footR L LL)).length = 12 + (footR L LL).length := frm_len _
          obtain ⟨Ad, cd, hxv, hcd, hmd⟩ := hrd.shapeM
          rw [hfr] at hxv hcd
          subst hxv
          unfold maxLen at hmd
          have hsd := HTD.bel.size
          have hft2 := HFT.out
          have zd : (flatB LL).length + (frm (footR L LL)).length ≤ 140737488355328 := by omega
          clear hxd hbd HTC HTB2
          generalize hfn : (footR L LL).length = fn at hfr hcd hft2 HTB hrd ⊢
          clear hfn
          go_wp2_with (at_builtin; refine wpList_appB bytesT rfl (.tmp 79) (.tmp 80) rfl rfl HTD.oa rfl hrd zd hsd ?_; intro ve we hoe hge hhe; have HTE := HTD.app hoe hge hhe; clear hoe hge hhe hrd hsd zd)
          refine (rnum_ok (12 + fn) _ (by omega)).mono ?_
          rintro e wf ⟨xf, rfl, hxf, hbf⟩
          have HTF := HTE.up hbf
          have hrf := hxf.rd
          have hsf := HTF.bel.size
          have zf : (flatB LL ++ frm (footR L LL)).length + (numB (12 + fn)).length ≤ 140737488355328 := by rw [List.length_append, numB_len]; omega
          clear hxf hbf HTE
          go_wp2_with (at_builtin; refine wpList_appB bytesT rfl (.tmp 81) (.tmp 84) rfl rfl HTF.oa rfl hrf zf hsf ?_; intro vg wg hog hgg hhg; have HTG := Lib.hid (HTF.app hog hgg hhg); clear hog hgg hhg hrf hsf zf)
          go_ret
          have ho := HTG.out.oa
          rw [HTB.out] at ho
          exact ⟨⟨_, rfl, ho.mono HB1.out.size⟩, bwstep HB1.out HTG.out.bel⟩
end Go.Proofs.Ytdemdmingelamaa.Ce
