/- The contract of the reference's Make of layer 11. -/
import Derived.Test.YtglagpaamoigmaaBlmR
import Derived.Deep.Cut
import Derived.Deep.CutRange
import Derived.Deep.DeepCutAuto
namespace Go.Proofs.Ytglagpaamoigmaa.Blm
open Go.RowKit Crc

/-- a bool as a cell -/
def tv (b : Bool) : Value := .bool b
theorem boolsT : ET Try.prog 39 4 (.bool false) 1 := ⟨Try.underlying39, by kernel_rfl⟩
theorem wpList_makeT {P : Program} {ops : Array Oper} {rest : List Oper} {o : Oper} {a : Act} {w : World} {e t : Nat} {Q : Exit → Act → World → Prop} (T : ET P t e (.bool false) 1) (hgd : o.guard = none) (l c : Operand)
    (ho : o.op = .makeSlice t l c) (n : Nat) {kl kc : IntKind} (hl : a.eval l = .int kl (n : Int)) (hc : a.eval c = .int kc (n : Int)) (hn : n ≤ 140737488355328)
    (h : ∀ w', Ow w' w.heap.size e (.slice (some ⟨w.heap.size, 0, none⟩) n n) ((List.replicate n false).map tv) → Below w.heap.size w w' → wpList P ops Q rest (a.put o.dst (.slice (some ⟨w.heap.size, 0, none⟩) n n)) w') :
    wpList P ops Q (o :: rest) a w := by
  obtain ⟨i, hi, hi0, hi1, hi2⟩ := info_parts T.info
  refine wpList_make_full w hgd l c t ho w.heap.size e i (.bool false) 1 T.ht hi hi0 hi1 kl kc _ _ n hl hc rfl rfl (by rw [hi2]; omega) (by simp [maxLen]; omega) (Nat.le_refl _) ?_
  intro w' hown hgr
  refine h w' ?_ ((Below.refl _ _).grown hgr (Nat.le_refl _) (by simp))
  have e1 : (madeCells (Value.bool false).cells (n * 1)).toList = (List.replicate n false).map tv := by
    show (madeCells #[.bool false] (n * 1)).toList = _
    rw [madeCells_one, List.map_replicate]
    rfl
  unfold Ow
  rw [e1] at hown
  simpa using hown

/-- what is set behind k keys and j bits of the next -/
def SetS (l : List ByteArray) (n k j : Nat) (S : List Bool) : Prop :=
  S.length = 8 * n ∧ ∀ i, i < 8 * n → S.getD i false = (setIn ((kl l).take k) (8 * n) i || ((bitsL ((kl l).getD k []) (8 * n)).take j).contains i)
theorem SetS.zero (l : List ByteArray) (n : Nat) : SetS l n 0 0 (List.replicate (8 * n) false) := by
  refine ⟨by simp, fun i hi => ?_⟩
  rw [List.getD_eq_getElem?_getD, List.getElem?_replicate, if_pos hi]
  simp [setIn]
theorem SetS.next {l : List ByteArray} {n k : Nat} {S : List Bool} (h : SetS l n k 3 S) (hk : k < l.length) : SetS l n (k + 1) 0 S := by
  refine ⟨h.1, fun i hi => ?_⟩
  rw [h.2 i hi, setIn_snoc (kl_at l k hk), List.take_zero, List.contains_nil, List.getD_eq_getElem?_getD, kl_at l k hk, Option.getD_some, List.take_of_length_le (show (bitsL l[k].data.toList (8 * n)).length ≤ 3 from Nat.le_refl _), Bool.or_false]
theorem SetS.step {l : List ByteArray} {n k j q : Nat} {S : List Bool} (h : SetS l n k j S) (hk : k < l.length) (hj : j < 3) (hn : 0 < n) (hq : kw l[k].data.toList j = q) : SetS l n k (j + 1) (S.set (q % (8 * n)) true) := by
  have hlt : q % (8 * n) < S.length := by rw [h.1]; exact Nat.mod_lt _ (by omega)
  refine ⟨by rw [List.length_set]; exact h.1, fun i hi => ?_⟩
  have e := h.2 i hi
  rw [List.getD_eq_getElem?_getD] at e ⊢
  rw [List.getD_eq_getElem?_getD, kl_at l k hk, Option.getD_some] at e ⊢
  rw [bits_take _ _ hj, hq, List.contains_append, ← Bool.or_assoc, ← e]
  by_cases hi2 : q % (8 * n) = i
  · subst hi2
    rw [List.getElem?_set_self hlt]
    simp
  · rw [List.getElem?_set_ne hi2]
    have hne : [q % (8 * n)].contains i = false := by simp; omega
    rw [hne, Bool.or_false]
theorem SetS.all {l : List ByteArray} {n : Nat} {S : List Bool} (hn : n = size (kl l)) (h : SetS l n l.length 0 S) : filterS (fun i => S.getD i false) n = mkB (kl l) := by
  subst hn
  refine mkB_of (filterS_len _ _) fun i hi => ?_
  rw [filterS_bit _ hi, h.2 i hi, List.take_of_length_le (by rw [kl_len]; exact Nat.le_refl _)]
  simp

theorem rdS_of {w : World} {B e n : Nat} {A : Option Addr} {S : List Bool} (ho : Ow w B e (.slice A (8 * n) (8 * n)) (S.map tv)) (hl : S.length = 8 * n) (hn : 0 < n) :
    ∃ g, A = some ⟨g, 0, none⟩ ∧ B ≤ g ∧ g < w.heap.size ∧ ∀ i, i < 8 * n → w.cell? ⟨g, i, none⟩ = some (.bool (S.getD i false)) := by
  obtain ⟨g, hA, hgB, hgs, -, -, -⟩ := ho.at_ (k := 0) (by rw [List.length_map]; omega)
  refine ⟨g, hA, hgB, hgs, fun i hi => ?_⟩
  obtain ⟨g', hA', -, -, hc, -, -⟩ := ho.at_ (k := i) (by rw [List.length_map]; omega)
  rw [hA] at hA'
  have : g = g' := by injection hA' with h; injection h
  subst this
  rw [hc, List.getElem_map, List.getD_eq_getElem?_getD, List.getElem?_eq_getElem (by omega)]
  rfl
set_option maxHeartbeats 2000000 in
set_option maxRecDepth 100000 in
theorem rmake_any (x : Value) (l : List ByteArray) (w : World) (hx : Rd w w.heap.size x (l.map sv)) (hl : l.length ≤ 1000000000000) (hs : ∀ s ∈ l, s.size ≤ 140737488351232) :
    Calls Try.prog 11 #[x] w fun e w' => (∃ v, e = .returned v ∧ Ow w' w.heap.size 5 v ((mkB (kl l)).map bv)) ∧ Below w.heap.size w w' := by
  obtain ⟨A, c, rfl, hc, hm⟩ := hx.shapeM
  have HS := Lib.hid hs
  clear hs
  obtain ⟨n, hn⟩ : ∃ n, n = size (kl l) := ⟨_, rfl⟩
  have HM : Hid (∀ S, SetS l n l.length 0 S → filterS (fun i => S.getD i false) n = mkB (kl l)) := Lib.hid fun S => SetS.all hn
  have hnn : (l.length = 0 ∧ n = 1) ∨ (l.length ≠ 0 ∧ n = l.length) := by
    rw [hn]
    unfold size
    rw [kl_len]
    split <;> omega
  have hn1 : 0 < n := by omega
  have hn2 : n ≤ 1000000000001 := by omega
  have HNN := Lib.hid hnn
  clear hn hnn
  go_enter Try.func11, Try.ntmps11
  go_upto_if 15 with fail
  go_cut [3] (fun v wx => v = .int .i64 (n : Int) ∧ wx = w)
  case first =>
    rcases HNN.out with ⟨h0, h1⟩ | ⟨h0, h1⟩
    · have hz : ((l.length : Int) == 0) = true := by rw [h0]; rfl
      have H1 : Hid ((1 : Int) = n) := Lib.hid (by omega)
      clear h0 h1
      go_wp2_with fail
      go_meet
      case rel => exact ⟨vi H1.out, rfl⟩
    · have hz : ((l.length : Int) == 0) = false := by rw [beq_eq_false_iff_ne]; omega
      have H1 : Hid ((l.length : Int) = n) := Lib.hid (by omega)
      clear h0 h1
      go_wp2_with fail
      go_meet
      case rel => exact ⟨vi H1.out, rfl⟩
  case rest =>
    obtain ⟨rfl, hwx⟩ := hcut
    subst wc
    have e8 : ((8 * n : Nat) : Int) = 8 * (n : Int) := by omega
    have E8 := Lib.hid e8.symm
    clear e8
    go_wp2_with (refine wpList_makeT boolsT rfl (.tmp 17) (.tmp 17) rfl (8 * n) (vi E8.out) (vi E8.out) (by omega) ?_; intro w1 ho hb)
    go_loopw [5, 6, 7] (fun i _ _ wr => ∃ (k : Nat) (S : List Bool), k ≤ l.length ∧ i = .int .i64 k ∧ SetS l n k 0 S ∧ Ow wr w.heap.size 4 (.slice (some ⟨w.heap.size, 0, none⟩) (8 * n) (8 * n)) (S.map tv) ∧ Below w.heap.size w wr) (fun i _ _ _ => l.length - (intOf i).toNat)
    case atStart => exact ⟨0, _, by omega, rfl, SetS.zero l n, ho, hb⟩
    case round =>
      clear ho hb
      obtain ⟨k, S, hk, rfl, hset, ho, hb⟩ := hrel
      by_cases hlt : k < l.length
      · obtain ⟨b, off, rfl, hbb, hcell⟩ := (hx.up hb).cellM (by omega)
        have hck := hcell k hlt
        simp only [sv] at hck
        clear hcell
        have hsz := HS.out _ (List.getElem_mem hlt)
        have HQ : Hid (∀ j, ∀ g, SetS l n k j g → j < 3 → SetS l n k (j + 1) (g.set (kw l[k].data.toList j % (8 * n)) true)) := Lib.hid fun j g hg hj => hg.step hlt hj hn1 rfl
        have HK : Hid (∀ g, SetS l n k 3 g → SetS l n (k + 1) 0 g) := Lib.hid fun g hg => hg.next hlt
        generalize l[k] = s at hck hsz HQ
        have hbs := rbits_any s (8 * n) wr hsz (by omega) (by omega)
        rw [← E8.out] at hbs
        have HSET := Lib.hid hset
        have HO := Lib.hid ho
        have HB := Lib.hid hb
        clear hset ho hb
        go_wp2_with fail
        refine hbs.mono ?_
        rintro e w2 ⟨⟨v, rfl, hov⟩, hb2⟩
        clear hbs
        have HBS : Hid (w.heap.size < wr.heap.size) := Lib.hid (HO.out.lt w.heap.size rfl).2
        have HO2 := Lib.hid (HO.out.below hb2)
        have HB2 := Lib.hid (bwstep HB.out hb2)
        clear HO HB hck
        obtain ⟨A', c', hv, hc', hm'⟩ := hov.rd.shapeM
        rw [bitsL_len] at hv hc'
        have hvl := hov.lt
        have hrd := hov.rd
        rw [hv] at hrd hvl
        subst hv
        obtain ⟨b', off', hA', -, hcl'⟩ := hrd.cellM (by rw [bitsL_len]; omega)
        subst hA'
        have hBb : w.heap.size < b' := by
          have h1 := (hvl b' rfl).1
          have h3 := HBS.out
          omega
        have HD : Hid (∀ j, j < 3 → w2.cell? ⟨b', off' + j, none⟩ = some (.int .i64 ((kw s.data.toList j % (8 * n) : Nat) : Int))) := Lib.hid fun j hj => by
          rw [hcl' j hj]
          exact congrArg (fun n : Nat => some (nvB n)) (bitsL_at _ _ hj)
        clear hcl' hrd hov hvl
        unfold maxLen at hm'
        obtain ⟨wo, hwo⟩ : ∃ wo, wo = wr := ⟨_, rfl⟩
        subst hwo
        obtain ⟨p6, hp6⟩ : ∃ p6, p6 = u6 := ⟨_, rfl⟩
        subst hp6
        obtain ⟨p7, hp7⟩ : ∃ p7, p7 = u7 := ⟨_, rfl⟩
        subst hp7
        go_wp2_with fail
        go_loopw [7] (fun i wr => ∃ (j : Nat) (g : List Bool), j ≤ 3 ∧ i = .int .i64 j ∧ SetS l n k j g ∧ Ow wr w.heap.size 4 (.slice (some ⟨w.heap.size, 0, none⟩) (8 * n) (8 * n)) (g.map tv) ∧ Below w.heap.size w wr ∧ Hid (∀ j, j < 3 → wr.cell? ⟨b', off' + j, none⟩ = some (.int .i64 ((kw s.data.toList j % (8 * n) : Nat) : Int)))) (fun i _ => 3 - (intOf i).toNat)
        case atStart => exact ⟨0, S, by omega, rfl, HSET.out, HO2.out, HB2.out, HD⟩
        case round =>
          clear HSET HO2 HB2 HD
          obtain ⟨j, g, hj, rfl, hset, ho, hb, HD⟩ := hrel
          by_cases hlt3 : j < 3
          · have hd := HD.out j hlt3
            have HG := Lib.hid (HQ.out j g hset hlt3)
            have hgl := hset.1
            have hlt8 : kw s.data.toList j % (8 * n) < 8 * n := Nat.mod_lt _ (by omega)
            generalize kw s.data.toList j % (8 * n) = r at hd hlt8 HG
            have hr8 : (r : Int) < 8 * (n : Int) := by omega
            obtain ⟨gb, hgb, hgB, hgs, hgc, hgf, hst⟩ := ho.at_ (k := r) (by rw [List.length_map]; omega)
            have hgb' : w.heap.size = gb := by injection hgb with hgb; injection hgb
            subst hgb'
            have hgc' : ∃ u, wr.cell? ⟨w.heap.size, r, none⟩ = some u := ⟨_, hgc⟩
            obtain ⟨u, hgc'⟩ := hgc'
            have HO : Hid (Ow (wr.setCell ⟨w.heap.size, r, none⟩ (.bool true)) w.heap.size 4 (.slice (some ⟨w.heap.size, 0, none⟩) (8 * n) (8 * n)) ((g.set r true).map tv)) := Lib.hid (by rw [List.map_set]; exact hst (tv true))
            have HB := Lib.hid (hb.setCell (p := ⟨w.heap.size, r, none⟩) (Nat.le_refl _) (.bool true))
            have HD2 : Hid (∀ j, j < 3 → (wr.setCell ⟨w.heap.size, r, none⟩ (.bool true)).cell? ⟨b', off' + j, none⟩ = some (.int .i64 ((kw s.data.toList j % (8 * n) : Nat) : Int))) := Lib.hid fun j hj => (World.cell?_setCell_other _ _ _ _ (fun e => by simp only [Addr.mk.injEq] at e; omega)).trans (HD.out j hj)
            clear hst hgb hgc hset ho hb HD hgl
            go_wp2_with fail
            go_roundw
            case rel => exact ⟨j + 1, _, by omega, by go_num, HG.out, HO.out, HB.out, HD2⟩
            case measure => simp [intOf]; omega
          · obtain rfl : j = 3 := by omega
            have HSET := Lib.hid (HK.out g hset)
            have HO := Lib.hid ho
            have HB := Lib.hid hb
            clear hset ho hb HD
            go_wp2_with fail
            go_roundw
            case rel => exact ⟨k + 1, g, by omega, by go_num, HSET.out, HO.out, HB.out⟩
            case measure => simp [intOf]; omega
      · obtain rfl : k = l.length := by omega
        have HF := Lib.hid (HM.out _ hset)
        obtain ⟨g0, hg0, -, hgs, hgc⟩ := rdS_of ho hset.1 hn1
        have hg0' : w.heap.size = g0 := by injection hg0 with hg0; injection hg0
        subst hg0'
        have HC := Lib.hid hgc
        clear hset hg0 hgc
        obtain ⟨Sf, hSf⟩ : ∃ Sf : Nat → Bool, Sf = fun i => S.getD i false := ⟨_, rfl⟩
        rw [← hSf] at HF
        have HC2 : Hid (∀ i, i < 8 * n → wr.cell? ⟨w.heap.size, i, none⟩ = some (.bool (Sf i))) := Lib.hid fun i hi => by rw [HC.out i hi, hSf]
        clear hSf HC
        have HB := Lib.hid hb
        clear hb ho
        obtain ⟨wo, hwo⟩ : ∃ wo, wo = wr := ⟨_, rfl⟩
        subst hwo
        obtain ⟨p6, hp6⟩ : ∃ p6, p6 = u6 := ⟨_, rfl⟩
        subst hp6
        obtain ⟨p7, hp7⟩ : ∃ p7, p7 = u7 := ⟨_, rfl⟩
        subst hp7
        go_wp2_with fail
        go_loopw [8, 9, 10, 11] (fun v i _ _ wr => ∃ m : Nat, m ≤ n ∧ i = .int .i64 m ∧ Ow wr wo.heap.size 5 v (((List.range m).map (byteS Sf)).map bv) ∧ Below wo.heap.size wo wr) (fun _ i _ _ _ => n - (intOf i).toNat)
        case atStart => exact ⟨0, Nat.zero_le _, rfl, Ow.nil _ _ _, Below.refl _ _⟩
        case round =>
          obtain ⟨m, hm1, rfl, ho, hb⟩ := hrel
          by_cases hmn : m < n
          · have HD : Hid (∀ i, i < 8 * n → wr.cell? ⟨w.heap.size, i, none⟩ = some (.bool (Sf i))) := Lib.hid fun i hi => (hb.cell (by exact hgs)).trans (HC2.out i hi)
            have HR : Hid ((List.range (m + 1)).map (byteS Sf) = (List.range m).map (byteS Sf) ++ [byteS Sf m]) := Lib.hid (by rw [List.range_succ, List.map_append]; rfl)
            have HO := Lib.hid ho
            have HB2 := Lib.hid hb
            clear ho hb
            obtain ⟨wi, hwi⟩ : ∃ wi, wi = wr := ⟨_, rfl⟩
            subst hwi
            obtain ⟨p8, hp8⟩ : ∃ p8, p8 = u8 := ⟨_, rfl⟩
            subst hp8
            obtain ⟨p10, hp10⟩ : ∃ p10, p10 = u10 := ⟨_, rfl⟩
            subst hp10
            obtain ⟨p11, hp11⟩ : ∃ p11, p11 = u11 := ⟨_, rfl⟩
            subst hp11
            go_wp2_with fail
            go_loop [10, 11] (fun x i => ∃ d : Nat, d ≤ 8 ∧ i = .int .i64 (7 - (d : Int)) ∧ x = .int .i64 (hor Sf m d : Int)) (fun _ i => (intOf i + 1).toNat)
            case atStart => exact ⟨0, by omega, rfl, rfl⟩
            case round =>
              obtain ⟨d, hd, rfl, rfl⟩ := hrel
              have hlt := hor_lt Sf m d
              have h256 : 2 ^ d ≤ 256 := show 2 ^ d ≤ 2 ^ 8 from Nat.pow_le_pow_right (by decide) hd
              have hh : hor Sf m d < 256 := Nat.lt_of_lt_of_le hlt h256
              clear hlt h256
              by_cases hd8 : d < 8
              · obtain ⟨q, hq⟩ : ∃ q, 7 - d = q := ⟨_, rfl⟩
                have hqi : (7 : Int) - (d : Int) = (q : Int) := by omega
                have hc8 := HD.out (8 * m + q) (by omega)
                have HH : Hid (hor Sf m (d + 1) = 2 * hor Sf m d + (if Sf (8 * m + q) then 1 else 0)) := Lib.hid (by rw [hor, hq])
                have hlen : 8 * (m : Int) + (q : Int) < 8 * (n : Int) := by omega
                have HQ : Hid (q = 7 - d) := Lib.hid hq.symm
                rw [hqi]
                clear hqi hq
                generalize Sf (8 * m + q) = bb at hc8 HH
                generalize hor Sf m d = y at HH hh ⊢
                cases bb
                · go_wp2_with fail
                  go_round
                  case rel =>
                    have h1 := HQ.out
                    have h2 := HH.out
                    exact ⟨d + 1, by omega, vi (by omega), vi (by rw [h2]; simp)⟩
                  case measure => simp [intOf]
                · go_wp2_with fail
                  go_round
                  case rel =>
                    have h1 := HQ.out
                    have h2 := HH.out
                    exact ⟨d + 1, by omega, vi (by omega), vi (by rw [h2]; simp)⟩
                  case measure => simp [intOf]
              · obtain rfl : d = 8 := by omega
                have HV : Hid (Value.int .u8 (hor Sf m 8 : Int) = bv (byteS Sf m)) := Lib.hid (by
                  unfold bv byteS
                  rw [UInt8.toNat_ofNat', Nat.mod_eq_of_lt hh])
                generalize byteS Sf m = y8 at HV HR
                generalize hor Sf m 8 = y at HV hh ⊢
                have hbe : ∀ o, Below wi.heap.size wi (wi.alloc o) := fun o => bwalloc (Below.refl _ _) o
                have hwB := HB2.out.size
                go_wp2_with (at_builtin; refine wpList_appB bytesT rfl (.tmp 64) (.tmp 67) rfl rfl (HO.out.below (hbe _)) rfl (Rd.newW (xs := [y8].map bv) _ _ _ rfl (by simp [maxLen]) (congrArg (fun u => [u]) HV.out)) (by simp; omega) (Nat.le_trans hwB (hbe _).size) ?_; intro v2 w2 ho2 hg2 _; have hb2 := (HB2.out.trans ((hbe _).mono hwB)).grown hg2 (Nat.le_trans hwB (hbe _).size) HO.out.ge)
                go_roundw
                case rel => exact ⟨m + 1, by omega, by go_num, by rw [HR.out]; exact ho2, hb2⟩
                case measure => simp [intOf]; omega
          · obtain rfl : m = n := by omega
            have HO := Lib.hid ho
            have HB2 := Lib.hid hb
            clear ho hb
            go_wp2_with fail
            go_ret
            rw [← HF.out]
            exact ⟨⟨_, rfl, HO.out.mono HB.out.size⟩, bwstep HB.out HB2.out⟩
end Go.Proofs.Ytglagpaamoigmaa.Blm
