/- The contracts of besideOne and rightHalf. The contract of swap: two rows change places. The contract of settle: a column is turned to that of One. The contract of Invert. -/
import Derived.Test.YtfnenehiapibiaaMatMk
import Derived.BigRegion
import Derived.Test.YtfnenehiapibiaaMatRd
namespace Go.Proofs.Ytfnenehiapibiaa
open Go.RowKit
open Mx (rw rw_len rw_get rw_congr dl bes rgt)

/-- besideOne behind k rounds -/
def bst (n : Nat) (a : Mx.M) (k : Nat) : Mx.M := fun i j => if i < k then bes n a i j else 0
theorem bst_step {w' : World} {B m c n k : Nat} {A : Option Addr} {vs : Nat → Value} {a : Mx.M} {f : Mx.M} (h : OwM w' B (.slice A m c) vs n (fun i => rw (2 * n) (f i)))
    (hf : ∀ i, i < n → ∀ j, j < 2 * n → f i j = bst n a (k + 1) i j) : OwM w' B (.slice A m c) vs n (fun i => rw (2 * n) (bst n a (k + 1) i)) :=
  h.congr fun i hi => rw_congr fun j hj => hf i hi j hj
/-- row k with a's row copied -/
def bcp (n : Nat) (a : Mx.M) (k : Nat) : Mx.M := fun i j => if i = k then (if j < n then a k j else 0) else bst n a k i j
theorem bcp_app (n : Nat) (f : Nat → UInt8) : rw n f ++ (rw (2 * n) fun _ => 0).drop (rw n f).length = rw (2 * n) (fun j => if j < n then f j else 0) := by
  rw [rw_len, show 2 * n = n + n by omega, Mx.rw_drop, Mx.rw_app]
theorem bst_row (n : Nat) (a : Mx.M) (k : Nat) : rw (2 * n) (bst n a k k) = rw (2 * n) (fun _ => 0) := rw_congr fun j _ => by unfold bst; rw [if_neg (by omega)]
theorem bcp_step (n : Nat) (a : Mx.M) (k i j : Nat) : upd (bcp n a k) k (n + k) 1 i j = bst n a (k + 1) i j := by
  unfold upd bcp bst
  by_cases e : i = k
  · subst e
    rw [if_pos (show i < i + 1 by omega)]
    unfold bes
    by_cases e2 : j = n + i
    · subst e2
      rw [if_pos ⟨rfl, rfl⟩, if_neg (by omega), Nat.add_sub_cancel_left, Mx.dl_self]
    · rw [if_neg (fun h => e2 h.2), if_pos rfl]
      by_cases h : j < n
      · rw [if_pos h, if_pos h]
      · rw [if_neg h, if_neg h, Mx.dl_ne (by omega)]
  · rw [if_neg (fun h => e h.1), if_neg e]
    by_cases h : i < k
    · rw [if_pos h, if_pos (by omega)]
    · rw [if_neg h, if_neg (by omega)]
/-- what the copy and the store leave -/
theorem bcp_fin {w w2 w3 : World} {m c n k g c2 : Nat} {A : Option Addr} {vs : Nat → Value} {a : Mx.M} (h : OwM w2 w.heap.size (.slice A m c) vs n (fun i => rw (2 * n) (bcp n a k i))) (hk : k < n)
    (hv : vs k = .slice (some ⟨g, 0, none⟩) (2 * n) c2) (hb : Below w.heap.size w w3) (hg : w3.grownBy w2 (vs k).ownBlock) :
    (∃ u, w2.cell? ⟨g, n + k, none⟩ = some u) ∧ w2.frozen? ⟨g, n + k, none⟩ = false ∧
      Hid (OwM (w2.setCell ⟨g, n + k, none⟩ (.int .u8 1)) w.heap.size (.slice A m c) vs n (fun i => rw (2 * n) (bst n a (k + 1) i)) ∧ Below w.heap.size w (w2.setCell ⟨g, n + k, none⟩ (.int .u8 1))) := by
  obtain ⟨gb3, g3, c4, hA3, hv3, hcell4, -, -, hBg3, -, hcv3, hfz3, hset3⟩ := h.at_ (k := n + k) hk (by omega)
  rw [hv] at hv3
  have q : g = g3 := by
    injection hv3 with q1 _ _
    injection q1 with q1
    injection q1
  subst q
  have hs := hset3 1
  rw [bv_one] at hs
  refine ⟨⟨_, hcv3⟩, hfz3, bst_step hs (fun i _ j _ => bcp_step n a k i j), (hb.grown hg hb.size fun k' hk' => ?_).setCell hBg3 _⟩
  exact (h.row k hk).ge k' hk'
/-- what the copy leaves -/
theorem bcp_put {w w' : World} {B m c n k : Nat} {A : Option Addr} {vs : Nat → Value} {a : Mx.M} (h : OwM w B (.slice A m c) vs n (fun i => rw (2 * n) (bst n a k i))) (hk : k < n) (hg : w.grownBy w' (vs k).ownBlock)
    (ho : Ow w' B 5 (vs k) ((rw n (a k) ++ (rw (2 * n) fun _ => 0).drop (rw n (a k)).length).map bv)) : OwM w' B (.slice A m c) vs n (fun i => rw (2 * n) (bcp n a k i)) := by
  rw [bcp_app] at ho
  refine (h.setRow hk hg ho).congr fun i _ => ?_
  unfold bcp
  by_cases e : i = k
  · subst e; simp only [if_true]
  · simp only [if_neg e]
set_option maxHeartbeats 2000000 in
set_option maxRecDepth 100000 in
theorem beside_any (v : Value) (n : Nat) (a : Mx.M) (w : World) (ha : RdM w w.heap.size v n (fun i => rw n (a i))) (hn : 0 < n) (hn2 : n ≤ 1000000000) :
    Calls Try.prog 56 #[v] w fun e w' => (∃ x vs, e = .returned x ∧ OwM w' w.heap.size x vs n (fun i => rw (2 * n) (bes n a i))) ∧ Below w.heap.size w w' := by
  obtain ⟨A, c, rfl, hc, hm⟩ := ha.shape
  unfold maxLen at hm
  obtain ⟨ba, offa, rfl, hba⟩ := ha.open_ hn
  have hz := zeros_any n (2 * n) w hn2 (by omega)
  have e2 : ((2 * n : Nat) : Int) = 2 * (n : Int) := by omega
  rw [e2] at hz
  clear e2
  go_enter Try.func56, Try.ntmps56
  go_wp2_with fail
  refine hz.mono ?_
  rintro e w1 ⟨⟨v, vs, rfl, ho⟩, hb⟩
  obtain ⟨Am, cm, rfl, hcm, hmm⟩ := ho.rd.shape
  unfold maxLen at hmm
  clear hz
  go_wp2_with fail
  go_loopw [4, 5, 14] (fun _ _ i wr => ∃ k : Nat, k ≤ n ∧ i = .int .i64 k ∧ OwM wr w.heap.size (.slice Am n cm) vs n (fun i => rw (2 * n) (bst n a k i)) ∧ Below w.heap.size w wr) (fun _ _ i _ => n - (intOf i).toNat)
  case atStart => exact ⟨0, by omega, rfl, ho.congr (fun i _ => rw_congr fun j _ => by unfold bst; rw [if_neg (by omega)]), hb⟩
  case round =>
    clear ho hb
    obtain ⟨k, hk, rfl, ho, hb⟩ := hrel
    by_cases hlt : k < n
    · obtain ⟨gb, g, c2, rfl, hv, hcell, h2c, h2m, hBg, hgs, hcv, hfz, hset⟩ := ho.at_ (k := n + k) hlt (by omega)
      obtain ⟨A3, c3, hcell3, h3c, h3m, hr3⟩ := (ha.below hb).rowT hlt
      have hrow := ho.row k hlt
      rw [hv, bst_row] at hrow
      unfold maxLen at h2m h3m
      clear hset hcv hfz
      have HL : (rw n (a k)).length ≤ (rw (2 * n) fun _ => 0).length := by rw [rw_len, rw_len]; omega
      have HF := fun (w2 : World) ho2 hg2 => bcp_fin (w2 := w2) (bcp_put ho hlt hg2 ho2) hlt hv hb hg2
      rw [hv] at HF
      go_wp2_with (refine wpList_copyB bytesT rfl (.tmp 19) (.tmp 23) rfl rfl hrow rfl hr3 HL ?_; intro w2 ho2 hg2 hs2; obtain ⟨⟨u, hcv3⟩, hfz3, HS⟩ := HF w2 ho2 hg2; clear HF ho2 hg2 hs2 ho hrow hr3 hcell hcell3 hv hb)
      go_roundw
      case rel => exact ⟨k + 1, by omega, by go_num, HS.out.1, HS.out.2⟩
      case measure => simp [intOf]; omega
    · obtain rfl : k = n := by omega
      have ho2 := ho.congr (g' := fun i => rw (2 * k) (bes k a i)) (fun i hi => rw_congr fun j _ => by unfold bst; rw [if_pos hi])
      clear ho
      go_wp2_with fail
      go_ret
      exact ⟨⟨_, vs, rfl, ho2⟩, hb⟩
/-- rightHalf behind k rounds -/
def rst (n : Nat) (W : Mx.M) (k i : Nat) : List UInt8 := if i < k then rw n (rgt n W i) else []
theorem rst_step (n : Nat) (W : Mx.M) (k : Nat) : (fun i => if i = k then rw n (rgt n W k) else rst n W k i) = rst n W (k + 1) := by
  funext i
  unfold rst
  by_cases e : i = k
  · rw [if_pos e, if_pos (by omega), e]
  · rw [if_neg e]
    by_cases h : i < k
    · rw [if_pos h, if_pos (by omega)]
    · rw [if_neg h, if_neg (by omega)]
theorem rw_half (n : Nat) (f : Nat → UInt8) : (rw (2 * n) f).drop n = rw n (fun k => f (n + k)) := by rw [show 2 * n = n + n by omega, Mx.rw_drop]
set_option maxHeartbeats 2000000 in
set_option maxRecDepth 100000 in
theorem half_any (v : Value) (n : Nat) (W : Mx.M) (w : World) (hr : RdM w w.heap.size v n (fun i => rw (2 * n) (W i))) (hn : 0 < n) (hn2 : n ≤ 1000000000) :
    Calls Try.prog 59 #[v] w fun e w' => (∃ x vs, e = .returned x ∧ OwM w' w.heap.size x vs n (fun i => rw n (rgt n W i))) ∧ Below w.heap.size w w' := by
  obtain ⟨A, c, rfl, hc, hm⟩ := hr.shape
  unfold maxLen at hm
  obtain ⟨b, off, rfl, hbb⟩ := hr.open_ hn
  go_enter Try.func59, Try.ntmps59
  go_wp2_with (refine wpList_makeM rfl (.tmp 7) (.tmp 7) rfl n rfl rfl (by omega) ?_; intro w1 ho hb)
  go_loopw [4, 5, 11] (fun _ _ i wr => ∃ k : Nat, k ≤ n ∧ i = .int .i64 k ∧ (∃ vs, OwM wr w.heap.size (.slice (some ⟨w.heap.size, 0, none⟩) n n) vs n (rst n W k)) ∧ Below w.heap.size w wr) (fun _ _ i _ => n - (intOf i).toNat)
  case atStart => exact ⟨0, by omega, rfl, ⟨_, ho.congr fun i _ => by unfold rst; rw [if_neg (by omega)]⟩, hb⟩
  case round =>
    clear ho hb
    obtain ⟨k, hk, rfl, ⟨vs, ho⟩, hb⟩ := hrel
    by_cases hlt : k < n
    · obtain ⟨A1, c1, hcell1, h1c, h1m, hr1⟩ := (hr.up hb).rowT hlt
      obtain ⟨b1, off1, rfl, hb1, -⟩ := hr1.cellR (by omega)
      have hcut := hr1.fromC (lo := n) (by omega) (by omega)
      rw [← List.map_drop, rw_half] at hcut
      unfold maxLen at h1m
      have tn : ¬ c1 = n := by omega
      clear hr1
      go_wp2_with fail
      refine (clone_any _ (rw n fun j => W k (n + j)) _ hcut (by rw [rw_len]; omega)).mono ?_
      rintro e w2 ⟨⟨x, rfl, ho2⟩, hb2⟩
      obtain ⟨hgc, hgf, HP⟩ := ho.put2 hlt ho2 hb2 hb.size hb
      have e1 : (fun i => if i = k then (rw n fun j => W k (n + j)) else rst n W k i) = rst n W (k + 1) := rst_step n W k
      rw [e1] at HP
      obtain ⟨A2, c2, rfl, h2c, h2m⟩ := ho2.rd.shapeM
      clear ho ho2 hb hb2 hcut e1
      go_wp2_with fail
      go_roundw
      case rel => exact ⟨k + 1, by omega, by go_num, HP.out.1, HP.out.2⟩
      case measure => simp [intOf]; omega
    · obtain rfl : k = n := by omega
      have ho2 := ho.congr (g' := fun i => rw k (rgt k W i)) (fun i hi => by unfold rst; rw [if_pos hi])
      clear ho
      go_wp2_with fail
      go_ret
      exact ⟨⟨_, vs, rfl, ho2⟩, hb⟩
end Go.Proofs.Ytfnenehiapibiaa

namespace Go.Proofs.Ytfnenehiapibiaa
open Go.RowKit
open Mx (rw rw_len rw_get rw_congr sw swp)

/-- cells of the outer slice, known place -/
theorem OwM.outer {w : World} {B n m c : Nat} {A : Option Addr} {vs : Nat → Value} {g : Nat → List UInt8} (h : OwM w B (.slice A m c) vs n g) (hn : 0 < n) :
    ∃ gb, A = some ⟨gb, 0, none⟩ ∧ B ≤ gb ∧ gb < w.heap.size ∧ ∀ i, i < n → w.cell? ⟨gb, i, none⟩ = some (vs i) ∧ w.frozen? ⟨gb, i, none⟩ = false := by
  obtain ⟨gb, hA, hgb, hgs, hgc, hgf, _⟩ := h.out.at_ (k := 0) (by simpa using hn)
  refine ⟨gb, hA, hgb, hgs, fun i hi => ?_⟩
  obtain ⟨gb2, hA2, _, _, hgc2, hgf2, _⟩ := h.out.at_ (k := i) (by simpa using hi)
  rw [hA] at hA2
  injection hA2 with q
  injection q with q
  subst q
  exact ⟨by rw [hgc2]; simp, hgf2⟩
theorem map_swap (n i j : Nat) (hi : i < n) (hj : j < n) (vs : Nat → Value) : (((List.range n).map vs).set i (vs j)).set j (vs i) = (List.range n).map fun x => vs (sw i j x) := by
  rw [map_upd, map_upd]
  refine List.map_congr_left fun x _ => ?_
  unfold sw
  by_cases h1 : x = i
  · subst h1
    by_cases h2 : x = j
    · subst h2; simp
    · simp [h2]
  · by_cases h2 : x = j
    · subst h2; simp [h1]
    · simp [h1, h2]
theorem OwM.swap_ {w : World} {B n m c i j gb : Nat} {vs : Nat → Value} {g : Nat → List UInt8} (h : OwM w B (.slice (some ⟨gb, 0, none⟩) m c) vs n g) (hi : i < n) (hj : j < n) :
    OwM ((w.setCell ⟨gb, i, none⟩ (vs j)).setCell ⟨gb, j, none⟩ (vs i)) B (.slice (some ⟨gb, 0, none⟩) m c) (fun x => vs (sw i j x)) n (fun x => g (sw i j x)) ∧
      w.grownBy ((w.setCell ⟨gb, i, none⟩ (vs j)).setCell ⟨gb, j, none⟩ (vs i)) (some gb) := by
  have hg : w.grownBy ((w.setCell ⟨gb, i, none⟩ (vs j)).setCell ⟨gb, j, none⟩ (vs i)) (some gb) := (grownBy_setCell w gb i _).trans (grownBy_setCell _ gb j _)
  refine ⟨⟨?_, fun x hx => (h.row _ (Mx.sw_lt hi hj hx)).kept hg fun k hk e => h.apo _ (Mx.sw_lt hi hj hx) gb rfl (by rw [hk]; exact e.symm), fun a b ha hb hne => h.ap _ _ (Mx.sw_lt hi hj ha) (Mx.sw_lt hi hj hb) fun e => hne (by
    have := congrArg (sw i j) e
    rwa [Mx.sw_sw, Mx.sw_sw] at this), fun x hx => h.apo _ (Mx.sw_lt hi hj hx)⟩, hg⟩
  obtain ⟨g1, hA1, _, _, _, _, hset1⟩ := h.out.at_ (k := i) (by simpa using hi)
  obtain ⟨rfl⟩ : gb = g1 := by injection hA1 with q; injection q
  obtain ⟨g2, hA2, _, _, _, _, hset2⟩ := (hset1 (vs j)).at_ (k := j) (by simpa using hj)
  obtain ⟨rfl⟩ : gb = g2 := by injection hA2 with q; injection q
  have := hset2 (vs i)
  rw [map_swap n i j hi hj] at this
  exact this
set_option maxHeartbeats 4000000 in
set_option maxRecDepth 100000 in
theorem swap_any (v : Value) (vs : Nat → Value) (B n wd c : Nat) (W : Mx.M) (w : World) (ho : OwM w B v vs n (fun i => rw wd (W i))) (hc : c < n) (hw : c < wd) (hn : n ≤ 1000000000) :
    Calls Try.prog 57 #[v, .int .i64 (c : Int)] w fun e w' =>
      (∃ p, c ≤ p ∧ p < n ∧ W p c ≠ 0 ∧ e = .returned (.bool true) ∧ (∃ vs', OwM w' B v vs' n (fun i => rw wd (swp W c p i))) ∧ w.grownBy w' v.ownBlock) ∨
      ((∀ i, c ≤ i → i < n → W i c = 0) ∧ e = .returned (.bool false) ∧ w = w') := by
  obtain ⟨A, cap, rfl, hcap, hm⟩ := ho.rd.shape
  unfold maxLen at hm
  obtain ⟨gb, rfl, hgb, hgs, hcells⟩ := ho.outer (by omega)
  go_enter Try.func57, Try.ntmps57
  go_wp2_with fail
  go_loop [5] (fun i => ∃ k : Nat, c ≤ k ∧ k ≤ n ∧ i = .int .i64 k ∧ ∀ j, c ≤ j → j < k → W j c = 0) (fun i => n - (intOf i).toNat)
  case atStart => exact ⟨c, by omega, by omega, rfl, fun j h1 h2 => by omega⟩
  case round =>
    obtain ⟨k, hk1, hk, rfl, hall⟩ := hrel
    have HA := Lib.hid hall
    clear hall
    by_cases hlt : k < n
    · obtain ⟨gb', g, c2, hA, hv, hcell, h2c, h2m, hBg, hg2, hcv, hfz, -⟩ := ho.at_ hlt hw
      obtain ⟨rfl⟩ : gb = gb' := by injection hA with q; injection q
      unfold maxLen at h2m
      clear hA
      by_cases hz : W k c = 0
      · rw [hz] at hcv
        have hcv' : w.cell? ⟨g, c, none⟩ = some (.int .u8 0) := hcv
        have HZ := Lib.hid hz
        clear hcv hz
        go_wp2_with fail
        go_round
        case rel => exact ⟨k + 1, by omega, by omega, by go_num, fun j h1 h2 => by
          by_cases e : j = k
          · subst e; exact HZ.out
          · exact HA.out j h1 (by omega)⟩
        case measure => simp [intOf]; omega
      · have HN := Lib.hid hz
        have hne : (((W k c).toNat : Int) != 0) = true := bne_iff_ne.2 (fun e => hz (Mx.nat_zero.1 (by omega)))
        obtain ⟨hs1, hs2⟩ := ho.swap_ hc hlt
        have HS := Lib.hid hs1
        have HG := Lib.hid hs2
        obtain ⟨hk1c, hk1f⟩ := hcells k hlt
        obtain ⟨hcc, hcf⟩ := hcells c hc
        obtain ⟨Ac, cc, hvc, -, -⟩ := (ho.row c hc).rd.shapeR
        rw [hvc] at hcc HS HG
        rw [hv] at hk1c HS HG
        clear hs1 hs2 hz hcells hcell
        by_cases hkc : k = c
        · subst hkc
          rw [hv] at hvc
          rw [← hvc] at hcc HS HG
          clear hvc
          go_wp2_with fail
          go_region
          go_wp2_with fail
          go_ret
          exact .inl ⟨k, hk1, hlt, HN.out, rfl, ⟨_, HS.out.below (bwN 1)⟩, (show w.grownBy _ (some gb) from HG.out).trans ⟨rfl, rfl, rfl, by simp [World.drew, World.setCell], fun _ _ _ => rfl⟩⟩
        · have hne2 : ¬ c = k := fun e => hkc e.symm
          go_wp2_with fail
          go_region
          go_wp2_with fail
          go_ret
          exact .inl ⟨k, hk1, hlt, HN.out, rfl, ⟨_, HS.out.below (bwN 1)⟩, (show w.grownBy _ (some gb) from HG.out).trans ⟨rfl, rfl, rfl, by simp [World.drew, World.setCell], fun _ _ _ => rfl⟩⟩
    · obtain rfl : k = n := by omega
      clear hcells
      go_wp2_with fail
      go_ret
      exact .inr ⟨fun i h1 h2 => HA.out i h1 h2, rfl, rfl⟩
end Go.Proofs.Ytfnenehiapibiaa

namespace Go.Proofs.Ytfnenehiapibiaa
open Go.RowKit
open Mx (rw rw_len rw_get rw_congr fm fi scl stk)

theorem Fd.kept {w w' : World} {p B : Nat} (h : Fd w p) (hp : p < B) (hb : Below B w w') : Fd w' p := (hb.block p hp).trans h
/-- row c, scaled and copied -/
theorem settle_first {w w2 : World} {B m cap n wd c : Nat} {A : Option Addr} {vs : Nat → Value} {W : Mx.M} (h : OwM w B (.slice A m cap) vs n (fun i => rw wd (W i))) (hc : c < n) (hg : w.grownBy w2 (vs c).ownBlock)
    (ho : Ow w2 B 5 (vs c) ((rw wd (fun j => fm (fi (W c c)) (W c j)) ++ (rw wd (W c)).drop (rw wd fun j => fm (fi (W c c)) (W c j)).length).map bv)) :
    OwM w2 B (.slice A m cap) vs n (fun i => rw wd (stk W c 0 i)) := by
  rw [rw_len, List.drop_eq_nil_of_le (by rw [rw_len]; exact Nat.le_refl _), List.append_nil] at ho
  refine (h.setRow hc hg ho).congr fun i _ => ?_
  by_cases e : i = c
  · subst e; simp only [if_true]; rw [Mx.stk_c]; rfl
  · simp only [if_neg e]; rw [Mx.stk_old e (Nat.zero_le _)]
/-- row k, turned -/
theorem settle_step {w' : World} {B m cap n wd c k : Nat} {A : Option Addr} {vs : Nat → Value} {W : Mx.M} (hkc : k ≠ c)
    (h : OwM w' B (.slice A m cap) vs n (fun i => if i = k then rw wd (fun j => stk W c k k j ^^^ fm (W k c) (scl W c j)) else rw wd (stk W c k i))) :
    OwM w' B (.slice A m cap) vs n (fun i => rw wd (stk W c (k + 1) i)) :=
  h.congr fun i _ => by
    by_cases e : i = k
    · subst e; simp only [if_true]; rw [Mx.stk_old hkc (Nat.le_refl _), Mx.stk_new hkc (Nat.lt_succ_self _)]
    · simp only [if_neg e]; rw [Mx.stk_succ e]
set_option maxHeartbeats 4000000 in
set_option maxRecDepth 100000 in
theorem settle_any (p : Nat) (v : Value) (vs : Nat → Value) (B n wd c : Nat) (W : Mx.M) (w : World) (hf : Fd w p) (hp : p < B) (hB : B ≤ w.heap.size) (ho : OwM w B v vs n (fun i => rw wd (W i))) (hc : c < n) (hw : c < wd) (hn : n ≤ 1000000000) (hwd : wd ≤ 140737488355328) :
    Calls Try.prog 58 #[.pointer (some ⟨p, 0, none⟩), v, .int .i64 (c : Int)] w fun e w' => e = .returned (.tuple #[]) ∧ OwM w' B v vs n (fun i => rw wd (stk W c n i)) ∧ Below B w w' := by
  obtain ⟨A, cap, rfl, hcap, hm⟩ := ho.rd.shape
  unfold maxLen at hm
  obtain ⟨gb, g, c2, rfl, hv, hcell, h2c, h2m, hBg, hgs, hcv, hfz, -⟩ := ho.at_ hc hw
  unfold maxLen at h2m
  have HI := Lib.hid (Mx.fi_nat (W c c))
  go_enter Try.func58, Try.ntmps58
  go_wp2_with fail
  refine (inv_any p (W c c).toNat _ hf (W c c).toNat_lt).mono ?_
  rintro e w1 ⟨rfl, q, rfl⟩
  rw [← HI.out]
  have hf1 : Fd (w.drewN q) p := hf.drewN q
  have ho1 := ho.below (bwN (w := w) q)
  have hrow := ho1.row c hc
  rw [hv] at hrow
  go_wp2_with fail
  refine (row_any p (fi (W c c)).toNat _ (rw wd (W c)) _ hf1 (fi (W c c)).toNat_lt hrow.rd (by rw [rw_len]; exact hwd)).mono ?_
  rintro e w2 ⟨⟨x, rfl, hox⟩, hb2⟩
  rw [rowL_rw] at hox
  have ho2 := ho1.below hb2
  have hrow2 := ho2.row c hc
  rw [hv] at hrow2
  obtain ⟨Ax, cx, rfl, -, -⟩ := hox.rd.shapeR
  have HL : (rw wd fun j => fm (fi (W c c)) (W c j)).length ≤ (rw wd (W c)).length := by rw [rw_len, rw_len]; omega
  have HS := fun (w3 : World) hg3 ho3 => settle_first (w2 := w3) ho2 hc hg3 ho3
  have HG := fun (w3 : World) hg3 => ho2.grown (w' := w3) hc hg3 ((bwN' (B := B) w q).trans (hb2.mono hB)) (Nat.le_refl _) (Nat.le_trans hB hb2.size)
  rw [hv] at HS HG
  clear ho ho1 hrow hcell hcv hfz
  go_wp2_with (refine wpList_copyB bytesT rfl (.tmp 13) (.tmp 22) rfl rfl hrow2 rfl hox.rd HL ?_; intro w3 ho3 hg3 hs3; have HO := Lib.hid (HS w3 hg3 ho3); have hbw := HG w3 hg3; clear ho3 hg3 HS HG hs3 hox hrow2 ho2 hb2)
  go_loopw [7, 8, 26] (fun _ _ i wr => ∃ k : Nat, k ≤ n ∧ i = .int .i64 k ∧ OwM wr B (.slice (some ⟨gb, 0, none⟩) n cap) vs n (fun i => rw wd (stk W c k i)) ∧ Below B w wr) (fun _ _ i _ => n - (intOf i).toNat)
  case atStart => exact ⟨0, by omega, rfl, HO.out, hbw⟩
  case round =>
    clear HO hbw
    obtain ⟨k, hk, rfl, ho, hb⟩ := hrel
    by_cases hlt : k < n
    · by_cases hkc : k = c
      · subst hkc
        obtain ⟨gb', g', c4, hA, hv', hcell, h4c, h4m, hBg', hgs', hcv, hfz, -⟩ := ho.at_ hlt hw
        obtain ⟨rfl⟩ : gb = gb' := by injection hA with q; injection q
        have HO : Hid (OwM wr B (.slice (some ⟨gb, 0, none⟩) n cap) vs n (fun i => rw wd (stk W k (k + 1) i))) := Lib.hid (by rw [Mx.stk_succ_c]; exact ho)
        clear ho hcv hfz hA hv'
        go_wp2_with fail
        go_roundw
        case rel => exact ⟨k + 1, by omega, by go_num, HO.out, hb⟩
        case measure => simp [intOf]; omega
      · obtain ⟨gb', g', c4, hA, hv', hcell, h4c, h4m, hBg', hgs', hcv, hfz, -⟩ := ho.at_ hlt hw
        obtain ⟨rfl⟩ : gb = gb' := by injection hA with q; injection q
        have hrowc := ho.row c hc
        rw [hv] at hrowc
        simp only [Mx.stk_c] at hrowc
        rw [Mx.stk_old hkc (Nat.le_refl _)] at hcv
        have hfw := hf.kept hp hb
        unfold maxLen at h4m
        have hkc1 : ((k : Int) != (c : Int)) = true := bne_iff_ne.2 (fun e => hkc (Int.ofNat.inj e))
        have HK := Lib.hid hkc
        clear hA hfz hkc
        go_wp2_with fail
        refine (row_any p (W k c).toNat _ (rw wd (scl W c)) _ hfw (W k c).toNat_lt hrowc.rd (by rw [rw_len]; exact hwd)).mono ?_
        rintro e w4 ⟨⟨x, rfl, hox⟩, hb4⟩
        rw [rowL_rw] at hox
        have ho4 := ho.below hb4
        have hrow := ho4.row k hlt
        have hap := Apart.fresh (ho.row k hlt) hox (Nat.le_refl _)
        rw [hv'] at hrow hap
        have hbw4 := hb.trans (hb4.mono (Nat.le_trans hB hb.size))
        clear hrowc hcell hcv
        go_wp2_with fail
        refine (turn_any _ x _ _ _ wd _ _ _ hrow hox hap).mono ?_
        rintro e w5 ⟨rfl, ho5, hg5⟩
        have HO := Lib.hid (settle_step HK.out (ho4.setRow hlt (by rw [hv']; exact hg5) (by rw [hv']; exact ho5)))
        have hb5 := ho4.grown (w' := w5) hlt (by rw [hv']; exact hg5) hbw4 (Nat.le_refl _) (Nat.le_trans hB hbw4.size)
        clear ho ho4 hrow hap hox ho5 hg5 hb4 hbw4 hb hfw
        go_wp2_with fail
        go_roundw
        case rel => exact ⟨k + 1, by omega, by go_num, HO.out, hb5⟩
        case measure => simp [intOf]; omega
    · obtain rfl : k = n := by omega
      go_wp2_with fail
      go_end0
      exact ⟨rfl, ho, hb⟩
end Go.Proofs.Ytfnenehiapibiaa

namespace Go.Proofs.Ytfnenehiapibiaa
open Go.RowKit
open Mx (rw rw_len rw_get rw_congr fm fi dl bes rgt mm sm dt rws swp stk)

theorem swp_c (W : Mx.M) (c p : Nat) : swp W c p c = W p := by unfold swp Mx.sw; rw [if_pos rfl]
set_option maxHeartbeats 1000000 in
set_option maxRecDepth 100000 in
theorem invert_no (v : Value) (n q : Nat) (a : Mx.M) (w : World) (ha : RdM w w.heap.size v n (fun i => rw q (a i))) (hn : 0 < n) (hq : 0 < q) (hne : n ≠ q) :
    Calls Try.prog 50 #[v] w fun e w' => e = .returned (.tuple #[.slice none 0 0, .bool false]) ∧ w = w' := by
  obtain ⟨A, c, rfl, hc, hm⟩ := ha.shape
  have p1 := right_any _ n _ _ w ha
  rw [isR_rw a hn hq] at p1
  obtain ⟨ba, offa, rfl, hba⟩ := ha.open_ hn
  obtain ⟨A0, c0, hcell0, h0c, h0m, hr0⟩ := ha.rowT (j := 0) hn
  rw [Nat.add_zero] at hcell0
  have t : ((n : Int) != (q : Int)) = true := bne_iff_ne.2 (fun e => hne (Int.ofNat.inj e))
  clear hne hr0 ha
  go_enter Try.func50, Try.ntmps50
  go_wp2_with fail
  refine p1.mono ?_
  rintro e w1 ⟨rfl, rfl⟩
  go_wp2_with fail
  go_ret2
  exact ⟨rfl, rfl⟩
/-- what Invert answers of a matrix as wide as high -/
def Inverted (n : Nat) (a : Mx.M) (w : World) (e : Ending) (w' : World) : Prop :=
  (∃ x vs X, e = .returned (.tuple #[x, .bool true]) ∧ OwM w' w.heap.size x vs n (fun i => rw n (X i)) ∧
      (∀ i, i < n → ∀ j, j < n → mm n X a i j = dl i j) ∧ (∀ i, i < n → ∀ j, j < n → mm n a X i j = dl i j) ∧ dt n (rws n a) ≠ 0) ∨
  (e = .returned (.tuple #[.slice none 0 0, .bool false]) ∧ dt n (rws n a) = 0 ∧ ∃ y : Nat → UInt8, (∃ j, j < n ∧ y j ≠ 0) ∧ ∀ i, i < n → sm n (fun j => fm (a i j) (y j)) = 0)
set_option maxHeartbeats 4000000 in
set_option maxRecDepth 100000 in
theorem invert_any (v : Value) (n : Nat) (a : Mx.M) (w : World) (ha : RdM w w.heap.size v n (fun i => rw n (a i))) (hn : 0 < n) (hn2 : n ≤ 1000000000) :
    Calls Try.prog 50 #[v] w fun e w' => Inverted n a w e w' ∧ Below w.heap.size w w' := by
  obtain ⟨A, c, rfl, hc, hm⟩ := ha.shape
  have p1 := right_any _ n _ _ w ha
  rw [isR_rw a hn hn] at p1
  obtain ⟨ba, offa, rfl, hba⟩ := ha.open_ hn
  obtain ⟨A0, c0, hcell0, h0c, h0m, hr0⟩ := ha.rowT (j := 0) hn
  rw [Nat.add_zero] at hcell0
  clear hr0
  go_enter Try.func50, Try.ntmps50
  go_wp2_with fail
  refine p1.mono ?_
  rintro e w1 ⟨rfl, rfl⟩
  go_wp2_with fail
  refine (new_any _).mono ?_
  rintro e w1 ⟨⟨p, rfl, -, hf⟩, hb1⟩
  have ha1 := ha.up hb1
  clear hcell0 p1 ha
  go_wp2_with fail
  refine (beside_any _ n a _ ha1 hn hn2).mono ?_
  rintro e w2 ⟨⟨v, vs, rfl, ho⟩, hb2⟩
  obtain ⟨Am, cm, rfl, hcm, hmm⟩ := ho.rd.shape
  unfold maxLen at hmm
  have hp : p < w1.heap.size := hf.lt
  clear ha1
  go_wp2_with fail
  go_loopw [6, 24] (fun _ i wr => ∃ k : Nat, k ≤ n ∧ i = .int .i64 k ∧ (∃ vs W, OwM wr w1.heap.size (.slice Am n cm) vs n (fun i => rw (2 * n) (W i)) ∧ Mx.Gj n a k W) ∧ Below w1.heap.size w1 wr) (fun _ i _ => n - (intOf i).toNat)
  case atStart => exact ⟨0, by omega, rfl, ⟨_, _, ho, Mx.Gj.start n a⟩, hb2⟩
  case round =>
    clear ho hb2
    obtain ⟨k, hk, rfl, ⟨vs, W, ho, hG⟩, hb⟩ := hrel
    by_cases hlt : k < n
    · go_wp2_with fail
      refine (swap_any _ vs w1.heap.size n (2 * n) k W _ ho hlt (by omega) hn2).mono ?_
      rintro e w3 (⟨q, hq1, hq2, hq3, rfl, ⟨vs', ho3⟩, hg3⟩ | ⟨hz, rfl, rfl⟩)
      · have hb3 := hb.grown hg3 hb.size (fun k' hk' => (ho.out.lt k' hk').1)
        have hG2 := (hG.swp hlt hq1 hq2).stl hlt (by rw [swp_c]; exact hq3)
        have hf3 := hf.kept hp hb3
        clear ho hG hg3 hb
        go_wp2_with fail
        refine (settle_any p _ vs' w1.heap.size n (2 * n) k (swp W k q) _ hf3 hp hb3.size ho3 hlt (by omega) hn2 (by omega)).mono ?_
        rintro e w4 ⟨rfl, ho4, hb4⟩
        have hb5 := hb3.trans hb4
        clear ho3 hb3 hb4 hf3
        have HG := Lib.hid hG2
        go_wp2_with fail
        go_roundw
        case rel => exact ⟨k + 1, by omega, by go_num, ⟨_, _, ho4, HG.out⟩, hb5⟩
        case measure => simp [intOf]; omega
      · have HF := Lib.hid (hG.fail hlt hz)
        clear hz hG ho
        go_wp2_with fail
        go_ret2
        exact ⟨.inr ⟨rfl, HF.out⟩, bwstep hb1 hb⟩
    · obtain rfl : k = n := by omega
      have HD := Lib.hid hG.done
      have hr := ho.rd
      clear hG
      go_wp2_with fail
      refine (half_any _ k W _ hr hn hn2).mono ?_
      rintro e w3 ⟨⟨x, vs3, rfl, ho3⟩, hb3⟩
      have hbb := bwstep hb1 hb
      clear ho hr
      go_wp2_with fail
      go_ret2
      exact ⟨.inl ⟨x, vs3, rgt k W, rfl, ho3.mono hbb.size, HD.out⟩, bwstep hbb hb3⟩
end Go.Proofs.Ytfnenehiapibiaa
