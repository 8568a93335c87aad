/- The contracts of besideOne and rightHalf. -/
import Derived.Test.YtjhnbhgpnmfdgaaMatF
namespace Go.Proofs.Ytjhnbhgpnmfdgaa
open Go.RowKit
open Mx (rw rw_len rw_get rw_congr dl bes rgt)

/-- besideOne behind k rounds -/
def bst (n : Nat) (a : Mx.M) (k : Nat) : Mx.M := fun i j => if i < k then bes n a i j else 0
theorem bst_step {w' : World} {B m c n k : Nat} {A : Option Addr} {vs : Nat → Value} {a : Mx.M} {f : Mx.M} (h : OwM w' B (.slice A m c) vs n (fun i => rw (2 * n) (f i)))
    (hf : ∀ i, i < n → ∀ j, j < 2 * n → f i j = bst n a (k + 1) i j) : OwM w' B (.slice A m c) vs n (fun i => rw (2 * n) (bst n a (k + 1) i)) :=
  h.congr fun i hi => rw_congr fun j hj => hf i hi j hj
/-- row k with a's row copied -/
def bcp (n : Nat) (a : Mx.M) (k : Nat) : Mx.M := fun i j => if i = k then (if j < n then a k j else 0) else bst n a k i j
theorem bcp_app (n : Nat) (f : Nat → UInt8) : rw n f ++ (rw (2 * n) fun _ => 0).drop (rw n f).length = rw (2 * n) (fun j => if j < n then f j else 0) := by
  rw [rw_len, show 2 * n = n + n by omega, Mx.rw_drop, Mx.rw_app]
theorem bst_row (n : Nat) (a : Mx.M) (k : Nat) : rw (2 * n) (bst n a k k) = rw (2 * n) (fun _ => 0) := rw_congr fun j _ => by unfold bst; rw [if_neg (by omega)]
theorem bcp_step (n : Nat) (a : Mx.M) (k i j : Nat) : upd (bcp n a k) k (n + k) 1 i j = bst n a (k + 1) i j := by
  unfold upd bcp bst
  by_cases e : i = k
  · subst e
    rw [if_pos (show i < i + 1 by omega)]
    unfold bes
    by_cases e2 : j = n + i
    · subst e2
      rw [if_pos ⟨rfl, rfl⟩, if_neg (by omega), Nat.add_sub_cancel_left, Mx.dl_self]
    · rw [if_neg (fun h => e2 h.2), if_pos rfl]
      by_cases h : j < n
      · rw [if_pos h, if_pos h]
      · rw [if_neg h, if_neg h, Mx.dl_ne (by omega)]
  · rw [if_neg (fun h => e h.1), if_neg e]
    by_cases h : i < k
    · rw [if_pos h, if_pos (by omega)]
    · rw [if_neg h, if_neg (by omega)]
/-- what the copy and the store leave -/
theorem bcp_fin {w w2 w3 : World} {m c n k g c2 : Nat} {A : Option Addr} {vs : Nat → Value} {a : Mx.M} (h : OwM w2 w.heap.size (.slice A m c) vs n (fun i => rw (2 * n) (bcp n a k i))) (hk : k < n)
    (hv : vs k = .slice (some ⟨g, 0, none⟩) (2 * n) c2) (hb : Below w.heap.size w w3) (hg : w3.grownBy w2 (vs k).ownBlock) :
    (∃ u, w2.cell? ⟨g, n + k, none⟩ = some u) ∧ w2.frozen? ⟨g, n + k, none⟩ = false ∧
      Hid (OwM (w2.setCell ⟨g, n + k, none⟩ (.int .u8 1)) w.heap.size (.slice A m c) vs n (fun i => rw (2 * n) (bst n a (k + 1) i)) ∧ Below w.heap.size w (w2.setCell ⟨g, n + k, none⟩ (.int .u8 1))) := by
  obtain ⟨gb3, g3, c4, hA3, hv3, hcell4, -, -, hBg3, -, hcv3, hfz3, hset3⟩ := h.at_ (k := n + k) hk (by omega)
  rw [hv] at hv3
  have q : g = g3 := by
    injection hv3 with q1 _ _
    injection q1 with q1
    injection q1
  subst q
  have hs := hset3 1
  rw [bv_one] at hs
  refine ⟨⟨_, hcv3⟩, hfz3, bst_step hs (fun i _ j _ => bcp_step n a k i j), (hb.grown hg hb.size fun k' hk' => ?_).setCell hBg3 _⟩
  exact (h.row k hk).ge k' hk'
/-- what the copy leaves -/
theorem bcp_put {w w' : World} {B m c n k : Nat} {A : Option Addr} {vs : Nat → Value} {a : Mx.M} (h : OwM w B (.slice A m c) vs n (fun i => rw (2 * n) (bst n a k i))) (hk : k < n) (hg : w.grownBy w' (vs k).ownBlock)
    (ho : Ow w' B 5 (vs k) ((rw n (a k) ++ (rw (2 * n) fun _ => 0).drop (rw n (a k)).length).map bv)) : OwM w' B (.slice A m c) vs n (fun i => rw (2 * n) (bcp n a k i)) := by
  rw [bcp_app] at ho
  refine (h.setRow hk hg ho).congr fun i _ => ?_
  unfold bcp
  by_cases e : i = k
  · subst e; simp only [if_true]
  · simp only [if_neg e]
set_option maxHeartbeats 2000000 in
set_option maxRecDepth 100000 in
theorem beside_any (v : Value) (n : Nat) (a : Mx.M) (w : World) (ha : RdM w w.heap.size v n (fun i => rw n (a i))) (hn : 0 < n) (hn2 : n ≤ 1000000000) :
    Calls Try.prog 27 #[v] w fun e w' => (∃ x vs, e = .returned x ∧ OwM w' w.heap.size x vs n (fun i => rw (2 * n) (bes n a i))) ∧ Below w.heap.size w w' := by
  obtain ⟨A, c, rfl, hc, hm⟩ := ha.shape
  unfold maxLen at hm
  obtain ⟨ba, offa, rfl, hba⟩ := ha.open_ hn
  have hz := zeros_any n (2 * n) w hn2 (by omega)
  have e2 : ((2 * n : Nat) : Int) = 2 * (n : Int) := by omega
  rw [e2] at hz
  clear e2
  go_enter Try.func27, Try.ntmps27
  go_wp2_with fail
  refine hz.mono ?_
  rintro e w1 ⟨⟨v, vs, rfl, ho⟩, hb⟩
  obtain ⟨Am, cm, rfl, hcm, hmm⟩ := ho.rd.shape
  unfold maxLen at hmm
  clear hz
  go_wp2_with fail
  go_loopw [4, 5, 14] (fun _ _ i wr => ∃ k : Nat, k ≤ n ∧ i = .int .i64 k ∧ OwM wr w.heap.size (.slice Am n cm) vs n (fun i => rw (2 * n) (bst n a k i)) ∧ Below w.heap.size w wr) (fun _ _ i _ => n - (intOf i).toNat)
  case atStart => exact ⟨0, by omega, rfl, ho.congr (fun i _ => rw_congr fun j _ => by unfold bst; rw [if_neg (by omega)]), hb⟩
  case round =>
    clear ho hb
    obtain ⟨k, hk, rfl, ho, hb⟩ := hrel
    by_cases hlt : k < n
    · obtain ⟨gb, g, c2, rfl, hv, hcell, h2c, h2m, hBg, hgs, hcv, hfz, hset⟩ := ho.at_ (k := n + k) hlt (by omega)
      obtain ⟨A3, c3, hcell3, h3c, h3m, hr3⟩ := (ha.below hb).rowT hlt
      have hrow := ho.row k hlt
      rw [hv, bst_row] at hrow
      unfold maxLen at h2m h3m
      clear hset hcv hfz
      have HL : (rw n (a k)).length ≤ (rw (2 * n) fun _ => 0).length := by rw [rw_len, rw_len]; omega
      have HF := fun (w2 : World) ho2 hg2 => bcp_fin (w2 := w2) (bcp_put ho hlt hg2 ho2) hlt hv hb hg2
      rw [hv] at HF
      go_wp2_with (refine wpList_copyB bytesT rfl (.tmp 19) (.tmp 23) rfl rfl hrow rfl hr3 HL ?_; intro w2 ho2 hg2 hs2; obtain ⟨⟨u, hcv3⟩, hfz3, HS⟩ := HF w2 ho2 hg2; clear HF ho2 hg2 hs2 ho hrow hr3 hcell hcell3 hv hb)
      go_roundw
      case rel => exact ⟨k + 1, by omega, by go_num, HS.out.1, HS.out.2⟩
      case measure => simp [intOf]; omega
    · obtain rfl : k = n := by omega
      have ho2 := ho.congr (g' := fun i => rw (2 * k) (bes k a i)) (fun i hi => rw_congr fun j _ => by unfold bst; rw [if_pos hi])
      clear ho
      go_wp2_with fail
      go_ret
      exact ⟨⟨_, vs, rfl, ho2⟩, hb⟩
/-- rightHalf behind k rounds -/
def rst (n : Nat) (W : Mx.M) (k i : Nat) : List UInt8 := if i < k then rw n (rgt n W i) else []
theorem rst_step (n : Nat) (W : Mx.M) (k : Nat) : (fun i => if i = k then rw n (rgt n W k) else rst n W k i) = rst n W (k + 1) := by
  funext i
  unfold rst
  by_cases e : i = k
  · rw [if_pos e, if_pos (by omega), e]
  · rw [if_neg e]
    by_cases h : i < k
    · rw [if_pos h, if_pos (by omega)]
    · rw [if_neg h, if_neg (by omega)]
theorem rw_half (n : Nat) (f : Nat → UInt8) : (rw (2 * n) f).drop n = rw n (fun k => f (n + k)) := by rw [show 2 * n = n + n by omega, Mx.rw_drop]
set_option maxHeartbeats 2000000 in
set_option maxRecDepth 100000 in
theorem half_any (v : Value) (n : Nat) (W : Mx.M) (w : World) (hr : RdM w w.heap.size v n (fun i => rw (2 * n) (W i))) (hn : 0 < n) (hn2 : n ≤ 1000000000) :
    Calls Try.prog 30 #[v] w fun e w' => (∃ x vs, e = .returned x ∧ OwM w' w.heap.size x vs n (fun i => rw n (rgt n W i))) ∧ Below w.heap.size w w' := by
  obtain ⟨A, c, rfl, hc, hm⟩ := hr.shape
  unfold maxLen at hm
  obtain ⟨b, off, rfl, hbb⟩ := hr.open_ hn
  go_enter Try.func30, Try.ntmps30
  go_wp2_with (refine wpList_makeM rfl (.tmp 7) (.tmp 7) rfl n rfl rfl (by omega) ?_; intro w1 ho hb)
  go_loopw [4, 5, 11] (fun _ _ i wr => ∃ k : Nat, k ≤ n ∧ i = .int .i64 k ∧ (∃ vs, OwM wr w.heap.size (.slice (some ⟨w.heap.size, 0, none⟩) n n) vs n (rst n W k)) ∧ Below w.heap.size w wr) (fun _ _ i _ => n - (intOf i).toNat)
  case atStart => exact ⟨0, by omega, rfl, ⟨_, ho.congr fun i _ => by unfold rst; rw [if_neg (by omega)]⟩, hb⟩
  case round =>
    clear ho hb
    obtain ⟨k, hk, rfl, ⟨vs, ho⟩, hb⟩ := hrel
    by_cases hlt : k < n
    · obtain ⟨A1, c1, hcell1, h1c, h1m, hr1⟩ := (hr.up hb).rowT hlt
      obtain ⟨b1, off1, rfl, hb1, -⟩ := hr1.cellR (by omega)
      have hcut := hr1.fromC (lo := n) (by omega) (by omega)
      rw [← List.map_drop, rw_half] at hcut
      unfold maxLen at h1m
      have tn : ¬ c1 = n := by omega
      clear hr1
      go_wp2_with fail
      refine (clone_any _ (rw n fun j => W k (n + j)) _ hcut (by rw [rw_len]; omega)).mono ?_
      rintro e w2 ⟨⟨x, rfl, ho2⟩, hb2⟩
      obtain ⟨hgc, hgf, HP⟩ := ho.put2 hlt ho2 hb2 hb.size hb
      have e1 : (fun i => if i = k then (rw n fun j => W k (n + j)) else rst n W k i) = rst n W (k + 1) := rst_step n W k
      rw [e1] at HP
      obtain ⟨A2, c2, rfl, h2c, h2m⟩ := ho2.rd.shapeM
      clear ho ho2 hb hb2 hcut e1
      go_wp2_with fail
      go_roundw
      case rel => exact ⟨k + 1, by omega, by go_num, HP.out.1, HP.out.2⟩
      case measure => simp [intOf]; omega
    · obtain rfl : k = n := by omega
      have ho2 := ho.congr (g' := fun i => rw k (rgt k W i)) (fun i hi => by unfold rst; rw [if_pos hi])
      clear ho
      go_wp2_with fail
      go_ret
      exact ⟨⟨_, vs, rfl, ho2⟩, hb⟩
end Go.Proofs.Ytjhnbhgpnmfdgaa
