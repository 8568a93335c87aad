/- The contract of the reference's product. -/
import Derived.Test.YtjhnbhgpnmfdgaaBld
import Derived.Test.YtjhnbhgpnmfdgaaFldQ
import Derived.Test.YtjhnbhgpnmfdgaaMatP
import Derived.IntWalk
import Derived.Deep.QuietTactic
import Derived.BigQuiet
namespace Go.Proofs.Ytjhnbhgpnmfdgaa
open Go.RowKit
open Mx (rw rw_len rw_get rw_congr mm fm sm)

theorem rw_push {w : World} {B e k : Nat} {v : Value} {f : Nat → UInt8} (h : Ow w B e v ((rw k f ++ [f k]).map bv)) : Ow w B e v ((rw (k + 1) f).map bv) := by rw [Mx.rw_succ]; exact h
set_option maxHeartbeats 1000000 in
set_option maxRecDepth 100000 in
theorem rmmul_no (v v' : Value) (n q q' : Nat) (g : Nat → List UInt8) (a : Mx.M) (B D : Nat) (w : World) (ha : RdM w B v n (fun i => rw q (a i))) (hb : RdM w D v' q' g) (hn : 0 < n) (hne : q ≠ q') :
    Calls Try.prog 15 #[v, v'] w fun e w' => e = .returned (.slice none 0 0) ∧ w = w' := by
  obtain ⟨A, c, rfl, hc, hm⟩ := ha.shape
  obtain ⟨A', c', rfl, hc', hm'⟩ := hb.shape
  obtain ⟨ba, offa, rfl, hba⟩ := ha.open_ hn
  obtain ⟨A0, c0, hcell0, h0c, h0m, hr0⟩ := ha.rowT (j := 0) hn
  rw [Nat.add_zero] at hcell0
  have t : ((q : Int) != (q' : Int)) = true := bne_iff_ne.2 (fun e => hne (Int.ofNat.inj e))
  clear hne hr0 ha hb
  go_enter Try.func15, Try.ntmps15
  go_wp2_with fail
  go_ret
  exact ⟨rfl, rfl⟩
theorem sum_step (a b x : UInt8) : Value.int .u8 (bits .xor .u8 (x.toNat : Int) (Gf.gm a.toNat b.toNat : Int)) = .int .u8 (((x ^^^ fm a b).toNat : Nat) : Int) := by
  rw [xor_n8 _ _ x.toNat_lt (Gf.gm_lt _ a.toNat_lt), UInt8.toNat_xor, Mx.fm_nat]
theorem rmul_q (x y : UInt8) (w : World) (n : Nat) : Calls Try.prog 26 #[.int .u8 (x.toNat : Int), .int .u8 (y.toNat : Int)] (w.drewN n) fun e w'' => e = .returned (.int .u8 (Gf.gm x.toNat y.toNat : Int)) ∧ ∃ m, w'' = w.drewN m :=
  (rmul_any x.toNat y.toNat _ x.toNat_lt y.toNat_lt).mono fun _ _ h => ⟨h.1, n, h.2.symm⟩
set_option maxHeartbeats 4000000 in
set_option maxRecDepth 100000 in
theorem rmmul_any (v v' : Value) (n q r : Nat) (a b : Mx.M) (w : World) (ha : RdM w w.heap.size v n (fun i => rw q (a i))) (hb : RdM w w.heap.size v' q (fun i => rw r (b i))) (hn : 0 < n) (hq : 0 < q) (hr : 0 < r) (hn2 : n ≤ 1000000) (hr2 : r ≤ 1000000) :
    Calls Try.prog 15 #[v, v'] w fun e w' => (∃ x vs, e = .returned x ∧ OwM w' w.heap.size x vs n (fun i => rw r (mm q a b i))) ∧ Below w.heap.size w w' := by
  obtain ⟨A, c, rfl, hc, hm⟩ := ha.shape
  obtain ⟨A', c', rfl, hc', hm'⟩ := hb.shape
  unfold maxLen at hm hm'
  obtain ⟨ba, offa, rfl, hba⟩ := ha.open_ hn
  obtain ⟨bb, offb, rfl, hbb⟩ := hb.open_ hq
  obtain ⟨A0, c0, hcell0, h0c, h0m, hr0⟩ := ha.rowT (j := 0) hn
  obtain ⟨A1, c1, hcell1, h1c, h1m, hr1⟩ := hb.rowT (j := 0) hq
  rw [Nat.add_zero] at hcell0 hcell1
  clear hr0 hr1
  go_enter Try.func15, Try.ntmps15
  go_wp2_with fail
  clear hcell0
  go_loopw [5, 6, 7, 8, 9, 10] (fun o i _ _ _ _ wr => ∃ k : Nat, k ≤ n ∧ i = .int .i64 k ∧ (∃ vs, OwM wr w.heap.size o vs k (fun i => rw r (mm q a b i))) ∧ Below w.heap.size w wr) (fun _ i _ _ _ _ _ => n - (intOf i).toNat)
  case atStart => exact ⟨0, by omega, rfl, ⟨_, OwM.nil _ _ _⟩, Below.refl _ _⟩
  case round =>
    obtain ⟨i, hi, rfl, ⟨vs, ho⟩, hbw⟩ := hrel
    obtain ⟨Ao, co, rfl, hco, hmo⟩ := ho.rd.shape
    by_cases hlt : i < n
    · obtain ⟨A3, c3, hcell3, h3c, h3m, hr3⟩ := ha.rowT hlt
      obtain ⟨b3, off3, rfl, hb3, hc3⟩ := hr3.cellR hq
      have hB := Bld.fresh ho hbw
      clear ho hr3
      go_wp2_with fail
      go_loopw [7, 8, 9, 10] (fun u j _ _ wr => ∃ k : Nat, k ≤ r ∧ j = .int .i64 k ∧ Bld w wr (.slice Ao i co) vs i (fun i => rw r (mm q a b i)) u (rw k (mm q a b i))) (fun _ j _ _ _ => r - (intOf j).toNat)
      case atStart => exact ⟨0, by omega, rfl, hB⟩
      case round =>
        clear hB hbw
        obtain ⟨j, hj, rfl, hB⟩ := hrel
        have hcell1w := (hB.bel.cell (p := ⟨bb, offb, none⟩) hbb).trans hcell1
        by_cases hjl : j < r
        · go_wp2_with fail
          go_loopw [9, 10] (fun x l wr => ∃ k : Nat, k ≤ q ∧ l = .int .i64 k ∧ x = .int .u8 ((sm k fun l => fm (a i l) (b l j)).toNat : Int) ∧ Bld w wr (.slice Ao i co) vs i (fun i => rw r (mm q a b i)) u7 (rw j (mm q a b i))) (fun _ l _ => q - (intOf l).toNat)
          case atStart => exact ⟨0, by omega, rfl, rfl, hB⟩
          case round =>
            clear hB hcell1w
            obtain ⟨l, hl, rfl, rfl, hB⟩ := hrel
            by_cases hll : l < q
            · obtain ⟨A5, c5, hcell5, h5c, h5m, hr5⟩ := hb.rowT hll
              obtain ⟨b5, off5, rfl, hb5, hc5⟩ := hr5.cellR hr
              have k3 := (hB.bel.cell (p := ⟨ba, offa + i, none⟩) hba).trans hcell3
              have k4 := (hB.bel.cell (p := ⟨b3, off3 + l, none⟩) hb3).trans (hc3 l hll)
              have k5 := (hB.bel.cell (p := ⟨bb, offb + l, none⟩) hbb).trans hcell5
              have k6 := (hB.bel.cell (p := ⟨b5, off5 + j, none⟩) hb5).trans (hc5 j hjl)
              have HS := Lib.hid (sum_step (a i l) (b l j) (sm l fun l => fm (a i l) (b l j)))
              have HM : Hid (sm (l + 1) (fun l => fm (a i l) (b l j)) = (sm l fun l => fm (a i l) (b l j)) ^^^ fm (a i l) (b l j)) := Lib.hid rfl
              have HB := Lib.hid hB
              clear hB hcell5 hr5 hc5
              generalize (sm l fun l => fm (a i l) (b l j)) = s at *
              go_wp2_with fail
              go_quiet (first | (go_at_call 26; exact rmul_q (a i l) (b l j) _ _))
              go_wp2_with fail
              go_roundw
              case rel => exact ⟨l + 1, by omega, by go_num, by rw [HM.out]; exact HS.out, HB.out.up (bwN _)⟩
              case measure => simp [intOf]; omega
            · obtain rfl : l = q := by omega
              have HM : Hid (bv (mm l a b i j) = .int .u8 ((sm l fun l => fm (a i l) (b l j)).toNat : Int)) := Lib.hid rfl
              generalize (sm l fun l => fm (a i l) (b l j)) = s at *
              have hrd : Rd (wr.alloc (.cells #[.int .u8 (s.toNat : Int)] 5)) _ (.slice (some ⟨wr.heap.size, 0, none⟩) 1 1) ([mm l a b i j].map bv) := Rd.newW wr 5 #[.int .u8 (s.toNat : Int)] rfl (by simp [maxLen]) (by rw [List.map_singleton, HM.out])
              have hB2 := hB.up (bwalloc (Below.refl _ _) (.cells #[.int .u8 (s.toNat : Int)] 5))
              have hsz : w.heap.size ≤ (wr.alloc (.cells #[.int .u8 (s.toNat : Int)] 5)).heap.size := hB2.bel.size
              have hlen : (rw j (mm l a b i)).length + [mm l a b i j].length ≤ 140737488355328 := by rw [rw_len]; simp; omega
              clear hB HM
              go_wp2_with (at_builtin; refine wpList_appB bytesT rfl (.tmp 55) (.tmp 57) rfl rfl hB2.ro rfl hrd hlen hsz ?_; intro v' w' ho hg h3; have HB := Lib.hid (hB2.app ho hg h3); clear ho hg h3 hrd hB2)
              go_roundw
              case rel =>
                have HB2 : Bld w w' (.slice Ao i co) vs i (fun i => rw r (mm l a b i)) v' (rw (j + 1) (mm l a b i)) := by rw [Mx.rw_succ]; exact HB.out
                first
                  | exact ⟨j + 1, by omega, by go_num, HB2⟩
                  | ((repeat apply Exists.intro); exact ⟨⟨j + 1, by omega, by go_num, HB2⟩, rfl⟩)
              case measure => simp [intOf]; omega
        · obtain rfl : j = r := by omega
          obtain ⟨Au, cu, rfl, -, -⟩ := hB.ro.rd.shapeR
          have hone := one_one hB.ro.oneV
          have hrd : Rd (wr.alloc (.cells #[.slice Au j cu] 29)) _ (.slice (some ⟨wr.heap.size, 0, none⟩) 1 1) [.slice Au j cu] := Rd.newW wr 29 #[.slice Au j cu] rfl (by simp [maxLen]) rfl
          have hB2 := hB.up (bwalloc (Below.refl _ _) (.cells #[.slice Au j cu] 29))
          have hsz : w.heap.size ≤ (wr.alloc (.cells #[.slice Au j cu] 29)).heap.size := hB2.bel.size
          have hl1 : ((List.range i).map vs).length + [Value.slice Au j cu].length ≤ maxLen := by simp [maxLen]; omega
          have hl2 : (((List.range i).map vs).length + [Value.slice Au j cu].length) * 24 ≤ 140737488355328 := by simp; omega
          clear hB
          go_wp2_with (at_builtin; refine wpList_app rowsT rfl rfl (.tmp 59) (.tmp 61) rfl rfl hB2.om.out rfl hrd hone hl1 hl2 hsz ?_; intro v' w' ho hg h3; have HB := Lib.hid (hB2.push ho hg h3); clear ho hg h3 hrd hB2 hone)
          go_roundw
          case rel => exact ⟨i + 1, by omega, by go_num, ⟨_, HB.out.1.congr fun i' _ => by
            by_cases e : i' = i
            · rw [if_pos e, e]
            · rw [if_neg e]⟩, HB.out.2⟩
          case measure => simp [intOf]; omega
    · obtain rfl : i = n := by omega
      go_wp2_with fail
      go_ret
      exact ⟨⟨_, vs, rfl, ho⟩, hbw⟩
end Go.Proofs.Ytjhnbhgpnmfdgaa
