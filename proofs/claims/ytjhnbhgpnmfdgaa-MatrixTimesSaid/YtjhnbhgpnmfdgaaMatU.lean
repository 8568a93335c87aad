/- The contract of the reference's coding. -/
import Derived.Test.YtjhnbhgpnmfdgaaBld
import Derived.Test.YtjhnbhgpnmfdgaaFldQ
import Derived.Test.YtjhnbhgpnmfdgaaMatC
import Derived.IntWalk
namespace Go.Proofs.Ytjhnbhgpnmfdgaa
open Go.RowKit
open Mx (rw rw_len rw_get rw_congr cod dl)

theorem byte_xor' (i j : Nat) (hi : i < 256) (hj : j < 256) : bits .xor .i64 (i : Int) (j : Int) % 256 = ((i ^^^ j : Nat) : Int) := by
  have hx : i ^^^ j < 256 := Gf.xor_lt hi hj
  rw [xor_i64 i j (by omega) (by omega)]
  omega
theorem cod_big (k i j : Nat) (hi : ¬ i < k) (h : i < 256) (hj : j < 256) : bv (cod k i j) = .int .u8 ((Gf.inv (i ^^^ j) : Nat) : Int) := by
  have hx : i ^^^ j < 256 := Gf.xor_lt h hj
  unfold bv cod
  rw [if_neg hi, Mx.fi_nat, Mx.ofNat_nat hx]
theorem cod_same (k i : Nat) (hi : i < k) : bv (cod k i i) = .int .u8 1 := by unfold cod; rw [if_pos hi, Mx.dl_self]; rfl
theorem cod_other (k i j : Nat) (hi : i < k) (h : i ≠ j) : bv (cod k i j) = .int .u8 0 := by unfold cod; rw [if_pos hi, Mx.dl_ne h]; rfl
set_option maxHeartbeats 4000000 in
set_option maxRecDepth 100000 in
theorem rcod_any (k n : Nat) (w : World) (hk : k ≤ 256) (hn : n ≤ 256) :
    Calls Try.prog 20 #[.int .i64 (k : Int), .int .i64 (n : Int)] w fun e w' => (∃ x vs, e = .returned x ∧ OwM w' w.heap.size x vs n (fun i => rw k (cod k i))) ∧ Below w.heap.size w w' := by
  go_enter Try.func20, Try.ntmps20
  go_wp2_with fail
  go_loopw [5, 6, 7, 8, 9] (fun o i _ _ _ wr => ∃ i' : Nat, i' ≤ n ∧ i = .int .i64 i' ∧ (∃ vs, OwM wr w.heap.size o vs i' (fun i => rw k (cod k i))) ∧ Below w.heap.size w wr) (fun _ i _ _ _ _ => n - (intOf i).toNat)
  case atStart => exact ⟨0, by omega, rfl, ⟨_, OwM.nil _ _ _⟩, Below.refl _ _⟩
  case round =>
    obtain ⟨i, hi, rfl, ⟨vs, ho⟩, hbw⟩ := hrel
    obtain ⟨Ao, co, rfl, hco, hmo⟩ := ho.rd.shape
    by_cases hlt : i < n
    · have hB := Bld.fresh ho hbw
      clear ho
      go_wp2_with fail
      go_loopw [7, 8, 9] (fun u j _ wr => ∃ j' : Nat, j' ≤ k ∧ j = .int .i64 j' ∧ Bld w wr (.slice Ao i co) vs i (fun i => rw k (cod k i)) u (rw j' (cod k i))) (fun _ j _ _ => k - (intOf j).toNat)
      case atStart => exact ⟨0, by omega, rfl, hB⟩
      case round =>
        clear hB hbw
        obtain ⟨j, hj, rfl, hB⟩ := hrel
        by_cases hjl : j < k
        · by_cases hik : i < k
          · by_cases hij : i = j
            · subst hij
              have HM := Lib.hid (cod_same k i hik)
              have hrd : Rd (wr.alloc (.cells #[.int .u8 1] 5)) _ (.slice (some ⟨wr.heap.size, 0, none⟩) 1 1) ([cod k i i].map bv) := Rd.newW wr 5 #[.int .u8 1] rfl (by simp [maxLen]) (by rw [List.map_singleton, HM.out])
              have hB2 := hB.up (bwalloc (Below.refl _ _) (.cells #[.int .u8 1] 5))
              have hsz : w.heap.size ≤ (wr.alloc (.cells #[.int .u8 1] 5)).heap.size := hB2.bel.size
              have hlen : (rw i (cod k i)).length + [cod k i i].length ≤ 140737488355328 := by rw [rw_len]; simp; omega
              clear hB HM
              go_wp2_with (at_builtin; refine wpList_appB bytesT rfl (.tmp 31) (.tmp 33) rfl rfl hB2.ro rfl hrd hlen hsz ?_; intro v' w' ho hg h3; have HB := Lib.hid (hB2.app ho hg h3); clear ho hg h3 hrd hB2)
              go_roundw
              case rel =>
                have HB2 : Bld w w' (.slice Ao i co) vs i (fun i => rw k (cod k i)) v' (rw (i + 1) (cod k i)) := by rw [Mx.rw_succ]; exact HB.out
                first
                  | exact ⟨i + 1, by omega, by go_num, HB2⟩
                  | ((repeat apply Exists.intro); exact ⟨⟨i + 1, by omega, by go_num, HB2⟩, rfl⟩)
              case measure => simp [intOf]; omega
            · have HM := Lib.hid (cod_other k i j hik hij)
              have hne : ((i : Int) == (j : Int)) = false := by simp; omega
              have hrd : Rd (wr.alloc (.cells #[.int .u8 0] 5)) _ (.slice (some ⟨wr.heap.size, 0, none⟩) 1 1) ([cod k i j].map bv) := Rd.newW wr 5 #[.int .u8 0] rfl (by simp [maxLen]) (by rw [List.map_singleton, HM.out])
              have hB2 := hB.up (bwalloc (Below.refl _ _) (.cells #[.int .u8 0] 5))
              have hsz : w.heap.size ≤ (wr.alloc (.cells #[.int .u8 0] 5)).heap.size := hB2.bel.size
              have hlen : (rw j (cod k i)).length + [cod k i j].length ≤ 140737488355328 := by rw [rw_len]; simp; omega
              clear hB HM
              go_wp2_with (at_builtin; refine wpList_appB bytesT rfl (.tmp 31) (.tmp 33) rfl rfl hB2.ro rfl hrd hlen hsz ?_; intro v' w' ho hg h3; have HB := Lib.hid (hB2.app ho hg h3); clear ho hg h3 hrd hB2)
              go_roundw
              case rel =>
                have HB2 : Bld w w' (.slice Ao i co) vs i (fun i => rw k (cod k i)) v' (rw (j + 1) (cod k i)) := by rw [Mx.rw_succ]; exact HB.out
                first
                  | exact ⟨j + 1, by omega, by go_num, HB2⟩
                  | ((repeat apply Exists.intro); exact ⟨⟨j + 1, by omega, by go_num, HB2⟩, rfl⟩)
              case measure => simp [intOf]; omega
          · have HM := Lib.hid (cod_big k i j hik (by omega) (by omega))
            have hx : i ^^^ j < 256 := Gf.xor_lt (by omega) (by omega)
            have HX := Lib.hid (byte_xor' i j (by omega) (by omega))
            have hne : ((i : Int) == (j : Int)) = false := by simp; omega
            have hik' : (k : Int) ≤ (i : Int) := by omega
            have hrd : Rd (wr.alloc (.cells #[.int .u8 ((Gf.inv (i ^^^ j) : Nat) : Int)] 5)) _ (.slice (some ⟨wr.heap.size, 0, none⟩) 1 1) ([cod k i j].map bv) := Rd.newW wr 5 #[.int .u8 ((Gf.inv (i ^^^ j) : Nat) : Int)] rfl (by simp [maxLen]) (by rw [List.map_singleton, HM.out])
            have hB2 := hB.up (bwalloc (Below.refl _ _) (.cells #[.int .u8 ((Gf.inv (i ^^^ j) : Nat) : Int)] 5))
            have hsz : w.heap.size ≤ (wr.alloc (.cells #[.int .u8 ((Gf.inv (i ^^^ j) : Nat) : Int)] 5)).heap.size := hB2.bel.size
            have hlen : (rw j (cod k i)).length + [cod k i j].length ≤ 140737488355328 := by rw [rw_len]; simp; omega
            clear hB HM
            go_wp2_with fail
            rw [HX.out]
            refine (rinv_any (i ^^^ j) _ hx).mono ?_
            rintro e w' ⟨rfl, rfl⟩
            go_wp2_with (at_builtin; refine wpList_appB bytesT rfl (.tmp 31) (.tmp 33) rfl rfl hB2.ro rfl hrd hlen hsz ?_; intro v' w' ho hg h3; have HB := Lib.hid (hB2.app ho hg h3); clear ho hg h3 hrd hB2)
            go_roundw
            case rel =>
              have HB2 : Bld w w' (.slice Ao i co) vs i (fun i => rw k (cod k i)) v' (rw (j + 1) (cod k i)) := by rw [Mx.rw_succ]; exact HB.out
              first
                | exact ⟨j + 1, by omega, by go_num, HB2⟩
                | ((repeat apply Exists.intro); exact ⟨⟨j + 1, by omega, by go_num, HB2⟩, rfl⟩)
            case measure => simp [intOf]; omega
        · obtain rfl : j = k := by omega
          obtain ⟨Au, cu, rfl, -, -⟩ := hB.ro.rd.shapeR
          have hone := one_one hB.ro.oneV
          have hrd : Rd (wr.alloc (.cells #[.slice Au j cu] 29)) _ (.slice (some ⟨wr.heap.size, 0, none⟩) 1 1) [.slice Au j cu] := Rd.newW wr 29 #[.slice Au j cu] rfl (by simp [maxLen]) rfl
          have hB2 := hB.up (bwalloc (Below.refl _ _) (.cells #[.slice Au j cu] 29))
          have hsz : w.heap.size ≤ (wr.alloc (.cells #[.slice Au j cu] 29)).heap.size := hB2.bel.size
          have hl1 : ((List.range i).map vs).length + [Value.slice Au j cu].length ≤ maxLen := by simp [maxLen]; omega
          have hl2 : (((List.range i).map vs).length + [Value.slice Au j cu].length) * 24 ≤ 140737488355328 := by simp; omega
          clear hB
          go_wp2_with (at_builtin; refine wpList_app rowsT rfl rfl (.tmp 35) (.tmp 37) rfl rfl hB2.om.out rfl hrd hone hl1 hl2 hsz ?_; intro v' w' ho hg h3; have HB := Lib.hid (hB2.push ho hg h3); clear ho hg h3 hrd hB2 hone)
          go_roundw
          case rel => exact ⟨i + 1, by omega, by go_num, ⟨_, HB.out.1.congr fun i' _ => by
            by_cases e : i' = i
            · rw [if_pos e, e]
            · rw [if_neg e]⟩, HB.out.2⟩
          case measure => simp [intOf]; omega
    · obtain rfl : i = n := by omega
      go_wp2_with fail
      go_ret
      exact ⟨⟨_, vs, rfl, ho⟩, hbw⟩
end Go.Proofs.Ytjhnbhgpnmfdgaa
