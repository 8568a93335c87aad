/- The contract of the reference's Encode. -/
import Derived.Test.YtfnenehiapibiaaEnc
import Derived.Test.YtfnenehiapibiaaMatRf
import Derived.Test.YtfnenehiapibiaaRefA
namespace Go.Proofs.Ytfnenehiapibiaa
open Go.RowKit
open Mx (rw rw_len rw_get rw_congr dl cod mm fm sm)

theorem rshpN_ok (k f n : Nat) (w : World) (h : isShN k f) (hn : k + 2 * f = n) :
    Calls Try.prog 14 #[shp k f] w fun e w' => e = .returned (.int .i64 (n : Int)) ∧ Below w.heap.size w w' := by
  refine (rshpN_any k f w h.int).mono ?_
  rintro e w' ⟨rfl, hb⟩
  exact ⟨ret1 (vi (by omega)), hb⟩
set_option maxHeartbeats 4000000 in
set_option maxRecDepth 100000 in
theorem rencode_ok (k f n : Nat) (s : ByteArray) (w : World) (h : isShN k f) (hn : k + 2 * f = n) (hs : s.size ≤ 512) :
    Calls Try.prog 16 #[shp k f, .string s] w fun e w' => (∃ x vs, e = .returned x ∧ OwM w' w.heap.size x vs n (fun i => rw (mlen k s) (shM k s i))) ∧ Below w.heap.size w w' := by
  have hk := h.1
  have h2 := h.2
  have hI := InBox.new w k f
  have hb : Below w.heap.size w (w.alloc (.cells #[.int .i64 k, .int .i64 f] 23)) := bwalloc (Below.refl _ _) _
  obtain ⟨M, hM1, hM2, hM3⟩ : ∃ M, s.size + 4 ≤ M ∧ M < s.size + 4 + k ∧ M % k = 0 := ⟨k * mlen k s, mlen_le hk s, mlen_lt hk s, Nat.mul_mod_right _ _⟩
  have hlt0 := hI.lt
  generalize hw0 : w.alloc (.cells #[.int .i64 k, .int .i64 f] 23) = w0 at *
  go_enter Try.func16, Try.ntmps16
  go_wp2_with (refine boxH rfl (.tmp 0) k f rfl rfl ?_)
  constructor
  go_wp2_with fail
  refine (rtext_ok s _ (by omega)).mono ?_
  rintro e w1 ⟨v, rfl, ho, hb1⟩
  rw [tx_start] at ho
  obtain ⟨A0, cap0, rfl, -, -⟩ := ho.rd.shapeR
  clear hw0
  go_wp2_with fail
  go_loopw [5] (fun v wr => ∃ L : Nat, s.size + 4 ≤ L ∧ L ≤ M ∧ slen v = L ∧ Ow wr w0.heap.size 5 v ((rw L (tx s)).map bv) ∧ Below w0.heap.size w0 wr) (fun v _ => s.size + 4 + k - slen v)
  case atStart => exact ⟨s.size + 4, Nat.le_refl _, by omega, rfl, ho, hb1⟩
  case round =>
    clear ho hb1
    obtain ⟨L, h1, h2', hsl, ho, hb1⟩ := hrel
    have h2L : L < s.size + 4 + k := by omega
    obtain ⟨A, c, rfl, hc, hcm⟩ := ho.rd.shapeR
    have hk0 : ¬ (k : Int) = 0 := by omega
    have hIr := hI.below hb1
    have c0 := hIr.c0
    by_cases h0 : L % k = 0
    · have t0 : ((L : Int) % (k : Int) != 0) = false := by
        have : (L : Int) % (k : Int) = ((L % k : Nat) : Int) := rfl
        rw [this, h0]; rfl
      have hdiv : L = k * (L / k) := by have := Nat.div_add_mod L k; omega
      have tq : (L : Int) / (k : Int) = ((L / k : Nat) : Int) := rfl
      have hq0 : 0 < L / k := by
        apply Nat.pos_of_ne_zero
        intro e
        rw [e, Nat.mul_zero] at hdiv
        omega
      have hml := mlen_of hk hdiv h1 h2L
      have hq1 : L / k ≤ 1012 := Nat.le_trans (Nat.div_le_self _ _) (by omega)
      generalize L / k = q at *
      have HM := Lib.hid hml
      have hL1 : L ≤ 1012 := by omega
      have HD := Lib.hid hdiv
      obtain ⟨gb, rfl, hgb1, hgb2, -⟩ := ho.at_ (k := 0) (by rw [List.length_map, rw_len]; omega)
      have htx := ho.rd
      clear hml hdiv h0 h2L h2' hsl hM1 hM2 hM3 ho
      go_wp2_with fail
      go_loopw [7, 8] (fun p i w2 => ∃ j : Nat, j ≤ k ∧ i = .int .i64 (j : Int) ∧ Ow w2 wr.heap.size 39 p ((List.range j).map fun i => .slice (some ⟨gb, i * q, none⟩) q (c - i * q)) ∧ Below wr.heap.size wr w2) (fun _ i _ => k - (intOf i).toNat)
      case atStart => exact ⟨0, by omega, rfl, Ow.nil _ _ _, Below.refl _ _⟩
      case round =>
        obtain ⟨j, hj, rfl, hp, hbw⟩ := hrel
        have hIw := hIr.below hbw
        have c0w := hIw.c0
        by_cases hlt : j < k
        · obtain ⟨lo, hlo⟩ : ∃ lo, lo = j * q := ⟨_, rfl⟩
          have hle : lo + q ≤ L := by
            have := Nat.mul_le_mul_right q (show j + 1 ≤ k by omega)
            rw [Nat.succ_mul] at this
            rw [hlo, HD.out]
            exact this
          have t1 : (j : Int) * (q : Int) = (lo : Int) := by rw [hlo]; push_cast; rfl
          have t2 : ((j : Int) + 1) * (q : Int) = (lo : Int) + (q : Int) := by rw [Int.add_mul, t1, Int.one_mul]
          have HL := Lib.hid hlo
          clear hlo
          have hnc : ¬ c = lo := by omega
          have hone : One [Value.slice (some ⟨gb, lo, none⟩) q (c - lo)] := one_one rfl
          have hrd : Rd (wr.alloc (.cells #[.slice (some ⟨gb, lo, none⟩) q (c - lo)] 39)) _ (.slice (some ⟨wr.heap.size, 0, none⟩) 1 1) [.slice (some ⟨gb, lo, none⟩) q (c - lo)] := Rd.newW wr 39 #[.slice (some ⟨gb, lo, none⟩) q (c - lo)] rfl (by simp [maxLen]) rfl
          have hba : Below wr.heap.size wr (wr.alloc (.cells #[.slice (some ⟨gb, lo, none⟩) q (c - lo)] 39)) := bwalloc (Below.refl _ _) _
          have hp2 := hp.below hba
          have hbw2 := bwstep hbw hba
          have hsz := hbw2.size
          have hl1 : ((List.range j).map fun i => Value.slice (some ⟨gb, i * q, none⟩) q (c - i * q)).length + [Value.slice (some ⟨gb, lo, none⟩) q (c - lo)].length ≤ maxLen := by simp [maxLen]; omega
          have hl2 : (((List.range j).map fun i => Value.slice (some ⟨gb, i * q, none⟩) q (c - i * q)).length + [Value.slice (some ⟨gb, lo, none⟩) q (c - lo)].length) * 24 ≤ 140737488355328 := by simp; omega
          clear hp hba hIr hIw
          go_wp2_with (at_builtin; refine wpList_app rowsT rfl rfl (.tmp 31) (.tmp 41) rfl rfl hp2 rfl hrd hone hl1 hl2 hsz ?_; intro v' w' ho3 hg h3; have HB := Lib.hid (hbw2.grown hg hsz hp2.ge); have HO := Lib.hid ho3; clear ho3 hg h3 hrd hp2 hone hbw2)
          go_roundw
          case rel => exact ⟨j + 1, by omega, by go_num, by rw [List.range_succ, List.map_append, List.map_singleton, ← HL.out]; exact HO.out, HB.out⟩
          case measure => simp [intOf]; omega
        · obtain rfl : j = k := by omega
          have hbb := bwstep hb1 hbw
          have hy : RdM wr wr.heap.size _ j (fun i => rw (mlen j s) (pcM j s i)) := ⟨_, hp.rd, fun i hi => by
            have hlo : i * q + q ≤ L := by
              have := Nat.mul_le_mul_right q (show i + 1 ≤ j by omega)
              rw [Nat.succ_mul] at this
              rw [HD.out]
              exact this
            have hr := (htx.up hbw).midC (lo := i * q) (hi := i * q + q) (by omega) hlo (by omega)
            rw [Nat.add_sub_cancel_left, Nat.zero_add, ← List.map_take, ← List.map_drop, rw_cut _ _ _ _ hlo] at hr
            rw [show mlen j s = q from HM.out]
            unfold pcM
            rw [show mlen j s = q from HM.out]
            exact hr⟩
          obtain ⟨AP, cP, rfl, -, -⟩ := hp.rd.shape
          have S0 : InBox w.heap.size j f wr.drew ∧ wr.drew.cell? ⟨w.heap.size, 0, none⟩ = some (.int .i64 (j : Int)) ∧ wr.drew.cell? ⟨w.heap.size, 1, none⟩ = some (.int .i64 (f : Int)) ∧ Below wr.heap.size wr wr.drew := ⟨hIw, hIw.c0, hIw.c1, (Below.refl _ _).drew⟩
          have HU : Hid (∀ a b : World, (InBox w.heap.size j f a ∧ a.cell? ⟨w.heap.size, 0, none⟩ = some (.int .i64 (j : Int)) ∧ a.cell? ⟨w.heap.size, 1, none⟩ = some (.int .i64 (f : Int)) ∧ Below wr.heap.size wr a) → Below a.heap.size a b → (InBox w.heap.size j f b ∧ b.cell? ⟨w.heap.size, 0, none⟩ = some (.int .i64 (j : Int)) ∧ b.cell? ⟨w.heap.size, 1, none⟩ = some (.int .i64 (f : Int)) ∧ Below wr.heap.size wr b)) :=
            Lib.hid fun a b hS hb => ⟨hS.1.below hb, (hS.1.below hb).c0, (hS.1.below hb).c1, bwstep hS.2.2.2 hb⟩
          have HT := Lib.hid S0
          have hms := mlen_small hk s (by omega)
          have hmp := mlen_pos hk s
          rw [List.length_map, List.length_range] at hy
          clear S0 hp hbw htx c0 hIr hIw hlt
          rw [List.length_map, List.length_range]
          go_wp2_with fail
          go_region_held3 (fun w' => InBox w.heap.size j f w' ∧ w'.cell? ⟨w.heap.size, 0, none⟩ = some (.int .i64 (j : Int)) ∧ w'.cell? ⟨w.heap.size, 1, none⟩ = some (.int .i64 (f : Int)) ∧ Below wr.heap.size wr w') (first | exact HT.out | assumption | exact HU.out _ _ (by assumption) (by assumption))
            (first
              | (refine wp_loadS (.tmp 2) rfl rfl (And.left (by assumption)) ?_)
              | (go_at_call 14; refine (rshpN_ok j f n _ h hn).mono ?_; rintro e wn ⟨rfl, hbn⟩)
              | (go_at_call 29; refine (rcod_any j n _ (by omega) (by omega)).mono ?_; rintro e wx ⟨⟨x, vx, rfl, hx⟩, hbx⟩)
              | (go_at_call 28; refine (rmmul_any _ _ n j (mlen j s) (cod j) (pcM j s) _ hx.rd (hy.up (And.right (And.right (And.right (by assumption))))) (by omega) (by omega) hmp (by omega) (by omega)).mono ?_; rintro e wz ⟨⟨z, vz, rfl, hz⟩, hbz⟩))
          have hb9 : Below wr.heap.size wr _ := And.right (And.right (And.right (by assumption)))
          have hsz : w.heap.size ≤ wx.heap.size := by
            have e0 := hb.size
            have e1 := hbb.size
            have e2 : wr.heap.size ≤ wn.heap.size := hbn.size
            have e3 := hbx.size
            omega
          go_wp2_with fail
          go_ret
          exact ⟨⟨_, _, rfl, hz.mono hsz⟩, bwstep (bwstep hb hbb) hb9⟩
    · have t0 : ((L : Int) % (k : Int) != 0) = true := by
        have : (L : Int) % (k : Int) = ((L % k : Nat) : Int) := rfl
        rw [this, bne_iff_ne]
        omega
      have hnext : L + 1 ≤ M := by
        have : L ≠ M := fun e => h0 (by rw [e]; exact hM3)
        omega
      have hrd : Rd (wr.alloc (.cells #[.int .u8 0] 5)) _ (.slice (some ⟨wr.heap.size, 0, none⟩) 1 1) (([0] : List UInt8).map bv) := Rd.newW wr 5 #[.int .u8 0] rfl (by simp [maxLen]) rfl
      have hb2 : Below wr.heap.size wr (wr.alloc (.cells #[.int .u8 0] 5)) := bwalloc (Below.refl _ _) _
      have ho2 := ho.below hb2
      have hbw2 := bwstep hb1 hb2
      have hsz := hbw2.size
      have hl : (rw L (tx s)).length + ([0] : List UInt8).length ≤ 140737488355328 := by rw [rw_len]; simp; omega
      clear ho hb2 hIr
      go_wp2_with (at_builtin; refine wpList_appB bytesT rfl (.tmp 17) (.tmp 18) rfl rfl ho2 rfl hrd hl hsz ?_; intro v' w' ho3 hg h3; have HB := Lib.hid (hbw2.grown hg hsz ho2.ge); rw [tx_step s L h1] at ho3; have HO := Lib.hid ho3; have HS : Hid (slen v' = L + 1) := Lib.hid (by obtain ⟨A', c', rfl, -, -⟩ := ho3.rd.shapeR; rfl); clear ho3 hg h3 hrd ho2 hbw2)
      go_roundw
      case rel => exact ⟨L + 1, by omega, hnext, HS.out, HO.out, HB.out⟩
      case measure => rw [HS.out]; simp [slen]; omega
end Go.Proofs.Ytfnenehiapibiaa
