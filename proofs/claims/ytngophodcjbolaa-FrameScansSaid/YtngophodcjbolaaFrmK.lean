/- The statement FrameKeeps: its walk, to the end. -/
import Derived.Test.YtngophodcjbolaaFrmW
namespace Go.Proofs.Ytngophodcjbolaa
open Go.RowKit Crc Frm

/-- rows that came in, as a list -/
theorem RdM.list {w : World} {B n M : Nat} {x : Value} {g : Nat → List UInt8} (h : RdM w B x n g) (hz : ∀ i, i < n → (g i).length ≤ M) :
    ∃ L : List (List UInt8), RdM w B x L.length (gl L) ∧ ∀ r ∈ L, r.length ≤ M := by
  obtain ⟨h1, h2⟩ := gl_of n g
  refine ⟨(List.range n).map g, ?_, fun r hr => ?_⟩
  · rw [h1]
    exact h.congr h2
  · obtain ⟨i, hi, rfl⟩ := List.mem_map.1 hr
    exact hz i (List.mem_range.1 hi)
theorem few_rows {L : List (List UInt8)} (h : tot L ≤ 5000) : ∀ r ∈ L, r.length ≤ 65535 := fun r hr => by
  have := len_le_tot hr
  omega
theorem xor_255 (c : UInt8) : bits .xor .u8 (c.toNat : Int) 255 = ((c ^^^ 255).toNat : Int) := by
  have := xor_u8 c 255
  exact this
/-- a byte of a row of the call's own: read, and written -/
theorem OwM.byte {w : World} {B n k j : Nat} {A : Option Addr} {m c : Nat} {vs : Nat → Value} {g : Nat → List UInt8} (h : OwM w B (.slice A m c) vs n g) (hk : k < n) (hj : j < (g k).length) :
    ∃ (b g2 c2 : Nat) (u : UInt8), A = some ⟨b, 0, none⟩ ∧ w.cell? ⟨b, k, none⟩ = some (.slice (some ⟨g2, 0, none⟩) (g k).length c2) ∧ (g k).length ≤ c2 ∧ c2 ≤ maxLen ∧ B ≤ g2 ∧ g2 < w.heap.size ∧
      w.cell? ⟨g2, j, none⟩ = some (bv u) ∧ w.frozen? ⟨g2, j, none⟩ = false ∧ (∀ t : UInt8, ∃ l : List UInt8, l.length = (g k).length ∧ OwM (w.setCell ⟨g2, j, none⟩ (bv t)) B (.slice A m c) vs n (fun i => if i = k then l else g i)) := by
  obtain ⟨b, hA, _, _, hcell, _, _⟩ := h.out.at_ (k := k) (by simpa using hk)
  have hr := h.row k hk
  obtain ⟨A2, c2, hv, h2, h3⟩ := hr.rd.shapeM
  rw [hv] at hr
  obtain ⟨g2, hA2, hB2, hl2, hcell2, hfr, hset⟩ := hr.at_ (k := j) (by simpa using hj)
  subst hA2
  refine ⟨b, g2, c2, (g k)[j], hA, by rw [hcell]; simp [hv], h2, h3, hB2, hl2, by rw [hcell2]; simp, hfr, fun t => ⟨(g k).set j t, by simp, ?_⟩⟩
  refine h.setRow hk (by rw [hv]; exact grownBy_setCell _ _ _ _) ?_
  rw [hv]
  have := hset (bv t)
  rw [← List.map_set] at this
  exact this
set_option maxHeartbeats 2000000 in
set_option maxRecDepth 100000 in
theorem frameKeeps_walk (x : Value) (n : Nat) (g : Nat → List UInt8) (w : World) (hx : RdM w w.heap.size x n g) (hz : ∀ i, i < n → (g i).length ≤ 140737488351232) :
    Calls Try.prog 7 #[x] w fun e w' => e = .returned (.bool true) ∧ Below w.heap.size w w' := by
  obtain ⟨L, hL, hLz⟩ := hx.list hz
  clear hx hz
  obtain ⟨A, c, rfl, hc, hm⟩ := hL.shape
  unfold maxLen at hm
  go_enter Try.func7, Try.ntmps7
  go_wp2_with fail
  refine (fawake_ok _).mono ?_
  rintro e w1 ⟨rfl, hb1⟩
  go_wp2_with fail
  refine (rffew_any _ L _ _ (hL.up hb1) hLz).mono ?_
  rintro e w2 ⟨⟨q, rfl, hq⟩, rfl⟩
  cases q
  · go_wp2_with fail
    refine (fawake_ok _).mono ?_
    rintro e w3 ⟨rfl, hb3⟩
    go_wp2_with fail
    go_ret
    exact ⟨rfl, bwstep hb1 hb3⟩
  · obtain ⟨h100, h5⟩ := hq rfl
    have hrows := few_rows h5
    have hfl := flat_len L
    obtain ⟨b, hb⟩ : ∃ b, b = flat L := ⟨_, rfl⟩
    have hal := all_any _ L w2 (hL.up hb1) hrows (by omega)
    have hsc : Scanned b L [] := by rw [hb]; exact scanned_flat hrows
    rw [← hb] at hfl hal
    have hbl : b.length ≤ 6200 := by omega
    have HB := Lib.hid hb
    clear hq hfl hb
    go_wp2_with fail
    refine hal.mono ?_
    rintro e w3 ⟨⟨v3, rfl, h3⟩, hb3⟩
    obtain ⟨A3, c3, rfl, hc3, hm3⟩ := h3.rd.shapeM
    unfold maxLen at hm3
    have k3 := h3.rd.up (bwalloc (bwrefl w3) (.cells #[] 5))
    have hl0 : ([] : List UInt8).length + b.length ≤ 140737488355328 := by simp; omega
    go_wp2_with (at_builtin; refine wpList_appB bytesT rfl (.tmp 19) (.tmp 20) rfl rfl (Ow.empty w3 (Nat.le_refl _) _) rfl k3 hl0 (by simp) ?_; intro v4 w4 h4 g4 _; have hb4 := Ow.emptyG g4; rw [List.nil_append] at h4; have k3 := h3.rd.up hb4; clear g4 hl0)
    have hb4 := bwstep (bwstep hb1 hb3) hb4
    have k4 := h4.rd
    have h4 := h4.mono (show w.heap.size ≤ w3.heap.size from (bwstep hb1 hb3).size)
    have hsc := scan_any _ b [] L w4 k3 hsc (by omega)
    clear hb1 hb3 h3
    refine hsc.mono ?_
    rintro e w5 ⟨⟨v5, vs, rfl, h5⟩, hb5⟩
    obtain ⟨A5, c5, rfl, hc5, hm5⟩ := h5.rd.shape
    unfold maxLen at hm5
    go_wp2_with fail
    go_loopw [7, 8] (fun i _ wr => ∃ k : Nat, k ≤ L.length ∧ i = .int .i64 (k : Int) ∧ (∃ G, OwM wr w4.heap.size (.slice A5 L.length c5) vs L.length G) ∧ Below w4.heap.size w4 wr) (fun i _ _ => L.length - (intOf i).toNat)
    case atStart => exact ⟨0, by omega, rfl, ⟨_, h5⟩, hb5⟩
    case round =>
      clear h5 hb5
      obtain ⟨k, hk, rfl, ⟨G, h5⟩, hb5⟩ := hrel
      by_cases hlt : k < L.length
      · go_wp2_with fail
        go_loopw [8] (fun j wz => ∃ q : Nat, j = .int .i64 (q : Int) ∧ (∃ G', OwM wz w4.heap.size (.slice A5 L.length c5) vs L.length G' ∧ q ≤ (G' k).length ∧ (G' k).length = (G k).length) ∧ Below w4.heap.size w4 wz) (fun j _ => (G k).length - (intOf j).toNat)
        case atStart => exact ⟨0, rfl, ⟨_, h5, Nat.zero_le _, rfl⟩, hb5⟩
        case round =>
          clear h5 hb5
          obtain ⟨q, rfl, ⟨G', h5, hq, hG⟩, hb5⟩ := hrel
          by_cases hlq : q < (G' k).length
          · obtain ⟨b5, g2, c2, u, rfl, hcell, h2, h2m, hB2, hl2, hcu, hfr, hset⟩ := h5.byte hlt hlq
            obtain ⟨l, hll, hset⟩ := hset (u ^^^ 255)
            unfold bv at hcu hset
            rw [← xor_255] at hset
            have HS := Lib.hid hset
            have HB := Lib.hid (hb5.setCell (p := ⟨g2, q, none⟩) hB2 (.int .u8 (bits .xor .u8 (u.toNat : Int) 255)))
            have HL := Lib.hid hll
            unfold maxLen at h2m
            clear hset h5 hb5 hll
            go_wp2_with fail
            go_region
            go_wp2_with fail
            go_roundw
            case rel => exact ⟨q + 1, by go_num, ⟨_, HS.out.below (bwN 1), by simp only [if_true]; rw [HL.out]; omega, by simp only [if_true]; rw [HL.out, hG]⟩, below_drewN HB.out 1⟩
            case measure => simp [intOf]; omega
          · obtain rfl : q = (G' k).length := by omega
            obtain ⟨b5, o5, rfl, -⟩ := h5.rd.open_ (by omega)
            obtain ⟨A6, c6, hcell6, h6c, h6m, -⟩ := h5.rd.row hlt
            unfold maxLen at h6m
            go_wp2_with fail
            go_roundw
            case rel => exact ⟨k + 1, by omega, by go_num, ⟨_, h5⟩, hb5⟩
            case measure => simp [intOf]; omega
      · obtain rfl : k = L.length := by omega
        have k3 := k3.up hb5
        have k4 := k4.up hb5
        have hbb := bwstep hb4 hb5
        go_wp2_with fail
        refine (rsame_any _ _ b b _ _ _ k3 k4).mono ?_
        rintro e w7 ⟨rfl, rfl⟩
        rw [sameB_self]
        go_wp2_with fail
        go_ret
        exact ⟨rfl, hbb⟩
end Go.Proofs.Ytngophodcjbolaa
