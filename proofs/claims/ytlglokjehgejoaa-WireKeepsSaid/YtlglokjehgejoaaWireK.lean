/- The statements of layer 1: their walks, going on. -/
import Derived.Test.YtlglokjehgejoaaWireN
namespace Go.Proofs.Ytlglokjehgejoaa
open Go.RowKit

def iv (n : Int) : Value := .int .u8 n
theorem bv_iv (l : List UInt8) : l.map bv = (l.map fun b => (b.toNat : Int)).map iv := by
  rw [List.map_map]; rfl

theorem cutNum_some (x : Value) (l : List UInt8) (B : Nat) (w : World) (hr : Rd w B x (l.map bv)) (hl : l.length ≤ 1000000000000) :
    Calls Try.prog 18 #[x] w fun e w' => ∃ (n : Int) (r : Value) (ok : Bool) (m : List UInt8), e = .returned (.tuple #[.int .i64 n, r, .bool ok]) ∧ Ow w' w.heap.size 5 r (m.map bv) ∧ m.length ≤ l.length ∧ Below w.heap.size w w' := by
  by_cases h : 4 ≤ l.length
  · exact (cutNum_ok x l B w hr h hl).mono fun e w' ⟨r, he, ho, hb⟩ => ⟨_, r, true, _, he, ho, by simp, hb⟩
  · exact (cutNum_no x l B w hr (by omega)).mono fun e w' ⟨r, he, ho, hb⟩ => ⟨_, r, false, _, he, ho, by simp, hb⟩
theorem cutText_some (x : Value) (l : List UInt8) (B : Nat) (w : World) (hr : Rd w B x (l.map bv)) (hl : l.length ≤ 1000000000000) :
    Calls Try.prog 19 #[x] w fun e w' => ∃ (s : ByteArray) (r : Value) (ok : Bool) (m : List UInt8), e = .returned (.tuple #[.string s, r, .bool ok]) ∧ Ow w' w.heap.size 5 r (m.map bv) ∧ m.length ≤ l.length ∧ Below w.heap.size w w' := by
  by_cases h : textOk l
  · exact (cutText_ok x l B w hr h hl).mono fun e w' ⟨r, he, ho, hb⟩ => ⟨_, r, true, _, he, ho, textRest_len l, hb⟩
  · exact (cutText_no x l B w hr h).mono fun e w' ⟨r, he, ho, hb⟩ => ⟨_, r, false, _, he, ho, by simp, hb⟩

set_option maxHeartbeats 4000000 in
set_option maxRecDepth 100000 in
theorem wireKeeps_walk (x : Value) (l : List UInt8) (w : World) (hx : Rd w w.heap.size x (l.map bv)) (_hl : l.length ≤ 140737488351232) :
    Calls Try.prog 8 #[x] w fun e w' => e = .returned (.bool true) ∧ Below w.heap.size w w' := by
  obtain ⟨A, c, rfl, hc, hm⟩ := hx.shapeM
  by_cases h3 : l.length ≤ 1000
  · go_enter Try.func8, Try.ntmps8
    go_wp2_with fail
    refine (awake_ok _).mono ?_
    rintro e w1 ⟨rfl, hb1⟩
    have hX1 := hx.up hb1
    have ho0 : Ow (w1.alloc (.cells #[] 5)) w1.heap.size 5 (.slice (some ⟨w1.heap.size, 0, none⟩) 0 0) (([] : List UInt8).map bv) := Ow.new _ _ rfl (by simp [maxLen]) rfl (Nat.le_refl _)
    have hs0 : w1.heap.size ≤ (w1.alloc (.cells #[] 5)).heap.size := by simp
    have hz0 : ([] : List UInt8).length + l.length ≤ 140737488355328 := by show 0 + l.length ≤ 140737488355328; omega
    go_wp2_with (at_builtin; refine wpList_appB bytesT rfl _ _ rfl rfl ho0 rfl (hX1.below ((Below.refl _ _).alloc (Nat.le_refl _) _)) hz0 hs0 ?_; intro v2 w2 ho2 hg2 hpl; clear hpl)
    have hB2 := ((Below.refl w1.heap.size w1).alloc (Nat.le_refl _) (.cells #[] 5)).trans (bwgrown hg2 ho0.ge hs0)
    have hX2 := hX1.up hB2
    have hBW := bwstep hb1 hB2
    have hQ2 := ho2.rd
    rw [List.nil_append] at hQ2
    clear ho0 hs0 hg2 ho2 hb1 hX1 hB2
    have HX := Lib.hid hX2
    have HQ := Lib.hid hQ2
    refine (cutNum_some _ l _ _ hX2 (by omega)).mono ?_
    rintro e w3 ⟨n3, r3, ok3, m3, rfl, ho3, hm3, hb3⟩
    clear hX2 hQ2
    have HO : Hid (∃ zs : List Int, zs.length = m3.length ∧ Ow w3 w2.heap.size 5 r3 (zs.map iv)) := ⟨m3.map fun b => (b.toNat : Int), by simp, by rw [← bv_iv]; exact ho3⟩
    obtain ⟨A3, c3, rfl, hc3, hcm3⟩ := ho3.rd.shapeM
    clear ho3
    go_wp2_with fail
    go_loopw [7] (fun i wr => ∃ k : Nat, k ≤ m3.length ∧ i = .int .i64 k ∧ (∃ zs : List Int, zs.length = m3.length ∧ Ow wr w2.heap.size 5 (.slice A3 m3.length c3) (zs.map iv)) ∧ Below w2.heap.size w2 wr) (fun i _ => m3.length - (intOf i).toNat)
    case atStart => exact ⟨0, Nat.zero_le _, rfl, HO.out, hb3⟩
    case round =>
      obtain ⟨k, hk, rfl, ⟨zs, hzl, hoz⟩, hbk⟩ := hrel
      by_cases hlt : k < m3.length
      · obtain ⟨g, rfl, hBg, hgl, hck, hfk, hst⟩ := hoz.at_ (k := k) (by rw [List.length_map, hzl]; exact hlt)
        obtain ⟨z, hcz⟩ : ∃ z : Int, wr.cell? ⟨g, k, none⟩ = some (.int .u8 z) := by
          rw [List.getElem_map] at hck
          exact ⟨_, hck⟩
        have HS := Lib.hid hst
        clear hst hoz hck
        have HZ := Lib.hid hzl
        clear hzl
        go_wp2_with fail
        go_roundw
        case rel =>
          refine ⟨k + 1, by omega, by go_num, ⟨zs.set k (bits .xor .u8 z 255), by rw [List.length_set]; exact HZ.out, ?_⟩, hbk.setCell (p := ⟨g, k, none⟩) hBg _⟩
          rw [List.map_set]
          exact HS.out _
        case measure => simp [intOf]; omega
      · have HR := Lib.hid hbk
        clear hbk hoz hzl
        have HX4 := Lib.hid (HX.out.up HR.out)
        have HQ4 := Lib.hid (HQ.out.up HR.out)
        have HB4 := Lib.hid (bwstep hBW HR.out)
        clear hBW HX HQ HO
        obtain ⟨w4, rfl⟩ : ∃ w4, w4 = wr := ⟨_, rfl⟩
        go_wp2_with fail
        refine (cutText_some _ l _ _ HX4.out (by omega)).mono ?_
        rintro e w5 ⟨s5, r5, ok5, m5, rfl, ho5, hm5, hb5⟩
        have HO5 : Hid (∃ zs : List Int, zs.length = m5.length ∧ Ow w5 w4.heap.size 5 r5 (zs.map iv)) := ⟨m5.map fun b => (b.toNat : Int), by simp, by rw [← bv_iv]; exact ho5⟩
        obtain ⟨A5, c5, rfl, hc5, hcm5⟩ := ho5.rd.shapeM
        clear ho5
        go_wp2_with fail
        go_loopw [11] (fun i wr => ∃ k : Nat, k ≤ m5.length ∧ i = .int .i64 k ∧ (∃ zs : List Int, zs.length = m5.length ∧ Ow wr w4.heap.size 5 (.slice A5 m5.length c5) (zs.map iv)) ∧ Below w4.heap.size w4 wr) (fun i _ => m5.length - (intOf i).toNat)
        case atStart => exact ⟨0, Nat.zero_le _, rfl, HO5.out, hb5⟩
        case round =>
          obtain ⟨k, hk, rfl, ⟨zs, hzl, hoz⟩, hbk⟩ := hrel
          by_cases hlt : k < m5.length
          · obtain ⟨g, rfl, hBg, hgl, hck, hfk, hst⟩ := hoz.at_ (k := k) (by rw [List.length_map, hzl]; exact hlt)
            obtain ⟨z, hcz⟩ : ∃ z : Int, wr.cell? ⟨g, k, none⟩ = some (.int .u8 z) := by
              rw [List.getElem_map] at hck
              exact ⟨_, hck⟩
            have HS := Lib.hid hst
            clear hst hoz hck
            have HZ := Lib.hid hzl
            clear hzl
            go_wp2_with fail
            go_roundw
            case rel =>
              refine ⟨k + 1, by omega, by go_num, ⟨zs.set k (bits .xor .u8 z 255), by rw [List.length_set]; exact HZ.out, ?_⟩, hbk.setCell (p := ⟨g, k, none⟩) hBg _⟩
              rw [List.map_set]
              exact HS.out _
            case measure => simp [intOf]; omega
          · have HR := Lib.hid hbk
            clear hbk hoz hzl
            go_wp2_with fail
            refine (rsame_any _ _ l l _ _ _ (HX4.out.up HR.out) (HQ4.out.up HR.out)).mono ?_
            rintro e w6 ⟨rfl, rfl⟩
            rw [sameB_self]
            go_wp2_with fail
            go_ret
            exact ⟨rfl, bwstep HB4.out HR.out⟩
  · go_enter Try.func8, Try.ntmps8
    go_wp2_with fail
    refine (awake_ok _).mono ?_
    rintro e w1 ⟨rfl, hb1⟩
    go_wp2_with fail
    refine (awake_ok _).mono ?_
    rintro e w2 ⟨rfl, hb2⟩
    go_wp2_with fail
    go_ret
    exact ⟨rfl, bwstep hb1 hb2⟩
end Go.Proofs.Ytlglokjehgejoaa
