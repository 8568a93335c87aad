/- The statements of layer 3: walks of FieldSquares, FieldKeeps. -/
import Derived.Test.YthlcifnmeelmpaaFldL
import Derived.Test.YthlcifnmeelmpaaOwn
namespace Go.Proofs.Ythlcifnmeelmpaa
open Go.RowKit

set_option maxHeartbeats 4000000 in
set_option maxRecDepth 100000 in
theorem fieldSquares_walk (a b : Int) (w : World) (ha : (Lit.int .u8 a).wf = true) (hb : (Lit.int .u8 b).wf = true) :
    Calls Try.prog 8 #[.int .u8 a, .int .u8 b] w fun e w' => e = .returned (.bool true) ∧ Below w.heap.size w w' := by
  obtain ⟨x, rfl, hx⟩ := byteOf ha
  obtain ⟨y, rfl, hy⟩ := byteOf hb
  clear ha hb
  have hs := Gf.xor_lt hx hy
  have hxx := Gf.gm_lt x hx
  have hyy := Gf.gm_lt y hy
  have R1 := Lib.hid (xor_n8 x y hx hy)
  have R2 := Lib.hid ((Gf.gp_two hs).trans (Gf.square_xor hx hy))
  have R3 := Lib.hid (Gf.gp_two hx)
  have R4 := Lib.hid (Gf.gp_two hy)
  have R5 := Lib.hid (Gf.gp_256 hx)
  have R6 := Lib.hid (Gf.sq_eight hx)
  have R7 := Lib.hid (xor_n8 (Gf.gm x x) (Gf.gm y y) hxx hyy)
  go_enter Try.func8, Try.ntmps8
  go_wp2_with fail
  refine (new_any _).mono ?_
  rintro e w1 ⟨⟨p, rfl, -, hf⟩, hb1⟩
  go_wp2_with fail
  refine (awake_ok _).mono ?_
  rintro e w2 ⟨rfl, hb2⟩
  have hf2 := hf.below hb2
  have hbb := bwstep hb1 hb2
  clear hf hb1 hb2
  go_wp2_with fail
  go_loopw [6, 7] (fun q i wr => ∃ k : Nat, k ≤ 8 ∧ i = .int .i64 k ∧ q = .int .u8 (Gf.sq x k : Int) ∧ ∃ n, wr = w2.drewN n) (fun _ i _ => 8 - (intOf i).toNat)
  case atStart => exact ⟨0, by omega, rfl, rfl, 0, rfl⟩
  case round =>
    obtain ⟨k, hk, rfl, rfl, n, rfl⟩ := hrel
    have hq := Gf.sq_lt hx k
    by_cases hlt : k < 8
    · have HS : Hid (Gf.sq x (k + 1) = Gf.gm (Gf.sq x k) (Gf.sq x k)) := Lib.hid rfl
      generalize Gf.sq x k = q at *
      go_wp2_with fail
      refine (mul_any p q q _ (hf2.drewN _) hq hq).mono ?_
      rintro e w3 ⟨rfl, n1, rfl⟩
      go_wp2_with fail
      go_roundw
      case rel => exact ⟨k + 1, by omega, by go_num, vi (by rw [HS.out]), _, rfl⟩
      case measure => simp [intOf]; omega
    · obtain rfl : k = 8 := by omega
      rw [R6.out]
      clear hq
      go_wp2_with fail
      rw [R1.out]
      refine (pow_any p (x ^^^ y) 2 _ (hf2.drewN _) hs (by omega)).mono ?_
      rintro e w3 ⟨rfl, n1, rfl⟩
      rw [R2.out]
      go_wp2_with fail
      refine (pow_any p x 2 _ (hf2.drewN _) hx (by omega)).mono ?_
      rintro e w3 ⟨rfl, n2, rfl⟩
      rw [R3.out]
      go_wp2_with fail
      refine (pow_any p y 2 _ (hf2.drewN _) hy (by omega)).mono ?_
      rintro e w3 ⟨rfl, n3, rfl⟩
      rw [R4.out]
      have R7o := R7.out
      go_wp2_with fail
      clear R7o
      refine (pow_any p x 256 _ (hf2.drewN _) hx (by omega)).mono ?_
      rintro e w3 ⟨rfl, n4, rfl⟩
      rw [R5.out]
      go_wp2_with fail
      go_ret
      exact ⟨rfl, below_drewN hbb _⟩

theorem xor255 (u : UInt8) : Value.int .u8 (bits .xor .u8 (u.toNat : Int) 255) = bv (u ^^^ 255) := by
  have := xor_n8 u.toNat 255 u.toNat_lt (by omega)
  rw [show (255 : Int) = ((255 : Nat) : Int) from rfl, this]
  unfold bv
  rw [UInt8.toNat_xor]
  rfl
set_option maxHeartbeats 4000000 in
set_option maxRecDepth 100000 in
theorem fieldKeeps_walk (c : Int) (v : Value) (l : List UInt8) (w : World) (hc : (Lit.int .u8 c).wf = true) (hr : Rd w w.heap.size v (l.map bv)) (_hl : l.length ≤ 140737488351232) :
    Calls Try.prog 7 #[.int .u8 c, v] w fun e w' => e = .returned (.bool true) ∧ Below w.heap.size w w' := by
  obtain ⟨x, rfl, hx⟩ := byteOf hc
  clear hc
  obtain ⟨A, cap, rfl, hcp, hm⟩ := hr.shapeM
  by_cases hsm : l.length ≤ 1000
  · go_enter Try.func7, Try.ntmps7
    go_wp2_with fail
    refine (new_any _).mono ?_
    rintro e w1 ⟨⟨p, rfl, -, hf⟩, hb1⟩
    go_wp2_with fail
    refine (awake_ok _).mono ?_
    rintro e w2 ⟨rfl, hb2⟩
    have hf2 := hf.below hb2
    have hbb := bwstep hb1 hb2
    have hX2 := hr.up hbb
    clear hf hb1 hb2 hr
    go_wp2_with (at_builtin; refine wpList_appB bytesT rfl (.tmp 22) (.tmp 23) rfl rfl (Ow.empty _ (Nat.le_refl _) _) rfl (hX2.up ((Below.refl _ _).alloc (Nat.le_refl _) _)) (by simp; omega) (by simp) ?_; intro v3 w3 ho3 hg3 _; have hB3 := Ow.emptyG hg3)
    have hf3 := hf2.below hB3
    have hX3 := hX2.up hB3
    have hY3 : Rd w3 w3.heap.size v3 (l.map bv) := by simpa using ho3.rd
    have hb3 := bwstep hbb hB3
    clear hf2 hX2 ho3 hg3 hB3 hbb
    refine (row_any p x _ l _ hf3 hx hX3 (by omega)).mono ?_
    rintro e w4 ⟨⟨y, rfl, ho⟩, hb4⟩
    have hL := rowL_len x l
    generalize rowL x l = rs at *
    obtain ⟨A2, c2, rfl, -, hm2⟩ := ho.rd.shapeM
    have hn : rs.length ≤ 1000 := by omega
    generalize hrl : rs.length = n at *
    have HO : Hid (∃ cs : List UInt8, cs.length = n ∧ Ow w4 w3.heap.size 5 (.slice A2 n c2) (cs.map bv)) := Lib.hid ⟨rs, hrl, ho⟩
    clear hrl ho hL rs
    go_wp2_with fail
    go_loopw [8] (fun i wr => ∃ k : Nat, k ≤ n ∧ i = .int .i64 k ∧ (∃ cs : List UInt8, cs.length = n ∧ Ow wr w3.heap.size 5 (.slice A2 n c2) (cs.map bv)) ∧ Below w3.heap.size w3 wr) (fun i _ => n - (intOf i).toNat)
    case atStart => exact ⟨0, by omega, rfl, HO.out, hb4⟩
    case round =>
      clear HO hb4
      obtain ⟨k, hk, rfl, ⟨cs, hcs, ho⟩, hb⟩ := hrel
      by_cases hlt : k < n
      · obtain ⟨g, u, cs', rfl, hgb, hgs, hgc, hgf, hl', hset⟩ := ho.put_ (k := k) (f := fun u => u ^^^ 255) (by omega)
        have HO := Lib.hid hset
        have HL : Hid (cs'.length = n) := Lib.hid (by omega)
        have HB := Lib.hid (hb.setCell (p := ⟨g, k, none⟩) hgb (bv (u ^^^ 255)))
        have HV := Lib.hid (xor255 u)
        simp only [bv] at hgc
        clear hset hl' hcs ho hgb hb
        go_wp2_with fail
        rw [HV.out]
        go_roundw
        case rel => exact ⟨k + 1, by omega, by go_num, ⟨_, HL.out, HO.out⟩, HB.out⟩
        case measure => simp [intOf]; omega
      · have hX := hX3.up hb
        have hY := hY3.up hb
        have hbb := bwstep hb3 hb
        clear hX3 hY3 hcs ho hb
        go_wp2_with fail
        refine (rsame_any _ _ l l _ _ _ hX hY).mono ?_
        rintro e w5 ⟨rfl, rfl⟩
        have hs : sameB l l = true := by simp [sameB]
        rw [hs]
        go_wp2_with fail
        go_ret
        exact ⟨rfl, hbb⟩
  · go_enter Try.func7, Try.ntmps7
    go_wp2_with fail
    refine (new_any _).mono ?_
    rintro e w1 ⟨⟨p, rfl, -, hf⟩, hb1⟩
    go_wp2_with fail
    refine (awake_ok _).mono ?_
    rintro e w2 ⟨rfl, hb2⟩
    go_wp2_with fail
    refine (awake_ok _).mono ?_
    rintro e w3 ⟨rfl, hb3⟩
    go_wp2_with fail
    go_ret
    exact ⟨rfl, bwstep (bwstep hb1 hb2) hb3⟩
end Go.Proofs.Ythlcifnmeelmpaa
