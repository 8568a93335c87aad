/- The statements of layer 3: the walk of FieldRows. -/
import Derived.Test.YthlcifnmeelmpaaFldM
namespace Go.Proofs.Ythlcifnmeelmpaa
open Go.RowKit

theorem xor_b (a b : UInt8) : Value.int .u8 (bits .xor .u8 (a.toNat : Int) (b.toNat : Int)) = bv (a ^^^ b) := by
  rw [xor_n8 _ _ a.toNat_lt b.toNat_lt]
  unfold bv
  rw [UInt8.toNat_xor]
theorem gmB_xor {c d : Nat} (hc : c < 256) (hd : d < 256) (b : UInt8) : gmB c b ^^^ gmB d b = gmB (c ^^^ d) b := by
  apply UInt8.toNat_inj.1
  rw [UInt8.toNat_xor, gmB_nat hc, gmB_nat hd, gmB_nat (Gf.xor_lt hc hd), Gf.gm_xor _ hc hd]
theorem rowL_snoc (c : Nat) (l : List UInt8) (k : Nat) (h : k < l.length) : rowL c (l.take (k + 1)) = rowL c (l.take k) ++ [gmB c l[k]] := by
  rw [List.take_succ_eq_append_getElem h]
  unfold rowL
  rw [List.map_append]
  rfl
theorem rowL_get (c : Nat) (l : List UInt8) (k : Nat) (h : k < l.length) : (rowL c l)[k]'(by rw [rowL_len]; exact h) = gmB c l[k] := by simp [rowL]
set_option maxHeartbeats 4000000 in
set_option maxRecDepth 100000 in
theorem fieldRows_walk (c d : Int) (v : Value) (l : List UInt8) (w : World) (hc : (Lit.int .u8 c).wf = true) (hd : (Lit.int .u8 d).wf = true) (hr : Rd w w.heap.size v (l.map bv)) (_hl : l.length ≤ 140737488351232) :
    Calls Try.prog 6 #[.int .u8 c, .int .u8 d, v] w fun e w' => e = .returned (.bool true) ∧ Below w.heap.size w w' := by
  obtain ⟨x, rfl, hx⟩ := byteOf hc
  obtain ⟨y, rfl, hy⟩ := byteOf hd
  clear hc hd
  obtain ⟨A, cap, rfl, hcp, hm⟩ := hr.shapeM
  have hxy := Gf.xor_lt hx hy
  have R1 := Lib.hid (xor_n8 x y hx hy)
  by_cases hsm : l.length ≤ 1000
  · go_enter Try.func6, Try.ntmps6
    go_wp2_with fail
    refine (new_any _).mono ?_
    rintro e w1 ⟨⟨p, rfl, -, hf⟩, hb1⟩
    go_wp2_with fail
    refine (awake_ok _).mono ?_
    rintro e w2 ⟨rfl, hb2⟩
    have hf2 := hf.below hb2
    have hbb := bwstep hb1 hb2
    have hX2 := hr.up hbb
    clear hf hb1 hb2 hr
    go_wp2_with fail
    refine (row_any p x _ l _ hf2 hx hX2 (by omega)).mono ?_
    rintro e w3 ⟨⟨vx, rfl, hox⟩, hb3⟩
    have hf3 := hf2.below hb3
    have hX3 := hX2.up hb3
    have hbb3 := bwstep hbb hb3
    have hrx := hox.rd
    clear hf2 hX2 hbb hb3 hox
    go_wp2_with fail
    refine (row_any p y _ l _ hf3 hy hX3 (by omega)).mono ?_
    rintro e w4 ⟨⟨vy, rfl, hoy⟩, hb4⟩
    have hf4 := hf3.below hb4
    have hX4 := hX3.up hb4
    have hbb4 := bwstep hbb3 hb4
    have hrx4 := hrx.up hb4
    have hry4 := hoy.rd
    clear hf3 hX3 hbb3 hb4 hrx hoy
    obtain ⟨A1, c1, rfl, -, -⟩ := hrx4.shapeM
    obtain ⟨A2, c2, rfl, -, -⟩ := hry4.shapeM
    rw [rowL_len] at hrx4 hry4 ⊢
    rw [rowL_len]
    go_wp2_with fail
    go_loopw [8, 9, 12] (fun a b i wr => ∃ k : Nat, k ≤ l.length ∧ i = .int .i64 k ∧ Two w4 5 (rowL x (l.take k)) (rowL (x ^^^ y) (l.take k)) a b wr) (fun _ _ i _ => l.length - (intOf i).toNat)
    case atStart => exact ⟨0, by omega, rfl, Two.nil _ _⟩
    case round =>
      obtain ⟨k, hk, rfl, hM⟩ := hrel
      by_cases hlt : k < l.length
      · obtain ⟨b0, off0, rfl, hb0, hcell0⟩ := hX4.cellM (by omega)
        obtain ⟨b1, off1, rfl, hb1, hcell1⟩ := hrx4.cellM (by rw [rowL_len]; omega)
        obtain ⟨b2, off2, rfl, hb2, hcell2⟩ := hry4.cellM (by rw [rowL_len]; omega)
        have q0 := hcell0 k hlt
        have q1 := hcell1 k (by rw [rowL_len]; exact hlt)
        have q2 := hcell2 k (by rw [rowL_len]; exact hlt)
        rw [rowL_get _ _ _ hlt] at q1 q2
        have hkeep : ∀ (W : World), Below w4.heap.size w4 W → W.cell? ⟨b0, off0 + k, none⟩ = some (bv l[k]) ∧ W.cell? ⟨b1, off1 + k, none⟩ = some (bv (gmB x l[k])) ∧ W.cell? ⟨b2, off2 + k, none⟩ = some (bv (gmB y l[k])) := by
          intro W hW
          exact ⟨(hW.cell hb0).trans q0, (hW.cell hb1).trans q1, (hW.cell hb2).trans q2⟩
        have HK := Lib.hid hkeep
        clear hkeep q0 q1 q2 hcell0 hcell1 hcell2 hX4 hrx4 hry4
        have HS1 := Lib.hid (rowL_snoc x l k hlt)
        have HS2 := Lib.hid (rowL_snoc (x ^^^ y) l k hlt)
        have hlx : (rowL x (l.take k)).length ≤ 1000 := by rw [rowL_len, List.length_take]; omega
        have hly : (rowL (x ^^^ y) (l.take k)).length ≤ 1000 := by rw [rowL_len, List.length_take]; omega
        have HB := Lib.hid (bv_gmB hx l[k])
        have HX := Lib.hid (xor_b (gmB x l[k]) (gmB y l[k]))
        have HXX := Lib.hid (gmB_xor hx hy l[k])
        have hkb := l[k].toNat_lt
        generalize rowL x (l.take k) = xs at *
        generalize rowL (x ^^^ y) (l.take k) = ys at *
        generalize l[k] = u at *
        generalize gmB x u = gx at *
        generalize gmB y u = gy at *
        obtain ⟨q0, q1, q2⟩ := HK.out _ hM.bel
        simp only [bv] at q0 q1 q2
        go_wp2_with fail
        refine (rmul_any x u.toNat _ hx hkb).mono ?_
        rintro e w5 ⟨rfl, rfl⟩
        have MA := hM.alloc (.cells #[.int .u8 (Gf.gm x u.toNat : Int)] 5)
        have hva : (#[Value.int .u8 (Gf.gm x u.toNat : Int)]).toList = [gx].map bv := by rw [← HB.out]; rfl
        have HVA := Lib.hid hva
        clear hM hva q0 q1 q2
        go_wp2_with (at_builtin; refine wpList_appB bytesT rfl (.tmp 52) (.tmp 59) rfl rfl MA.oa rfl (Rd.newW _ _ _ rfl (by simp [maxLen]) HVA.out) (by simp; omega) MA.bel.size ?_; intro va wa hoa hga hra; have M1 := (MA.app hoa hga hra).rot; obtain ⟨q0, q1, q2⟩ := HK.out _ M1.bel; simp only [bv] at q0 q1 q2)
        have MD := (M1.drew).alloc (.cells #[.int .u8 (bits .xor .u8 (gx.toNat : Int) (gy.toNat : Int))] 5)
        have hvd : (#[Value.int .u8 (bits .xor .u8 (gx.toNat : Int) (gy.toNat : Int))]).toList = [gmB (x ^^^ y) u].map bv := by rw [HX.out, HXX.out]; rfl
        have HVD := Lib.hid hvd
        clear hvd
        go_region_law (refine step_appB bytesT rfl (.tmp 61) (.tmp 71) rfl (by simp [Act.eval, Act.put]) MD.oa (by simp [Act.eval, Act.put]) (Rd.newW _ _ _ rfl (by simp [maxLen]) HVD.out) (by simp; omega) MD.bel.size ?_; intro vd wd hod hgd hrd; have M4 := (MD.app hod hgd hrd).rot; clear MD)
        all_goals
          go_wp2_with fail
          go_roundw
          case rel => exact ⟨k + 1, by omega, by go_num, by rw [HS1.out, HS2.out]; exact M4⟩
          case measure => simp [intOf]; omega
      · obtain rfl : k = l.length := by omega
        rw [List.take_length] at hM
        have hX := hrx4.up hM.bel
        have hB := hX4.up hM.bel
        have hW := hM.oa.rd
        have hS := hM.ob.rd
        have hf5 := hf4.below hM.bel
        have hbb5 := bwstep hbb4 hM.bel
        clear hM hX4 hrx4 hry4 hf4 hbb4
        go_wp2_with fail
        refine (rsame_any _ _ (rowL x l) (rowL x l) _ _ _ hX hW).mono ?_
        rintro e w5 ⟨rfl, rfl⟩
        have hs : sameB (rowL x l) (rowL x l) = true := by simp [sameB]
        rw [hs]
        clear hs
        go_wp2_with fail
        rw [R1.out]
        refine (row_any p (x ^^^ y) _ l _ hf5 hxy hB (by omega)).mono ?_
        rintro e w6 ⟨⟨vz, rfl, hoz⟩, hb6⟩
        have hS6 := hS.up hb6
        have hZ6 := hoz.rd
        have hbb6 := bwstep hbb5 hb6
        clear hoz hb6 hS hX hW hf5 hbb5 hB
        go_wp2_with fail
        refine (rsame_any _ _ (rowL (x ^^^ y) l) (rowL (x ^^^ y) l) _ _ _ hS6 hZ6).mono ?_
        rintro e w7 ⟨rfl, rfl⟩
        have hs : sameB (rowL (x ^^^ y) l) (rowL (x ^^^ y) l) = true := by simp [sameB]
        rw [hs]
        clear hs
        go_wp2_with fail
        go_ret
        exact ⟨rfl, hbb6⟩
  · go_enter Try.func6, Try.ntmps6
    go_wp2_with fail
    refine (new_any _).mono ?_
    rintro e w1 ⟨⟨p, rfl, -, hf⟩, hb1⟩
    go_wp2_with fail
    refine (awake_ok _).mono ?_
    rintro e w2 ⟨rfl, hb2⟩
    go_wp2_with fail
    refine (awake_ok _).mono ?_
    rintro e w3 ⟨rfl, hb3⟩
    go_wp2_with fail
    go_ret
    exact ⟨rfl, bwstep (bwstep hb1 hb2) hb3⟩
end Go.Proofs.Ythlcifnmeelmpaa
