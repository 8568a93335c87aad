/- The walk of CmdLong. -/
import Derived.Test.YtkpdadnmbjmfpaaDoorCmW
namespace Go.Proofs.YtkpdadnmbjmfpaaDoor.Ce
open Go.RowKit

/-- one more byte of value -/
def Cm.longer (c : Cm) : Cm := ⟨c.client, c.seq, c.kind, c.row, c.col, c.to_, c.at_, c.value ++ ⟨#[120]⟩, c.expect, c.has⟩
theorem longer_size (c : Cm) : c.longer.value.size = c.value.size + 1 := by
  show (c.value ++ ⟨#[120]⟩ : ByteArray).size = _
  rw [ByteArray.size_append]
  rfl
theorem longer_len (c : Cm) : (cmdB c.longer).length = (cmdB c).length + 1 := by
  have h := longer_size c
  rw [cmdB_len, cmdB_len]
  simp only [Cm.longer] at h ⊢
  omega
theorem longer_sound {c : Cm} (h : c.Sound) (hk : c.kind = 1 ∨ c.kind = 3) : c.longer.Sound ↔ c.value.size + 1 ≤ 256 := by
  have hz := longer_size c
  have h5 : c.kind ≠ 5 := by omega
  have f := h.four h5
  have q := f.cell
  constructor
  · intro d
    have := (d.four (show c.longer.kind ≠ 5 from h5)).cell.v
    simp only [Cm.cell] at this
    omega
  · intro hv
    exact ⟨h.c1, h.c2, h.s1, h.s2, h.k1, h.k2, fun e => absurd e h5, fun _ => ⟨f.to_, f.check, f.has, fun e => by simp only [Cm.longer] at e; omega, f.expect, ⟨q.r1, q.r2, q.c1, q.c2, q.a1, q.a2, by simp only [Cm.cell]; omega, fun e => by cases e⟩⟩⟩
theorem four_len {c : Cm} (h : c.Sound) (hk : c.kind = 1 ∨ c.kind = 3) : (cmdB c).length = 40 + c.row.size + c.col.size + c.value.size + c.expect.size := by
  have f := h.four (by omega)
  rw [cmdB_len, f.to_]
  have : nul.size = 0 := rfl
  omega
set_option maxHeartbeats 4000000 in
set_option maxRecDepth 100000 in
theorem cmdLong_not (c : Cm) (w : World) (hk : Kd w) (hn : ¬ (c.Right ∧ (c.kind = 1 ∨ c.kind = 3))) : Calls Tryd.prog 6 #[c.v] w fun e w' => e = .returned (.bool true) ∧ Below w.heap.size w w' := by
  have ha := fun w hk => awake15_ok w hk
  have hrr := fun w => rright15_any c w
  have HK := Lib.hid hk
  clear hk
  by_cases hR : c.Right
  · rw [decide_eq_true hR] at hrr
    have h1 : ¬ c.kind = 1 := fun e => hn ⟨hR, .inl e⟩
    have h3 : ¬ c.kind = 3 := fun e => hn ⟨hR, .inr e⟩
    have hb1 : (c.kind != 1) = true := by simp [h1]
    have hb3 : (c.kind != 3) = true := by simp [h3]
    clear hR hn h1 h3
    go_enter Tryd.func6, Tryd.ntmps6
    go_wp2_with (refine St.box cmD rfl (.tmp 0) c rfl rfl ?_)
    constructor
    intro w1 hI1 hw1 hz1
    clear hz1
    go_wp2_with fail
    refine (ha _ (HK.out.up hw1)).mono ?_
    rintro e w2 ⟨rfl, hb2⟩
    have hI2 := hI1.up hb2
    have hw2 := bwstep hw1 hb2
    clear hI1 hw1 hb2
    go_wp2_with (refine St.load cmOk rfl (.tmp 1) rfl rfl hI2 ?_)
    refine (hrr _).mono ?_
    rintro e w3 ⟨rfl, hb3⟩
    have c2 := (CmAt.of (hI2.up hb3)).c2
    have hw3 := bwstep hw2 hb3
    clear hI2 hw2 hb3 hrr
    go_wp2_with fail
    refine (ha _ (HK.out.up hw3)).mono ?_
    rintro e w4 ⟨rfl, hb4⟩
    have hw4 := bwstep hw3 hb4
    clear hw3 hb4 c2
    go_wp2_with fail
    go_ret
    exact ⟨rfl, hw4⟩
  · rw [decide_eq_false hR] at hrr
    clear hR hn
    go_enter Tryd.func6, Tryd.ntmps6
    go_wp2_with (refine St.box cmD rfl (.tmp 0) c rfl rfl ?_)
    constructor
    intro w1 hI1 hw1 hz1
    clear hz1
    go_wp2_with fail
    refine (ha _ (HK.out.up hw1)).mono ?_
    rintro e w2 ⟨rfl, hb2⟩
    have hI2 := hI1.up hb2
    have hw2 := bwstep hw1 hb2
    clear hI1 hw1 hb2
    go_wp2_with (refine St.load cmOk rfl (.tmp 1) rfl rfl hI2 ?_)
    refine (hrr _).mono ?_
    rintro e w3 ⟨rfl, hb3⟩
    have hw3 := bwstep hw2 hb3
    clear hI2 hw2 hb3 hrr
    go_wp2_with fail
    refine (ha _ (HK.out.up hw3)).mono ?_
    rintro e w4 ⟨rfl, hb4⟩
    have hw4 := bwstep hw3 hb4
    clear hw3 hb4
    go_wp2_with fail
    go_ret
    exact ⟨rfl, hw4⟩
set_option maxHeartbeats 8000000 in
set_option maxRecDepth 100000 in
theorem cmdLong_is (c : Cm) (w : World) (hk : Kd w) (hR : c.Right) (hc : c.kind = 1 ∨ c.kind = 3) : Calls Tryd.prog 6 #[c.v] w fun e w' => e = .returned (.bool true) ∧ Below w.heap.size w w' := by
  have ha := fun w hk => awake15_ok w hk
  have hrr := fun w => rright15_any c w
  rw [decide_eq_true hR] at hrr
  have hp := fun w hk => cput_any c w hk
  rw [show putS c = cmdS c from if_pos hR, show putE c = 0 by unfold putE; rw [if_pos hR.1, if_pos hR]] at hp
  have hd := fun w hk => cput_any c.longer w hk
  have hsz : ((cmdS c).size : Int) = 40 + c.row.size + c.col.size + c.value.size + c.expect.size := by rw [cmdS_size, four_len hR.1 hc]; omega
  have hbig := hR.2
  have hbd : c.row.size ≤ 64 ∧ c.col.size ≤ 64 ∧ c.value.size ≤ 256 ∧ c.expect.size ≤ 256 := by
    have f := hR.1.four (by omega)
    exact ⟨f.cell.r2, f.cell.c2, f.cell.v, f.expect⟩
  have hls := longer_size c
  have hll := longer_len c
  have hfl := four_len hR.1 hc
  have hso := longer_sound hR.1 hc
  have HK := Lib.hid hk
  have HBD := Lib.hid hbd
  -- what Put answers of the longer one
  have HE : Hid ((256 < c.value.size + 1 → putE c.longer = 1) ∧ (c.value.size + 1 ≤ 256 → (cmdB c).length < 512 → putE c.longer = 0 ∧ (putS c.longer).size = (cmdB c).length + 1) ∧ (c.value.size + 1 ≤ 256 → (cmdB c).length = 512 → putE c.longer = 7)) := by
    refine Lib.hid ⟨fun h => if_neg fun q => by have := hso.1 q; omega, fun h1 h2 => ?_, fun h1 h2 => ?_⟩
    · have hs := hso.2 h1
      have hr : c.longer.Right := ⟨hs, by omega⟩
      unfold putE putS
      rw [if_pos hs, if_pos hr, if_pos hr, cmdS_size, hll]
      exact ⟨rfl, rfl⟩
    · have hs := hso.2 h1
      have hr : ¬ c.longer.Right := fun q => by have := q.2; omega
      unfold putE
      rw [if_pos hs, if_neg hr]
  have hv : ¬ (c.value.size + (⟨#[120]⟩ : ByteArray).size > 9223372036854775807) := by have : (⟨#[120]⟩ : ByteArray).size = 1 := rfl; omega
  clear hk hso hll hbd
  go_enter Tryd.func6, Tryd.ntmps6
  go_wp2_with (refine St.box cmD rfl (.tmp 0) c rfl rfl ?_)
  constructor
  intro w1 hI1 hw1 hz1
  clear hz1
  go_wp2_with fail
  refine (ha _ (HK.out.up hw1)).mono ?_
  rintro e w2 ⟨rfl, hb2⟩
  have hI2 := hI1.up hb2
  have hw2 := bwstep hw1 hb2
  clear hI1 hw1 hb2 ha
  have hkb : Hid ((c.kind != 1) = false ∨ (c.kind != 1) = true ∧ (c.kind != 3) = false) := by
    refine Lib.hid ?_
    rcases hc with h | h <;> simp [h]
  have h40 : Hid (0 ≤ (c.row.size : Int) ∧ (c.row.size : Int) ≤ 64 ∧ 0 ≤ (c.col.size : Int) ∧ (c.col.size : Int) ≤ 64 ∧ 0 ≤ (c.value.size : Int) ∧ (c.value.size : Int) ≤ 256 ∧ 0 ≤ (c.expect.size : Int) ∧ (c.expect.size : Int) ≤ 256) := by
    have := HBD.out
    exact Lib.hid (by omega)
  have hcase : Hid ((256 < c.value.size + 1) ∨ (c.value.size + 1 ≤ 256 ∧ (cmdB c).length < 512) ∨ (c.value.size + 1 ≤ 256 ∧ (cmdB c).length = 512)) := Lib.hid (by omega)
  clear hc hbig hls HBD hR
  go_wp2_with (refine St.load cmOk rfl (.tmp 1) rfl rfl hI2 ?_)
  refine (hrr _).mono ?_
  rintro e w3 ⟨rfl, hb3⟩
  have hI3 := hI2.up hb3
  have hw3 := bwstep hw2 hb3
  clear hI2 hw2 hb3 hrr
  rcases hkb.out with hk1 | ⟨hk1, hk3⟩
  all_goals
    have c2 := (CmAt.of hI3).c2
    have c7 := (CmAt.of hI3).c7
    go_wp2_with (refine St.load cmOk rfl (.tmp 1) rfl rfl hI3 ?_)
    refine (hp _ (HK.out.up hw3)).mono ?_
    rintro e w4 ⟨rfl, hb4⟩
    have hI4 := hI3.up hb4
    have hw4 := bwstep hw3 hb4
    clear hI3 hw3 hb4 hp c2 c7
    go_wp2_with (first | refine St.load cmOk rfl (.tmp 1) rfl rfl hI4 ?_ | refine St.alloc cmOk rfl rfl ?_)
    constructor
    intro w5 hJ5 hb5 hz5
    have hI5 := hI4.up hb5
    have hw5 := bwstep hw4 hb5
    have hl4 := hI4.lt
    clear hI4 hw4 hb5 hz5
    go_wp2_with (refine St.store cmOk (c := c) rfl (.tmp 5) (.tmp 32) rfl rfl rfl hJ5 ?_)
    constructor
    intro w6 hs6
    have hI6 := hs6.up hI5 (Nat.ne_of_lt hl4)
    have hJ6 := hs6.i
    have hw6 := hs6.bel hw5 (Nat.le_of_lt hl4)
    have c7 := (CmAt.of hI6).c7
    have d7 := (CmAt.of hJ6).c7
    have hfz := hJ6.fz 7
    have hp6 : cmD.Set w4.heap.size c.longer w6 (w6.setCell ⟨w4.heap.size, 7, none⟩ (.string (c.value ++ ⟨#[120]⟩))) := St.Sp.Set.part hJ6 rfl
    have hJ7 := hp6.i
    have HI7 := Lib.hid (hp6.up hI6 (Nat.ne_of_lt hl4))
    have HW7 := Lib.hid (hp6.bel hw6 (Nat.le_of_lt hl4))
    clear hs6 hJ5 hI5 hw5 hp6 hJ6 hI6 hw6
    go_wp2_with (refine St.load cmOk rfl (.tmp 5) rfl rfl hJ7 ?_)
    refine (hd _ (HK.out.up HW7.out)).mono ?_
    rintro e w8 ⟨rfl, hb8⟩
    have hJ8 := hJ7.up hb8
    have hw8 := bwstep HW7.out hb8
    have a := CmAt.of (HI7.out.up hb8)
    have a3 := a.c3
    have a4 := a.c4
    have a7 := a.c7
    have a8 := a.c8
    have b7 := (CmAt.of hJ8).c7
    clear a hb8 hJ7 hd hJ8 c7 d7 hfz hl4
    obtain ⟨p1, p2, p3, p4, p5, p6, p7, p8⟩ := h40.out
    have hlz : (c.longer.value.size : Int) = c.value.size + 1 := by rw [longer_size]; rfl
    generalize c.longer.value = lv at *
    generalize hrs : (c.row.size : Int) = rs at *
    generalize hcs : (c.col.size : Int) = ks at *
    generalize hvs : (c.value.size : Int) = vs at *
    generalize hes : (c.expect.size : Int) = es at *
    generalize hss : ((cmdS c).size : Int) = ss at *
    have hfl : Hid (((cmdB c).length : Int) = 40 + rs + ks + vs + es) := Lib.hid (by omega)
    rcases hcase.out with h | ⟨h, h'⟩ | ⟨h, h'⟩
    · have e1 := HE.out.1 h
      rw [e1]
      have q1 : (256 : Int) < lv.size := by omega
      clear h HE hcase hkb h40
      go_wp2_with fail
      go_ret
      exact ⟨rfl, hw8⟩
    · obtain ⟨e1, e2⟩ := HE.out.2.1 h h'
      rw [e1]
      have q1 : ¬ (256 : Int) < lv.size := by omega
      have q2 : 40 + rs + ks + vs + es < 512 := by have := hfl.out; omega
      have q3 : ((putS c.longer).size : Int) = 40 + rs + ks + vs + es + 1 := by have := hfl.out; omega
      clear h h' HE hcase hkb h40 e1 e2 hfl
      go_wp2_with fail
      go_ret
      exact ⟨rfl, hw8⟩
    · have e1 := HE.out.2.2 h h'
      rw [e1]
      have q1 : ¬ (256 : Int) < lv.size := by omega
      have q2 : 40 + rs + ks + vs + es = 512 := by have := hfl.out; omega
      clear h h' HE hcase hkb h40 e1 hfl
      go_wp2_with fail
      go_ret
      exact ⟨rfl, hw8⟩
theorem cmdLong_walk (c : Cm) (w : World) (hk : Kd w) : Calls Tryd.prog 6 #[c.v] w fun e w' => e = .returned (.bool true) ∧ Below w.heap.size w w' := by
  by_cases h : c.Right ∧ (c.kind = 1 ∨ c.kind = 3)
  · exact cmdLong_is c w hk h.1 h.2
  · exact cmdLong_not c w hk h
end Go.Proofs.YtkpdadnmbjmfpaaDoor.Ce
