/- The contract of Cut of package cell. -/
import Derived.Test.YtpflcnndloielaaCcp
import Derived.Test.YtpflcnndloielaaCln
import Derived.Deep.RegionWith
namespace Go.Proofs.Ytpflcnndloielaa.Ce
open Go.RowKit

section
variable {ops : Array Oper} {o : Oper} {a : Act} {w : World} {K0 : Act → World → Prop} {Q : Exit → Act → World → Prop} {g : Nat} {c c0 : Cl}
theorem wp_storeC (x y : Operand) (ho : o.op = .store 46 x y) (hx : a.eval x = .pointer (some ⟨g, 0, none⟩)) (hy : a.eval y = c.v) (hi : InC g c0 w)
    (h : ∀ w', SetC g c w w' → K0 (a.put o.dst undef) w') : o.wp Try.prog a w K0 Q :=
  wp_store_row 46 x y ho g c.cs hx hy 46 c0.cs hi.h sizeC rfl (cs_one c) (h _ (SetC.of hi))
end
/-- the result's variable g, the cell's k -/
structure CutS (w : World) (g k : Nat) (d c : Cl) (w' : World) : Prop where
  ig : InC g d w'
  ik : InC k c w'
  ne : k ≠ g
  ge : w.heap.size ≤ g
  bel : Below w.heap.size w w'
theorem CutS.up {w : World} {g k : Nat} {d c : Cl} {a b : World} (h : CutS w g k d c a) (hb : Below a.heap.size a b) : CutS w g k d c b := ⟨h.ig.up hb, h.ik.up hb, h.ne, h.ge, bwstep h.bel hb⟩
theorem CutS.set {w : World} {g k : Nat} {d c e : Cl} {a b : World} (h : CutS w g k d c a) (hs : SetC g e a b) : CutS w g k e c b := ⟨hs.i, hs.up h.ik h.ne, h.ne, h.ge, hs.bel h.bel h.ge⟩
/-- a cell is stored, cell by cell -/
theorem chain5 {g : Nat} {d c : Cl} {a : World} (h : InC g d a) : SetC g c a (((((a.setCell ⟨g, 0, none⟩ (.string c.row)).setCell ⟨g, 1, none⟩ (.string c.col)).setCell ⟨g, 2, none⟩ (.int .i64 c.at_)).setCell ⟨g, 3, none⟩ (.string c.val)).setCell ⟨g, 4, none⟩ (.bool c.gone)) := by
  refine ⟨⟨?_⟩, ?_, by simp, fun k hk => ?_⟩
  · have h0 := heap_setCell_same a g 0 _ _ (.string c.row) h.h
    have h1 := heap_setCell_same _ g 1 _ _ (.string c.col) h0
    have h2 := heap_setCell_same _ g 2 _ _ (.int .i64 c.at_) h1
    have h3 := heap_setCell_same _ g 3 _ _ (.string c.val) h2
    have h4 := heap_setCell_same _ g 4 _ _ (.bool c.gone) h3
    rw [h4]
    rfl
  · exact (((((Below.refl _ _).setCell (by simp) _).setCell (by simp) _).setCell (by simp) _).setCell (by simp) _).setCell (by simp) _
  · rw [heap_setCell_other _ _ _ _ (by simpa using hk), heap_setCell_other _ _ _ _ (by simpa using hk), heap_setCell_other _ _ _ _ (by simpa using hk), heap_setCell_other _ _ _ _ (by simpa using hk), heap_setCell_other _ _ _ _ (by simpa using hk)]
def Zfro (g : Nat) (a : World) : Prop := a.frozen? ⟨g, 0, none⟩ = false ∧ a.frozen? ⟨g, 1, none⟩ = false ∧ a.frozen? ⟨g, 2, none⟩ = false ∧ a.frozen? ⟨g, 3, none⟩ = false ∧ a.frozen? ⟨g, 4, none⟩ = false
theorem InC.fro {g : Nat} {d : Cl} {a : World} (h : InC g d a) : Zfro g a := ⟨frozen_of_row _ _ _ _ _ h.h, frozen_of_row _ _ _ _ _ h.h, frozen_of_row _ _ _ _ _ h.h, frozen_of_row _ _ _ _ _ h.h, frozen_of_row _ _ _ _ _ h.h⟩
def Five (g : Nat) (c : Cl) (a : World) : Prop := a.cell? ⟨g, 0, none⟩ = some (.string c.row) ∧ a.cell? ⟨g, 1, none⟩ = some (.string c.col) ∧ a.cell? ⟨g, 2, none⟩ = some (.int .i64 c.at_) ∧ a.cell? ⟨g, 3, none⟩ = some (.string c.val) ∧ a.cell? ⟨g, 4, none⟩ = some (.bool c.gone)
theorem InC.five {g : Nat} {d : Cl} {a : World} (h : InC g d a) : Five g d a := ⟨h.c0, h.c1, h.c2, h.c3, h.c4⟩
theorem zcs : Cl.zero.cs = #[.string ⟨#[]⟩, .string ⟨#[]⟩, .int .i64 0, .string ⟨#[]⟩, .bool false] := rfl
set_option maxHeartbeats 4000000 in
set_option maxRecDepth 100000 in
theorem cut_ok (x : Value) (l m : List UInt8) (c : Cl) (B : Nat) (w : World) (hr : Rd w B x (l.map bv)) (hB : B ≤ w.heap.size) (hl : l.length ≤ 1000000000) (hs : Stands l c m) :
    Calls Try.prog 59 #[x] w fun e w' => (∃ r, e = .returned (.tuple #[c.v, r, .bool true]) ∧ Ow w' w.heap.size 5 r (m.map bv)) ∧ Below w.heap.size w w' := by
  obtain ⟨h1, h2, h3, h4, h5⟩ := head_ok hs
  obtain ⟨A, cp, rfl, hc, hm⟩ := hr.shapeM
  unfold maxLen at hm
  have HOK := Lib.hid hs.1
  obtain ⟨k, hk⟩ : ∃ k, k = min l.length 401 := ⟨_, rfl⟩
  have hkl : (l.take 401).length = k := by rw [List.length_take]; omega
  have hk1 : k ≤ l.length := by omega
  have hk2 : min (l.length : Int) 401 = (k : Int) := by omega
  have htk : l.take 401 = l.take k := by
    rw [hk]
    by_cases h : l.length ≤ 401
    · rw [List.take_of_length_le h, Nat.min_eq_left h, List.take_length]
    · rw [Nat.min_eq_right (by omega)]
  have hrh := hr.cutTo (hi := k) hk1
  rw [← List.map_take, ← htk] at hrh
  have hsp := fun w hr hB => split_any (.slice A k cp) (l.take 401) B w hr hB (by rw [hkl]; omega)
  rw [h1, h2] at hsp
  have hu1 : (spR (l.take 401)).length ≤ k := by omega
  have hu2 : (k : Int) - ((spR (l.take 401)).length : Int) = ((cellB c).length : Int) := by omega
  have hu3 : (cellB c).length ≤ l.length := by omega
  have hu4 : (cellB c).length ≤ cp := by omega
  have hrt : ∀ C : Nat, C = cp - (cellB c).length → ∃ v2, v2 = Value.slice (if cp = (cellB c).length then A else A.map (·.add (cellB c).length)) (l.length - (cellB c).length) C ∧ Rd w B v2 (m.map bv) := fun C hC => by
    subst hC
    have := hr.cutFrom (lo := (cellB c).length) hu3
    rw [← List.map_drop, h5, Nat.mul_one] at this
    exact ⟨_, rfl, this⟩
  have HRT := Lib.hid hrt
  clear hrt h1 h2 h3 h4 hkl htk hk
  generalize l.take 401 = hd at *
  have HM : Hid (l.length - (cellB c).length = m.length) := Lib.hid (by rw [← h5]; simp)
  have HML : Hid (m.length ≤ 1000000000000) := Lib.hid (by rw [← HM.out]; omega)
  clear h5
  generalize (cellB c).length = n at *
  go_enter Try.func59, Try.ntmps59
  go_wp2_with (refine allocC rfl rfl ?_)
  constructor
  intro w0 hI0 hb0 hz0
  have hrh := hrh.below (hb0.mono hB)
  have hB0 : B ≤ w0.heap.size := by omega
  have HB0 := Lib.hid hb0
  clear hz0 hb0
  go_wp2_with fail
  refine (hsp _ hrh hB0).mono ?_
  rintro e w1 ⟨⟨r1, rfl, hr1⟩, hb1⟩
  have hI1 := hI0.up hb1
  have HB1 := Lib.hid (bwstep HB0.out hb1)
  obtain ⟨A1, c1, rfl, -, hm1⟩ := hr1.shapeM
  clear hr1 hb1 hI0 hrh hsp
  go_wp2_with (refine allocC rfl rfl ?_)
  constructor
  intro w2 hI2 hb2 hz2
  have hlt := hI1.lt
  have hI1 := hI1.up hb2
  have hne : w1.heap.size ≠ w.heap.size := by omega
  have HB2 := Lib.hid (bwstep HB1.out hb2)
  have hr2 := fun w => right_any c w
  rw [decide_eq_true HOK.out] at hr2
  clear hb2 hz2
  go_wp2_with (refine storeC (c := c) rfl (.tmp 6) (.tmp 18) rfl rfl rfl hI2 ?_)
  constructor
  intro w3 hs3
  have HC3 := Lib.hid (CutS.mk (hs3.up hI1 hne.symm) hs3.i hne (Nat.le_refl _) (hs3.bel HB2.out HB1.out.size))
  clear hs3 hI1 hI2
  go_wp2_with (refine loadC rfl (.tmp 6) rfl rfl HC3.out.ik ?_)
  refine (hr2 _).mono ?_
  rintro e w4 ⟨rfl, hb4⟩
  have HC4 := Lib.hid (HC3.out.up hb4)
  clear hb4 HC3 hr2
  go_wp2_with fail
  have hn0 : (0 : Int) ≤ (n : Int) := by omega
  have hn1 : (n : Int) ≤ (l.length : Int) := by omega
  have hn2 : (l.length : Int) ≤ (cp : Int) := by omega
  obtain ⟨v2, hv2, hrv⟩ := HRT.out _ rfl
  have HRV : Hid (Rd w4.drew w4.drew.heap.size v2 (m.map bv)) := Lib.hid ((hrv.below ((HC4.out.bel.mono hB).drew)).mono (Nat.le_trans hB (HC4.out.bel.drew).size))
  have HC5 := Lib.hid (HC4.out.up (Below.refl _ _).drew)
  clear hr hrv HRT hu1 hu2 HC4
  obtain ⟨p0, p1, p2, p3, p4⟩ := HC5.out.ik.five
  obtain ⟨q0, q1, q2, q3, q4⟩ := HC5.out.ig.five
  obtain ⟨f0, f1, f2, f3, f4⟩ := HC5.out.ig.fro
  by_cases hcp : cp = n
  · subst hcp
    have hlc : l.length = cp := by omega
    have hv3 : v2 = .slice A 0 0 := by rw [hv2, if_pos rfl, Nat.sub_self, hlc, Nat.sub_self]
    clear hv2
    subst hv3
    rw [hlc] at *
    go_region_with
      (go_at_call 46; refine (bclone_any _ m _ _ HRV.out (Nat.le_refl _) HML.out).mono ?_; rintro e wx ⟨x, rfl, hx, hbx⟩; have HC6 := Lib.hid (HC5.out.up hbx); have HX := Lib.hid hx; obtain ⟨p0, p1, p2, p3, p4⟩ := HC6.out.ik.five; obtain ⟨q0, q1, q2, q3, q4⟩ := HC6.out.ig.five; obtain ⟨f0, f1, f2, f3, f4⟩ := HC6.out.ig.fro; clear hx hbx)
    all_goals
      have hs9 := chain5 (c := c) HC6.out.ig
      generalize ((((wx.setCell ⟨w.heap.size, 0, none⟩ (.string c.row)).setCell ⟨w.heap.size, 1, none⟩ (.string c.col)).setCell ⟨w.heap.size, 2, none⟩ (.int .i64 c.at_)).setCell ⟨w.heap.size, 3, none⟩ (.string c.val)).setCell ⟨w.heap.size, 4, none⟩ (.bool c.gone) = w9 at *
      have HS9 := Lib.hid hs9
      clear hs9
      go_wp2_with fail
      exact bodyPost_ret (res3 Try.results59 rfl HS9.out.i) rfl ⟨⟨_, rfl, (HS9.out.ow HX.out HC5.out.ig.lt).mono HC5.out.bel.size⟩, HS9.out.bel HC6.out.bel (Nat.le_refl _)⟩
  · have hv3 : v2 = .slice (A.map fun x => x.add n) (l.length - n) (cp - n) := by rw [hv2, if_neg hcp]
    clear hv2
    subst hv3
    go_region_with
      (go_at_call 46; refine (bclone_any _ m _ _ HRV.out (Nat.le_refl _) HML.out).mono ?_; rintro e wx ⟨x, rfl, hx, hbx⟩; have HC6 := Lib.hid (HC5.out.up hbx); have HX := Lib.hid hx; obtain ⟨p0, p1, p2, p3, p4⟩ := HC6.out.ik.five; obtain ⟨q0, q1, q2, q3, q4⟩ := HC6.out.ig.five; obtain ⟨f0, f1, f2, f3, f4⟩ := HC6.out.ig.fro; clear hx hbx)
    all_goals
      have hs9 := chain5 (c := c) HC6.out.ig
      generalize ((((wx.setCell ⟨w.heap.size, 0, none⟩ (.string c.row)).setCell ⟨w.heap.size, 1, none⟩ (.string c.col)).setCell ⟨w.heap.size, 2, none⟩ (.int .i64 c.at_)).setCell ⟨w.heap.size, 3, none⟩ (.string c.val)).setCell ⟨w.heap.size, 4, none⟩ (.bool c.gone) = w9 at *
      have HS9 := Lib.hid hs9
      clear hs9
      go_wp2_with fail
      exact bodyPost_ret (res3 Try.results59 rfl HS9.out.i) rfl ⟨⟨_, rfl, (HS9.out.ow HX.out HC5.out.ig.lt).mono HC5.out.bel.size⟩, HS9.out.bel HC6.out.bel (Nat.le_refl _)⟩
set_option maxHeartbeats 4000000 in
set_option maxRecDepth 100000 in
theorem cut_no (x : Value) (l : List UInt8) (B : Nat) (w : World) (hr : Rd w B x (l.map bv)) (hB : B ≤ w.heap.size) (hl : l.length ≤ 1000000000) (hs : ¬ ∃ c m, Stands l c m) :
    Calls Try.prog 59 #[x] w fun e w' => e = .returned (.tuple #[Cl.zero.v, .slice none 0 0, .bool false]) ∧ Below w.heap.size w w' := by
  obtain ⟨A, cp, rfl, hc, hm⟩ := hr.shapeM
  unfold maxLen at hm
  obtain ⟨k, hk⟩ : ∃ k, k = min l.length 401 := ⟨_, rfl⟩
  have hkl : (l.take 401).length = k := by rw [List.length_take]; omega
  have hk1 : k ≤ l.length := by omega
  have hk2 : min (l.length : Int) 401 = (k : Int) := by omega
  have htk : l.take 401 = l.take k := by
    rw [hk]
    by_cases h : l.length ≤ 401
    · rw [List.take_of_length_le h, Nat.min_eq_left h, List.take_length]
    · rw [Nat.min_eq_right (by omega)]
  have hrh := hr.cutTo (hi := k) hk1
  rw [← List.map_take, ← htk] at hrh
  have hno := fun h1 => head_no hs h1
  have hsp := fun w hr hB => split_any (.slice A k cp) (l.take 401) B w hr hB (by rw [hkl]; omega)
  clear hs hkl htk hk hr
  generalize l.take 401 = hd at *
  generalize spC hd = c at *
  generalize spR hd = rr at *
  cases hq : spOk hd
  · rw [hq] at hsp
    clear hno hq
    go_enter Try.func59, Try.ntmps59
    go_wp2_with (refine allocC rfl rfl ?_)
    constructor
    intro w0 hI0 hb0 hz0
    have hrh := hrh.below (hb0.mono hB)
    have hB0 : B ≤ w0.heap.size := by omega
    have HB0 := Lib.hid hb0
    clear hz0 hb0
    go_wp2_with fail
    refine (hsp _ hrh hB0).mono ?_
    rintro e w1 ⟨⟨r1, rfl, hr1⟩, hb1⟩
    have hI1 := hI0.up hb1
    have HB1 := Lib.hid (bwstep HB0.out hb1)
    obtain ⟨A1, c1, rfl, -, hm1⟩ := hr1.shapeM
    clear hr1 hb1 hI0 hrh hsp
    go_wp2_with (refine allocC rfl rfl ?_)
    constructor
    intro w2 hI2 hb2 hz2
    have hlt := hI1.lt
    have hI1 := hI1.up hb2
    have hne : w1.heap.size ≠ w.heap.size := by omega
    have HB2 := Lib.hid (bwstep HB1.out hb2)
    clear hb2 hz2
    go_wp2_with (refine storeC (c := c) rfl (.tmp 6) (.tmp 18) rfl rfl rfl hI2 ?_)
    constructor
    intro w3 hs3
    have HC3 := Lib.hid (CutS.mk (hs3.up hI1 hne.symm) hs3.i hne (Nat.le_refl _) (hs3.bel HB2.out HB1.out.size))
    clear hs3 hI1 hI2
    go_wp2_with (refine storeC (c := Cl.zero) rfl (.tmp 2) (.tmp 28) rfl rfl rfl HC3.out.ig ?_)
    constructor
    intro w4 hs4
    have HS4 := Lib.hid hs4
    clear hs4
    go_wp2_with fail
    exact bodyPost_ret (res3 Try.results59 rfl HS4.out.i) rfl ⟨rfl, HS4.out.bel HC3.out.bel (Nat.le_refl _)⟩
  · have hno := hno hq
    have hr2 := fun w => right_any c w
    rw [hq] at hsp
    rw [decide_eq_false hno] at hr2
    clear hno hq
    go_enter Try.func59, Try.ntmps59
    go_wp2_with (refine allocC rfl rfl ?_)
    constructor
    intro w0 hI0 hb0 hz0
    have hrh := hrh.below (hb0.mono hB)
    have hB0 : B ≤ w0.heap.size := by omega
    have HB0 := Lib.hid hb0
    clear hz0 hb0
    go_wp2_with fail
    refine (hsp _ hrh hB0).mono ?_
    rintro e w1 ⟨⟨r1, rfl, hr1⟩, hb1⟩
    have hI1 := hI0.up hb1
    have HB1 := Lib.hid (bwstep HB0.out hb1)
    obtain ⟨A1, c1, rfl, -, hm1⟩ := hr1.shapeM
    clear hr1 hb1 hI0 hrh hsp
    go_wp2_with (refine allocC rfl rfl ?_)
    constructor
    intro w2 hI2 hb2 hz2
    have hlt := hI1.lt
    have hI1 := hI1.up hb2
    have hne : w1.heap.size ≠ w.heap.size := by omega
    have HB2 := Lib.hid (bwstep HB1.out hb2)
    clear hb2 hz2
    go_wp2_with (refine storeC (c := c) rfl (.tmp 6) (.tmp 18) rfl rfl rfl hI2 ?_)
    constructor
    intro w3 hs3
    have HC3 := Lib.hid (CutS.mk (hs3.up hI1 hne.symm) hs3.i hne (Nat.le_refl _) (hs3.bel HB2.out HB1.out.size))
    clear hs3 hI1 hI2
    go_wp2_with (refine loadC rfl (.tmp 6) rfl rfl HC3.out.ik ?_)
    refine (hr2 _).mono ?_
    rintro e w4 ⟨rfl, hb4⟩
    have HC4 := Lib.hid (HC3.out.up hb4)
    clear hb4 HC3 hr2
    go_wp2_with (refine storeC (c := Cl.zero) rfl (.tmp 2) (.tmp 28) rfl rfl rfl HC4.out.ig ?_)
    constructor
    intro w5 hs4
    have HS4 := Lib.hid hs4
    clear hs4
    go_wp2_with fail
    exact bodyPost_ret (res3 Try.results59 rfl HS4.out.i) rfl ⟨rfl, HS4.out.bel HC4.out.bel (Nat.le_refl _)⟩
end Go.Proofs.Ytpflcnndloielaa.Ce
