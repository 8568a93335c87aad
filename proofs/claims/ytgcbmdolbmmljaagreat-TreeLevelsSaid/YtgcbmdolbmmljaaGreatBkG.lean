/- The contract of block.first: the cell at the beginning. The contracts of block.cells and block.Get. -/
import Derived.Test.YtgcbmdolbmmljaaGreatBkP
import Derived.Test.YtgcbmdolbmmljaaGreatCpA
import Derived.Test.YtgcbmdolbmmljaaGreatCsA
import Derived.Test.YtgcbmdolbmmljaaGreatCso
import Derived.Test.YtgcbmdolbmmljaaGreatFrmA
import Derived.Deep.RegionLaw
namespace Go.Proofs.YtgcbmdolbmmljaaGreat.Ce
open Go.RowKit

set_option maxHeartbeats 1000000 in
set_option maxRecDepth 100000 in
theorem first_ok (x : Value) (l m : List UInt8) (c : Cl) (B : Nat) (w : World) (hr : Rd w B x (l.map bv)) (hB : B ≤ w.heap.size) (hl : l.length ≤ 1000000000) (hs : Stands l c m) :
    Calls Tryz.prog 129 #[x] w fun e w' => e = .returned (.tuple #[c.v, .int .i64 ((cellB c).length : Int), .bool true]) ∧ Below w.heap.size w w' := by
  obtain ⟨A, cp, rfl, hc, hm⟩ := hr.shapeM
  unfold maxLen at hm
  obtain ⟨k, hk⟩ : ∃ k, k = min l.length 401 := ⟨_, rfl⟩
  have hkl : (l.take 401).length = k := by rw [List.length_take]; omega
  have hk1 : k ≤ l.length := by omega
  have hk2 : min (l.length : Int) 401 = (k : Int) := by omega
  have htk : l.take 401 = l.take k := by
    rw [hk]
    by_cases h : l.length ≤ 401
    · rw [List.take_of_length_le h, Nat.min_eq_left h, List.take_length]
    · rw [Nat.min_eq_right (by omega)]
  have hrh := hr.cutTo (hi := k) hk1
  rw [← List.map_take, ← htk] at hrh
  have hsh := stands_head hs
  have hle := congrArg List.length hsh.2
  rw [List.length_append, hkl] at hle
  generalize m.take (401 - (cellB c).length) = mm at *
  generalize l.take 401 = hd at *
  have HR := Lib.hid hrh
  have HS := Lib.hid hsh
  have HK := Lib.hid (And.intro hkl hle)
  have hk3 : (0 : Int) ≤ (k : Int) := by omega
  have hk4 : (k : Int) ≤ (cp : Int) := by omega
  have hsub : (k : Int) - (mm.length : Int) = ((cellB c).length : Int) := by omega
  have hkc : k ≤ 401 := by omega
  clear hr hs hrh hsh htk hk hkl hle
  generalize (cellB c).length = z at *
  go_enter Tryz.func129, Tryz.ntmps129
  go_wp2_with (refine allocC rfl rfl ?_)
  constructor
  intro w0 hI0 hb0 hz0
  have HI0 := Lib.hid hI0
  have HB0 := Lib.hid hb0
  clear hI0 hb0 hz0
  go_wp2_with fail
  refine (cut_ok _ hd mm c B w0 (HR.out.below (HB0.out.mono hB)) (Nat.le_trans hB HB0.out.size) (by have := HK.out.1; omega) HS.out).mono ?_
  rintro e w1 ⟨⟨r, rfl, hx⟩, hb1⟩
  obtain ⟨A1, c1, rfl, -, -⟩ := hx.rd.shapeM
  have HI1 := Lib.hid (HI0.out.up hb1)
  have HB1 := Lib.hid (bwstep HB0.out hb1)
  clear hx hb1
  go_wp2_with (refine allocC rfl rfl ?_)
  constructor
  intro w2 hI2 hb2 hz2
  go_wp2_with (refine storeC (c := c) rfl (.tmp 6) (.tmp 17) rfl rfl rfl hI2 ?_)
  constructor
  intro w3 hs3
  have HI3 := Lib.hid hs3.i
  have HJ3 := Lib.hid (hs3.up (HI1.out.up hb2) (Nat.ne_of_lt HI1.out.lt))
  have HB3 := Lib.hid (bwstep HB1.out (hs3.bel hb2 (Nat.le_refl _)))
  have hne := Nat.le_of_lt HI1.out.lt
  clear hI2 hb2 hz2 hs3
  go_wp2_with (first | (refine loadC rfl (.tmp 6) rfl rfl HI3.out ?_) | (refine storeC (c := c) rfl (.tmp 2) (.tmp 20) rfl rfl rfl HJ3.out ?_))
  constructor
  intro w4 hs4
  have HI4 := Lib.hid hs4.i
  have HB4 := Lib.hid (hs4.bel HB3.out (Nat.le_refl _))
  clear hs4
  go_wp2_with fail
  exact bodyPost_ret (res3 Tryz.results129 rfl HI4.out) rfl ⟨rfl, HB4.out⟩
set_option maxHeartbeats 1000000 in
set_option maxRecDepth 100000 in
theorem first_no (x : Value) (l : List UInt8) (B : Nat) (w : World) (hr : Rd w B x (l.map bv)) (hB : B ≤ w.heap.size) (hl : l.length ≤ 1000000000) (hs : ¬ ∃ c m, Stands l c m) :
    Calls Tryz.prog 129 #[x] w fun e w' => (∃ n : Int, e = .returned (.tuple #[Cl.zero.v, .int .i64 n, .bool false])) ∧ Below w.heap.size w w' := by
  obtain ⟨A, cp, rfl, hc, hm⟩ := hr.shapeM
  unfold maxLen at hm
  obtain ⟨k, hk⟩ : ∃ k, k = min l.length 401 := ⟨_, rfl⟩
  have hkl : (l.take 401).length = k := by rw [List.length_take]; omega
  have hk1 : k ≤ l.length := by omega
  have hk2 : min (l.length : Int) 401 = (k : Int) := by omega
  have htk : l.take 401 = l.take k := by
    rw [hk]
    by_cases h : l.length ≤ 401
    · rw [List.take_of_length_le h, Nat.min_eq_left h, List.take_length]
    · rw [Nat.min_eq_right (by omega)]
  have hrh := hr.cutTo (hi := k) hk1
  rw [← List.map_take, ← htk] at hrh
  have hsh : ¬ ∃ c m, Stands (l.take 401) c m := fun ⟨c, m, h⟩ => hs ⟨c, _, head_stands h⟩
  generalize l.take 401 = hd at *
  have HR := Lib.hid hrh
  have HS := Lib.hid hsh
  have HK := Lib.hid hkl
  have hk3 : (0 : Int) ≤ (k : Int) := by omega
  have hk4 : (k : Int) ≤ (cp : Int) := by omega
  have hkc : k ≤ 401 := by omega
  clear hr hs hrh hsh htk hk hkl
  go_enter Tryz.func129, Tryz.ntmps129
  go_wp2_with (refine allocC rfl rfl ?_)
  constructor
  intro w0 hI0 hb0 hz0
  have HI0 := Lib.hid hI0
  have HB0 := Lib.hid hb0
  clear hI0 hb0 hz0
  go_wp2_with fail
  refine (cut_no _ hd B w0 (HR.out.below (HB0.out.mono hB)) (Nat.le_trans hB HB0.out.size) (by have := HK.out; omega) HS.out).mono ?_
  rintro e w1 ⟨rfl, hb1⟩
  have HI1 := Lib.hid (HI0.out.up hb1)
  have HB1 := Lib.hid (bwstep HB0.out hb1)
  clear hb1
  go_wp2_with (refine allocC rfl rfl ?_)
  constructor
  intro w2 hI2 hb2 hz2
  go_wp2_with (refine storeC (c := Cl.zero) rfl (.tmp 6) (.tmp 17) rfl rfl rfl hI2 ?_)
  constructor
  intro w3 hs3
  have HI3 := Lib.hid hs3.i
  have HJ3 := Lib.hid (hs3.up (HI1.out.up hb2) (Nat.ne_of_lt HI1.out.lt))
  have HB3 := Lib.hid (bwstep HB1.out (hs3.bel hb2 (Nat.le_refl _)))
  clear hI2 hb2 hz2 hs3
  go_wp2_with (first | (refine loadC rfl (.tmp 6) rfl rfl HI3.out ?_) | (refine storeC (c := Cl.zero) rfl (.tmp 2) (.tmp 20) rfl rfl rfl HJ3.out ?_))
  constructor
  intro w4 hs4
  have HI4 := Lib.hid hs4.i
  have HB4 := Lib.hid (hs4.bel HB3.out (Nat.le_refl _))
  clear hs4
  go_wp2_with fail
  exact bodyPost_ret (res3 Tryz.results129 rfl HI4.out) rfl ⟨⟨_, rfl⟩, HB4.out⟩
end Go.Proofs.YtgcbmdolbmmljaaGreat.Ce

namespace Go.Proofs.YtgcbmdolbmmljaaGreat.Ce
open Go.RowKit Frm

/-- what is told of a record -/
def CellsEnd (r : List UInt8) (w : World) (e : Ending) (w' : World) : Prop :=
  ((∃ L x, IsRec r L ∧ e = .returned (.tuple #[x, .bool true]) ∧ OwL w' w.heap.size x L) ∨ ((¬ ∃ L, IsRec r L) ∧ e = .returned (.tuple #[.slice none 0 0, .bool false]))) ∧ Below w.heap.size w w'
/-- A has been cut off, left is left -/
structure CellsS (r : List UInt8) (A : List Cl) (left : List UInt8) : Prop where
  e : r.drop 4 = flatC A ++ left
  ok : ∀ c ∈ A, c.ok
theorem CellsS.step {r left m : List UInt8} {A : List Cl} {c : Cl} (h : CellsS r A left) (hs : Stands left c m) : CellsS r (A ++ [c]) m := by
  refine ⟨?_, fun x hx => ?_⟩
  · rw [h.e, hs.2, flatC_app, flatC_one, List.append_assoc]
  · rcases List.mem_append.1 hx with hx | hx
    · exact h.ok x hx
    · rw [List.mem_singleton.1 hx]; exact hs.1
theorem CellsS.le {r left : List UInt8} {A : List Cl} (h : CellsS r A left) : 19 * A.length + left.length ≤ r.length := by
  have h1 := flatC_ge h.ok
  have h2 := congrArg List.length h.e
  rw [List.length_drop, List.length_append] at h2
  omega
set_option maxHeartbeats 4000000 in
set_option maxRecDepth 100000 in
theorem cells_any (x : Value) (r : List UInt8) (B : Nat) (w : World) (hr : Rd w B x (r.map bv)) (_hB : B ≤ w.heap.size) (hl : r.length ≤ 1000000) :
    Calls Tryz.prog 126 #[x] w (CellsEnd r w) := by
  by_cases h4 : 4 ≤ r.length
  · obtain ⟨n, hn⟩ : ∃ n, n = numOf r := ⟨_, rfl⟩
    have hcn := cutNum_ok x r B w hr h4 (by omega)
    rw [← hn] at hcn
    have HN := Lib.hid hn
    have hnl : n ≤ 4294967295 := by have := numOf_lt r; omega
    clear hn hr
    go_enter Tryz.func126, Tryz.ntmps126
    go_wp2_with fail
    refine hcn.mono ?_
    rintro e w1 ⟨u, rfl, hu, hb1⟩
    have HU := Lib.hid hu
    have HB1 := Lib.hid hb1
    clear hcn hu hb1
    go_wp2_with fail
    go_loopw [5, 7, 18] (fun lf l i wr => ∃ (k : Nat) (A : List Cl) (left : List UInt8), k ≤ n ∧ i = .int .i64 (k : Int) ∧ Hid (A.length = k) ∧ OwL wr w1.heap.size l A ∧ Rd wr w1.heap.size lf (left.map bv) ∧ Hid (CellsS r A left) ∧ Below w1.heap.size w1 wr) (fun _ _ i _ => n - (intOf i).toNat)
    case atStart => exact ⟨0, [], r.drop 4, by simp, rfl, Lib.hid rfl, OwL.nil _ _, HU.out.rd, Lib.hid ⟨rfl, fun c hc => by cases hc⟩, Below.refl _ _⟩
    case round =>
      obtain ⟨k, A, left, hk, rfl, HKK, ho, hf, HS, hbw⟩ := hrel
      have hle := HS.out.le
      rw [HKK.out] at hle
      have HBW := Lib.hid hbw
      have HO := Lib.hid ho
      have HF := Lib.hid hf
      clear ho hf hbw
      by_cases hlt : k < n
      · by_cases hst : ∃ c m, Stands left c m
        · obtain ⟨c, m, hs⟩ := hst
          have HT := Lib.hid (HS.out.step hs)
          have hml : left.length = (cellB c).length + m.length := by rw [hs.2, List.length_append]
          have hmd : left.drop (cellB c).length = m := by rw [hs.2, List.drop_left]
          obtain ⟨Af, cf, rfl, hfc, hfm⟩ := HF.out.shapeM
          unfold maxLen at hfm
          have hfi := first_ok _ left m c _ wr HF.out HBW.out.size (by omega) hs
          have hzl : (cellB c).length ≤ left.length := by omega
          have hcE : cf = (cellB c).length → ∀ wz, Below w1.heap.size w1 wz → Rd wz w1.heap.size (.slice Af 0 0) (m.map bv) := fun e wz hb => by
            subst e
            have := (HF.out).fromEnd hzl
            rw [← List.map_drop, hmd] at this
            obtain ⟨A', c', e', p1, p2, p3⟩ := this
            injection e' with e1 e2 e3
            have : m = [] := List.eq_nil_of_length_eq_zero (by simpa using e2.symm)
            subst this
            exact ⟨Af, 0, rfl, Nat.le_refl _, by simp [maxLen], fun h => absurd h (by simp)⟩
          have hcN : ¬ cf = (cellB c).length → Rd wr w1.heap.size (.slice (Af.map fun x => x.add (cellB c).length) (left.length - (cellB c).length) (cf - (cellB c).length)) (m.map bv) := fun e => by
            have := HF.out.from_ hzl e
            rwa [← List.map_drop, hmd] at this
          have HCE := Lib.hid hcE
          have HCN := Lib.hid hcN
          have hz2 : (0 : Int) ≤ ((cellB c).length : Int) := by omega
          have hz3 : ((cellB c).length : Int) ≤ (left.length : Int) := by omega
          have hz4 : (left.length : Int) ≤ (cf : Int) := by omega
          have hz5 : left.length - (cellB c).length = m.length := by omega
          have hlA : A.length + [c].length ≤ 1000000000 := by rw [HKK.out]; simp; omega
          have HML := Lib.hid hml
          clear hs hmd hcE hcN hzl hml
          generalize (cellB c).length = z at *
          go_wp2_with fail
          refine hfi.mono ?_
          rintro e w2 ⟨rfl, hb2⟩
          have HB2 := Lib.hid hb2
          clear hb2 hfi
          go_wp2_with (refine allocC rfl rfl ?_)
          constructor
          intro w3 hI3 hb3 hz
          go_wp2_with (refine storeC (c := c) rfl (.tmp 8) (.tmp 23) rfl rfl rfl hI3 ?_)
          constructor
          intro w4 hs4
          have HI4 := Lib.hid hs4.i
          have HB4 := Lib.hid (bwstep HB2.out (hs4.bel hb3 (Nat.le_refl _)))
          have HO4 := Lib.hid (HO.out.below HB4.out)
          clear hI3 hb3 hz hs4
          obtain ⟨c0, c1, c2, c3, c4⟩ := HI4.out.five
          have bA := bwalloc (bwrefl w4) (.cells #[.string c.row, .string c.col, .int .i64 c.at_, .string c.val, .bool c.gone] 34)
          have hx0 := RdL.one w4 [] c (by simp) 34
          have hx1 := hx0.bel (bwrefl (w4.alloc (.cells #[.string c.row, .string c.col, .int .i64 c.at_, .string c.val, .bool c.gone] 34))).drew
          have ho1 := HO4.out.below bA.drew
          have hB1 := Nat.le_trans HBW.out.size (Nat.le_trans HB4.out.size bA.size)
          have hBA := (bwstep HB4.out bA.drew).mono HBW.out.size
          have HZ := Lib.hid (show n - (k + 1) < n - k by omega)
          clear hx0 bA
          by_cases hcc : cf = z
          · have hCE := Lib.hid (HCE.out hcc)
            have HLL : Hid (left.length = z) := Lib.hid (by omega)
            clear HCE HCN
            subst hcc
            have hlc := HLL.out
            clear hfc hz3 hz4 hz5
            rw [hlc] at *
            clear hlc
            go_wp2_with fail
            go_region_law (refine step_appL rfl (.tmp 28) (.tmp 30) rfl (by simp [Act.eval]) ho1 (by simp [Act.eval]) hx1 hlA hB1 ?_; intro v5 w5 o5 g5 h5; have HO5 := Lib.hid o5; have HB5 := Lib.hid (hBA.grown g5 hB1 (fun k hk => (ho1.lt k hk).1)); clear o5 g5 h5 ho1 hx1)
            go_wp2_with fail
            go_roundw
            case rel => exact ⟨k + 1, A ++ [c], m, by omega, by go_num, Lib.hid (by rw [List.length_append, HKK.out]; rfl), HO5.out, hCE.out w5 (HBW.out.trans HB5.out), HT, HBW.out.trans HB5.out⟩
            case measure => have := HZ.out; simp [intOf]; omega
          · have hcm := HCN.out hcc
            rw [hz5] at hcm
            have HCM := Lib.hid hcm
            clear HCE HCN hcm
            go_wp2_with fail
            go_region_law (refine step_appL rfl (.tmp 28) (.tmp 30) rfl (by simp [Act.eval]) ho1 (by simp [Act.eval]) hx1 hlA hB1 ?_; intro v5 w5 o5 g5 h5; have HO5 := Lib.hid o5; have HB5 := Lib.hid (hBA.grown g5 hB1 (fun k hk => (ho1.lt k hk).1)); clear o5 g5 h5 ho1 hx1)
            go_wp2_with fail
            go_roundw
            case rel => exact ⟨k + 1, A ++ [c], m, by omega, by go_num, Lib.hid (by rw [List.length_append, HKK.out]; rfl), HO5.out, HCM.out.below HB5.out, HT, HBW.out.trans HB5.out⟩
            case measure => have := HZ.out; simp [intOf]; omega
        · have hfi := first_no _ left _ wr HF.out HBW.out.size (by omega) hst
          have HNO := Lib.hid (rec_stop hl HS.out.ok (by rw [HKK.out, ← HN.out]; exact hlt) HS.out.e hst)
          clear hst
          go_wp2_with fail
          refine hfi.mono ?_
          rintro e w2 ⟨⟨z, rfl⟩, hb2⟩
          have HB2 := Lib.hid (bwtrans HB1.out (HBW.out.trans (hb2.mono HBW.out.size)) (Nat.le_refl _))
          clear hb2 hfi
          go_wp2_with (refine allocC rfl rfl ?_)
          constructor
          intro w3 hI3 hb3 hz
          go_wp2_with (refine storeC (c := Cl.zero) rfl (.tmp 8) (.tmp 23) rfl rfl rfl hI3 ?_)
          constructor
          intro w4 hs4
          have HB4 := Lib.hid (bwstep HB2.out (hs4.bel hb3 (Nat.le_refl _)))
          clear hI3 hb3 hz hs4
          go_wp2_with fail
          go_ret2
          exact ⟨.inr ⟨HNO.out, rfl⟩, HB4.out⟩
      · obtain rfl : k = n := by omega
        have HE := Lib.hid (bwtrans HB1.out HBW.out (Nat.le_refl _))
        have HR := Lib.hid (HO.out.rd (S := []) (fun _ h => by cases h))
        obtain ⟨Al, cl, rfl, -, -⟩ := HR.out.shape
        obtain ⟨Af, cf, rfl, -, -⟩ := HF.out.shapeM
        have hkk := HKK.out
        clear HKK
        subst hkk
        by_cases h0 : A.length = 0
        · have HNO : Hid (¬ ∃ L, IsRec r L) := Lib.hid (by
            rintro ⟨L, h⟩
            obtain ⟨rfl, -⟩ := rec_end hl HS.out.ok HN.out HS.out.e h
            exact h.ne (List.eq_nil_of_length_eq_zero h0))
          rw [h0]
          clear h0
          go_wp2_with fail
          go_ret2
          exact ⟨.inr ⟨HNO.out, rfl⟩, HE.out⟩
        · by_cases h1 : left.length = 0
          · rw [h1]
            have hle0 := List.eq_nil_of_length_eq_zero h1
            clear h1
            have hso := sorted_any _ A wr HR.out (by omega)
            have hk1 : ((A.length : Int) == 0) = false := beq_false_of_ne (by omega)
            by_cases hsr : Sorted A
            · have HY := Lib.hid (rec_yes h4 HN.out (by rw [HS.out.e, hle0]) hsr (fun e => h0 (by rw [e]; rfl)))
              rw [sortedB_true hsr] at hso
              have HO2 := Lib.hid HO.out
              clear hsr
              go_wp2_with fail
              refine hso.mono ?_
              rintro e w2 ⟨rfl, hb2⟩
              have HO3 := Lib.hid ((HO2.out.below hb2).mono HB1.out.size)
              have HE3 := Lib.hid (bwstep HE.out hb2)
              clear hb2 hso
              go_wp2_with fail
              go_ret2
              exact ⟨.inl ⟨A, _, HY.out, rfl, HO3.out⟩, HE3.out⟩
            · have HNO : Hid (¬ ∃ L, IsRec r L) := Lib.hid (by
                rintro ⟨L, h⟩
                obtain ⟨rfl, -⟩ := rec_end hl HS.out.ok HN.out HS.out.e h
                exact hsr h.s)
              rw [sortedB_false hsr] at hso
              clear hsr
              go_wp2_with fail
              refine hso.mono ?_
              rintro e w2 ⟨rfl, hb2⟩
              have HE3 := Lib.hid (bwstep HE.out hb2)
              clear hb2 hso
              go_wp2_with fail
              go_ret2
              exact ⟨.inr ⟨HNO.out, rfl⟩, HE3.out⟩
          · have HNO : Hid (¬ ∃ L, IsRec r L) := Lib.hid (by
              rintro ⟨L, h⟩
              obtain ⟨-, e⟩ := rec_end hl HS.out.ok HN.out HS.out.e h
              exact h1 (by rw [e]; rfl))
            have hk1 : ((A.length : Int) == 0) = false := beq_false_of_ne (by omega)
            have hk2 : decide (0 < left.length) = true := decide_eq_true (by omega)
            clear h1
            go_wp2_with fail
            go_ret2
            exact ⟨.inr ⟨HNO.out, rfl⟩, HE.out⟩
  · have HNO : Hid (¬ ∃ L, IsRec r L) := Lib.hid (by
      rintro ⟨L, h⟩
      exact h4 (rec_num h hl).1)
    have hcn := cutNum_no x r B w hr (by omega)
    clear hr h4
    go_enter Tryz.func126, Tryz.ntmps126
    go_wp2_with fail
    refine hcn.mono ?_
    rintro e w1 ⟨u, rfl, -, hb1⟩
    have HB1 := Lib.hid hb1
    clear hcn hb1
    go_wp2_with fail
    go_loopw [7, 18] (fun l i wr => l = .slice none 0 0 ∧ i = .int .i64 0 ∧ w1 = wr) (fun _ _ _ => 0)
    case atStart => exact ⟨rfl, rfl, rfl⟩
    case round =>
      obtain ⟨rfl, rfl, rfl⟩ := hrel
      go_wp2_with fail
      go_ret2
      exact ⟨.inr ⟨HNO.out, rfl⟩, HB1.out⟩
/-- what is told of bytes -/
def GetEnd (b : List UInt8) (w : World) (e : Ending) (w' : World) : Prop :=
  ((∃ L m x y, BlkAt b L m ∧ e = .returned (.tuple #[x, y, .int .i64 0]) ∧ OwL w' w.heap.size x L ∧ Ow w' w.heap.size 5 y (m.map bv)) ∨ ((¬ ∃ L m, BlkAt b L m) ∧ e = .returned (.tuple #[.slice none 0 0, .slice none 0 0, .int .i64 2]))) ∧ Below w.heap.size w w'
set_option maxHeartbeats 1000000 in
set_option maxRecDepth 100000 in
theorem bget_any (v : Value) (b : List UInt8) (w : World) (B : Nat) (hr : Rd w B v (b.map bv)) (hB : B ≤ w.heap.size) (hl : b.length ≤ 1000000000) :
    Calls Tryz.prog 109 #[v] w (GetEnd b w) := by
  by_cases hw : Whole b
  · obtain ⟨r, m, hb, hr5⟩ := whole_iff.1 hw
    have hcu := Go.Proofs.YtgcbmdolbmmljaaGreat.cut_ok v b r m w B hr hB hb hr5 (by omega)
    have hyes := fun L => blkAt_of (L := L) hb hr5
    have hno := blkAt_no hb hr5
    have HY := Lib.hid hyes
    have HN := Lib.hid hno
    clear hw hr hb hyes hno
    go_enter Tryz.func109, Tryz.ntmps109
    go_wp2_with fail
    refine hcu.mono ?_
    rintro e w1 ⟨⟨x, y, rfl, hx, hy⟩, hb1⟩
    have HY1 := Lib.hid hy
    have HB1 := Lib.hid hb1
    have hce := cells_any x r _ w1 hx.rd (Nat.le_refl _) (by omega)
    clear hx hy hb1 hcu
    go_wp2_with fail
    refine hce.mono ?_
    rintro e w2 ⟨he, hb2⟩
    have HB2 := Lib.hid (bwstep HB1.out hb2)
    have HY2 := Lib.hid (HY1.out.below hb2)
    rcases he with ⟨L, z, hi, rfl, hz⟩ | ⟨hi, rfl⟩
    · have HZ := Lib.hid (hz.mono HB1.out.size)
      have HI := Lib.hid hi
      clear hz hi hb2 hce
      go_wp2_with fail
      go_ret3
      exact ⟨.inl ⟨L, m, z, y, HY.out L HI.out, rfl, HZ.out, HY2.out⟩, HB2.out⟩
    · have HI := Lib.hid hi
      clear hi hb2 hce
      go_wp2_with fail
      go_ret3
      exact ⟨.inr ⟨HN.out HI.out, rfl⟩, HB2.out⟩
  · have hcu := Go.Proofs.YtgcbmdolbmmljaaGreat.cut_no v b w B hr hB hw (by omega)
    have HN : Hid (¬ ∃ L m, BlkAt b L m) := Lib.hid (by
      rintro ⟨L, m, h⟩
      exact hw (blkAt_whole h))
    clear hw hr
    go_enter Tryz.func109, Tryz.ntmps109
    go_wp2_with fail
    refine hcu.mono ?_
    rintro e w1 ⟨⟨x, y, rfl, -, -⟩, hb1⟩
    have HB1 := Lib.hid hb1
    clear hb1 hcu
    go_wp2_with fail
    go_ret3
    exact ⟨.inr ⟨HN.out, rfl⟩, HB1.out⟩
end Go.Proofs.YtgcbmdolbmmljaaGreat.Ce
