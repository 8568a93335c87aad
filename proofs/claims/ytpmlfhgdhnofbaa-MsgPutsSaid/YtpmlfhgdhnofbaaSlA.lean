/- The contracts of package slot's functions: ballot, flag, numbers, Right, Put, Promise, Owner, Next. -/
import Derived.Test.YtpmlfhgdhnofbaaVoG
import Derived.Test.YtpmlfhgdhnofbaaCmY
import Derived.Deep.RegionHeld3
set_option maxHeartbeats 8000000
set_option maxRecDepth 100000
namespace Go.Proofs.Ytpmlfhgdhnofbaa.Ce
open Go.RowKit
theorem sballot_any (b : Int) (w : World) : Calls Try.prog 49 #[.int .i64 b] w fun e w' => e = .returned (.bool (decide (PrOk b))) ∧ w = w' := by
 have HP : Hid (PrOk b ↔ 1 ≤ b ∧ b ≤ 2147483647) := Lib.hid Iff.rfl
 by_cases h1 : (1 : Int) ≤ b
 ·by_cases h2 : b ≤ 2147483647
  ·rw [decide_eq_true (HP.out.2 ⟨h1, h2⟩)]
   clear HP
   go_enter Try.func49, Try.ntmps49
   go_wp2_with fail
   go_ret
   exact ⟨rfl, rfl⟩
  ·rw [decide_eq_false fun h => h2 (HP.out.1 h).2]
   clear HP
   go_enter Try.func49, Try.ntmps49
   go_wp2_with fail
   go_ret
   exact ⟨rfl, rfl⟩
 ·rw [decide_eq_false fun h => h1 (HP.out.1 h).1]
  clear HP
  go_enter Try.func49, Try.ntmps49
  go_wp2_with fail
  go_ret
  exact ⟨rfl, rfl⟩
theorem sflag_any (g : Bool) (w : World) : Calls Try.prog 59 #[.bool g] w fun e w' => e = .returned (.int .i64 (if g = true then 1 else 0)) ∧ w = w' := by
 cases g
 all_goals
  go_enter Try.func59, Try.ntmps59
  go_wp2_with fail
  go_ret
  exact ⟨rfl, rfl⟩
theorem snumbers_ok (x : Value) (N : List Int) (w : World) (hr : Rd w w.heap.size x (N.map ivC)) (hN : ∀ n ∈ N, 0 ≤ n ∧ n ≤ 4294967295) (hl : N.length ≤ 5) : Calls Try.prog 58 #[x] w fun e w' => ∃ v, e = .returned v ∧ Ow w' w.heap.size 5 v ((numsB N).map bv) ∧ Below w.heap.size w w' := by
 have HN := Lib.hid hN
 obtain ⟨A, cp, rfl, hc, hm⟩ := hr.shapeM
 have HC : Hid (∀ z, Below w.heap.size w z → ∀ k (hk : k < N.length), ∃ b off, A = some ⟨b, off, none⟩ ∧ z.cell? ⟨b, off + k, none⟩ = some (.int .i64 N[k])) := Lib.hid fun z hz k hk => by
  obtain ⟨b, o, e, hb, hcN⟩ := hr.cellM (by omega)
  exact ⟨b, o, e, (hz.cell (by exact hb)).trans (hcN k hk)⟩
 clear hr hN
 go_enter Try.func58, Try.ntmps58
 go_wp2_with fail
 go_loopw [3, 8] (fun o i wr => ∃ k : Nat, k ≤ N.length ∧ i = .int .i64 k ∧ Ow wr w.heap.size 5 o ((numsB (N.take k)).map bv) ∧ Below w.heap.size w wr) (fun _ i _ => 5 - (intOf i).toNat)
 case atStart => exact ⟨0, by omega, rfl, Ow.nilB _ _ _, Below.refl _ _⟩
 case round =>
  obtain ⟨k, hk, rfl, ho, hbw⟩ := hrel
  by_cases hlt : k < N.length
  ·obtain ⟨b, off, rfl, hcell⟩ := HC.out wr hbw k hlt
   have hnn := HN.out _ (List.getElem_mem hlt)
   have HS := Lib.hid (numsB_snoc N k hlt)
   generalize N[k]'hlt = n at hcell hnn HS
   have hol : (numsB (N.take k)).length ≤ 20 := by rw [numsB_len, List.length_take]; omega
   generalize numsB (N.take k) = F at ho HS hol
   have HO := Lib.hid ho
   have HBW := Lib.hid hbw
   have h0 := hnn.1
   have h1 := hnn.2
   clear ho hbw hnn
   obtain ⟨wo, hwo⟩ : ∃ wo, wo = wr := ⟨_, rfl⟩
   subst hwo
   go_wp2_with fail
   refine (num_int n _ h0 h1).mono ?_
   rintro e w3 ⟨q, rfl, hq, hb3⟩
   have hq3 := hq.rd
   have ho3 := HO.out.below hb3
   have hb4 := bwstep HBW.out hb3
   have hs4 := hb4.size
   have z4 : F.length + (numB n.toNat).length ≤ 140737488355328 := by rw [numB_len]; omega
   clear hq hb3
   go_wp2_with (at_builtin; refine wpList_appB bytesT rfl (.tmp 12) (.tmp 14) rfl rfl ho3 rfl hq3 z4 hs4 ?_; intro v5 w5 ho5 hg5 _; have HO5 := Lib.hid ho5; have HB5 := Lib.hid (hb4.grown hg5 hs4 ho3.ge); clear ho5 hg5)
   go_roundw
   case rel => exact ⟨k + 1, by omega, by go_num, by rw [HS.out]; exact HO5.out, HB5.out⟩
   case measure => simp [intOf]; omega
  ·rw [List.take_of_length_le (show N.length ≤ k by omega)] at ho
   have HO := Lib.hid ho
   have HBW := Lib.hid hbw
   clear ho hbw
   go_wp2_with fail
   go_ret
   exact ⟨_, rfl, HO.out, HBW.out⟩
theorem sprom_yes (b : Int) (w : World) (h : PrOk b) : Calls Try.prog 66 #[.int .i64 b] w fun e w' => ∃ v, e = .returned (.tuple #[v, .int .i64 0]) ∧ Ow w' w.heap.size 5 v ((prB b).map bv) ∧ Below w.heap.size w w' := by
 have hb := fun w => sballot_any b w
 rw [decide_eq_true h] at hb
 have HE : Hid (numsB [1, b] = prB b) := Lib.hid (by simp [numsB, prB])
 have hn := fun x w hr => snumbers_ok x [1, b] w hr (by have h1 := h.1; have h2 := h.2; intro n hn; simp only [List.mem_cons, List.not_mem_nil, or_false] at hn; rcases hn with rfl | rfl <;> omega) (by simp)
 clear h
 go_enter Try.func66, Try.ntmps66
 go_wp2_with fail
 refine (hb _).mono ?_
 rintro e w2 ⟨rfl, rfl⟩
 go_wp2_with fail
 have hNr := Rd.newW (xs := [1, b].map ivC) w 3 #[.int .i64 1, .int .i64 b] rfl (by simp [maxLen]) rfl
 have hb2 := bwalloc (bwrefl w) (.cells #[.int .i64 1, .int .i64 b] 3)
 refine (hn _ _ hNr).mono ?_
 rintro e w3 ⟨v, rfl, ho, hb3⟩
 rw [HE.out] at ho
 have HO := Lib.hid (ho.mono hb2.size)
 have HB := Lib.hid (bwstep hb2 hb3)
 clear hNr hb2 ho hb3 hn hb HE
 go_wp2_with fail
 go_ret2
 exact ⟨_, rfl, HO.out, HB.out⟩
theorem sprom_not (b : Int) (w : World) (h : ¬ PrOk b) : Calls Try.prog 66 #[.int .i64 b] w fun e w' => ∃ A cp, e = .returned (.tuple #[.slice A 0 cp, .int .i64 1]) ∧ Below w.heap.size w w' := by
 have hb := fun w => sballot_any b w
 rw [decide_eq_false h] at hb
 clear h
 go_enter Try.func66, Try.ntmps66
 go_wp2_with fail
 refine (hb _).mono ?_
 rintro e w2 ⟨rfl, rfl⟩
 go_wp2_with fail
 go_ret2
 exact ⟨_, _, rfl, Below.refl _ _⟩
theorem sright_any (c : Vt) (w : World) : Calls Try.prog 40 #[c.v] w fun e w' => e = .returned (.bool (decide c.Right)) ∧ Below w.heap.size w w' := by
 have HR := Lib.hid c.right_iff
 have hb := fun w => sballot_any c.ballot w
 have ho := fun w => sballot_any c.origin w
 have HB : Hid (PrOk c.ballot ↔ 1 ≤ c.ballot ∧ c.ballot ≤ 2147483647) := Lib.hid Iff.rfl
 have HO : Hid (PrOk c.origin ↔ 1 ≤ c.origin ∧ c.origin ≤ 2147483647) := Lib.hid Iff.rfl
 have go : ∀ q : Bool, q = decide c.Right → Calls Try.prog 40 #[c.v] w fun e w' => e = .returned (.bool q) ∧ Below w.heap.size w w' := by
  intro q hq
  have HQ := Lib.hid hq
  clear hq
  go_enter Try.func40, Try.ntmps40
  go_wp2_with (refine St.box vtD rfl (.tmp 0) c rfl rfl ?_)
  constructor
  intro w1 hI hb1 hz
  obtain ⟨c0, c1, c2, c3, c4⟩ := VtAt.of hI
  clear hI hz
  by_cases h0 : 0 ≤ c.slot ∧ c.slot < 64
  ·have h00 := h0.1
   have h01 := h0.2
   by_cases h1 : PrOk c.ballot
   ·rw [decide_eq_true h1] at hb
    by_cases h2 : PrOk c.origin
    ·rw [decide_eq_true h2] at ho
     have h3 : Hid (q = decide (c.origin ≤ c.ballot ∧ (c.bytes.size : Int) ≤ 520)) := Lib.hid (HQ.out.trans (decide_eq_decide.2 ⟨fun h => ⟨(HR.out.1 h).2.2.2.1, (HR.out.1 h).2.2.2.2.2⟩, fun h => HR.out.2 ⟨h00, by omega, (HO.out.1 h2).1, h.1, (HB.out.1 h1).2, h.2⟩⟩))
     clear HQ HR HB HO h1 h2 h0
     go_wp2_with fail
     refine (hb _).mono ?_
     rintro e w2 ⟨rfl, rfl⟩
     go_wp2_with fail
     refine (ho _).mono ?_
     rintro e w3 ⟨rfl, rfl⟩
     go_wp2_with fail
     all_goals
      go_ret
      first
      | exact ⟨ret1 (vb (h3.out.trans (decide_eq_true ⟨by omega, by omega⟩)).symm), hb1⟩
      | exact ⟨ret1 (vb (h3.out.trans (decide_eq_false fun h => by omega)).symm), hb1⟩
      | exact ⟨ret1 (vb (Eq.trans (decide_eq_decide.2 ⟨fun h => ⟨by omega, by omega⟩, fun h => by omega⟩) h3.out.symm)), hb1⟩
    ·rw [decide_eq_false h2] at ho
     have h3 : Hid (q = false) := Lib.hid (HQ.out.trans (decide_eq_false fun h => h2 (HO.out.2 ⟨by have := HR.out.1 h; omega, by have := HR.out.1 h; omega⟩)))
     clear HQ HR HB HO h1 h2 h0
     go_wp2_with fail
     refine (hb _).mono ?_
     rintro e w2 ⟨rfl, rfl⟩
     go_wp2_with fail
     refine (ho _).mono ?_
     rintro e w3 ⟨rfl, rfl⟩
     go_wp2_with fail
     go_ret
     exact ⟨ret1 (vb h3.out.symm), hb1⟩
   ·rw [decide_eq_false h1] at hb
    have h3 : Hid (q = false) := Lib.hid (HQ.out.trans (decide_eq_false fun h => h1 (HB.out.2 ⟨by have := HR.out.1 h; omega, by have := HR.out.1 h; omega⟩)))
    clear HQ HR HB HO h1 h0
    go_wp2_with fail
    refine (hb _).mono ?_
    rintro e w2 ⟨rfl, rfl⟩
    go_wp2_with fail
    go_ret
    exact ⟨ret1 (vb h3.out.symm), hb1⟩
  ·have h3 : Hid (q = false) := Lib.hid (HQ.out.trans (decide_eq_false fun h => h0 ⟨(HR.out.1 h).1, by have := HR.out.1 h; omega⟩))
   clear HQ HR HB HO
   go_wp2_with fail
   all_goals
    first
    | (go_ret; exact ⟨ret1 (vb h3.out.symm), hb1⟩)
    | (exfalso; omega)
 exact go _ rfl
theorem sl_of {g : Nat} {c : Vt} {wb z : World} (h : vtD.In g c z) (b : Below wb.heap.size wb z) : vtD.In g c z ∧ z.cell? ⟨g, 0, none⟩ = some (.int .i64 c.slot) ∧ z.cell? ⟨g, 1, none⟩ = some (.int .i64 c.ballot) ∧ z.cell? ⟨g, 2, none⟩ = some (.int .i64 c.origin) ∧ z.cell? ⟨g, 3, none⟩ = some (.bool c.full) ∧ z.cell? ⟨g, 4, none⟩ = some (.string c.bytes) ∧ Below wb.heap.size wb z :=
 have a := VtAt.of h
 ⟨h, a.c0, a.c1, a.c2, a.c3, a.c4, b⟩
theorem sl_up {g : Nat} {c : Vt} {wb z z' : World} (h : vtD.In g c z ∧ z.cell? ⟨g, 0, none⟩ = some (.int .i64 c.slot) ∧ z.cell? ⟨g, 1, none⟩ = some (.int .i64 c.ballot) ∧ z.cell? ⟨g, 2, none⟩ = some (.int .i64 c.origin) ∧ z.cell? ⟨g, 3, none⟩ = some (.bool c.full) ∧ z.cell? ⟨g, 4, none⟩ = some (.string c.bytes) ∧ Below wb.heap.size wb z) (hb : Below z.heap.size z z') : vtD.In g c z' ∧ z'.cell? ⟨g, 0, none⟩ = some (.int .i64 c.slot) ∧ z'.cell? ⟨g, 1, none⟩ = some (.int .i64 c.ballot) ∧ z'.cell? ⟨g, 2, none⟩ = some (.int .i64 c.origin) ∧ z'.cell? ⟨g, 3, none⟩ = some (.bool c.full) ∧ z'.cell? ⟨g, 4, none⟩ = some (.string c.bytes) ∧ Below wb.heap.size wb z' :=
 sl_of (h.1.up hb) (bwstep h.2.2.2.2.2.2 hb)
theorem sput_not (c : Vt) (w : World) (h : ¬ c.Right) : Calls Try.prog 48 #[c.v] w fun e w' => ∃ A cp, e = .returned (.tuple #[.slice A 0 cp, .int .i64 1]) ∧ Below w.heap.size w w' := by
 have hr := fun w => sright_any c w
 rw [decide_eq_false h] at hr
 clear h
 go_enter Try.func48, Try.ntmps48
 go_wp2_with (refine St.box vtD rfl (.tmp 0) c rfl rfl ?_)
 constructor
 intro w1 hI1 hb1 hz1
 go_wp2_with (refine St.load vtOk rfl (.tmp 1) rfl rfl hI1 ?_)
 refine (hr _).mono ?_
 rintro e w2 ⟨rfl, hb2⟩
 have hw2 := bwstep hb1 hb2
 clear hI1 hb1 hb2 hr hz1
 go_wp2_with fail
 go_ret2
 exact ⟨_, _, rfl, hw2⟩
theorem sput_yes (c : Vt) (w : World) (h : c.Right) : Calls Try.prog 48 #[c.v] w fun e w' => ∃ v, e = .returned (.tuple #[v, .int .i64 0]) ∧ Ow w' w.heap.size 5 v ((vtB c).map bv) ∧ Below w.heap.size w w' := by
 have hr := fun w => sright_any c w
 rw [decide_eq_true h] at hr
 have htx := h.text
 have hnn := h.nums
 have hCD : Hid (numsB (vtN c) ++ textB c.bytes = vtB c) := Lib.hid rfl
 have hlen := vtB_len c
 have HL : Hid (c.bytes.size ≤ 520) := Lib.hid (by have := h.2.2.2.2.2; omega)
 obtain ⟨hx, hhx⟩ : ∃ x : Int, x = if c.full = true then 1 else 0 := ⟨_, rfl⟩
 have hfl := fun w => (sflag_any c.full w).mono (R' := fun e w' => e = .returned (.int .i64 hx) ∧ Below w.heap.size w w') (by rintro e wa ⟨rfl, rfl⟩; exact ⟨by rw [hhx], Below.refl _ _⟩)
 have HN5 : Hid ((#[Value.int .i64 2, .int .i64 c.slot, .int .i64 c.ballot, .int .i64 c.origin, .int .i64 hx] : Array Value).toList = (vtN c).map ivC) := Lib.hid (by rw [hhx]; rfl)
 have hn := fun x w hr => snumbers_ok x (vtN c) w hr hnn (by simp [vtN])
 clear h hnn hhx
 go_enter Try.func48, Try.ntmps48
 go_wp2_with (refine St.box vtD rfl (.tmp 0) c rfl rfl ?_)
 constructor
 intro w1 hI1 hb1 hz1
 go_wp2_with (refine St.load vtOk rfl (.tmp 1) rfl rfl hI1 ?_)
 refine (hr _).mono ?_
 rintro e w2 ⟨rfl, hb2⟩
 have hI2 := hI1.up hb2
 have hw2 := bwstep hb1 hb2
 clear hI1 hb1 hb2 hr hz1
 have HT := Lib.hid (sl_of (wb := w2) (z := w2.drew) (hI2.up (Below.refl _ _).drew) (Below.refl _ _).drew)
 have HU := Lib.hid fun (a b : World) h hb => sl_up (g := w.heap.size) (c := c) (wb := w2) (z := a) (z' := b) h hb
 go_wp2_with fail
 go_region_held3 (fun z => vtD.In w.heap.size c z ∧ z.cell? ⟨w.heap.size, 0, none⟩ = some (.int .i64 c.slot) ∧ z.cell? ⟨w.heap.size, 1, none⟩ = some (.int .i64 c.ballot) ∧ z.cell? ⟨w.heap.size, 2, none⟩ = some (.int .i64 c.origin) ∧ z.cell? ⟨w.heap.size, 3, none⟩ = some (.bool c.full) ∧ z.cell? ⟨w.heap.size, 4, none⟩ = some (.string c.bytes) ∧ Below w2.heap.size w2 z) (first | exact HT.out | assumption | exact HU.out _ _ (by assumption) (by assumption) | exact HU.out _ _ (by assumption) (bwalloc (Below.refl _ _) _))
  (first
   | (go_at_call 59; refine (hfl _).mono ?_; rintro e wa ⟨rfl, hba⟩)
   | (go_at_call 58; with_reducible refine (hn _ _ (Rd.newW (n := 5) _ 3 #[Value.int .i64 2, .int .i64 c.slot, .int .i64 c.ballot, .int .i64 c.origin, .int .i64 hx] rfl (by simp [maxLen]) HN5.out)).mono ?_; rintro e w3 ⟨v3, rfl, ho3, hb3⟩))
 obtain ⟨hI3, -, -, -, -, c4, hb23⟩ := (by assumption : vtD.In w.heap.size c w3 ∧ w3.cell? ⟨w.heap.size, 0, none⟩ = some (.int .i64 c.slot) ∧ w3.cell? ⟨w.heap.size, 1, none⟩ = some (.int .i64 c.ballot) ∧ w3.cell? ⟨w.heap.size, 2, none⟩ = some (.int .i64 c.origin) ∧ w3.cell? ⟨w.heap.size, 3, none⟩ = some (.bool c.full) ∧ w3.cell? ⟨w.heap.size, 4, none⟩ = some (.string c.bytes) ∧ Below w2.heap.size w2 w3)
 have hwa := bwstep (bwstep hw2 ((Below.refl w2.heap.size w2).drew)) hba
 have hw3 := bwstep hw2 hb23
 have ho4 := ho3.mono (B' := w.heap.size) (by have := hwa.size; simp; omega)
 clear hwa hba hb23 ho3 hn hfl HN5 hI2 hw2 HT HU hb3
 go_wp2_with fail
 refine (text_ok c.bytes _ htx).mono ?_
 rintro e w4 ⟨q, rfl, hq, hb4⟩
 have hq4 := hq.rd
 have ho5 := ho4.below hb4
 have hw4 := bwstep hw3 hb4
 have hs4 := hw4.size
 have z4 : (numsB (vtN c)).length + (textB c.bytes).length ≤ 140737488355328 := by rw [← List.length_append, hCD.out, hlen]; have := HL.out; omega
 clear hq hb4 ho4 hw3 hI3 c4
 go_wp2_with (at_builtin; refine wpList_appB bytesT rfl (.tmp 19) (.tmp 22) rfl rfl ho5 rfl hq4 z4 hs4 ?_; intro v5 w5 hv5 hg5 _; have HO5 := Lib.hid hv5; have HB5 := Lib.hid (hw4.grown hg5 hs4 ho5.ge); clear hv5 hg5)
 go_ret2
 rw [hCD.out] at HO5
 exact ⟨_, rfl, HO5.out, HB5.out⟩
end Go.Proofs.Ytpmlfhgdhnofbaa.Ce
