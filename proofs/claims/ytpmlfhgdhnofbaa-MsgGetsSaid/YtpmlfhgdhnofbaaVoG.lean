/- Votes: plain, and as values; the bytes of a vote and of a promise; what bytes say. The contracts of the reference's functions of layer 17: Right, Promise, Put, Get. Layer 17's contracts as one structure; '==' of votes; awake. -/
import Derived.Test.YtpmlfhgdhnofbaaCmX
import Derived.Deep.Cut
import Derived.Test.YtpmlfhgdhnofbaaLow
set_option maxHeartbeats 8000000
set_option maxRecDepth 100000
namespace Go.Proofs.Ytpmlfhgdhnofbaa.Ce
open Go.RowKit
structure Vt where
 slot : Int
 ballot : Int
 origin : Int
 full : Bool
 bytes : ByteArray
def Vt.zero : Vt := ⟨0, 0, 0, false, ⟨#[]⟩⟩
theorem Vt.ext' {a b : Vt} (h0 : a.slot = b.slot) (h1 : a.ballot = b.ballot) (h2 : a.origin = b.origin) (h3 : a.full = b.full) (h4 : a.bytes = b.bytes) : a = b := by
 cases a; cases b; simp_all
def Vt.cs (c : Vt) : Array Value := #[.int .i64 c.slot, .int .i64 c.ballot, .int .i64 c.origin, .bool c.full, .string c.bytes]
abbrev vtD : St.Sp Vt := ⟨23, 0, 5, 48, Vt.cs, Vt.zero⟩
theorem vtOk : vtD.Ok Try.prog := ⟨⟨_, Try.underlying23, rfl⟩, by kernel_rfl, by decide, fun _ => rfl, fun x => by simp [Vt.cs, Value.oneCell']⟩
def Vt.v (c : Vt) : Value := .agg c.cs
def Vt.Right (c : Vt) : Prop := 0 ≤ c.slot ∧ c.slot ≤ 63 ∧ 1 ≤ c.origin ∧ c.origin ≤ c.ballot ∧ c.ballot ≤ 2147483647 ∧ (c.bytes.size : Int) ≤ 520
instance (c : Vt) : Decidable c.Right := by unfold Vt.Right; infer_instance
structure VtAt (g : Nat) (c : Vt) (w : World) : Prop where
 c0 : w.cell? ⟨g, 0, none⟩ = some (.int .i64 c.slot)
 c1 : w.cell? ⟨g, 1, none⟩ = some (.int .i64 c.ballot)
 c2 : w.cell? ⟨g, 2, none⟩ = some (.int .i64 c.origin)
 c3 : w.cell? ⟨g, 3, none⟩ = some (.bool c.full)
 c4 : w.cell? ⟨g, 4, none⟩ = some (.string c.bytes)
theorem VtAt.of {g : Nat} {c : Vt} {w : World} (h : vtD.In g c w) : VtAt g c w := ⟨h.at_ rfl, h.at_ rfl, h.at_ rfl, h.at_ rfl, h.at_ rfl⟩
def vtN (c : Vt) : List Int := [2, c.slot, c.ballot, c.origin, if c.full = true then 1 else 0]
def vtB (c : Vt) : List UInt8 := numsB (vtN c) ++ textB c.bytes
def prB (b : Int) : List UInt8 := numB 1 ++ numB b.toNat
def PrOk (b : Int) : Prop := 1 ≤ b ∧ b ≤ 2147483647
instance (b : Int) : Decidable (PrOk b) := by unfold PrOk; infer_instance
theorem vtB_len (c : Vt) : (vtB c).length = 24 + c.bytes.size := by
 unfold vtB
 rw [List.length_append, numsB_len, textB_len]
 simp only [vtN, List.length_cons, List.length_nil]
 omega
theorem prB_len (b : Int) : (prB b).length = 8 := by unfold prB; rw [List.length_append, numB_len, numB_len]
theorem Vt.Right.nums {c : Vt} (h : c.Right) : ∀ n ∈ vtN c, 0 ≤ n ∧ n ≤ 4294967295 := by
 obtain ⟨h1, h2, h3, h4, h5, h6⟩ := h
 intro n hn
 simp only [vtN, List.mem_cons, List.not_mem_nil, or_false] at hn
 rcases hn with rfl | rfl | rfl | rfl | rfl
 ·omega
 ·omega
 ·omega
 ·omega
 ·split <;> omega
theorem Vt.Right.text {c : Vt} (h : c.Right) : c.bytes.size ≤ 4294967295 := by
 obtain ⟨h1, h2, h3, h4, h5, h6⟩ := h
 omega
theorem zero_not : ¬ Vt.zero.Right := by unfold Vt.Right Vt.zero; simp
def IsVt (s : List UInt8) (c : Vt) : Prop := c.Right ∧ s = vtB c
def IsPr (s : List UInt8) (b : Int) : Prop := PrOk b ∧ s = prB b
theorem numsV (c : Vt) : vtB c = numB 2 ++ (numB c.slot.toNat ++ (numB c.ballot.toNat ++ (numB c.origin.toNat ++ (numB (if c.full = true then 1 else 0 : Int).toNat ++ textB c.bytes)))) := by
 simp [vtB, numsB, vtN]
theorem numB_drop (n : Nat) (m : List UInt8) (k : Nat) : (numB n ++ m).drop (4 + k) = m.drop k := by rw [← List.drop_drop, List.drop_left' (numB_len n)]
theorem vt_nums {c : Vt} (hs : c.Right) : numOf (vtB c) = 2 ∧ (numOf ((vtB c).drop 4) : Int) = c.slot ∧ (numOf ((vtB c).drop 8) : Int) = c.ballot ∧ (numOf ((vtB c).drop 12) : Int) = c.origin ∧ (numOf ((vtB c).drop 16) : Int) = (if c.full = true then 1 else 0) ∧ (vtB c).drop 20 = textB c.bytes := by
 have H := hs.nums
 have h0 := H c.slot (by simp [vtN])
 have h1 := H c.ballot (by simp [vtN])
 have h2 := H c.origin (by simp [vtN])
 have h3 := H (if c.full = true then 1 else 0) (by simp [vtN])
 have hd := numB_drop
 rw [numsV]
 refine ⟨?_, ?_, ?_, ?_, ?_, ?_⟩
 ·rw [Frm.numOf_numB _ (by omega)]
 ·rw [hd _ _ 0, List.drop_zero, Frm.numOf_numB _ (by omega)]; omega
 ·rw [hd _ _ 4, hd _ _ 0, List.drop_zero, Frm.numOf_numB _ (by omega)]; omega
 ·rw [hd _ _ 8, hd _ _ 4, hd _ _ 0, List.drop_zero, Frm.numOf_numB _ (by omega)]; omega
 ·rw [hd _ _ 12, hd _ _ 8, hd _ _ 4, hd _ _ 0, List.drop_zero, Frm.numOf_numB _ (by omega)]; omega
 ·rw [hd _ _ 16, hd _ _ 12, hd _ _ 8, hd _ _ 4, hd _ _ 0, List.drop_zero]
theorem pr_nums {b : Int} (h : PrOk b) : numOf (prB b) = 1 ∧ (numOf ((prB b).drop 4) : Int) = b := by
 have h1 := h.1
 have h2 := h.2
 unfold prB
 refine ⟨Frm.numOf_numB _ (by omega) _, ?_⟩
 rw [numB_drop 1 _ 0, List.drop_zero]
 have := Frm.numOf_numB b.toNat (by omega) []
 rw [List.append_nil] at this
 rw [this]; omega
def gotV (s : List UInt8) : Vt := ⟨numOf (s.drop 4), numOf (s.drop 8), numOf (s.drop 12), (numOf (s.drop 16) : Int) == 1, textThere (s.drop 20)⟩
theorem gotV_iff (s : List UInt8) (c : Vt) : IsVt s c ↔ c = gotV s ∧ 20 ≤ s.length ∧ numOf s = 2 ∧ textOk (s.drop 20) ∧ s.length = 20 + textSize (s.drop 20) ∧ numOf (s.drop 16) ≤ 1 ∧ (gotV s).Right := by
 constructor
 ·rintro ⟨hs, rfl⟩
  obtain ⟨k, n0, n1, n2, n3, n4⟩ := vt_nums hs
  have htx := hs.text
  have hok := textOk_textB c.bytes htx []
  obtain ⟨q1, q2, -⟩ := ct_of c.bytes htx []
  rw [List.append_nil] at hok q1 q2
  obtain ⟨a1, a2, a3, a4, a5, a6, a7, a8, a9⟩ := ok_size hok
  have hl := vtB_len c
  have hc : c = gotV (vtB c) := by
   apply Vt.ext' <;> simp only [gotV]
   ·exact n0.symm
   ·exact n1.symm
   ·exact n2.symm
   ·rw [n3]; cases c.full <;> rfl
   ·rw [n4, ← a7, q2]
  have hsz : (textThere (textB c.bytes)).size = c.bytes.size := by rw [← a7, q2]
  refine ⟨hc, by omega, k, by rw [n4]; exact hok, by rw [n4]; omega, ?_, by rw [← hc]; exact hs⟩
  have : (numOf ((vtB c).drop 16) : Int) ≤ 1 := by rw [n3]; split <;> omega
  omega
 ·rintro ⟨rfl, h20, h2, hok, hl, h1, hs⟩
  refine ⟨hs, ?_⟩
  obtain ⟨a1, a2, a3, a4, a5, a6, a7, a8, a9⟩ := ok_size hok
  have e0 := num_head (l := s) (by omega)
  have e1 := num_head (l := s.drop 4) (by rw [List.length_drop]; omega)
  have e2 := num_head (l := s.drop 8) (by rw [List.length_drop]; omega)
  have e3 := num_head (l := s.drop 12) (by rw [List.length_drop]; omega)
  have e4 := num_head (l := s.drop 16) (by rw [List.length_drop]; omega)
  rw [List.drop_drop] at e1 e2 e3 e4
  have e5 : s.drop 20 = textB (textThere (s.drop 20)) := by
   have := ct_inv a6
   have hz : textRest (s.drop 20) = [] := by
    rw [← a3]
    exact List.drop_of_length_le (by rw [List.length_drop]; omega)
   rw [a7, a8, hz, List.append_nil] at this
   exact this
  have hh : (if (gotV s).full = true then 1 else 0 : Int).toNat = numOf (s.drop 16) := by
   show (if ((numOf (s.drop 16) : Int) == 1) = true then 1 else 0 : Int).toNat = _
   split
   ·rename_i q
    have := eq_of_beq q
    omega
   ·rename_i q
    have : ¬ (numOf (s.drop 16) : Int) = 1 := fun e => q (by rw [e]; rfl)
    simp
    omega
  rw [numsV, hh]
  simp only [gotV, Int.toNat_natCast]
  rw [← e5, ← e4, ← e3, ← e2, ← e1, ← h2, ← e0]
theorem isPr_iff (s : List UInt8) (b : Int) : IsPr s b ↔ b = numOf (s.drop 4) ∧ s.length = 8 ∧ numOf s = 1 ∧ PrOk (numOf (s.drop 4)) := by
 constructor
 ·rintro ⟨h, rfl⟩
  obtain ⟨h1, h2⟩ := pr_nums h
  exact ⟨h2.symm, prB_len b, h1, by rw [h2]; exact h⟩
 ·rintro ⟨rfl, hl, h1, h⟩
  refine ⟨h, ?_⟩
  have e0 := num_head (l := s) (by omega)
  have e1 := num_head (l := s.drop 4) (by rw [List.length_drop]; omega)
  rw [List.drop_drop, List.drop_of_length_le (i := 4 + 4) (by omega), List.append_nil] at e1
  unfold prB
  rw [Int.toNat_natCast, ← e1, ← h1, ← e0]
inductive Says (s : List UInt8) : Int → Vt → Bool → Prop
 | prom (b : Int) (h : IsPr s b) : Says s b Vt.zero true
 | vote (c : Vt) (h : IsVt s c) : Says s 0 c true
 | none (h1 : ∀ b, ¬ IsPr s b) (h2 : ∀ c, ¬ IsVt s c) : Says s 0 Vt.zero false
theorem pr_not_vt {s : List UInt8} {b : Int} {c : Vt} (h : IsPr s b) (h' : IsVt s c) : False := by
 have h1 := ((isPr_iff s b).1 h).2.2.1
 have h2 := ((gotV_iff s c).1 h').2.2.1
 omega
theorem Says.uniq {s : List UInt8} {b b' : Int} {c c' : Vt} {k k' : Bool} (h : Says s b c k) (h' : Says s b' c' k') : b = b' ∧ c = c' ∧ k = k' := by
 cases h with
 | prom _ h => cases h' with
  | prom _ h' => exact ⟨((isPr_iff s b).1 h).1.trans ((isPr_iff s b').1 h').1.symm, rfl, rfl⟩
  | vote _ h' => exact (pr_not_vt h h').elim
  | none h1 h2 => exact absurd h (h1 _)
 | vote _ h => cases h' with
  | prom _ h' => exact (pr_not_vt h' h).elim
  | vote _ h' => exact ⟨rfl, ((gotV_iff s c).1 h).1.trans ((gotV_iff s c').1 h').1.symm, rfl⟩
  | none h1 h2 => exact absurd h (h2 _)
 | none h1 h2 => cases h' with
  | prom _ h' => exact absurd h' (h1 _)
  | vote _ h' => exact absurd h' (h2 _)
  | none => exact ⟨rfl, rfl, rfl⟩
theorem Says.put {c : Vt} (h : c.Right) : Says (vtB c) 0 c true := .vote c ⟨h, rfl⟩
end Go.Proofs.Ytpmlfhgdhnofbaa.Ce
namespace Go.Proofs.Ytpmlfhgdhnofbaa.Ce
open Go.RowKit
theorem St.loadOp {P : Program} {α : Type} {D : St.Sp α} (hD : D.Ok P) {o : Oper} {a : Act} {w : World} {g : Nat} {c : α} (x : Operand) (ho : o.op = .load D.t x) (hx : a.eval x = .pointer (some ⟨g, 0, none⟩)) (hi : D.In g c w) : (execOp a.eval o).run P w = .ok (.value (.agg (D.f c))) w := by
 unfold execOp
 simp only [ho, hx, Instr.loadAt, Instr.sureAddr, Sem.run_bind, Sem.run_pure, Result.andThen_ok, St.run_load hD w _ c hi.all]
theorem Vt.right_iff (c : Vt) : c.Right ↔ 0 ≤ c.slot ∧ c.slot ≤ 63 ∧ 1 ≤ c.origin ∧ c.origin ≤ c.ballot ∧ c.ballot ≤ 2147483647 ∧ (c.bytes.size : Int) ≤ 520 := Iff.rfl
theorem rright17_any (c : Vt) (w : World) : Calls Try.prog 22 #[c.v] w fun e w' => e = .returned (.bool (decide c.Right)) ∧ Below w.heap.size w w' := by
 have HR := Lib.hid c.right_iff
 go_enter Try.func22, Try.ntmps22
 go_wp2_with (refine St.box vtD rfl (.tmp 0) c rfl rfl ?_)
 constructor
 intro w1 hI hb hz
 obtain ⟨c0, c1, c2, c3, c4⟩ := VtAt.of hI
 clear hI hz
 go_wp2_with fail
 all_goals
  go_ret
  first
  | exact ⟨ret1 (vb (decide_eq_true (HR.out.2 (by omega))).symm), hb⟩
  | exact ⟨ret1 (vb (decide_eq_false fun h => absurd (HR.out.1 h) (by omega)).symm), hb⟩
  | exact ⟨ret1 (vb (decide_eq_decide.2 ⟨fun h => HR.out.2 (by omega), fun h => by have := HR.out.1 h; omega⟩)), hb⟩
theorem rput17_ok (c : Vt) (w : World) (hs : c.Right) : Calls Try.prog 26 #[c.v] w fun e w' => ∃ v, e = .returned v ∧ Ow w' w.heap.size 5 v ((vtB c).map bv) ∧ Below w.heap.size w w' := by
 have HN := Lib.hid hs.nums
 have htx := hs.text
 have hlen := vtB_len c
 have hCD : Hid (numsB (vtN c) ++ textB c.bytes = vtB c) := Lib.hid rfl
 obtain ⟨hx, hhx⟩ : ∃ x : Int, x = if c.full = true then 1 else 0 := ⟨_, rfl⟩
 have HX := Lib.hid hhx
 have HN5 : Hid (vtN c = [2, c.slot, c.ballot, c.origin, hx]) := Lib.hid (by rw [hhx]; rfl)
 clear hhx
 go_enter Try.func26, Try.ntmps26
 go_wp2_with (refine St.box vtD rfl (.tmp 0) c rfl rfl ?_)
 constructor
 intro w1 hI hb hz
 obtain ⟨c0, c1, c2, c3, c4⟩ := VtAt.of hI
 clear hz
 have HC3 : Hid (∀ z, Below w1.heap.size w1 z → VtAt w.heap.size c z) := Lib.hid fun z hz => VtAt.of (hI.up hz)
 clear hI
 go_upto_if 8 with fail
 go_cut [3] (fun v wx => v = .int .i64 hx ∧ wx = w1)
 case first =>
  cases hh : c.full
  ·have H1 : Hid ((0 : Int) = hx) := Lib.hid (by rw [HX.out, hh]; rfl)
   rw [hh] at c3
   clear hh
   go_wp2_with fail
   go_meet
   case rel => exact ⟨vi H1.out, rfl⟩
  ·have H1 : Hid ((1 : Int) = hx) := Lib.hid (by rw [HX.out, hh]; rfl)
   rw [hh] at c3
   clear hh
   go_wp2_with fail
   go_meet
   case rel => exact ⟨vi H1.out, rfl⟩
 case rest =>
  obtain ⟨rfl, hwx⟩ := hcut
  subst wc
  go_wp2_with fail
  have hNr := Rd.newW (xs := [2, c.slot, c.ballot, c.origin, hx].map ivC) w1 3 #[.int .i64 2, .int .i64 c.slot, .int .i64 c.ballot, .int .i64 c.origin, .int .i64 hx] rfl (by simp [maxLen]) rfl
  have hb2 := bwalloc hb (.cells #[.int .i64 2, .int .i64 c.slot, .int .i64 c.ballot, .int .i64 c.origin, .int .i64 hx] 3)
  have HV2 := HC3.out _ (bwalloc (bwrefl _) (.cells #[.int .i64 2, .int .i64 c.slot, .int .i64 c.ballot, .int .i64 c.origin, .int .i64 hx] 3))
  rw [← HN5.out] at hNr
  generalize (w1.alloc (.cells #[.int .i64 2, .int .i64 c.slot, .int .i64 c.ballot, .int .i64 c.origin, .int .i64 hx] 3)) = w2 at hNr hb2 HV2 ⊢
  have hNl : (vtN c).length = 5 := rfl
  obtain ⟨bN, oN, eN, hbN, hcN⟩ := hNr.cellM (by omega)
  simp only [Option.some.injEq, Addr.mk.injEq, and_true] at eN
  obtain ⟨rfl, rfl⟩ := eN
  have HCN : Hid (∀ z, Below w2.heap.size w2 z → ∀ k (hk : k < (vtN c).length), z.cell? ⟨w1.heap.size, k, none⟩ = some (.int .i64 (vtN c)[k])) := Lib.hid fun z hz k hk => (hz.cell (by exact hbN)).trans (by have := hcN k hk; rwa [Nat.zero_add] at this)
  have HCB : Hid (∀ z, Below w2.heap.size w2 z → z.cell? ⟨w.heap.size, 4, none⟩ = some (.string c.bytes)) := Lib.hid fun z hz => (hz.cell (by show w.heap.size < w2.heap.size; have := hb.size; have := hb2.size; omega)).trans HV2.c4
  have HB2 := Lib.hid hb2
  clear hNr hb2 hcN hbN c0 c1 c2 c3 c4 HN5 hb HV2
  go_loopw [5, 6] (fun o i wr => ∃ k : Nat, k ≤ 5 ∧ i = .int .i64 k ∧ Ow wr w2.heap.size 5 o ((numsB ((vtN c).take k)).map bv) ∧ Below w2.heap.size w2 wr) (fun _ i _ => 5 - (intOf i).toNat)
  case atStart => exact ⟨0, by omega, rfl, Ow.nilB _ _ _, Below.refl _ _⟩
  case round =>
   obtain ⟨k, hk, rfl, ho, hbw⟩ := hrel
   by_cases hlt : k < 5
   ·have hcell := HCN.out wr hbw k (by omega)
    have hnn := HN.out _ (List.getElem_mem (show k < (vtN c).length by omega))
    have HS := Lib.hid (numsB_snoc (vtN c) k (by omega))
    generalize (vtN c)[k]'(by omega) = n at hcell hnn HS
    have hol : (numsB ((vtN c).take k)).length ≤ 20 := by rw [numsB_len, List.length_take]; omega
    generalize numsB ((vtN c).take k) = F at ho HS hol
    have HO := Lib.hid ho
    have HBW := Lib.hid hbw
    have h0 := hnn.1
    have h1 := hnn.2
    clear ho hbw hnn
    obtain ⟨wo, hwo⟩ : ∃ wo, wo = wr := ⟨_, rfl⟩
    subst hwo
    go_wp2_with fail
    refine (rnum_int n _ h0 h1).mono ?_
    rintro e w3 ⟨q, rfl, hq, hb3⟩
    have hq3 := hq.rd
    have ho3 := HO.out.below hb3
    have hb4 := bwstep HBW.out hb3
    have hs4 := hb4.size
    have z4 : F.length + (numB n.toNat).length ≤ 140737488355328 := by rw [numB_len]; omega
    clear hq hb3
    go_wp2_with (at_builtin; refine wpList_appB bytesT rfl (.tmp 21) (.tmp 26) rfl rfl ho3 rfl hq3 z4 hs4 ?_; intro v5 w5 ho5 hg5 _; have HO5 := Lib.hid ho5; have HB5 := Lib.hid (hb4.grown hg5 hs4 ho3.ge); clear ho5 hg5)
    go_roundw
    case rel => exact ⟨k + 1, by omega, by go_num, by rw [HS.out]; exact HO5.out, HB5.out⟩
    case measure => simp [intOf]; omega
   ·rw [List.take_of_length_le (show (vtN c).length ≤ k by omega)] at ho
    have hk0 : 5 ≤ k := by omega
    have hcb := HCB.out _ hbw
    have HO := Lib.hid ho
    have HBW := Lib.hid hbw
    have z5 : (numsB (vtN c)).length + (textB c.bytes).length ≤ 140737488355328 := by rw [← List.length_append, hCD.out, hlen]; omega
    clear ho hbw hlt hlen
    go_wp2_with fail
    refine (rtext_ok c.bytes _ htx).mono ?_
    rintro e w3 ⟨q, rfl, hq, hb3⟩
    have hq3 := hq.rd
    have ho3 := HO.out.below hb3
    have hb4 := bwstep HBW.out hb3
    have hs4 := hb4.size
    clear hq hb3
    go_wp2_with (at_builtin; refine wpList_appB bytesT rfl (.tmp 28) (.tmp 31) rfl rfl ho3 rfl hq3 z5 hs4 ?_; intro v5 w5 ho5 hg5 _; have HO5 := Lib.hid ho5; have HB5 := Lib.hid (hb4.grown hg5 hs4 ho3.ge); clear ho5 hg5)
    go_ret
    rw [hCD.out] at HO5
    exact ⟨_, rfl, HO5.out.mono HB2.out.size, HB2.out.trans (HB5.out.mono HB2.out.size)⟩
end Go.Proofs.Ytpmlfhgdhnofbaa.Ce
namespace Go.Proofs.Ytpmlfhgdhnofbaa.Ce
open Go.RowKit
def vtSp : List (Nat × Nat) := [(3, 0), (3, 1), (3, 2), (4, 3), (9, 4)]
theorem vtEqs : St.Eqs Try.prog 23 vtSp := ⟨by kernel_rfl, by kernel_rfl, by kernel_rfl, by kernel_rfl⟩
theorem vtTyped (c d : Vt) : St.Typed Try.prog vtSp c.cs d.cs := by
 intro p hp
 simp only [vtSp, List.mem_cons, List.not_mem_nil, or_false] at hp
 rcases hp with rfl | rfl | rfl | rfl | rfl
 ·exact .inr (.inl ⟨.i64, Try.underlying3, _, _, rfl, rfl⟩)
 ·exact .inr (.inl ⟨.i64, Try.underlying3, _, _, rfl, rfl⟩)
 ·exact .inr (.inl ⟨.i64, Try.underlying3, _, _, rfl, rfl⟩)
 ·exact .inr (.inr ⟨Try.underlying4, _, _, rfl, rfl⟩)
 ·exact .inl ⟨Try.underlying9, _, _, rfl, rfl⟩
noncomputable instance : DecidableEq Vt := fun _ _ => Classical.propDecidable _
theorem vtAlike (c d : Vt) : St.allAlike vtSp c.cs d.cs = decide (c = d) := by
 rw [Bool.eq_iff_iff, decide_eq_true_iff]
 simp only [St.allAlike, vtSp, List.all_cons, List.all_nil, Bool.and_true, Bool.and_eq_true, Vt.cs, St.alike, Array.getD_eq_getD_getElem?]
 simp only [List.getElem?_toArray, List.getElem?_cons_zero, List.getElem?_cons_succ, Option.getD_some, decide_eq_true_iff, beq_iff_eq]
 constructor
 ·rintro ⟨h0, h1, h2, h3, h4⟩
  exact Vt.ext' h0 h1 h2 h3 h4
 ·rintro rfl
  simp
theorem vtSelf (c : Vt) : St.allAlike vtSp c.cs c.cs = true := by rw [vtAlike]; exact decide_eq_true rfl
end Go.Proofs.Ytpmlfhgdhnofbaa.Ce
