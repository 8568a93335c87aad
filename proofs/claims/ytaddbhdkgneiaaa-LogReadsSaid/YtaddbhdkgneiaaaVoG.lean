/- Votes: plain, and as values; the bytes of a vote and of a promise; what bytes say. The contracts of the reference's functions of layer 17: Right, Promise, Put, Get. Layer 17's contracts as one structure; '==' of votes; awake. -/
import Derived.Test.YtaddbhdkgneiaaaCmX
import Derived.Deep.Cut
import Derived.Test.YtaddbhdkgneiaaaLow
set_option maxHeartbeats 8000000
set_option maxRecDepth 100000
namespace Go.Proofs.Ytaddbhdkgneiaaa.Ce
open Go.RowKit
structure Vt where
 slot : Int
 ballot : Int
 origin : Int
 full : Bool
 bytes : ByteArray
def Vt.zero : Vt := ⟨0, 0, 0, false, ⟨#[]⟩⟩
theorem Vt.ext' {a b : Vt} (h0 : a.slot = b.slot) (h1 : a.ballot = b.ballot) (h2 : a.origin = b.origin) (h3 : a.full = b.full) (h4 : a.bytes = b.bytes) : a = b := by
 cases a; cases b; simp_all
def Vt.cs (c : Vt) : Array Value := #[.int .i64 c.slot, .int .i64 c.ballot, .int .i64 c.origin, .bool c.full, .string c.bytes]
abbrev vtD : St.Sp Vt := ⟨43, 0, 5, 48, Vt.cs, Vt.zero⟩
theorem vtOk : vtD.Ok Try.prog := ⟨⟨_, Try.underlying43, rfl⟩, by kernel_rfl, by decide, fun _ => rfl, fun x => by simp [Vt.cs, Value.oneCell']⟩
def Vt.v (c : Vt) : Value := .agg c.cs
def Vt.Right (c : Vt) : Prop := 0 ≤ c.slot ∧ c.slot ≤ 63 ∧ 1 ≤ c.origin ∧ c.origin ≤ c.ballot ∧ c.ballot ≤ 2147483647 ∧ (c.bytes.size : Int) ≤ 520
instance (c : Vt) : Decidable c.Right := by unfold Vt.Right; infer_instance
structure VtAt (g : Nat) (c : Vt) (w : World) : Prop where
 c0 : w.cell? ⟨g, 0, none⟩ = some (.int .i64 c.slot)
 c1 : w.cell? ⟨g, 1, none⟩ = some (.int .i64 c.ballot)
 c2 : w.cell? ⟨g, 2, none⟩ = some (.int .i64 c.origin)
 c3 : w.cell? ⟨g, 3, none⟩ = some (.bool c.full)
 c4 : w.cell? ⟨g, 4, none⟩ = some (.string c.bytes)
theorem VtAt.of {g : Nat} {c : Vt} {w : World} (h : vtD.In g c w) : VtAt g c w := ⟨h.at_ rfl, h.at_ rfl, h.at_ rfl, h.at_ rfl, h.at_ rfl⟩
def vtN (c : Vt) : List Int := [2, c.slot, c.ballot, c.origin, if c.full = true then 1 else 0]
def vtB (c : Vt) : List UInt8 := numsB (vtN c) ++ textB c.bytes
def prB (b : Int) : List UInt8 := numB 1 ++ numB b.toNat
def PrOk (b : Int) : Prop := 1 ≤ b ∧ b ≤ 2147483647
instance (b : Int) : Decidable (PrOk b) := by unfold PrOk; infer_instance
theorem vtB_len (c : Vt) : (vtB c).length = 24 + c.bytes.size := by
 unfold vtB
 rw [List.length_append, numsB_len, textB_len]
 simp only [vtN, List.length_cons, List.length_nil]
 omega
theorem prB_len (b : Int) : (prB b).length = 8 := by unfold prB; rw [List.length_append, numB_len, numB_len]
theorem Vt.Right.nums {c : Vt} (h : c.Right) : ∀ n ∈ vtN c, 0 ≤ n ∧ n ≤ 4294967295 := by
 obtain ⟨h1, h2, h3, h4, h5, h6⟩ := h
 intro n hn
 simp only [vtN, List.mem_cons, List.not_mem_nil, or_false] at hn
 rcases hn with rfl | rfl | rfl | rfl | rfl
 ·omega
 ·omega
 ·omega
 ·omega
 ·split <;> omega
theorem Vt.Right.text {c : Vt} (h : c.Right) : c.bytes.size ≤ 4294967295 := by
 obtain ⟨h1, h2, h3, h4, h5, h6⟩ := h
 omega
def IsVt (s : List UInt8) (c : Vt) : Prop := c.Right ∧ s = vtB c
def IsPr (s : List UInt8) (b : Int) : Prop := PrOk b ∧ s = prB b
theorem numsV (c : Vt) : vtB c = numB 2 ++ (numB c.slot.toNat ++ (numB c.ballot.toNat ++ (numB c.origin.toNat ++ (numB (if c.full = true then 1 else 0 : Int).toNat ++ textB c.bytes)))) := by
 simp [vtB, numsB, vtN]
theorem numB_drop (n : Nat) (m : List UInt8) (k : Nat) : (numB n ++ m).drop (4 + k) = m.drop k := by rw [← List.drop_drop, List.drop_left' (numB_len n)]
theorem vt_nums {c : Vt} (hs : c.Right) : numOf (vtB c) = 2 ∧ (numOf ((vtB c).drop 4) : Int) = c.slot ∧ (numOf ((vtB c).drop 8) : Int) = c.ballot ∧ (numOf ((vtB c).drop 12) : Int) = c.origin ∧ (numOf ((vtB c).drop 16) : Int) = (if c.full = true then 1 else 0) ∧ (vtB c).drop 20 = textB c.bytes := by
 have H := hs.nums
 have h0 := H c.slot (by simp [vtN])
 have h1 := H c.ballot (by simp [vtN])
 have h2 := H c.origin (by simp [vtN])
 have h3 := H (if c.full = true then 1 else 0) (by simp [vtN])
 have hd := numB_drop
 rw [numsV]
 refine ⟨?_, ?_, ?_, ?_, ?_, ?_⟩
 ·rw [Frm.numOf_numB _ (by omega)]
 ·rw [hd _ _ 0, List.drop_zero, Frm.numOf_numB _ (by omega)]; omega
 ·rw [hd _ _ 4, hd _ _ 0, List.drop_zero, Frm.numOf_numB _ (by omega)]; omega
 ·rw [hd _ _ 8, hd _ _ 4, hd _ _ 0, List.drop_zero, Frm.numOf_numB _ (by omega)]; omega
 ·rw [hd _ _ 12, hd _ _ 8, hd _ _ 4, hd _ _ 0, List.drop_zero, Frm.numOf_numB _ (by omega)]; omega
 ·rw [hd _ _ 16, hd _ _ 12, hd _ _ 8, hd _ _ 4, hd _ _ 0, List.drop_zero]
theorem pr_nums {b : Int} (h : PrOk b) : numOf (prB b) = 1 ∧ (numOf ((prB b).drop 4) : Int) = b := by
 have h1 := h.1
 have h2 := h.2
 unfold prB
 refine ⟨Frm.numOf_numB _ (by omega) _, ?_⟩
 rw [numB_drop 1 _ 0, List.drop_zero]
 have := Frm.numOf_numB b.toNat (by omega) []
 rw [List.append_nil] at this
 rw [this]; omega
def gotV (s : List UInt8) : Vt := ⟨numOf (s.drop 4), numOf (s.drop 8), numOf (s.drop 12), (numOf (s.drop 16) : Int) == 1, textThere (s.drop 20)⟩
theorem gotV_iff (s : List UInt8) (c : Vt) : IsVt s c ↔ c = gotV s ∧ 20 ≤ s.length ∧ numOf s = 2 ∧ textOk (s.drop 20) ∧ s.length = 20 + textSize (s.drop 20) ∧ numOf (s.drop 16) ≤ 1 ∧ (gotV s).Right := by
 constructor
 ·rintro ⟨hs, rfl⟩
  obtain ⟨k, n0, n1, n2, n3, n4⟩ := vt_nums hs
  have htx := hs.text
  have hok := textOk_textB c.bytes htx []
  obtain ⟨q1, q2, -⟩ := ct_of c.bytes htx []
  rw [List.append_nil] at hok q1 q2
  obtain ⟨a1, a2, a3, a4, a5, a6, a7, a8, a9⟩ := ok_size hok
  have hl := vtB_len c
  have hc : c = gotV (vtB c) := by
   apply Vt.ext' <;> simp only [gotV]
   ·exact n0.symm
   ·exact n1.symm
   ·exact n2.symm
   ·rw [n3]; cases c.full <;> rfl
   ·rw [n4, ← a7, q2]
  have hsz : (textThere (textB c.bytes)).size = c.bytes.size := by rw [← a7, q2]
  refine ⟨hc, by omega, k, by rw [n4]; exact hok, by rw [n4]; omega, ?_, by rw [← hc]; exact hs⟩
  have : (numOf ((vtB c).drop 16) : Int) ≤ 1 := by rw [n3]; split <;> omega
  omega
 ·rintro ⟨rfl, h20, h2, hok, hl, h1, hs⟩
  refine ⟨hs, ?_⟩
  obtain ⟨a1, a2, a3, a4, a5, a6, a7, a8, a9⟩ := ok_size hok
  have e0 := num_head (l := s) (by omega)
  have e1 := num_head (l := s.drop 4) (by rw [List.length_drop]; omega)
  have e2 := num_head (l := s.drop 8) (by rw [List.length_drop]; omega)
  have e3 := num_head (l := s.drop 12) (by rw [List.length_drop]; omega)
  have e4 := num_head (l := s.drop 16) (by rw [List.length_drop]; omega)
  rw [List.drop_drop] at e1 e2 e3 e4
  have e5 : s.drop 20 = textB (textThere (s.drop 20)) := by
   have := ct_inv a6
   have hz : textRest (s.drop 20) = [] := by
    rw [← a3]
    exact List.drop_of_length_le (by rw [List.length_drop]; omega)
   rw [a7, a8, hz, List.append_nil] at this
   exact this
  have hh : (if (gotV s).full = true then 1 else 0 : Int).toNat = numOf (s.drop 16) := by
   show (if ((numOf (s.drop 16) : Int) == 1) = true then 1 else 0 : Int).toNat = _
   split
   ·rename_i q
    have := eq_of_beq q
    omega
   ·rename_i q
    have : ¬ (numOf (s.drop 16) : Int) = 1 := fun e => q (by rw [e]; rfl)
    simp
    omega
  rw [numsV, hh]
  simp only [gotV, Int.toNat_natCast]
  rw [← e5, ← e4, ← e3, ← e2, ← e1, ← h2, ← e0]
theorem isPr_iff (s : List UInt8) (b : Int) : IsPr s b ↔ b = numOf (s.drop 4) ∧ s.length = 8 ∧ numOf s = 1 ∧ PrOk (numOf (s.drop 4)) := by
 constructor
 ·rintro ⟨h, rfl⟩
  obtain ⟨h1, h2⟩ := pr_nums h
  exact ⟨h2.symm, prB_len b, h1, by rw [h2]; exact h⟩
 ·rintro ⟨rfl, hl, h1, h⟩
  refine ⟨h, ?_⟩
  have e0 := num_head (l := s) (by omega)
  have e1 := num_head (l := s.drop 4) (by rw [List.length_drop]; omega)
  rw [List.drop_drop, List.drop_of_length_le (i := 4 + 4) (by omega), List.append_nil] at e1
  unfold prB
  rw [Int.toNat_natCast, ← e1, ← h1, ← e0]
inductive Says (s : List UInt8) : Int → Vt → Bool → Prop
 | prom (b : Int) (h : IsPr s b) : Says s b Vt.zero true
 | vote (c : Vt) (h : IsVt s c) : Says s 0 c true
 | none (h1 : ∀ b, ¬ IsPr s b) (h2 : ∀ c, ¬ IsVt s c) : Says s 0 Vt.zero false
theorem pr_not_vt {s : List UInt8} {b : Int} {c : Vt} (h : IsPr s b) (h' : IsVt s c) : False := by
 have h1 := ((isPr_iff s b).1 h).2.2.1
 have h2 := ((gotV_iff s c).1 h').2.2.1
 omega
theorem Says.uniq {s : List UInt8} {b b' : Int} {c c' : Vt} {k k' : Bool} (h : Says s b c k) (h' : Says s b' c' k') : b = b' ∧ c = c' ∧ k = k' := by
 cases h with
 | prom _ h => cases h' with
  | prom _ h' => exact ⟨((isPr_iff s b).1 h).1.trans ((isPr_iff s b').1 h').1.symm, rfl, rfl⟩
  | vote _ h' => exact (pr_not_vt h h').elim
  | none h1 h2 => exact absurd h (h1 _)
 | vote _ h => cases h' with
  | prom _ h' => exact (pr_not_vt h' h).elim
  | vote _ h' => exact ⟨rfl, ((gotV_iff s c).1 h).1.trans ((gotV_iff s c').1 h').1.symm, rfl⟩
  | none h1 h2 => exact absurd h (h2 _)
 | none h1 h2 => cases h' with
  | prom _ h' => exact absurd h' (h1 _)
  | vote _ h' => exact absurd h' (h2 _)
  | none => exact ⟨rfl, rfl, rfl⟩
theorem Says.put {c : Vt} (h : c.Right) : Says (vtB c) 0 c true := .vote c ⟨h, rfl⟩
theorem Says.promise {b : Int} (h : PrOk b) : Says (prB b) b Vt.zero true := .prom b ⟨h, rfl⟩
end Go.Proofs.Ytaddbhdkgneiaaa.Ce
namespace Go.Proofs.Ytaddbhdkgneiaaa.Ce
open Go.RowKit
theorem St.loadOp {P : Program} {α : Type} {D : St.Sp α} (hD : D.Ok P) {o : Oper} {a : Act} {w : World} {g : Nat} {c : α} (x : Operand) (ho : o.op = .load D.t x) (hx : a.eval x = .pointer (some ⟨g, 0, none⟩)) (hi : D.In g c w) : (execOp a.eval o).run P w = .ok (.value (.agg (D.f c))) w := by
 unfold execOp
 simp only [ho, hx, Instr.loadAt, Instr.sureAddr, Sem.run_bind, Sem.run_pure, Result.andThen_ok, St.run_load hD w _ c hi.all]
theorem Vt.right_iff (c : Vt) : c.Right ↔ 0 ≤ c.slot ∧ c.slot ≤ 63 ∧ 1 ≤ c.origin ∧ c.origin ≤ c.ballot ∧ c.ballot ≤ 2147483647 ∧ (c.bytes.size : Int) ≤ 520 := Iff.rfl
theorem rright17_any (c : Vt) (w : World) : Calls Try.prog 16 #[c.v] w fun e w' => e = .returned (.bool (decide c.Right)) ∧ Below w.heap.size w w' := by
 have HR := Lib.hid c.right_iff
 go_enter Try.func16, Try.ntmps16
 go_wp2_with (refine St.box vtD rfl (.tmp 0) c rfl rfl ?_)
 constructor
 intro w1 hI hb hz
 obtain ⟨c0, c1, c2, c3, c4⟩ := VtAt.of hI
 clear hI hz
 go_wp2_with fail
 all_goals
  go_ret
  first
  | exact ⟨ret1 (vb (decide_eq_true (HR.out.2 (by omega))).symm), hb⟩
  | exact ⟨ret1 (vb (decide_eq_false fun h => absurd (HR.out.1 h) (by omega)).symm), hb⟩
  | exact ⟨ret1 (vb (decide_eq_decide.2 ⟨fun h => HR.out.2 (by omega), fun h => by have := HR.out.1 h; omega⟩)), hb⟩
def atI (l : List UInt8) (k : Nat) : Int := if l.length < k + 4 then -1 else numOf (l.drop k)
theorem atI_no {l : List UInt8} {k : Nat} (h : l.length < k + 4) : atI l k = -1 := if_pos h
theorem atI_ok {l : List UInt8} {k : Nat} (h : k + 4 ≤ l.length) : atI l k = numOf (l.drop k) := if_neg (by omega)
theorem atI_some {l : List UInt8} {k : Nat} (h : 0 ≤ atI l k) : k + 4 ≤ l.length ∧ atI l k = numOf (l.drop k) := by
 by_cases hk : l.length < k + 4
 ·rw [atI_no hk] at h; omega
 ·exact ⟨by omega, atI_ok (by omega)⟩
theorem ratI (x : Value) (l : List UInt8) (k : Nat) (B : Nat) (w : World) (hr : Rd w B x (l.map bv)) (hl : l.length ≤ 1000000000000) (hk : k ≤ 1000000000000) :
  Calls Try.prog 45 #[x, .int .i64 (k : Int)] w fun e w' => e = .returned (.int .i64 (atI l k)) ∧ Below w.heap.size w w' := by
 by_cases h : l.length < k + 4
 ·rw [atI_no h]
  refine (rat_no x l k B w hr h hk).mono ?_
  rintro e w' ⟨rfl, rfl⟩
  exact ⟨rfl, Below.refl _ _⟩
 ·rw [atI_ok (by omega)]
  exact rat_ok x l k B w hr (by omega) hl
theorem get_prom {s : List UInt8} (h0 : atI s 0 = 1) : (s.length = 8 ∧ 1 ≤ atI s 4 ∧ atI s 4 ≤ 2147483647 → Says s (atI s 4) Vt.zero true) ∧ (¬ (s.length = 8 ∧ 1 ≤ atI s 4 ∧ atI s 4 ≤ 2147483647) → Says s 0 Vt.zero false) := by
 obtain ⟨l0, e0⟩ := atI_some (l := s) (k := 0) (by omega)
 rw [List.drop_zero] at e0
 have hn : numOf s = 1 := by omega
 constructor
 ·rintro ⟨hl, h1, h2⟩
  rw [atI_ok (by omega)] at h1 h2 ⊢
  exact .prom _ ((isPr_iff s _).2 ⟨rfl, hl, hn, h1, h2⟩)
 ·intro hno
  refine .none (fun b hb => ?_) (fun c hc => ?_)
  ·obtain ⟨q1, q2, q3, q4⟩ := (isPr_iff s b).1 hb
   apply hno
   rw [atI_ok (by omega)]
   exact ⟨q2, q4⟩
  ·have := ((gotV_iff s c).1 hc).2.2.1
   omega
def mayV (s : List UInt8) : Vt := ⟨atI s 4, atI s 8, atI s 12, atI s 16 == 1, textThere (s.drop 20)⟩
theorem get_vote {s : List UInt8} (h0 : ¬ atI s 0 = 1) : (atI s 0 = 2 ∧ 0 < textSize (s.drop 20) ∧ s.length = 20 + textSize (s.drop 20) ∧ atI s 16 ≤ 1 ∧ (mayV s).Right → Says s 0 (mayV s) true) ∧ (¬ (atI s 0 = 2 ∧ 0 < textSize (s.drop 20) ∧ s.length = 20 + textSize (s.drop 20) ∧ atI s 16 ≤ 1 ∧ (mayV s).Right) → Says s 0 Vt.zero false) := by
 have key : ∀ c, IsVt s c ↔ c = mayV s ∧ (atI s 0 = 2 ∧ 0 < textSize (s.drop 20) ∧ s.length = 20 + textSize (s.drop 20) ∧ atI s 16 ≤ 1 ∧ (mayV s).Right) := by
  intro c
  rw [gotV_iff]
  by_cases hl : 20 ≤ s.length
  ·have hm : mayV s = gotV s := by
    unfold mayV gotV
    rw [atI_ok (by omega), atI_ok (by omega), atI_ok (by omega), atI_ok (by omega)]
   rw [hm, atI_ok (by omega), atI_ok (by omega), List.drop_zero]
   constructor
   ·rintro ⟨a1, a2, a3, a4, a5, a6, a7⟩
    obtain ⟨b1, b2, b3, b4, -⟩ := ok_size a4
    exact ⟨a1, by omega, by omega, a5, by omega, a7⟩
   ·rintro ⟨a1, a3, a4, a5, a6, a7⟩
    refine ⟨a1, hl, by omega, ?_, a5, by omega, a7⟩
    refine Classical.byContradiction fun hno => ?_
    have := (no_size hno).1
    omega
  ·constructor
   ·rintro ⟨-, a2, -⟩
    exact absurd a2 hl
   ·rintro ⟨-, -, -, a5, -⟩
    omega
 constructor
 ·intro h
  exact .vote _ ((key _).2 ⟨rfl, h⟩)
 ·intro h
  refine .none (fun b hb => ?_) (fun c hc => h ((key c).1 hc).2)
  obtain ⟨q1, q2, q3, q4⟩ := (isPr_iff s b).1 hb
  apply h0
  rw [atI_ok (by omega), List.drop_zero]
  omega
def VGetEnd (s : List UInt8) (w : World) (e : Ending) (w' : World) : Prop := (∃ n c k, e = .returned (.tuple #[.int .i64 n, Vt.v c, .bool k]) ∧ Says s n c k) ∧ Below w.heap.size w w'
theorem rget17_any (x : Value) (s : List UInt8) (w : World) (hr : Rd w w.heap.size x (s.map bv)) (hl : s.length ≤ 1000000000) : Calls Try.prog 24 #[x] w fun e w' => VGetEnd s w e w' := by
 obtain ⟨A, cp, rfl, hc, hm⟩ := hr.shapeM
 have HR := Lib.hid hr
 have hat := fun k (w1 : World) (hk : k ≤ 1000) (hb : Below w.heap.size w w1) => ratI _ s k _ w1 (HR.out.up hb) (by omega) (by omega)
 have a0 := fun w1 hb => hat 0 w1 (by omega) hb
 have a4 := fun w1 hb => hat 4 w1 (by omega) hb
 have a8 := fun w1 hb => hat 8 w1 (by omega) hb
 have a12 := fun w1 hb => hat 12 w1 (by omega) hb
 have a16 := fun w1 hb => hat 16 w1 (by omega) hb
 have htx := fun (w1 : World) (hb : Below w.heap.size w w1) => rtextAt_any _ s 20 _ w1 (Nat.le_refl _) (HR.out.up hb) (by omega) (by omega)
 have hts : textSize (s.drop 20) ≤ 10000000000 := by
  unfold textSize
  split
  ·rename_i h
   have := h.2
   rw [List.length_drop] at this
   omega
  ·omega
 have HP := Lib.hid (@get_prom s)
 have HV := Lib.hid (@get_vote s)
 clear hat hr
 go_enter Try.func24, Try.ntmps24
 go_wp2_with (refine St.alloc vtOk rfl rfl ?_)
 constructor
 intro w1 hI1 hb1 hz1
 have HI1 := Lib.hid hI1
 clear hI1 hz1
 go_wp2_with fail
 refine (a0 _ hb1).mono ?_
 rintro e w2 ⟨rfl, hb2⟩
 have HB2 := Lib.hid (bwstep hb1 hb2)
 have HI2 := Lib.hid (HI1.out.up hb2)
 clear hb1 hb2 HI1
 by_cases h1 : atI s 0 = 1
 ·have HP1 := Lib.hid (HP.out h1)
  have H0 := Lib.hid h1
  rw [h1]
  clear h1 HV HP a0
  go_wp2_with fail
  refine (a4 _ HB2.out).mono ?_
  rintro e w3 ⟨rfl, hb3⟩
  have HB3 := Lib.hid (bwstep HB2.out hb3)
  have hI3 := HI2.out.up hb3
  clear hb3 HB2 HI2 a4
  generalize hn4 : atI s 4 = n4 at HP1 ⊢
  clear hn4 H0
  go_wp2_with (first | refine St.store vtOk (c := Vt.zero) rfl (.tmp 3) (.tmp 27) rfl rfl rfl hI3 ?_ | refine St.store vtOk (c := Vt.zero) rfl (.tmp 3) (.tmp 28) rfl rfl rfl hI3 ?_)
  all_goals
   constructor
   intro w4 hs4
   have HB4 := Lib.hid (hs4.bel HB3.out (Nat.le_refl _))
   have hI4 := hs4.i
   clear hs4 hI3
   go_wp2_with fail
  all_goals first
   | refine bodyPost_ret (St.res3m vtOk Try.results24 rfl hI4) rfl ⟨⟨_, Vt.zero, true, rfl, HP1.out.1 (by omega)⟩, HB4.out⟩
   | refine bodyPost_ret (St.res3m vtOk Try.results24 rfl hI4) rfl ⟨⟨_, Vt.zero, false, rfl, HP1.out.2 (by omega)⟩, HB4.out⟩
 ·have HV1 := Lib.hid (HV.out h1)
  have hne : (atI s 0 == 1) = false := by simpa using h1
  clear HP HV
  have hrr := fun w1 => rright17_any (mayV s) w1
  have hwr : IntKind.i64.wrap ((20 : Int) + (textSize (s.drop 20) : Int)) = (20 : Int) + (textSize (s.drop 20) : Int) := IntWalk.i64_in _ (by omega)
  go_wp2_with fail
  refine (htx _ HB2.out).mono ?_
  rintro e w3 ⟨rfl, hb3⟩
  have hB3 := bwstep HB2.out hb3
  have hI3 := HI2.out.up hb3
  clear htx HB2 HI2 hb3
  go_wp2_with fail
  refine (a16 _ hB3).mono ?_
  rintro e w4 ⟨rfl, hb4⟩
  have hB4 := bwstep hB3 hb4
  have hI4 := hI3.up hb4
  clear a16 hB3 hI3 hb4
  go_wp2_with fail
  refine (a4 _ hB4).mono ?_
  rintro e w5 ⟨rfl, hb5⟩
  have hB5 := bwstep hB4 hb5
  have hI5 := hI4.up hb5
  clear a4 hB4 hI4 hb5
  go_wp2_with fail
  refine (a8 _ hB5).mono ?_
  rintro e w6 ⟨rfl, hb6⟩
  have hB6 := bwstep hB5 hb6
  have hI6 := hI5.up hb6
  clear a8 hB5 hI5 hb6
  go_wp2_with fail
  refine (a12 _ hB6).mono ?_
  rintro e w7 ⟨rfl, hb7⟩
  have hB7 := bwstep hB6 hb7
  have hI7 := hI6.up hb7
  clear a12 hB6 hI6 hb7
  go_wp2_with (refine St.alloc vtOk rfl rfl ?_)
  constructor
  intro w8 hJ8 hb8 hz8
  have hB8 := bwstep hB7 hb8
  have hI8 := hI7.up hb8
  have hlt := hI7.lt
  clear hB7 hI7 hb8 hz8
  go_wp2_with (refine St.store vtOk (c := mayV s) rfl (.tmp 9) (.tmp 45) rfl rfl rfl hJ8 ?_)
  constructor
  intro w9 hs9
  have hB9 := hs9.bel hB8 (Nat.le_of_lt (Nat.lt_of_le_of_lt (Nat.le_refl _) hlt))
  have hI9 := hs9.up hI8 (Nat.ne_of_lt hlt)
  have hJ9 := hs9.i
  clear hs9 hB8 hI8 hJ8
  go_wp2_with fail
  refine (a0 _ hB9).mono ?_
  rintro e w10 ⟨rfl, hb10⟩
  have hB10 := bwstep hB9 hb10
  have hI10 := hI9.up hb10
  have hJ10 := hJ9.up hb10
  clear a0 hB9 hI9 hJ9 hb10
  have h16x : (atI s 16 ≤ 1 ∧ decide (atI s 16 ≤ 1) = true) ∨ (¬ atI s 16 ≤ 1 ∧ decide (atI s 16 ≤ 1) = false) := (Decidable.em (atI s 16 ≤ 1)).imp (fun h => ⟨h, decide_eq_true h⟩) (fun h => ⟨h, decide_eq_false h⟩)
  rcases h16x with ⟨h16, d16⟩ | ⟨h16, d16⟩
  all_goals
   go_wp2_with (first | refine St.load vtOk rfl (.tmp 9) rfl rfl hJ10 ?_ | refine St.store vtOk (c := Vt.zero) rfl (.tmp 3) (.tmp 69) rfl rfl rfl hI10 ?_)
  all_goals try
   (constructor
    intro w11 hs11
    have hB11 := hs11.bel hB10 (Nat.le_refl _)
    have hI11 := hs11.i
    clear hs11 hI10 hJ10 hB10
    go_wp2_with fail
    exact bodyPost_ret (St.res3m vtOk Try.results24 rfl hI11) rfl ⟨⟨0, Vt.zero, false, rfl, HV1.out.2 (by omega)⟩, hB11⟩)
  refine (hrr _).mono ?_
  rintro e w11 ⟨rfl, hb11⟩
  have hB11 := bwstep hB10 hb11
  have hI11 := hI10.up hb11
  have hJ11 := hJ10.up hb11
  clear hrr hB10 hI10 hJ10 hb11
  by_cases hR : (mayV s).Right
  ·have HS := Lib.hid (HV1.out.1 ⟨by omega, by omega, by omega, by omega, hR⟩)
   rw [decide_eq_true hR]
   clear HV1 hR
   go_upto_region 10 with fail
   refine wp_region_held_drew (S := fun z => vtD.In w7.heap.size (mayV s) z ∧ (∃ c0, vtD.In w.heap.size c0 z) ∧ Below w.heap.size w z) (by kernel_rfl) ⟨hJ11.up (Below.refl _ _).drew, ⟨_, hI11.up (Below.refl _ _).drew⟩, hB11.drew⟩ (fun hHeld => ?_)
   refine takeL 0 (hy := by intro z hSz; exact St.loadOp vtOk (.tmp 9) rfl rfl hSz.1) (h := ?_)
   refine takeL 1 (h := ?_)
   refine wpAnyH_ready (rs := [2]) (by kernel_rfl) (by simp) ?_
   refine AllReadyH.cons (o := _) rfl (fun K hK => ?_) AllReadyH.nil
   obtain ⟨hJ, ⟨c0, hI⟩, hB⟩ := hHeld
   refine St.wp_storeS vtOk (c := mayV s) (c0 := c0) (.tmp 3) (.tmp 68) rfl rfl rfl hI ?_
   intro w12 hs12
   have hI12 := hs12.i
   have hB12 := hs12.bel hB (Nat.le_refl _)
   refine hK.out _ _ ⟨hs12.up hJ (Nat.ne_of_gt hlt), ⟨_, hI12⟩, hB12⟩ (fun hHeld => ?_)
   clear hK K
   ((try simp only [Act.put]); (try simp only [List.setIfInBounds_toArray]); (try simp only [List.set_cons_succ]); (try simp only [List.set_cons_zero]))
   refine takeL 3 (h := ?_)
   refine wpAnyH_done (by kernel_rfl) ?_ _
   go_wp2_with fail
   exact bodyPost_ret (St.res3m vtOk Try.results24 rfl hI12) rfl ⟨⟨0, mayV s, true, rfl, HS.out⟩, hB12⟩
  ·have HS := Lib.hid (HV1.out.2 fun h => hR h.2.2.2.2)
   rw [decide_eq_false hR]
   clear HV1 hR
   go_wp2_with (refine St.store vtOk (c := Vt.zero) rfl (.tmp 3) (.tmp 69) rfl rfl rfl hI11 ?_)
   constructor
   intro w12 hs12
   have hB12 := hs12.bel hB11 (Nat.le_refl _)
   have hI12 := hs12.i
   clear hs12 hI11 hJ11 hB11
   go_wp2_with fail
   exact bodyPost_ret (St.res3m vtOk Try.results24 rfl hI12) rfl ⟨⟨0, Vt.zero, false, rfl, HS.out⟩, hB12⟩
end Go.Proofs.Ytaddbhdkgneiaaa.Ce
namespace Go.Proofs.Ytaddbhdkgneiaaa.Ce
open Go.RowKit
def vtSp : List (Nat × Nat) := [(3, 0), (3, 1), (3, 2), (4, 3), (9, 4)]
theorem vtEqs : St.Eqs Try.prog 43 vtSp := ⟨by kernel_rfl, by kernel_rfl, by kernel_rfl, by kernel_rfl⟩
theorem vtTyped (c d : Vt) : St.Typed Try.prog vtSp c.cs d.cs := by
 intro p hp
 simp only [vtSp, List.mem_cons, List.not_mem_nil, or_false] at hp
 rcases hp with rfl | rfl | rfl | rfl | rfl
 ·exact .inr (.inl ⟨.i64, Try.underlying3, _, _, rfl, rfl⟩)
 ·exact .inr (.inl ⟨.i64, Try.underlying3, _, _, rfl, rfl⟩)
 ·exact .inr (.inl ⟨.i64, Try.underlying3, _, _, rfl, rfl⟩)
 ·exact .inr (.inr ⟨Try.underlying4, _, _, rfl, rfl⟩)
 ·exact .inl ⟨Try.underlying9, _, _, rfl, rfl⟩
noncomputable instance : DecidableEq Vt := fun _ _ => Classical.propDecidable _
theorem vtAlike (c d : Vt) : St.allAlike vtSp c.cs d.cs = decide (c = d) := by
 rw [Bool.eq_iff_iff, decide_eq_true_iff]
 simp only [St.allAlike, vtSp, List.all_cons, List.all_nil, Bool.and_true, Bool.and_eq_true, Vt.cs, St.alike, Array.getD_eq_getD_getElem?]
 simp only [List.getElem?_toArray, List.getElem?_cons_zero, List.getElem?_cons_succ, Option.getD_some, decide_eq_true_iff, beq_iff_eq]
 constructor
 ·rintro ⟨h0, h1, h2, h3, h4⟩
  exact Vt.ext' h0 h1 h2 h3 h4
 ·rintro rfl
  simp
end Go.Proofs.Ytaddbhdkgneiaaa.Ce
