/- Votes: plain, and as values; the bytes of a vote and of a promise; what bytes say. -/
import Derived.Test.YtofhnomljfbckaaCmX
namespace Go.Proofs.Ytofhnomljfbckaa.Ce
open Go.RowKit
structure Vt where
 slot : Int
 ballot : Int
 origin : Int
 full : Bool
 bytes : ByteArray
def Vt.zero : Vt := ⟨0, 0, 0, false, ⟨#[]⟩⟩
theorem Vt.ext' {a b : Vt} (h0 : a.slot = b.slot) (h1 : a.ballot = b.ballot) (h2 : a.origin = b.origin) (h3 : a.full = b.full) (h4 : a.bytes = b.bytes) : a = b := by
 cases a; cases b; simp_all
def Vt.cs (c : Vt) : Array Value := #[.int .i64 c.slot, .int .i64 c.ballot, .int .i64 c.origin, .bool c.full, .string c.bytes]
abbrev vtD : St.Sp Vt := ⟨23, 0, 5, 48, Vt.cs, Vt.zero⟩
theorem vtOk : vtD.Ok Try.prog := ⟨⟨_, Try.underlying23, rfl⟩, by kernel_rfl, by decide, fun _ => rfl, fun x => by simp [Vt.cs, Value.oneCell']⟩
def Vt.v (c : Vt) : Value := .agg c.cs
def Vt.Right (c : Vt) : Prop := 0 ≤ c.slot ∧ c.slot ≤ 63 ∧ 1 ≤ c.origin ∧ c.origin ≤ c.ballot ∧ c.ballot ≤ 2147483647 ∧ (c.bytes.size : Int) ≤ 520
instance (c : Vt) : Decidable c.Right := by unfold Vt.Right; infer_instance
structure VtAt (g : Nat) (c : Vt) (w : World) : Prop where
 c0 : w.cell? ⟨g, 0, none⟩ = some (.int .i64 c.slot)
 c1 : w.cell? ⟨g, 1, none⟩ = some (.int .i64 c.ballot)
 c2 : w.cell? ⟨g, 2, none⟩ = some (.int .i64 c.origin)
 c3 : w.cell? ⟨g, 3, none⟩ = some (.bool c.full)
 c4 : w.cell? ⟨g, 4, none⟩ = some (.string c.bytes)
theorem VtAt.of {g : Nat} {c : Vt} {w : World} (h : vtD.In g c w) : VtAt g c w := ⟨h.at_ rfl, h.at_ rfl, h.at_ rfl, h.at_ rfl, h.at_ rfl⟩
def vtN (c : Vt) : List Int := [2, c.slot, c.ballot, c.origin, if c.full = true then 1 else 0]
def vtB (c : Vt) : List UInt8 := numsB (vtN c) ++ textB c.bytes
def prB (b : Int) : List UInt8 := numB 1 ++ numB b.toNat
def PrOk (b : Int) : Prop := 1 ≤ b ∧ b ≤ 2147483647
instance (b : Int) : Decidable (PrOk b) := by unfold PrOk; infer_instance
theorem vtB_len (c : Vt) : (vtB c).length = 24 + c.bytes.size := by
 unfold vtB
 rw [List.length_append, numsB_len, textB_len]
 simp only [vtN, List.length_cons, List.length_nil]
 omega
theorem prB_len (b : Int) : (prB b).length = 8 := by unfold prB; rw [List.length_append, numB_len, numB_len]
theorem Vt.Right.nums {c : Vt} (h : c.Right) : ∀ n ∈ vtN c, 0 ≤ n ∧ n ≤ 4294967295 := by
 obtain ⟨h1, h2, h3, h4, h5, h6⟩ := h
 intro n hn
 simp only [vtN, List.mem_cons, List.not_mem_nil, or_false] at hn
 rcases hn with rfl | rfl | rfl | rfl | rfl
 ·omega
 ·omega
 ·omega
 ·omega
 ·split <;> omega
theorem Vt.Right.text {c : Vt} (h : c.Right) : c.bytes.size ≤ 4294967295 := by
 obtain ⟨h1, h2, h3, h4, h5, h6⟩ := h
 omega
theorem zero_not : ¬ Vt.zero.Right := by unfold Vt.Right Vt.zero; simp
def IsVt (s : List UInt8) (c : Vt) : Prop := c.Right ∧ s = vtB c
def IsPr (s : List UInt8) (b : Int) : Prop := PrOk b ∧ s = prB b
theorem numsV (c : Vt) : vtB c = numB 2 ++ (numB c.slot.toNat ++ (numB c.ballot.toNat ++ (numB c.origin.toNat ++ (numB (if c.full = true then 1 else 0 : Int).toNat ++ textB c.bytes)))) := by
 simp [vtB, numsB, vtN]
theorem numB_drop (n : Nat) (m : List UInt8) (k : Nat) : (numB n ++ m).drop (4 + k) = m.drop k := by rw [← List.drop_drop, List.drop_left' (numB_len n)]
theorem vt_nums {c : Vt} (hs : c.Right) : numOf (vtB c) = 2 ∧ (numOf ((vtB c).drop 4) : Int) = c.slot ∧ (numOf ((vtB c).drop 8) : Int) = c.ballot ∧ (numOf ((vtB c).drop 12) : Int) = c.origin ∧ (numOf ((vtB c).drop 16) : Int) = (if c.full = true then 1 else 0) ∧ (vtB c).drop 20 = textB c.bytes := by
 have H := hs.nums
 have h0 := H c.slot (by simp [vtN])
 have h1 := H c.ballot (by simp [vtN])
 have h2 := H c.origin (by simp [vtN])
 have h3 := H (if c.full = true then 1 else 0) (by simp [vtN])
 have hd := numB_drop
 rw [numsV]
 refine ⟨?_, ?_, ?_, ?_, ?_, ?_⟩
 ·rw [Frm.numOf_numB _ (by omega)]
 ·rw [hd _ _ 0, List.drop_zero, Frm.numOf_numB _ (by omega)]; omega
 ·rw [hd _ _ 4, hd _ _ 0, List.drop_zero, Frm.numOf_numB _ (by omega)]; omega
 ·rw [hd _ _ 8, hd _ _ 4, hd _ _ 0, List.drop_zero, Frm.numOf_numB _ (by omega)]; omega
 ·rw [hd _ _ 12, hd _ _ 8, hd _ _ 4, hd _ _ 0, List.drop_zero, Frm.numOf_numB _ (by omega)]; omega
 ·rw [hd _ _ 16, hd _ _ 12, hd _ _ 8, hd _ _ 4, hd _ _ 0, List.drop_zero]
theorem pr_nums {b : Int} (h : PrOk b) : numOf (prB b) = 1 ∧ (numOf ((prB b).drop 4) : Int) = b := by
 have h1 := h.1
 have h2 := h.2
 unfold prB
 refine ⟨Frm.numOf_numB _ (by omega) _, ?_⟩
 rw [numB_drop 1 _ 0, List.drop_zero]
 have := Frm.numOf_numB b.toNat (by omega) []
 rw [List.append_nil] at this
 rw [this]; omega
def gotV (s : List UInt8) : Vt := ⟨numOf (s.drop 4), numOf (s.drop 8), numOf (s.drop 12), (numOf (s.drop 16) : Int) == 1, textThere (s.drop 20)⟩
theorem gotV_iff (s : List UInt8) (c : Vt) : IsVt s c ↔ c = gotV s ∧ 20 ≤ s.length ∧ numOf s = 2 ∧ textOk (s.drop 20) ∧ s.length = 20 + textSize (s.drop 20) ∧ numOf (s.drop 16) ≤ 1 ∧ (gotV s).Right := by
 constructor
 ·rintro ⟨hs, rfl⟩
  obtain ⟨k, n0, n1, n2, n3, n4⟩ := vt_nums hs
  have htx := hs.text
  have hok := textOk_textB c.bytes htx []
  obtain ⟨q1, q2, -⟩ := ct_of c.bytes htx []
  rw [List.append_nil] at hok q1 q2
  obtain ⟨a1, a2, a3, a4, a5, a6, a7, a8, a9⟩ := ok_size hok
  have hl := vtB_len c
  have hc : c = gotV (vtB c) := by
   apply Vt.ext' <;> simp only [gotV]
   ·exact n0.symm
   ·exact n1.symm
   ·exact n2.symm
   ·rw [n3]; cases c.full <;> rfl
   ·rw [n4, ← a7, q2]
  have hsz : (textThere (textB c.bytes)).size = c.bytes.size := by rw [← a7, q2]
  refine ⟨hc, by omega, k, by rw [n4]; exact hok, by rw [n4]; omega, ?_, by rw [← hc]; exact hs⟩
  have : (numOf ((vtB c).drop 16) : Int) ≤ 1 := by rw [n3]; split <;> omega
  omega
 ·rintro ⟨rfl, h20, h2, hok, hl, h1, hs⟩
  refine ⟨hs, ?_⟩
  obtain ⟨a1, a2, a3, a4, a5, a6, a7, a8, a9⟩ := ok_size hok
  have e0 := num_head (l := s) (by omega)
  have e1 := num_head (l := s.drop 4) (by rw [List.length_drop]; omega)
  have e2 := num_head (l := s.drop 8) (by rw [List.length_drop]; omega)
  have e3 := num_head (l := s.drop 12) (by rw [List.length_drop]; omega)
  have e4 := num_head (l := s.drop 16) (by rw [List.length_drop]; omega)
  rw [List.drop_drop] at e1 e2 e3 e4
  have e5 : s.drop 20 = textB (textThere (s.drop 20)) := by
   have := ct_inv a6
   have hz : textRest (s.drop 20) = [] := by
    rw [← a3]
    exact List.drop_of_length_le (by rw [List.length_drop]; omega)
   rw [a7, a8, hz, List.append_nil] at this
   exact this
  have hh : (if (gotV s).full = true then 1 else 0 : Int).toNat = numOf (s.drop 16) := by
   show (if ((numOf (s.drop 16) : Int) == 1) = true then 1 else 0 : Int).toNat = _
   split
   ·rename_i q
    have := eq_of_beq q
    omega
   ·rename_i q
    have : ¬ (numOf (s.drop 16) : Int) = 1 := fun e => q (by rw [e]; rfl)
    simp
    omega
  rw [numsV, hh]
  simp only [gotV, Int.toNat_natCast]
  rw [← e5, ← e4, ← e3, ← e2, ← e1, ← h2, ← e0]
theorem isPr_iff (s : List UInt8) (b : Int) : IsPr s b ↔ b = numOf (s.drop 4) ∧ s.length = 8 ∧ numOf s = 1 ∧ PrOk (numOf (s.drop 4)) := by
 constructor
 ·rintro ⟨h, rfl⟩
  obtain ⟨h1, h2⟩ := pr_nums h
  exact ⟨h2.symm, prB_len b, h1, by rw [h2]; exact h⟩
 ·rintro ⟨rfl, hl, h1, h⟩
  refine ⟨h, ?_⟩
  have e0 := num_head (l := s) (by omega)
  have e1 := num_head (l := s.drop 4) (by rw [List.length_drop]; omega)
  rw [List.drop_drop, List.drop_of_length_le (i := 4 + 4) (by omega), List.append_nil] at e1
  unfold prB
  rw [Int.toNat_natCast, ← e1, ← h1, ← e0]
inductive Says (s : List UInt8) : Int → Vt → Bool → Prop
 | prom (b : Int) (h : IsPr s b) : Says s b Vt.zero true
 | vote (c : Vt) (h : IsVt s c) : Says s 0 c true
 | none (h1 : ∀ b, ¬ IsPr s b) (h2 : ∀ c, ¬ IsVt s c) : Says s 0 Vt.zero false
theorem pr_not_vt {s : List UInt8} {b : Int} {c : Vt} (h : IsPr s b) (h' : IsVt s c) : False := by
 have h1 := ((isPr_iff s b).1 h).2.2.1
 have h2 := ((gotV_iff s c).1 h').2.2.1
 omega
theorem Says.uniq {s : List UInt8} {b b' : Int} {c c' : Vt} {k k' : Bool} (h : Says s b c k) (h' : Says s b' c' k') : b = b' ∧ c = c' ∧ k = k' := by
 cases h with
 | prom _ h => cases h' with
  | prom _ h' => exact ⟨((isPr_iff s b).1 h).1.trans ((isPr_iff s b').1 h').1.symm, rfl, rfl⟩
  | vote _ h' => exact (pr_not_vt h h').elim
  | none h1 h2 => exact absurd h (h1 _)
 | vote _ h => cases h' with
  | prom _ h' => exact (pr_not_vt h' h).elim
  | vote _ h' => exact ⟨rfl, ((gotV_iff s c).1 h).1.trans ((gotV_iff s c').1 h').1.symm, rfl⟩
  | none h1 h2 => exact absurd h (h2 _)
 | none h1 h2 => cases h' with
  | prom _ h' => exact absurd h' (h1 _)
  | vote _ h' => exact absurd h' (h2 _)
  | none => exact ⟨rfl, rfl, rfl⟩
theorem Says.put {c : Vt} (h : c.Right) : Says (vtB c) 0 c true := .vote c ⟨h, rfl⟩
theorem Says.promise {b : Int} (h : PrOk b) : Says (prB b) b Vt.zero true := .prom b ⟨h, rfl⟩
end Go.Proofs.Ytofhnomljfbckaa.Ce
