/- Plain lemmas of frames: what is framed is cut off again as it was, what is cut off was framed, what a turned byte does. Of no function in particular. The contracts of package frame: sums, one frame cut off. The contracts of package frame: a frame that is split off. The contracts of package frame: where no frame stands. The contracts of package frame: Put, All, Cut, Scan. -/
import Derived.Test.YtofhnomljfbckaaLow
namespace Go.Proofs.Ytofhnomljfbckaa
open Go.RowKit Crc
namespace Frm
def sumB (l : List UInt8) : List UInt8 := numB (vw (sum l))
def frm (r : List UInt8) : List UInt8 := numB r.length ++ (sumB (numB r.length) ++ (sumB r ++ r))
def flat (L : List (List UInt8)) : List UInt8 := L.flatMap frm
theorem sumB_len (l : List UInt8) : (sumB l).length = 4 := rfl
theorem frm_len (r : List UInt8) : (frm r).length = 12 + r.length := by
 unfold frm
 simp only [List.length_append, numB_len, sumB_len]
 omega
theorem flat_cons (r : List UInt8) (L : List (List UInt8)) : flat (r :: L) = frm r ++ flat L := rfl
theorem flat_app (L M : List (List UInt8)) : flat (L ++ M) = flat L ++ flat M := by unfold flat; rw [List.flatMap_append]
theorem flat_one (r : List UInt8) : flat [r] = frm r := by unfold flat; simp
theorem flat_drop (L : List (List UInt8)) (k : Nat) (h : k < L.length) : flat (L.drop k) = frm L[k] ++ flat (L.drop (k + 1)) := by
 rw [List.drop_eq_getElem_cons h, flat_cons]
def tot (L : List (List UInt8)) : Nat := (L.map List.length).sum
theorem flat_len (L : List (List UInt8)) : (flat L).length = 12 * L.length + tot L := by
 induction L with
 | nil => rfl
 | cons r L ih =>
  rw [flat_cons, List.length_append, ih, frm_len]
  simp [tot]
  omega
theorem numOf_numB (n : Nat) (h : n ≤ 4294967295) (more : List UInt8) : numOf (numB n ++ more) = n := by
 unfold numOf numB
 simp
 omega
theorem numB_numOf (l : List UInt8) (h : l.length = 4) : numB (numOf l) = l := by
 match l, h with
 | [a, b, c, d], _ =>
  have ha := a.toNat_lt
  have hb := b.toNat_lt
  have hc := c.toNat_lt
  have hd := d.toNat_lt
  unfold numB numOf
  simp only [List.getD_cons_zero, List.getD_cons_succ]
  congr 1
  ·apply UInt8.toNat_inj.1
   rw [UInt8.toNat_ofNat']
   omega
  ·congr 1
   ·apply UInt8.toNat_inj.1
    rw [UInt8.toNat_ofNat']
    omega
   ·congr 1
    ·apply UInt8.toNat_inj.1
     rw [UInt8.toNat_ofNat']
     omega
    ·congr 1
     apply UInt8.toNat_inj.1
     rw [UInt8.toNat_ofNat']
     omega
theorem numOf_take4 (l : List UInt8) (h : 4 ≤ l.length) : numOf (l.take 4) = numOf l := by
 match l, h with
 | a :: b :: c :: d :: m, _ => rfl
def Whole (b : List UInt8) : Prop :=
 12 ≤ b.length ∧ numOf b ≤ 65535 ∧ 12 + numOf b ≤ b.length ∧ (b.take 8).drop 4 = sumB (b.take 4) ∧ (b.take 12).drop 8 = sumB ((b.drop 12).take (numOf b))
theorem whole_frm (r m : List UInt8) (h : r.length ≤ 65535) : Whole (frm r ++ m) ∧ numOf (frm r ++ m) = r.length ∧ (frm r ++ m).take 4 = numB r.length ∧ (frm r ++ m).drop 12 = r ++ m := by
 have e : frm r ++ m = numB r.length ++ (sumB (numB r.length) ++ (sumB r ++ (r ++ m))) := by unfold frm; simp only [List.append_assoc]
 have hn : numOf (frm r ++ m) = r.length := by rw [e]; exact numOf_numB _ (by omega) _
 have h4 : (frm r ++ m).take 4 = numB r.length := by rw [e]; rfl
 have h12 : (frm r ++ m).drop 12 = r ++ m := by rw [e]; rfl
 have hl : (frm r ++ m).length = 12 + r.length + m.length := by rw [List.length_append, frm_len]
 refine ⟨⟨by omega, by omega, by omega, ?_, ?_⟩, hn, h4, h12⟩
 ·rw [h4, e]; rfl
 ·rw [h12, hn, List.take_left, e]; rfl
theorem frm_inj {r r' m m' : List UInt8} (h : frm r ++ m = frm r' ++ m') (hr : r.length ≤ 65535) (hr' : r'.length ≤ 65535) : r = r' ∧ m = m' := by
 obtain ⟨-, n1, -, d1⟩ := whole_frm r m hr
 obtain ⟨-, n2, -, d2⟩ := whole_frm r' m' hr'
 rw [h] at n1 d1
 have hl : r.length = r'.length := by omega
 exact List.append_inj (d1.symm.trans d2) hl
end Frm
end Go.Proofs.Ytofhnomljfbckaa
namespace Go.Proofs.Ytofhnomljfbckaa
open Go.RowKit Crc Frm
end Go.Proofs.Ytofhnomljfbckaa
namespace Go.Proofs.Ytofhnomljfbckaa
open Go.RowKit Crc Frm
end Go.Proofs.Ytofhnomljfbckaa
namespace Go.Proofs.Ytofhnomljfbckaa
open Go.RowKit Crc Frm
end Go.Proofs.Ytofhnomljfbckaa
namespace Go.Proofs.Ytofhnomljfbckaa
open Go.RowKit Crc Frm
end Go.Proofs.Ytofhnomljfbckaa
