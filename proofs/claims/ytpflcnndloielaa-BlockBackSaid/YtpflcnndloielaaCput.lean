/- A cell's bytes; the contracts of flag and Put of package cell. -/
import Derived.Test.YtpflcnndloielaaCmr
import Derived.Test.YtpflcnndloielaaConc
import Derived.Test.YtpflcnndloielaaFrmP
namespace Go.Proofs.Ytpflcnndloielaa.Ce
open Go.RowKit

/-- a cell's byte -/
def flagB (g : Bool) : List UInt8 := [if g then 1 else 0]
def cellB (c : Cl) : List UInt8 := textB c.row ++ (textB c.col ++ (numB c.at_.toNat ++ (flagB c.gone ++ textB c.val)))
theorem cellB_len (c : Cl) : (cellB c).length = 17 + c.row.size + c.col.size + c.val.size := by
  unfold cellB
  simp only [List.length_append, textB_len, numB_len, flagB, List.length_singleton]
  omega
theorem build5 {w : World} {a b c d f : Value} {x y z u s : List UInt8} (e : Nat) (ha : Rd w w.heap.size a (x.map bv)) (hb : Rd w w.heap.size b (y.map bv)) (hc : Rd w w.heap.size c (z.map bv)) (hd : Rd w w.heap.size d (u.map bv)) (hf : Rd w w.heap.size f (s.map bv)) :
    RdM (w.alloc (.cells #[a, b, c, d, f] e)) (w.alloc (.cells #[a, b, c, d, f] e)).heap.size (.slice (some ⟨w.heap.size, 0, none⟩) 5 5) 5 (gl [x, y, z, u, s]) := by
  have hal := bwalloc (bwrefl w) (.cells #[a, b, c, d, f] e)
  refine ⟨fun i => [a, b, c, d, f].getD i undef, Rd.newW w e #[a, b, c, d, f] rfl (by simp [maxLen]) rfl, fun j hj => ?_⟩
  match j, hj with
  | 0, _ => exact ha.up hal
  | 1, _ => exact hb.up hal
  | 2, _ => exact hc.up hal
  | 3, _ => exact hd.up hal
  | 4, _ => exact hf.up hal
theorem flatG5 (x y z u s : List UInt8) : flatG (gl [x, y, z, u, s]) 5 = x ++ (y ++ (z ++ (u ++ s))) := by
  show (((([] ++ x) ++ y) ++ z) ++ u) ++ s = _
  simp
theorem concat5 {w : World} {a b c d f : Value} {x y z u s : List UInt8} (e : Nat) (ha : Rd w w.heap.size a (x.map bv)) (hb : Rd w w.heap.size b (y.map bv)) (hc : Rd w w.heap.size c (z.map bv)) (hd : Rd w w.heap.size d (u.map bv)) (hf : Rd w w.heap.size f (s.map bv))
    (hp : 0 < (x ++ (y ++ (z ++ (u ++ s)))).length) (hm : (x ++ (y ++ (z ++ (u ++ s)))).length ≤ 1000000) :
    Calls Try.prog 39 #[.slice (some ⟨w.heap.size, 0, none⟩) 5 5] (w.alloc (.cells #[a, b, c, d, f] e)) fun e' w' => (∃ v, e' = .returned v ∧ Ow w' (w.alloc (.cells #[a, b, c, d, f] e)).heap.size 5 v ((x ++ (y ++ (z ++ (u ++ s)))).map bv)) ∧ Below (w.alloc (.cells #[a, b, c, d, f] e)).heap.size (w.alloc (.cells #[a, b, c, d, f] e)) w' := by
  have := concatG_any _ 5 _ _ (build5 e ha hb hc hd hf) (by omega) (by rw [flatG5]; exact hp) (by rw [flatG5]; exact hm)
  rw [flatG5] at this
  exact this
set_option maxHeartbeats 400000 in
theorem flag_any (g : Bool) (w : World) : Calls Try.prog 41 #[.bool g] w fun e w' => (∃ v, e = .returned v ∧ Ow w' w.heap.size 5 v ((flagB g).map bv)) ∧ Below w.heap.size w w' := by
  have h1 : Ow (w.alloc (.cells #[.int .u8 1] 5)) w.heap.size 5 (.slice (some ⟨w.heap.size, 0, none⟩) 1 1) ((flagB true).map bv) := Ow.new w #[.int .u8 1] rfl (by simp [maxLen]) rfl (Nat.le_refl _)
  have h0 : Ow (w.alloc (.cells #[.int .u8 0] 5)) w.heap.size 5 (.slice (some ⟨w.heap.size, 0, none⟩) 1 1) ((flagB false).map bv) := Ow.new w #[.int .u8 0] rfl (by simp [maxLen]) rfl (Nat.le_refl _)
  cases g
  · go_enter Try.func41, Try.ntmps41
    go_wp2
    go_ret
    exact ⟨⟨_, rfl, h0⟩, bwalloc (Below.refl _ _) _⟩
  · go_enter Try.func41, Try.ntmps41
    go_wp2
    go_ret
    exact ⟨⟨_, rfl, h1⟩, bwalloc (Below.refl _ _) _⟩
def AllC (g : Nat) (c : Cl) (w1 w' : World) : Prop := w'.cell? ⟨g, 0, none⟩ = some (.string c.row) ∧ w'.cell? ⟨g, 1, none⟩ = some (.string c.col) ∧ w'.cell? ⟨g, 2, none⟩ = some (.int .i64 c.at_) ∧ w'.cell? ⟨g, 3, none⟩ = some (.string c.val) ∧ w'.cell? ⟨g, 4, none⟩ = some (.bool c.gone) ∧ Below w1.heap.size w1 w'
theorem AllC.of {g : Nat} {c : Cl} {w1 w' : World} (h : InC g c w1) (hb : Below w1.heap.size w1 w') : AllC g c w1 w' := let p := h.up hb; ⟨p.c0, p.c1, p.c2, p.c3, p.c4, hb⟩
theorem num_int (n : Int) (w : World) (h0 : 0 ≤ n) (h1 : n ≤ 4294967295) : Calls Try.prog 27 #[.int .i64 n] w fun e w' => ∃ v, e = .returned v ∧ Ow w' w.heap.size 5 v ((numB n.toNat).map bv) ∧ Below w.heap.size w w' := by
  have := num_ok n.toNat w (by omega)
  rw [Int.toNat_of_nonneg h0] at this
  exact this
set_option maxHeartbeats 4000000 in
set_option maxRecDepth 100000 in
theorem put_ok (c : Cl) (w : World) (h : c.ok) : Calls Try.prog 24 #[c.v] w fun e w' => (∃ x, e = .returned x ∧ Ow w' w.heap.size 5 x ((cellB c).map bv)) ∧ Below w.heap.size w w' := by
  have l1 : c.row.size ≤ 4294967295 := by have := h.r2; omega
  have l2 : c.col.size ≤ 4294967295 := by have := h.c2; omega
  have l3 : c.val.size ≤ 4294967295 := by have := h.v; omega
  have HL : Hid (0 < (cellB c).length ∧ (cellB c).length ≤ 1000000) := Lib.hid (by rw [cellB_len]; have := h.r2; have := h.c2; have := h.v; omega)
  have hr := fun w => right_any c w
  rw [decide_eq_true h] at hr
  go_enter Try.func24, Try.ntmps24
  go_wp2_with (refine boxC rfl (.tmp 0) c rfl rfl ?_)
  constructor
  intro w1 hI1 hb1 hz1
  go_wp2_with (refine loadC rfl (.tmp 1) rfl rfl hI1 ?_)
  refine (hr _).mono ?_
  rintro e w2 ⟨rfl, hb2⟩
  have HB := Lib.hid (hb1.trans (hb2.mono hb1.size))
  have HI := Lib.hid (hI1.up hb2)
  clear hI1 hb1 hb2 hr hz1
  go_wp2_with fail
  have HT := Lib.hid (AllC.of HI.out ((Below.refl w2.heap.size w2).drew))
  have HU : Hid (∀ a b : World, AllC w.heap.size c w2 a → Below a.heap.size a b → AllC w.heap.size c w2 b) := Lib.hid fun a b hS hb => AllC.of HI.out (bwstep hS.2.2.2.2.2 hb)
  go_region_held3 (fun w' => w'.cell? ⟨w.heap.size, 0, none⟩ = some (.string c.row) ∧ w'.cell? ⟨w.heap.size, 1, none⟩ = some (.string c.col) ∧ w'.cell? ⟨w.heap.size, 2, none⟩ = some (.int .i64 c.at_) ∧ w'.cell? ⟨w.heap.size, 3, none⟩ = some (.string c.val) ∧ w'.cell? ⟨w.heap.size, 4, none⟩ = some (.bool c.gone) ∧ Below w2.heap.size w2 w') (first | exact HT.out | assumption | exact HU.out _ _ (by assumption) (by assumption) | exact HU.out _ _ (by assumption) (bwalloc (Below.refl _ _) _))
    (first
      | (go_at_call 40; (with_reducible refine (text_ok c.row _ l1).mono ?_); rintro e wa ⟨va, rfl, oa, ba⟩; obtain ⟨A1, c1, rfl, -, -⟩ := oa.rd.shapeM; have ra := oa.rd; clear oa)
      | (go_at_call 40; (with_reducible refine (text_ok c.col _ l2).mono ?_); rintro e wb ⟨vb, rfl, ob, bb⟩; obtain ⟨A2, c2, rfl, -, -⟩ := ob.rd.shapeM; have rb := ob.rd; clear ob; have ra := ra.up bb)
      | (go_at_call 27; refine (num_int c.at_ _ h.a1 h.a2).mono ?_; rintro e wc ⟨vc, rfl, oc, bc⟩; obtain ⟨A3, c3, rfl, -, -⟩ := oc.rd.shapeM; have rc := oc.rd; clear oc; have ra := ra.up bc; have rb := rb.up bc)
      | (go_at_call 41; refine (flag_any _ _).mono ?_; rintro e wd ⟨⟨vd, rfl, od⟩, bd⟩; obtain ⟨A4, c4, rfl, -, -⟩ := od.rd.shapeM; have rd := od.rd; clear od; have ra := ra.up bd; have rb := rb.up bd; have rc := rc.up bd)
      | (go_at_call 40; (with_reducible refine (text_ok c.val _ l3).mono ?_); rintro e we ⟨ve, rfl, oe, be⟩; obtain ⟨A5, c5, rfl, -, -⟩ := oe.rd.shapeM; have re := oe.rd; clear oe; have ra := ra.up be; have rb := rb.up be; have rc := rc.up be; have rd := rd.up be)
      | (go_at_call 39; refine (concat5 _ ra rb rc rd re HL.out.1 HL.out.2).mono ?_; rintro e wz ⟨⟨z, rfl, hz⟩, hbz⟩; have HZ := Lib.hid hz; clear hz))
  have hc := bwstep (bwstep (bwstep (bwstep (bwstep HB.out ((Below.refl w2.heap.size w2).drew)) ba) bb) bc) bd
  have hc := bwstep hc be
  have hBz := bwstep (bwalloc hc _) hbz
  have hs5 := (bwalloc hc (.cells #[.slice A1 (textB c.row).length c1, .slice A2 (textB c.col).length c2, .slice A3 (numB c.at_.toNat).length c3, .slice A4 (flagB c.gone).length c4, .slice A5 (textB c.val).length c5] 33)).size
  go_wp2_with fail
  go_ret
  exact ⟨⟨_, rfl, HZ.out.mono hs5⟩, hBz⟩
end Go.Proofs.Ytpflcnndloielaa.Ce
