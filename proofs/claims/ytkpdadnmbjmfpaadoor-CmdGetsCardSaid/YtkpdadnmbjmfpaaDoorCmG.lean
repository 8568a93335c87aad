/- The contracts of the reference's Right and Get of layer 15. -/
import Derived.Test.YtkpdadnmbjmfpaaDoorCmP
import Derived.Test.YtkpdadnmbjmfpaaDoorWir
import Derived.Deep.RegionHeld3
namespace Go.Proofs.YtkpdadnmbjmfpaaDoor.St
open Go.RowKit
section
variable {P : Program} {α : Type} {D : Sp α} {ops : Array Oper} {o : Oper} {a : Act} {w : World} {K0 : Act → World → Prop} {Q : Exit → Act → World → Prop} {g : Nat} {c c0 : α}
theorem wp_storeS (hD : D.Ok P) (x y : Operand) (ho : o.op = .store D.t x y) (hx : a.eval x = .pointer (some ⟨g, 0, none⟩)) (hy : a.eval y = .agg (D.f c)) (hi : D.In g c0 w)
    (h : ∀ w', D.Set g c w w' → K0 (a.put o.dst undef) w') : o.wp P a w K0 Q :=
  wp_store_row D.t x y ho g (D.f c) hx hy D.t (D.f c0) hi.h (by rw [hD.size]; exact hD.sizeI) (by rw [hD.size, hD.size]) (hD.one c) (h _ (Sp.Set.of hi c))
end
end Go.Proofs.YtkpdadnmbjmfpaaDoor.St
namespace Go.Proofs.YtkpdadnmbjmfpaaDoor.Ce
open Go.RowKit

def Cm.Right (c : Cm) : Prop := c.Sound ∧ (cmdB c).length ≤ 512
noncomputable instance (c : Cm) : Decidable c.Right := Classical.propDecidable _
set_option maxHeartbeats 4000000 in
set_option maxRecDepth 100000 in
theorem rright15_any (c : Cm) (w : World) : Calls Tryd.prog 11 #[c.v] w fun e w' => e = .returned (.bool (decide c.Right)) ∧ Below w.heap.size w w' := by
  have hsd := fun w => xsound_any c w
  have hput := fun w h => xput_ok c w h
  by_cases hs : c.Sound
  · have hd : decide c.Right = decide (((cmdS c).size : Int) ≤ 512) := by
      rw [cmdS_size]
      refine decide_eq_decide.2 ⟨fun h => by have := h.2; omega, fun h => ⟨hs, by omega⟩⟩
    rw [hd]
    simp only [decide_eq_true hs] at hsd
    generalize cmdS c = s at *
    clear hd
    go_enter Tryd.func11, Tryd.ntmps11
    go_wp2_with (first | refine St.box cmD rfl (.tmp 0) c rfl rfl ?_ | refine St.load cmOk rfl (.tmp 1) rfl rfl (by assumption) ?_)
    constructor
    intro w1 hI hb hz
    go_wp2_with (refine St.load cmOk rfl (.tmp 1) rfl rfl hI ?_)
    refine (hsd _).mono ?_
    rintro e w2 ⟨rfl, hb2⟩
    have hI2 := hI.up hb2
    have hb3 := bwstep hb hb2
    clear hI hb hb2
    go_wp2_with (refine St.load cmOk rfl (.tmp 1) rfl rfl hI2 ?_)
    refine (hput _ hs).mono ?_
    rintro e w4 ⟨rfl, hb4⟩
    have hb5 := bwstep hb3 hb4
    clear hI2 hb3 hb4
    go_wp2_with fail
    go_ret
    exact ⟨rfl, hb5⟩
  · have hd : decide c.Right = false := decide_eq_false fun h => hs h.1
    rw [hd]
    simp only [decide_eq_false hs] at hsd
    go_enter Tryd.func11, Tryd.ntmps11
    go_wp2_with (refine St.box cmD rfl (.tmp 0) c rfl rfl ?_)
    constructor
    intro w1 hI hb hz
    go_wp2_with (refine St.load cmOk rfl (.tmp 1) rfl rfl hI ?_)
    refine (hsd _).mono ?_
    rintro e w2 ⟨rfl, hb2⟩
    have hb3 := bwstep hb hb2
    clear hI hb hb2
    go_wp2_with fail
    go_ret
    exact ⟨rfl, hb3⟩
theorem five_texts : ∀ {T : List ByteArray}, T.length = 5 → ∃ t0 t1 t2 t3 t4, T = [t0, t1, t2, t3, t4]
  | [t0, t1, t2, t3, t4], _ => ⟨t0, t1, t2, t3, t4, rfl⟩
/-- what Get answers -/
def GetEnd (s : List UInt8) (w : World) (e : Ending) (w' : World) : Prop := (∃ c ok, e = .returned (.tuple #[Cm.v c, .bool ok]) ∧ (ok = true → IsCmd s c) ∧ (ok = false → ∀ c, ¬ IsCmd s c)) ∧ Below w.heap.size w w'
end Go.Proofs.YtkpdadnmbjmfpaaDoor.Ce
