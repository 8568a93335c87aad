/- The contracts of Compare of package cell, and of the reference's. -/
import Derived.Test.YtpflcnndloielaaCmp
import Derived.Deep.RegionHeld3
import Derived.BigQuiet
namespace Go.Proofs.Ytpflcnndloielaa.Ce
open Go.RowKit

theorem or_new (x y z : Int) (w : World) (t : Nat) : Calls Try.prog 51 #[.slice (some ⟨w.heap.size, 0, none⟩) 3 3] (w.alloc (.cells #[.int .i64 x, .int .i64 y, .int .i64 z] t)).drew fun e w' => e = .returned (.int .i64 (or3 x y z)) ∧ (w.alloc (.cells #[.int .i64 x, .int .i64 y, .int .i64 z] t)).drew = w' :=
  or_any _ x y z _ _ ((Rd.new w t _ rfl (by simp [maxLen]) rfl).below ((Below.refl _ _).drew))
/-- two boxed cells, from w on -/
structure BoxCD (w w2 : World) (g h : Nat) (a b : Cl) : Prop where
  ia : InC g a w2
  ib : InC h b w2
  bel : Below w.heap.size w w2
def CDcells (g h : Nat) (a b : Cl) (w2 w' : World) : Prop := w'.cell? ⟨g, 0, none⟩ = some (.string a.row) ∧ w'.cell? ⟨g, 1, none⟩ = some (.string a.col) ∧ w'.cell? ⟨g, 2, none⟩ = some (.int .i64 a.at_) ∧ w'.cell? ⟨h, 0, none⟩ = some (.string b.row) ∧ w'.cell? ⟨h, 1, none⟩ = some (.string b.col) ∧ w'.cell? ⟨h, 2, none⟩ = some (.int .i64 b.at_) ∧ Below w2.heap.size w2 w'
theorem BoxCD.at_ {w w2 w' : World} {g h : Nat} {a b : Cl} (H : BoxCD w w2 g h a b) (hb : Below w2.heap.size w2 w') : CDcells g h a b w2 w' :=
  let p := H.ia.up hb; let q := H.ib.up hb; ⟨p.c0, p.c1, p.c2, q.c0, q.c1, q.c2, hb⟩
set_option maxHeartbeats 4000000 in
set_option maxRecDepth 100000 in
theorem compare_any (a b : Cl) (w : World) : Calls Try.prog 38 #[a.v, b.v] w fun e w' => e = .returned (.int .i64 (ccmp a b)) ∧ Below w.heap.size w w' := by
  go_enter Try.func38, Try.ntmps38
  go_wp2_with (refine boxC rfl (.tmp 0) a rfl rfl ?_)
  constructor
  intro w1 hI1 hb1 hz1
  go_wp2_with (refine boxC rfl (.tmp 1) b rfl rfl ?_)
  constructor
  intro w2 hI2 hb2 hz2
  have HD := Lib.hid (BoxCD.mk (w := w) (hI1.bel hb2 (by omega)) hI2 (hb1.trans (hb2.mono (by omega))))
  have HA : Hid (∀ O : Obj, CDcells w.heap.size (w.heap.size + 1) a b w2 (w2.alloc O).drew) := Lib.hid fun O => HD.out.at_ (bwalloc (Below.refl _ _) O).drew
  have HT : Hid (CDcells w.heap.size (w.heap.size + 1) a b w2 w2.drew) := Lib.hid (HD.out.at_ (Below.refl _ _).drew)
  clear hI1 hI2 hb1 hb2 hz1 hz2
  go_wp2_with fail
  go_region_held3 (fun w' => w'.cell? ⟨w.heap.size, 0, none⟩ = some (.string a.row) ∧ w'.cell? ⟨w.heap.size, 1, none⟩ = some (.string a.col) ∧ w'.cell? ⟨w.heap.size, 2, none⟩ = some (.int .i64 a.at_) ∧ w'.cell? ⟨w.heap.size + 1, 0, none⟩ = some (.string b.row) ∧ w'.cell? ⟨w.heap.size + 1, 1, none⟩ = some (.string b.col) ∧ w'.cell? ⟨w.heap.size + 1, 2, none⟩ = some (.int .i64 b.at_) ∧ Below w2.heap.size w2 w') (first | exact HT.out | assumption | exact HA.out _)
    (first
      | (go_at_call 52; refine (cmpS_any _ _ _).mono ?_; rintro e wn ⟨rfl, rfl⟩)
      | (go_at_call 53; refine (cmpI_any _ _ _).mono ?_; rintro e wn ⟨rfl, rfl⟩)
      | (go_at_call 51; refine (or_new _ _ _ _ _).mono ?_; rintro e wn ⟨rfl, rfl⟩))
  all_goals
    go_wp2_with fail
    go_ret
    exact ⟨rfl, HD.out.bel.trans ((bwalloc (Below.refl _ _) _).drew.mono HD.out.bel.size)⟩
end Go.Proofs.Ytpflcnndloielaa.Ce
