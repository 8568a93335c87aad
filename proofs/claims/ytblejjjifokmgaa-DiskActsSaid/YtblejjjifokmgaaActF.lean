/- The contract of the reference function Few of layer 7. -/
import Derived.Test.YtblejjjifokmgaaAct
namespace Go.Proofs.Ytblejjjifokmgaa
open Go.RowKit

/-- the cells of an act, one by one -/
theorem RdA.cells {w : World} {B n b off m c k : Nat} {f : Nat → AcV} (h : RdA w B (.slice (some ⟨b, off, none⟩) m c) n f) (hk : k < n) :
    w.cell? ⟨b, off + k * 6, none⟩ = some (.int .i64 (f k).a.op) ∧ w.cell? ⟨b, off + k * 6 + 1, none⟩ = some (.string (f k).a.nm) ∧ w.cell? ⟨b, off + k * 6 + 2, none⟩ = some (.string (f k).a.ot) ∧
      w.cell? ⟨b, off + k * 6 + 3, none⟩ = some (f k).bx ∧ w.cell? ⟨b, off + k * 6 + 4, none⟩ = some (.int .i64 (f k).a.at_) ∧ w.cell? ⟨b, off + k * 6 + 5, none⟩ = some (f k).kx := by
  obtain ⟨b', off', e, _, hc⟩ := h.open_ (by omega)
  simp only [Option.some.injEq, Addr.mk.injEq, and_true] at e
  obtain ⟨rfl, rfl⟩ := e
  exact ⟨hc k hk 0 _ rfl, hc k hk 1 _ rfl, hc k hk 2 _ rfl, hc k hk 3 _ rfl, hc k hk 4 _ rfl, hc k hk 5 _ rfl⟩
theorem sizeA : (Try.prog.info? 31).map (·.size) = some 6 := by kernel_rfl
theorem RdA.whole {w : World} {B n b off m c k : Nat} {f : Nat → AcV} (h : RdA w B (.slice (some ⟨b, off, none⟩) m c) n f) (hk : k < n) : ∀ (i : Nat) (v : Value), (cells6 (f k))[i]? = some v → w.cell? ((⟨b, off + k * 6, none⟩ : Addr).add i) = some v := fun i v hv => by
  obtain ⟨b', off', e, _, hc⟩ := h.open_ (by omega)
  simp only [Option.some.injEq, Addr.mk.injEq, and_true] at e
  obtain ⟨rfl, rfl⟩ := e
  rw [Addr.add_lit]
  exact hc k hk i v hv
/-- an act that is small -/
structure Small (a : Ac) : Prop where
  b : a.b.length ≤ 5000
  k : a.ks.length ≤ 5000
  n : a.nm.size ≤ 100
  o : a.ot.size ≤ 100
def FewP (n : Nat) (f : Nat → AcV) (e : Ending) : Prop := ∃ q, e = .returned (.bool q) ∧ (q = true → n ≤ 100 ∧ ∀ j, j < n → Small (f j).a)
theorem FewP.no (n : Nat) (f : Nat → AcV) : FewP n f (.returned (.bool false)) := ⟨false, rfl, fun h => by cases h⟩
theorem FewP.yes {n : Nat} {f : Nat → AcV} (h : n ≤ 100) (k : ∀ j, j < n → Small (f j).a) : FewP n f (.returned (.bool true)) := ⟨true, rfl, fun _ => ⟨h, k⟩⟩
set_option maxHeartbeats 1000000 in
set_option maxRecDepth 100000 in
theorem fewA_any (x : Value) (n : Nat) (f : Nat → AcV) (w : World) (hx : RdA w w.heap.size x n f) (hok : ∀ j, j < n → AcOk (f j).a) :
    Calls Try.prog 5 #[x] w fun e w' => FewP n f e ∧ Below w.heap.size w w' := by
  obtain ⟨A, c, rfl, hc, hm⟩ := hx.shape
  unfold maxLen at hm
  have HO := Lib.hid hok
  clear hok
  go_enter Try.func5, Try.ntmps5
  go_wp2_with fail
  go_loopw [3, 4] (fun s i wr => ∃ k t : Nat, k ≤ n ∧ k ≤ 200 ∧ t ≤ 5000 ∧ s = .int .i64 (t : Int) ∧ i = .int .i64 (k : Int) ∧ (∀ j, j < k → Small (f j).a) ∧ Below w.heap.size w wr) (fun _ i _ => n - (intOf i).toNat)
  case atStart => exact ⟨0, 0, by omega, by omega, by omega, rfl, rfl, fun j hj => by omega, Below.refl _ _⟩
  case round =>
    obtain ⟨k, t, hk, hk2, ht, rfl, rfl, hsm, hb⟩ := hrel
    have HS := Lib.hid hsm
    clear hsm
    by_cases hlt : k < n
    · by_cases h2 : k < 200
      · obtain ⟨b, off, rfl, hbb, -⟩ := hx.open_ (by omega)
        obtain ⟨-, c1, c2, c3, -, c5⟩ := (hx.up hb).cells hlt
        have hrow := (hx.up hb).row hlt
        obtain ⟨Ab, cb, eb, hcb, hmb⟩ := hrow.1.shapeM
        obtain ⟨Ak, ck, ek, hck, hmk⟩ := hrow.2.shapeM
        rw [eb] at c3
        rw [ek] at c5
        have hO := HO.out k hlt
        have hbl := hO.bl
        have hkl := hO.kl
        have HSS : Hid ((f k).a.b.length ≤ 5000 → (f k).a.ks.length ≤ 5000 → (f k).a.nm.size ≤ 100 → (f k).a.ot.size ≤ 100 → ∀ j, j < k + 1 → Small (f j).a) := Lib.hid fun p1 p2 p3 p4 j hj => by
          by_cases hjk : j = k
          · subst hjk; exact ⟨p1, p2, p3, p4⟩
          · exact HS.out j (by omega)
        clear hrow eb ek hO
        generalize (f k).a.b.length = lb at *
        generalize (f k).a.ks.length = lk at *
        generalize (f k).a.nm = nm at *
        generalize (f k).a.ot = ot at *
        by_cases h5 : (5000 : Int) < (t : Int) + (lb : Int) + (lk : Int)
        · go_wp2_with fail
          go_quiet (fail)
          go_wp2_with fail
          go_ret
          exact ⟨FewP.no _ _, below_drewN hb _⟩
        · have h5' : (t : Int) + (lb : Int) + (lk : Int) ≤ 5000 := by omega
          by_cases hnm : (100 : Int) < (nm.size : Int)
          · go_wp2_with fail
            go_quiet (fail)
            go_wp2_with fail
            go_ret
            exact ⟨FewP.no _ _, below_drewN hb _⟩
          · by_cases hot : (100 : Int) < (ot.size : Int)
            · go_wp2_with fail
              go_quiet (fail)
              go_wp2_with fail
              go_ret
              exact ⟨FewP.no _ _, below_drewN hb _⟩
            · go_wp2_with fail
              go_quiet (fail)
              go_wp2_with fail
              go_roundw
              case rel => exact ⟨k + 1, t + lb + lk, by omega, by omega, by omega, by go_num, by go_num, HSS.out (by omega) (by omega) (by omega) (by omega), below_drewN hb _⟩
              case measure => simp [intOf]; omega
      · have h100 : ¬ (n : Int) ≤ 100 := by omega
        go_wp2_with fail
        go_ret
        exact ⟨FewP.no _ _, hb⟩
    · obtain rfl : k = n := by omega
      by_cases h100 : (k : Int) ≤ 100
      · go_wp2_with fail
        go_ret
        exact ⟨FewP.yes (by omega) HS.out, hb⟩
      · go_wp2_with fail
        go_ret
        exact ⟨FewP.no _ _, hb⟩
end Go.Proofs.Ytblejjjifokmgaa
