/- The contract of Rows. -/
import Derived.Test.YtjhnbhgpnmfdgaaMatE
namespace Go.Proofs.Ytjhnbhgpnmfdgaa
open Go.RowKit
open Mx (rw rw_len rw_get rw_congr dl cod)

/-- an int as a cell -/
def iv (n : Int) : Value := .int .i64 n
def nvI (n : Nat) : Value := .int .i64 (n : Int)
theorem one_iv (l : List Int) : One (l.map iv) := one_map _ (fun _ => rfl) l
/-- rows that are picked behind k rounds -/
def prow (g : Nat → List UInt8) (l : List Nat) (k i : Nat) : List UInt8 := if i < k then g (l.getD i 0) else []
theorem prow_step (g : Nat → List UInt8) (l : List Nat) (k : Nat) : (fun i => if i = k then g (l.getD k 0) else prow g l k i) = prow g l (k + 1) := by
  funext i
  unfold prow
  by_cases e : i = k
  · rw [if_pos e, if_pos (by omega), e]
  · rw [if_neg e]
    by_cases h : i < k
    · rw [if_pos h, if_pos (by omega)]
    · rw [if_neg h, if_neg (by omega)]
/-- a new row is stored into the outer slice, whose block is known -/
theorem OwM.put2 {w0 wr w2 : World} {B b n m c k : Nat} {vs : Nat → Value} {g : Nat → List UInt8} {u : Value} {l : List UInt8} (ho : OwM wr B (.slice (some ⟨b, 0, none⟩) m c) vs n g) (hk : k < n)
    (ho2 : Ow w2 wr.heap.size 5 u (l.map bv)) (hb2 : Below wr.heap.size wr w2) (hB : B ≤ wr.heap.size) (hbb : Below B w0 wr) :
    w2.cell? ⟨b, k, none⟩ = some (vs k) ∧ w2.frozen? ⟨b, k, none⟩ = false ∧
      Hid ((∃ vs', OwM (w2.setCell ⟨b, k, none⟩ u) B (.slice (some ⟨b, 0, none⟩) m c) vs' n (fun i => if i = k then l else g i)) ∧ Below B w0 (w2.setCell ⟨b, k, none⟩ u)) := by
  obtain ⟨gb, hA, hgb, hgs, hgc, hgf, hput⟩ := ho.put_ hk hb2 ho2 hB
  have hA' : b = gb := by injection hA with hA; injection hA
  subst hA'
  exact ⟨hgc, hgf, ⟨_, hput⟩, (hbb.trans (hb2.mono hB)).setCell hgb _⟩
set_option maxHeartbeats 2000000 in
set_option maxRecDepth 100000 in
theorem rows_ok (v va : Value) (n : Nat) (g : Nat → List UInt8) (l : List Nat) (w : World) (hr : RdM w w.heap.size v n g) (ha : Rd w w.heap.size va (l.map nvI)) (hl : ∀ k (h : k < l.length), l[k] < n)
    (hn : l.length ≤ 1000000000) (hg : ∀ i, i < n → (g i).length ≤ 140737488355328) :
    Calls Try.prog 21 #[v, va] w fun e w' => (∃ x vs, e = .returned x ∧ OwM w' w.heap.size x vs l.length (fun i => g (l.getD i 0))) ∧ Below w.heap.size w w' := by
  obtain ⟨A, c, rfl, hc, hm⟩ := hr.shape
  obtain ⟨A', c', rfl, hc', hm'⟩ := ha.shapeM
  unfold maxLen at hm hm'
  go_enter Try.func21, Try.ntmps21
  go_wp2_with fail
  go_loop [6, 12] (fun _ i => ∃ k : Nat, k ≤ l.length ∧ i = .int .i64 k) (fun _ i => l.length - (intOf i).toNat)
  case atStart => exact ⟨0, by omega, rfl⟩
  case round =>
    obtain ⟨k, hk, rfl⟩ := hrel
    by_cases hlt : k < l.length
    · obtain ⟨b, off, rfl, hb, hcell⟩ := ha.cellM (by omega)
      have hck := hcell k hlt
      have hlk := hl k hlt
      unfold nvI at hck
      clear hcell
      generalize l[k] = p at *
      have t1 : ¬ (p : Int) < 0 := by omega
      have t2 : ¬ (n : Int) ≤ (p : Int) := by omega
      go_wp2_with fail
      go_round
      case rel => exact ⟨k + 1, by omega, by go_num⟩
      case measure => simp [intOf]; omega
    · obtain rfl : k = l.length := by omega
      clear hlt hk
      go_wp2_with (refine wpList_makeM rfl (.tmp 26) (.tmp 26) rfl l.length rfl rfl (by omega) ?_; intro w1 ho hb)
      go_loopw [8, 9, 30] (fun _ _ i wr => ∃ k : Nat, k ≤ l.length ∧ i = .int .i64 k ∧ (∃ vs, OwM wr w.heap.size (.slice (some ⟨w.heap.size, 0, none⟩) l.length l.length) vs l.length (prow g l k)) ∧ Below w.heap.size w wr) (fun _ _ i _ => l.length - (intOf i).toNat)
      case atStart => exact ⟨0, by omega, rfl, ⟨_, ho⟩, hb⟩
      case round =>
        clear ho hb
        obtain ⟨k, hk, rfl, ⟨vs, ho⟩, hb⟩ := hrel
        by_cases hlt : k < l.length
        · obtain ⟨ba, offa, rfl, hba, hcella⟩ := (ha.up hb).cellM (by omega)
          have hck := hcella k hlt
          have hlk := hl k hlt
          have hgd : l.getD k 0 = l[k] := by simp [List.getD, hlt]
          unfold nvI at hck
          clear hcella
          generalize l[k] = p at *
          obtain ⟨b, off, rfl, hbb⟩ := hr.open_ (by omega)
          obtain ⟨A1, c1, hcell1, h1c, h1m, hr1⟩ := (hr.up hb).row hlk
          have hl1 := hg p hlk
          go_wp2_with fail
          refine (clone_any _ (g p) _ hr1 hl1).mono ?_
          rintro e w2 ⟨⟨x, rfl, ho2⟩, hb2⟩
          obtain ⟨hgc, hgf, HP⟩ := ho.put2 hlt ho2 hb2 hb.size hb
          rw [← hgd, prow_step] at HP
          obtain ⟨A2, c2, rfl, h2c, h2m⟩ := ho2.rd.shapeM
          clear ho ho2 hb hb2 hr1 hgd
          go_wp2_with fail
          go_roundw
          case rel => exact ⟨k + 1, by omega, by go_num, HP.out.1, HP.out.2⟩
          case measure => simp [intOf]; omega
        · obtain rfl : k = l.length := by omega
          have ho2 := ho.congr (g' := fun i => g (l.getD i 0)) (fun i hi => by unfold prow; rw [if_pos hi])
          clear ho
          go_wp2_with fail
          go_ret
          exact ⟨⟨_, vs, rfl, ho2⟩, hb⟩
set_option maxHeartbeats 1000000 in
set_option maxRecDepth 100000 in
theorem rows_no (v va : Value) (n : Nat) (g : Nat → List UInt8) (l : List Int) (B : Nat) (w : World) (hr : RdM w B v n g) (ha : Rd w w.heap.size va (l.map iv)) (hbad : ∃ k, ∃ h : k < l.length, ¬ (0 ≤ l[k] ∧ l[k] < n)) :
    Calls Try.prog 21 #[v, va] w fun e w' => e = .returned (.slice none 0 0) ∧ w = w' := by
  obtain ⟨A, c, rfl, hc, hm⟩ := hr.shape
  obtain ⟨A', c', rfl, hc', hm'⟩ := ha.shapeM
  unfold maxLen at hm hm'
  have HB := Lib.hid hbad
  clear hbad
  go_enter Try.func21, Try.ntmps21
  go_wp2_with fail
  go_loop [6, 12] (fun _ i => ∃ k : Nat, k ≤ l.length ∧ i = .int .i64 k ∧ Hid (∀ j, j < k → ∀ h : j < l.length, 0 ≤ l[j] ∧ l[j] < n)) (fun _ i => l.length - (intOf i).toNat)
  case atStart => exact ⟨0, by omega, rfl, fun j hj => by omega⟩
  case round =>
    obtain ⟨k, hk, rfl, hall⟩ := hrel
    by_cases hlt : k < l.length
    · obtain ⟨b, off, rfl, hb, hcell⟩ := ha.cellM (by omega)
      have hck := hcell k hlt
      unfold iv at hck
      clear hcell
      have HE : Hid (∀ p, p = l[k] → 0 ≤ p ∧ p < n → ∀ j, j < k + 1 → ∀ h : j < l.length, 0 ≤ l[j] ∧ l[j] < n) := fun p hp h j hj h' => by
        by_cases e : j = k
        · subst e; rw [← hp]; exact h
        · exact hall.out j (by omega) h'
      obtain ⟨p, hp⟩ : ∃ p, p = l[k] := ⟨_, rfl⟩
      have HE := Lib.hid (HE.out p hp)
      rw [← hp] at hck
      clear hp
      by_cases t1 : p < 0
      · go_wp2_with fail
        go_ret
        exact ⟨rfl, rfl⟩
      · by_cases t2 : (n : Int) ≤ p
        · go_wp2_with fail
          go_ret
          exact ⟨rfl, rfl⟩
        · go_wp2_with fail
          go_round
          case rel => exact ⟨k + 1, by omega, by go_num, HE.out ⟨by omega, by omega⟩⟩
          case measure => simp [intOf]; omega
    · exfalso
      obtain ⟨j, hj, hno⟩ := HB.out
      exact hno (hall.out j (by omega) hj)
end Go.Proofs.Ytjhnbhgpnmfdgaa
