/- Layer 9's statements: a table filled with cells; are cells few? -/
import Derived.Test.YtffkbepcdidnjaaMr
namespace Go.Proofs.Ytffkbepcdidnjaa.Ce
open Go.RowKit

/-- those of the cells that are right, put in -/
def fill (L : List Cl) : List Cl := L.foldl (fun s c => if c.ok then put1 c s else s) []
theorem fill_snoc {L : List Cl} {k : Nat} {c : Cl} (h : L[k]? = some c) : fill (L.take (k + 1)) = if c.ok then put1 c (fill (L.take k)) else fill (L.take k) := by
  obtain ⟨hl, rfl⟩ := List.getElem?_eq_some_iff.1 h
  unfold fill
  rw [List.take_succ_eq_append_getElem hl, List.foldl_append]
  rfl
structure Fill (k : Nat) (L : List Cl) : Prop where
  srt : Srt L
  ok : ∀ x ∈ L, x.ok
  len : L.length ≤ k
theorem fill_ind (L : List Cl) : ∀ k, Fill k (fill (L.take k))
  | 0 => ⟨by simp [fill, Srt], by simp [fill], by simp [fill]⟩
  | k + 1 => by
    obtain ⟨h1, h2, h3⟩ := fill_ind L k
    cases hk : L[k]? with
    | none =>
      have : L.length ≤ k := by simpa using hk
      rw [List.take_of_length_le (by omega)] at h1 h2 h3
      rw [List.take_of_length_le (by omega)]
      exact ⟨h1, h2, by omega⟩
    | some c =>
      rw [fill_snoc hk]
      split
      · have := len_put1 c (fill (L.take k))
        rename_i hc
        exact ⟨srt_put1 h1, ok_put1 hc h2, by omega⟩
      · exact ⟨h1, h2, by omega⟩
theorem fill_all (L : List Cl) : Fill L.length (fill L) := by
  have := fill_ind L L.length
  rwa [List.take_length] at this
theorem fill_from : ∀ (L s : List Cl), (∀ c ∈ L, c.ok) → L.foldl (fun s c => if c.ok then put1 c s else s) s = L.foldl (fun s c => put1 c s) s
  | [], _, _ => rfl
  | c :: L, s, h => by
    rw [List.foldl_cons, List.foldl_cons, if_pos (h c (by simp)), fill_from L _ fun x hx => h x (by simp [hx])]
theorem fill_sort {L : List Cl} (h : ∀ c ∈ L, c.ok) : fill L = sortC L := fill_from L [] h
/-- in the course of filling -/
def FillS (w : World) (b : Nat) (L : List Cl) (wr : World) : Prop := ∃ v, MemV wr b v L ∧ ∀ x ∈ blks b v, w.heap.size ≤ x
theorem FillS.up {w x y : World} {b : Nat} {L : List Cl} (h : FillS w b L x) (hb : Below x.heap.size x y) : FillS w b L y := by
  obtain ⟨v, h1, h2⟩ := h
  exact ⟨v, h1.up hb, h2⟩
theorem Kp.belowB {w x y : World} {S : List Nat} (hk : Kp S x y) (hS : ∀ k ∈ S, w.heap.size ≤ k) (hb : Below w.heap.size w x) : Below w.heap.size w y := hb.trans (hk.below hS hb.size)
theorem FillS.put {w x y : World} {b : Nat} {v : Value} {L : List Cl} (hv : ∃ v', MemV y b v' L ∧ Kp (blks b v) x y ∧ ∀ k ∈ blks b v', k ∈ blks b v ∨ x.heap.size ≤ k) (h2 : ∀ k ∈ blks b v, w.heap.size ≤ k) (hb : Below w.heap.size w x) : FillS w b L y ∧ Below w.heap.size w y := by
  obtain ⟨v', m, kp, al⟩ := hv
  refine ⟨⟨v', m, fun k hk => ?_⟩, Kp.belowB kp h2 hb⟩
  rcases al k hk with q | q
  · exact h2 k q
  · exact Nat.le_trans hb.size q
set_option maxHeartbeats 4000000 in
set_option maxRecDepth 100000 in
theorem filled_any (v : Value) (L : List Cl) (w : World) (hv : RdL w [] v L) (hl : L.length < 2199023255552) :
    Calls Try.prog 19 #[v] w fun e w' => (∃ b, e = .returned (.pointer (some ⟨b, 0, none⟩)) ∧ FillS w b (fill L) w') ∧ Below w.heap.size w w' := by
  obtain ⟨A, cp, rfl, hc, hm⟩ := hv.shape
  unfold maxLen at hm
  have HV := Lib.hid hv
  clear hv
  go_enter Try.func19, Try.ntmps19
  go_wp2_with fail
  refine (mnew_any _).mono ?_
  rintro e w1 ⟨⟨b, rfl, hge, hmv⟩, hb1⟩
  have HM1 : Hid (FillS w b [] w1) := Lib.hid ⟨_, hmv, fun k hk => by
    rcases mem_blks.1 hk with rfl | e
    · exact hge
    · simp [Value.ownBlock] at e⟩
  have HB1 := Lib.hid hb1
  clear hge hmv hb1
  go_wp2_with fail
  go_loopw [4] (fun i wr => ∃ k : Nat, k ≤ L.length ∧ i = .int .i64 (k : Int) ∧ Hid (FillS w b (fill (L.take k)) wr) ∧ Below w.heap.size w wr) (fun i _ => L.length - (intOf i).toNat)
  case atStart => exact ⟨0, by omega, rfl, by rw [List.take_zero]; exact HM1, HB1.out⟩
  case round =>
    obtain ⟨k, hk, rfl, HS, hbw⟩ := hrel
    have HBW := Lib.hid hbw
    by_cases hlt : k < L.length
    · obtain ⟨b', off, rfl, -, -⟩ := HV.out.open_ (by omega)
      have hh3 : (0 : Int) ≤ (k : Int) := by omega
      have hh4 : (k : Int) < (L.length : Int) := by omega
      have hfk : L[k]? = some (L[k]'hlt) := List.getElem?_eq_getElem _
      generalize L[k]'hlt = f at hfk
      obtain ⟨h5, hbl⟩ := (HV.out.bel hbw).at_ hfk
      have HFN := Lib.hid (fill_snoc hfk)
      obtain ⟨v1, hv1, hs1⟩ := HS.out
      have hF := fill_ind L k
      have HP := Lib.hid (mput_any b v1 _ f wr hv1 hF.srt hF.ok (by have := hF.len; omega))
      have HS1 := Lib.hid hs1
      obtain ⟨c0, c1, c2, c3, c4⟩ := h5
      clear hfk hbw hF hv1 hs1
      generalize decide f.ok = q at *
      go_wp2_with fail
      refine HP.out.mono ?_
      rintro e w2 ⟨rfl, h2⟩
      obtain ⟨hs2, hb2⟩ := FillS.put h2 HS1.out HBW.out
      rw [← HFN.out] at hs2
      have HS2 := Lib.hid hs2
      have HB2 := Lib.hid hb2
      clear h2 hs2 hb2 HP
      go_wp2_with fail
      go_roundw
      case rel => exact ⟨k + 1, by omega, by go_num, HS2, HB2.out⟩
      case measure => simp [intOf]; omega
    · obtain rfl : k = L.length := by omega
      rw [List.take_length] at HS
      go_wp2_with fail
      go_ret
      exact ⟨⟨b, rfl, HS.out⟩, HBW.out⟩
end Go.Proofs.Ytffkbepcdidnjaa.Ce
