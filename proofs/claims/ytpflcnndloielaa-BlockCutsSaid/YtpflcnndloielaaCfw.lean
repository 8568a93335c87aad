/- The contracts of the reference's Few and Newest of layer 8. -/
import Derived.Test.YtpflcnndloielaaCnw
import Derived.IntWalk
namespace Go.Proofs.Ytpflcnndloielaa.Ce
open Go.RowKit

def FewEnd (L : List Cl) (w : World) (e : Ending) (w' : World) : Prop := (∃ q : Bool, e = .returned (.bool q) ∧ (q = true → L.length ≤ 80 ∧ ∀ c ∈ L, c.ok)) ∧ Below w.heap.size w w'
set_option maxHeartbeats 2000000 in
set_option maxRecDepth 100000 in
theorem efew_any (v : Value) (L : List Cl) (w : World) (hv : RdL w [] v L) : Calls Try.prog 9 #[v] w (FewEnd L w) := by
  obtain ⟨A, cp, rfl, hc, hm⟩ := hv.shape
  unfold maxLen at hm
  have HV := Lib.hid hv
  clear hv
  by_cases h80 : L.length ≤ 80
  · go_enter Try.func9, Try.ntmps9
    go_wp2_with fail
    go_loopw [3] (fun i wr => ∃ k : Nat, k ≤ L.length ∧ i = .int .i64 (k : Int) ∧ Hid (∀ j c, j < k → L[j]? = some c → c.ok) ∧ Below w.heap.size w wr) (fun i _ => L.length - (intOf i).toNat)
    case atStart => exact ⟨0, by omega, rfl, Lib.hid (fun j c hj => by omega), Below.refl _ _⟩
    case round =>
      obtain ⟨k, hk, rfl, HS, hbw⟩ := hrel
      have HBW := Lib.hid hbw
      by_cases hlt : k < L.length
      · obtain ⟨b, off, rfl, -, -⟩ := HV.out.open_ (by omega)
        have hh3 : (0 : Int) ≤ (k : Int) := by omega
        have hh4 : (k : Int) < (L.length : Int) := by omega
        have hfk : L[k]? = some (L[k]'hlt) := List.getElem?_eq_getElem _
        generalize L[k]'hlt = f at hfk
        obtain ⟨h5, hbl⟩ := (HV.out.bel hbw).at_ hfk
        have HFK := Lib.hid hfk
        obtain ⟨c0, c1, c2, c3, c4⟩ := h5
        clear hfk hbw
        have hrt := fun w => rright_any f w
        by_cases hok : f.ok
        · rw [decide_eq_true hok] at hrt
          go_wp2_with fail
          refine (hrt _).mono ?_
          rintro e w2 ⟨rfl, hb2⟩
          have HB2 := Lib.hid (bwstep HBW.out hb2)
          clear hb2
          go_wp2_with fail
          go_roundw
          case rel =>
            refine ⟨k + 1, by omega, by go_num, Lib.hid (fun j c hj hc => ?_), HB2.out⟩
            by_cases e : j = k
            · subst e
              rw [HFK.out] at hc
              injection hc with hc
              exact hc ▸ hok
            · exact HS.out j c (by omega) hc
          case measure => simp [intOf]; omega
        · rw [decide_eq_false hok] at hrt
          go_wp2_with fail
          refine (hrt _).mono ?_
          rintro e w2 ⟨rfl, hb2⟩
          have HB2 := Lib.hid (bwstep HBW.out hb2)
          clear hb2
          go_wp2_with fail
          go_ret
          exact ⟨⟨false, rfl, fun h => by cases h⟩, HB2.out⟩
      · go_wp2_with fail
        go_ret
        exact ⟨⟨true, rfl, fun _ => ⟨h80, fun c hc => by
          obtain ⟨j, hj⟩ := List.getElem?_of_mem hc
          exact HS.out j c (by have := (List.getElem?_eq_some_iff.1 hj).1; omega) hj⟩⟩, HBW.out⟩
  · go_enter Try.func9, Try.ntmps9
    go_wp2_with fail
    go_ret
    exact ⟨⟨false, rfl, fun h => by cases h⟩, Below.refl _ _⟩
def noC : Cl := ⟨⟨#[]⟩, ⟨#[]⟩, -1, ⟨#[]⟩, false⟩
def bst (row col : ByteArray) (at_ : Int) (L : List Cl) (k : Nat) : Cl := (newest row col at_ (L.take k)).getD noC
section
variable {row col : ByteArray} {at_ : Int} {L : List Cl} {k : Nat} {f : Cl}
theorem newest_snoc (hf : L[k]? = some f) : newest row col at_ (L.take (k + 1)) = (newest row col at_ (L.take k)).or (if fits row col at_ f then some f else none) := by
  obtain ⟨hl, rfl⟩ := List.getElem?_eq_some_iff.1 hf
  unfold newest
  rw [List.take_succ_eq_append_getElem hl, List.find?_append]
  congr 1
  rw [List.find?_singleton]
  by_cases h : fits row col at_ L[k]
  · simp [h]
  · simp [h]
theorem newest_mem {c : Cl} (h : newest row col at_ (L.take k) = some c) : fits row col at_ c ∧ ∃ j, j < k ∧ L[j]? = some c := by
  unfold newest at h
  have h1 := List.find?_some h
  have h2 := List.mem_of_find?_eq_some h
  obtain ⟨j, hj⟩ := List.getElem?_of_mem h2
  rw [List.getElem?_take] at hj
  split at hj
  · exact ⟨of_decide_eq_true h1, j, by assumption, hj⟩
  · cases hj
theorem bst_not (hf : L[k]? = some f) (h : ¬ fits row col at_ f) : bst row col at_ L (k + 1) = bst row col at_ L k := by
  unfold bst
  rw [newest_snoc hf, if_neg h, Option.or_none]
theorem bst_yes (hf : L[k]? = some f) (h : fits row col at_ f) (hs : Srt L) (hok : ∀ c ∈ L, c.ok) :
    (¬ (bst row col at_ L k).at_ < f.at_ ∧ bst row col at_ L (k + 1) = bst row col at_ L k) ∨ ((bst row col at_ L k).at_ < f.at_ ∧ bst row col at_ L (k + 1) = f) := by
  cases hq : newest row col at_ (L.take k) with
  | none =>
    refine .inr ⟨?_, ?_⟩
    · unfold bst
      rw [hq]
      have := (hok f (List.mem_of_getElem? hf)).a1
      show (-1 : Int) < f.at_
      omega
    · unfold bst
      rw [newest_snoc hf, if_pos h, hq]
      rfl
  | some c =>
    refine .inl ⟨?_, ?_⟩
    · obtain ⟨h1, j, hj, hc⟩ := newest_mem hq
      have hlt := srt_at hs hj hc hf
      unfold bst
      rw [hq]
      show ¬ c.at_ < f.at_
      rcases hlt with h2 | ⟨-, h2 | ⟨-, h2⟩⟩
      · rw [h1.1, h.1] at h2
        exact absurd h2 (List.lt_irrefl _)
      · rw [h1.2.1, h.2.1] at h2
        exact absurd h2 (List.lt_irrefl _)
      · omega
    · unfold bst
      rw [newest_snoc hf, hq]
      rfl
theorem bst_end (hok : ∀ c ∈ L, c.ok) : ((bst row col at_ L L.length).at_ < 0 ∧ nwC row col at_ L = Cl.zero ∧ nwB row col at_ L = false) ∨ (¬ (bst row col at_ L L.length).at_ < 0 ∧ nwC row col at_ L = bst row col at_ L L.length ∧ nwB row col at_ L = true) := by
  unfold bst nwC nwB
  rw [List.take_length]
  cases hq : newest row col at_ L with
  | none => exact .inl ⟨by show (-1 : Int) < 0; omega, rfl, rfl⟩
  | some c =>
    refine .inr ⟨?_, rfl, rfl⟩
    have hm : c ∈ L := by unfold newest at hq; exact List.mem_of_find?_eq_some hq
    have := (hok c hm).a1
    show ¬ c.at_ < 0
    omega
end
/-- the variables of Newest: the result, the best so far -/
structure NwS (w : World) (g k : Nat) (b : Cl) (w' : World) : Prop where
  ig : InC g Cl.zero w'
  ik : InC k b w'
  ne : k ≠ g
  ge : w.heap.size ≤ g ∧ w.heap.size ≤ k
  bel : Below w.heap.size w w'
theorem NwS.up {w : World} {g k : Nat} {b : Cl} {x y : World} (h : NwS w g k b x) (hb : Below x.heap.size x y) : NwS w g k b y := ⟨h.ig.up hb, h.ik.up hb, h.ne, h.ge, bwstep h.bel hb⟩
theorem NwS.set {w : World} {g k : Nat} {b c : Cl} {x y : World} (h : NwS w g k b x) (hs : SetC k c x y) : NwS w g k c y := ⟨hs.up h.ig h.ne.symm, hs.i, h.ne, h.ge, hs.bel h.bel h.ge.2⟩
end Go.Proofs.Ytpflcnndloielaa.Ce
