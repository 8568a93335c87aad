/- The contracts of the reference's Few and Newest of layer 8. -/
import Derived.Test.YtffkbepcdidnjaaCnw
import Derived.IntWalk
namespace Go.Proofs.Ytffkbepcdidnjaa.Ce
open Go.RowKit

def FewEnd (L : List Cl) (w : World) (e : Ending) (w' : World) : Prop := (∃ q : Bool, e = .returned (.bool q) ∧ (q = true → L.length ≤ 80 ∧ ∀ c ∈ L, c.ok)) ∧ Below w.heap.size w w'
set_option maxHeartbeats 2000000 in
set_option maxRecDepth 100000 in
theorem efew_any (v : Value) (L : List Cl) (w : World) (hv : RdL w [] v L) : Calls Try.prog 18 #[v] w (FewEnd L w) := by
  obtain ⟨A, cp, rfl, hc, hm⟩ := hv.shape
  unfold maxLen at hm
  have HV := Lib.hid hv
  clear hv
  by_cases h80 : L.length ≤ 80
  · go_enter Try.func18, Try.ntmps18
    go_wp2_with fail
    go_loopw [3] (fun i wr => ∃ k : Nat, k ≤ L.length ∧ i = .int .i64 (k : Int) ∧ Hid (∀ j c, j < k → L[j]? = some c → c.ok) ∧ Below w.heap.size w wr) (fun i _ => L.length - (intOf i).toNat)
    case atStart => exact ⟨0, by omega, rfl, Lib.hid (fun j c hj => by omega), Below.refl _ _⟩
    case round =>
      obtain ⟨k, hk, rfl, HS, hbw⟩ := hrel
      have HBW := Lib.hid hbw
      by_cases hlt : k < L.length
      · obtain ⟨b, off, rfl, -, -⟩ := HV.out.open_ (by omega)
        have hh3 : (0 : Int) ≤ (k : Int) := by omega
        have hh4 : (k : Int) < (L.length : Int) := by omega
        have hfk : L[k]? = some (L[k]'hlt) := List.getElem?_eq_getElem _
        generalize L[k]'hlt = f at hfk
        obtain ⟨h5, hbl⟩ := (HV.out.bel hbw).at_ hfk
        have HFK := Lib.hid hfk
        obtain ⟨c0, c1, c2, c3, c4⟩ := h5
        clear hfk hbw
        have hrt := fun w => rright_any f w
        by_cases hok : f.ok
        · rw [decide_eq_true hok] at hrt
          go_wp2_with fail
          refine (hrt _).mono ?_
          rintro e w2 ⟨rfl, hb2⟩
          have HB2 := Lib.hid (bwstep HBW.out hb2)
          clear hb2
          go_wp2_with fail
          go_roundw
          case rel =>
            refine ⟨k + 1, by omega, by go_num, Lib.hid (fun j c hj hc => ?_), HB2.out⟩
            by_cases e : j = k
            · subst e
              rw [HFK.out] at hc
              injection hc with hc
              exact hc ▸ hok
            · exact HS.out j c (by omega) hc
          case measure => simp [intOf]; omega
        · rw [decide_eq_false hok] at hrt
          go_wp2_with fail
          refine (hrt _).mono ?_
          rintro e w2 ⟨rfl, hb2⟩
          have HB2 := Lib.hid (bwstep HBW.out hb2)
          clear hb2
          go_wp2_with fail
          go_ret
          exact ⟨⟨false, rfl, fun h => by cases h⟩, HB2.out⟩
      · go_wp2_with fail
        go_ret
        exact ⟨⟨true, rfl, fun _ => ⟨h80, fun c hc => by
          obtain ⟨j, hj⟩ := List.getElem?_of_mem hc
          exact HS.out j c (by have := (List.getElem?_eq_some_iff.1 hj).1; omega) hj⟩⟩, HBW.out⟩
  · go_enter Try.func18, Try.ntmps18
    go_wp2_with fail
    go_ret
    exact ⟨⟨false, rfl, fun h => by cases h⟩, Below.refl _ _⟩
def noC : Cl := ⟨⟨#[]⟩, ⟨#[]⟩, -1, ⟨#[]⟩, false⟩
def bst (row col : ByteArray) (at_ : Int) (L : List Cl) (k : Nat) : Cl := (newest row col at_ (L.take k)).getD noC
section
variable {row col : ByteArray} {at_ : Int} {L : List Cl} {k : Nat} {f : Cl}
theorem newest_snoc (hf : L[k]? = some f) : newest row col at_ (L.take (k + 1)) = (newest row col at_ (L.take k)).or (if fits row col at_ f then some f else none) := by
  obtain ⟨hl, rfl⟩ := List.getElem?_eq_some_iff.1 hf
  unfold newest
  rw [List.take_succ_eq_append_getElem hl, List.find?_append]
  congr 1
  rw [List.find?_singleton]
  by_cases h : fits row col at_ L[k]
  · simp [h]
  · simp [h]
theorem newest_mem {c : Cl} (h : newest row col at_ (L.take k) = some c) : fits row col at_ c ∧ ∃ j, j < k ∧ L[j]? = some c := by
  unfold newest at h
  have h1 := List.find?_some h
  have h2 := List.mem_of_find?_eq_some h
  obtain ⟨j, hj⟩ := List.getElem?_of_mem h2
  rw [List.getElem?_take] at hj
  split at hj
  · exact ⟨of_decide_eq_true h1, j, by assumption, hj⟩
  · cases hj
theorem bst_not (hf : L[k]? = some f) (h : ¬ fits row col at_ f) : bst row col at_ L (k + 1) = bst row col at_ L k := by
  unfold bst
  rw [newest_snoc hf, if_neg h, Option.or_none]
theorem bst_yes (hf : L[k]? = some f) (h : fits row col at_ f) (hs : Srt L) (hok : ∀ c ∈ L, c.ok) :
    (¬ (bst row col at_ L k).at_ < f.at_ ∧ bst row col at_ L (k + 1) = bst row col at_ L k) ∨ ((bst row col at_ L k).at_ < f.at_ ∧ bst row col at_ L (k + 1) = f) := by
  cases hq : newest row col at_ (L.take k) with
  | none =>
    refine .inr ⟨?_, ?_⟩
    · unfold bst
      rw [hq]
      have := (hok f (List.mem_of_getElem? hf)).a1
      show (-1 : Int) < f.at_
      omega
    · unfold bst
      rw [newest_snoc hf, if_pos h, hq]
      rfl
  | some c =>
    refine .inl ⟨?_, ?_⟩
    · obtain ⟨h1, j, hj, hc⟩ := newest_mem hq
      have hlt := srt_at hs hj hc hf
      unfold bst
      rw [hq]
      show ¬ c.at_ < f.at_
      rcases hlt with h2 | ⟨-, h2 | ⟨-, h2⟩⟩
      · rw [h1.1, h.1] at h2
        exact absurd h2 (List.lt_irrefl _)
      · rw [h1.2.1, h.2.1] at h2
        exact absurd h2 (List.lt_irrefl _)
      · omega
    · unfold bst
      rw [newest_snoc hf, hq]
      rfl
theorem bst_end (hok : ∀ c ∈ L, c.ok) : ((bst row col at_ L L.length).at_ < 0 ∧ nwC row col at_ L = Cl.zero ∧ nwB row col at_ L = false) ∨ (¬ (bst row col at_ L L.length).at_ < 0 ∧ nwC row col at_ L = bst row col at_ L L.length ∧ nwB row col at_ L = true) := by
  unfold bst nwC nwB
  rw [List.take_length]
  cases hq : newest row col at_ L with
  | none => exact .inl ⟨by show (-1 : Int) < 0; omega, rfl, rfl⟩
  | some c =>
    refine .inr ⟨?_, rfl, rfl⟩
    have hm : c ∈ L := by unfold newest at hq; exact List.mem_of_find?_eq_some hq
    have := (hok c hm).a1
    show ¬ c.at_ < 0
    omega
end
/-- the variables of Newest: the result, the best so far -/
structure NwS (w : World) (g k : Nat) (b : Cl) (w' : World) : Prop where
  ig : InC g Cl.zero w'
  ik : InC k b w'
  ne : k ≠ g
  ge : w.heap.size ≤ g ∧ w.heap.size ≤ k
  bel : Below w.heap.size w w'
theorem NwS.up {w : World} {g k : Nat} {b : Cl} {x y : World} (h : NwS w g k b x) (hb : Below x.heap.size x y) : NwS w g k b y := ⟨h.ig.up hb, h.ik.up hb, h.ne, h.ge, bwstep h.bel hb⟩
theorem NwS.set {w : World} {g k : Nat} {b c : Cl} {x y : World} (h : NwS w g k b x) (hs : SetC k c x y) : NwS w g k c y := ⟨hs.up h.ig h.ne.symm, hs.i, h.ne, h.ge, hs.bel h.bel h.ge.2⟩
set_option maxHeartbeats 4000000 in
set_option maxRecDepth 100000 in
theorem rnewest_any (v : Value) (L : List Cl) (row col : ByteArray) (at_ : Int) (w : World) (hv : RdL w [] v L) (hs : Srt L) (hL : L.length ≤ 1000000000) (hok : ∀ c ∈ L, c.ok) :
    Calls Try.prog 22 #[v, .string row, .string col, .int .i64 at_] w fun e w' => e = .returned (.tuple #[(nwC row col at_ L).v, .bool (nwB row col at_ L)]) ∧ Below w.heap.size w w' := by
  obtain ⟨A, cp, rfl, hc, hm⟩ := hv.shape
  unfold maxLen at hm
  have HV := Lib.hid hv
  have HOK := Lib.hid hok
  clear hv hok
  go_enter Try.func22, Try.ntmps22
  go_wp2_with (refine allocC rfl rfl ?_)
  constructor
  intro w1 hI1 hb1 hz1
  go_wp2_with (refine allocC rfl rfl ?_)
  constructor
  intro w2 hI2 hb2 hz2
  have hI1 := hI1.bel hb2 (by omega)
  have hlt1 := hI1.lt
  go_wp2_with (refine storeC (c := noC) rfl (.tmp 10) (.tmp 12) rfl rfl rfl hI2 ?_)
  constructor
  intro w3 hs3
  have HN3 : Hid (NwS w w.heap.size (w.heap.size + 1) noC w3) := Lib.hid (by
    exact ⟨hs3.up hI1 (by omega), hs3.i, by omega, ⟨by omega, by omega⟩, hs3.bel (hb1.trans (hb2.mono (by omega))) (by omega)⟩)
  clear hI1 hb1 hI2 hb2 hs3 hz2 hlt1
  go_wp2_with fail
  clear hz1
  go_loopw [11] (fun i wr => ∃ k : Nat, k ≤ L.length ∧ i = .int .i64 (k : Int) ∧ Hid (NwS w w.heap.size (w.heap.size + 1) (bst row col at_ L k) wr)) (fun i _ => L.length - (intOf i).toNat)
  case atStart => exact ⟨0, by omega, rfl, HN3⟩
  case round =>
    obtain ⟨k, hk, rfl, HN⟩ := hrel
    by_cases hlt : k < L.length
    · obtain ⟨b, off, rfl, -, -⟩ := HV.out.open_ (by omega)
      have hh3 : (0 : Int) ≤ (k : Int) := by omega
      have hh4 : (k : Int) < (L.length : Int) := by omega
      have hfk : L[k]? = some (L[k]'hlt) := List.getElem?_eq_getElem _
      generalize L[k]'hlt = f at hfk
      have hv9 := HV.out.bel HN.out.bel
      obtain ⟨h5, hbl⟩ := hv9.at_ hfk
      have HFK := Lib.hid hfk
      obtain ⟨c0, c1, c2, c3, c4⟩ := h5
      obtain ⟨p0, p1, p2, p3, p4⟩ := HN.out.ik.five
      clear hfk hv9
      by_cases hr : f.row = row
      · have e0 := str_eq hr
        by_cases hcl : f.col = col
        · have e1 := str_eq hcl
          by_cases hat : f.at_ ≤ at_
          · have hd1 := decide_eq_true hat
            rcases bst_yes (row := row) (col := col) (at_ := at_) HFK.out ⟨hr, hcl, hat⟩ hs HOK.out with ⟨hg, he⟩ | ⟨hg, he⟩
            · have hd2 := decide_eq_false hg
              have HE := Lib.hid he
              clear hr hcl he
              go_wp2_with fail
              go_quiet (fail)
              go_wp2_with fail
              go_roundw
              case rel => exact ⟨k + 1, by omega, by go_num, Lib.hid (by rw [HE.out]; exact HN.out.up (bwN _))⟩
              case measure => simp [intOf]; omega
            · have hd2 := decide_eq_true hg
              have HE := Lib.hid he
              clear hr hcl he
              go_wp2_with fail
              go_quiet (fail)
              have HN2 := Lib.hid (HN.out.up (bwN nq))
              have hv9 := HV.out.bel HN2.out.bel
              obtain ⟨⟨c0, c1, c2, c3, c4⟩, hbl⟩ := hv9.at_ HFK.out
              generalize wr.drewN nq = wq at *
              clear hv9 hbl
              go_wp2_with (refine storeC (c := f) rfl (.tmp 10) (.tmp 57) rfl rfl rfl HN2.out.ik ?_)
              constructor
              intro w9 hs9
              have HN9 := Lib.hid (HN2.out.set hs9)
              clear hs9
              go_wp2_with fail
              go_roundw
              case rel => exact ⟨k + 1, by omega, by go_num, Lib.hid (by rw [HE.out]; exact HN9.out)⟩
              case measure => simp [intOf]; omega
          · have hd1 := decide_eq_false hat
            have HE := Lib.hid (bst_not (row := row) (col := col) (at_ := at_) HFK.out (fun h => hat h.2.2))
            clear hr hcl
            go_wp2_with fail
            go_quiet (fail)
            go_wp2_with fail
            go_roundw
            case rel => exact ⟨k + 1, by omega, by go_num, Lib.hid (by rw [HE.out]; exact HN.out.up (bwN _))⟩
            case measure => simp [intOf]; omega
        · have e1 := str_ne hcl
          have HE := Lib.hid (bst_not (row := row) (col := col) (at_ := at_) HFK.out (fun h => hcl h.2.1))
          clear hr hcl
          go_wp2_with fail
          go_quiet (fail)
          go_wp2_with fail
          go_roundw
          case rel => exact ⟨k + 1, by omega, by go_num, Lib.hid (by rw [HE.out]; exact HN.out.up (bwN _))⟩
          case measure => simp [intOf]; omega
      · have e0 := str_ne hr
        have HE := Lib.hid (bst_not (row := row) (col := col) (at_ := at_) HFK.out (fun h => hr h.1))
        clear hr
        go_wp2_with fail
        go_quiet (fail)
        go_wp2_with fail
        go_roundw
        case rel => exact ⟨k + 1, by omega, by go_num, Lib.hid (by rw [HE.out]; exact HN.out.up (bwN _))⟩
        case measure => simp [intOf]; omega
    · obtain rfl : k = L.length := by omega
      obtain ⟨p0, p1, p2, p3, p4⟩ := HN.out.ik.five
      rcases bst_end (row := row) (col := col) (at_ := at_) HOK.out with ⟨h1, h2, h3⟩ | ⟨h1, h2, h3⟩
      · have HE := Lib.hid (And.intro h2 h3)
        clear h2 h3
        go_wp2_with (refine storeC (c := Cl.zero) rfl (.tmp 8) (.tmp 61) rfl rfl rfl HN.out.ig ?_)
        constructor
        intro w9 hs9
        have HS := Lib.hid hs9
        clear hs9
        go_wp2_with fail
        exact bodyPost_ret (res2 Try.results22 rfl HS.out.i) rfl ⟨by rw [HE.out.1, HE.out.2]; rfl, HS.out.bel HN.out.bel (Nat.le_refl _)⟩
      · have HE := Lib.hid (And.intro h2 h3)
        clear h2 h3
        go_wp2_with (refine storeC (c := bst row col at_ L L.length) rfl (.tmp 8) (.tmp 62) rfl rfl rfl HN.out.ig ?_)
        constructor
        intro w9 hs9
        have HS := Lib.hid hs9
        clear hs9
        go_wp2_with fail
        exact bodyPost_ret (res2 Try.results22 rfl HS.out.i) rfl ⟨by rw [HE.out.1, HE.out.2]; rfl, HS.out.bel HN.out.bel (Nat.le_refl _)⟩
end Go.Proofs.Ytffkbepcdidnjaa.Ce
