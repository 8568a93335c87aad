/- The statements of layer 5: the walk of CodeMixed. -/
import Derived.Test.YtfnenehiapibiaaCodT
import Derived.Deep.CutRange
import Derived.Deep.CutBlock
namespace Go.Proofs.Ytfnenehiapibiaa
open Go.RowKit
open Mx (rw rw_len rw_get rw_congr dl cod mm fm sm)

theorem arr_ne {w : World} {g t B e : Nat} {cs : Array Value} {fz : Nat × Nat} {v : Value} {xs : List Value} (h : w.heap[g]? = some (.cells cs t fz)) (ho : Ow w B e v xs) (hne : t ≠ e) : v.ownBlock ≠ some g := by
  intro hk
  rcases ho.2 with ⟨rfl, _⟩ | ⟨q, cap, cur, rfl, _, hq, _⟩
  · simp [Value.ownBlock] at hk
  · have : q = g := by simpa [Value.ownBlock] using hk
    subst this
    rw [h] at hq
    simp at hq
    exact hne hq.2.1
theorem zero4 : (Try.prog.info? 50).map (·.zero) = some (some (.agg #[.slice none 0 0, .slice none 0 0, .slice none 0 0, .slice none 0 0])) := by kernel_rfl
theorem zero44 : (Try.prog.info? 52).map (·.zero) = some (some (.agg #[.slice none 0 0, .slice none 0 0, .slice none 0 0, .slice none 0 0])) := by kernel_rfl
/-- an array of four slices of bytes of the call's own -/
structure Arr4 (w1 : World) (g : Nat) (xs : Nat → List UInt8) (a : Nat → Value) (wr : World) : Prop where
  ow : ∀ i, i < 4 → Ow wr w1.heap.size 5 (a i) ((xs i).map bv)
  ap : ∀ i j, i < 4 → j < 4 → i ≠ j → Apart (a i) (a j)
  arr : wr.heap[g]? = some (.cells #[a 0, a 1, a 2, a 3] 50 (0, 0))
  hg : w1.heap.size ≤ g
  bel : Below w1.heap.size w1 wr
section
variable {w1 wr w' : World} {g : Nat} {xs xs' : Nat → List UInt8} {a : Nat → Value}
theorem Arr4.lt (h : Arr4 w1 g xs a wr) : g < wr.heap.size := (Array.getElem?_eq_some_iff.1 h.arr).1
theorem Arr4.up (h : Arr4 w1 g xs a wr) (hb : Below wr.heap.size wr w') : Arr4 w1 g xs a w' := ⟨fun i hi => (h.ow i hi).below hb, h.ap, (hb.block g h.lt).trans h.arr, h.hg, bwstep h.bel hb⟩
theorem Arr4.congr (h : Arr4 w1 g xs a wr) (e : ∀ i, i < 4 → xs i = xs' i) : Arr4 w1 g xs' a wr := ⟨fun i hi => by rw [← e i hi]; exact h.ow i hi, h.ap, h.arr, h.hg, h.bel⟩
theorem Arr4.drew (h : Arr4 w1 g xs a wr) : Arr4 w1 g xs a wr.drew := h.up ((Below.refl _ _).drew)
theorem Arr4.alloc (h : Arr4 w1 g xs a wr) (o : Obj) : Arr4 w1 g xs a (wr.alloc o) := h.up (bwalloc (Below.refl _ _) o)
theorem four_get (a : Nat → Value) (i : Nat) (hi : i < 4) : (#[a 0, a 1, a 2, a 3] : Array Value)[i]? = some (a i) := by
  match i, hi with
  | 0, _ => rfl
  | 1, _ => rfl
  | 2, _ => rfl
  | 3, _ => rfl
theorem four_set (a : Nat → Value) (i : Nat) (hi : i < 4) (v : Value) : (#[a 0, a 1, a 2, a 3] : Array Value).setIfInBounds i v = #[if 0 = i then v else a 0, if 1 = i then v else a 1, if 2 = i then v else a 2, if 3 = i then v else a 3] := by
  match i, hi with
  | 0, _ => rfl
  | 1, _ => rfl
  | 2, _ => rfl
  | 3, _ => rfl
theorem cell_four {t : Nat} (h : wr.heap[g]? = some (.cells #[a 0, a 1, a 2, a 3] t (0, 0))) (i : Nat) (hi : i < 4) : wr.cell? ⟨g, i, none⟩ = some (a i) ∧ wr.frozen? ⟨g, i, none⟩ = false := by
  refine ⟨?_, by simp [World.frozen?, h]⟩
  rw [cell_of_row wr g i _ _ _ h]
  exact four_get a i hi
theorem set_four {t : Nat} (h : wr.heap[g]? = some (.cells #[a 0, a 1, a 2, a 3] t (0, 0))) (i : Nat) (hi : i < 4) (v : Value) :
    (wr.setCell ⟨g, i, none⟩ v).heap[g]? = some (.cells #[if 0 = i then v else a 0, if 1 = i then v else a 1, if 2 = i then v else a 2, if 3 = i then v else a 3] t (0, 0)) := by
  rw [← four_set a i hi v]
  simp only [World.setCell, Array.getElem?_modify, h]
  simp
/-- an append to one of them, and the store -/
theorem Arr4.step {i : Nat} {m : List UInt8} {v' : Value} (h : Arr4 w1 g xs a wr) (hi : i < 4) (ho : Ow w' w1.heap.size 5 v' ((xs i ++ m).map bv)) (hgr : wr.grownBy w' (a i).ownBlock)
    (h3 : v'.ownBlock = (a i).ownBlock ∨ v'.ownBlock = some wr.heap.size) :
    w'.cell? ⟨g, i, none⟩ = some (a i) ∧ w'.frozen? ⟨g, i, none⟩ = false ∧ Hid (∃ (ys : Nat → List UInt8) (b : Nat → Value), Arr4 w1 g ys b (w'.setCell ⟨g, i, none⟩ v') ∧ ys i = xs i ++ m ∧ ∀ j, j ≠ i → ys j = xs j) := by
  have hne : ∀ j, j < 4 → (a j).ownBlock ≠ some g := fun j hj => arr_ne h.arr (h.ow j hj) (by decide)
  have harr : w'.heap[g]? = some (.cells #[a 0, a 1, a 2, a 3] 50 (0, 0)) := (hgr.block g h.lt (fun e => hne i hi e.symm)).trans h.arr
  obtain ⟨hc, hf⟩ := cell_four harr i hi
  have gk := grownBy_setCell w' g i v'
  have hv : v'.ownBlock ≠ some g := arr_ne harr ho (by decide)
  refine ⟨hc, hf, fun j => if j = i then xs i ++ m else xs j, fun j => if j = i then v' else a j, ⟨fun j hj => ?_, fun p q hp hq hpq => ?_, ?_, h.hg, ?_⟩, if_pos rfl, fun j hj => if_neg hj⟩
  · by_cases e : j = i
    · simp only [if_pos e]
      exact ho.kept gk fun k hk e' => hv (by rw [hk]; exact e'.symm)
    · simp only [if_neg e]
      exact ((h.ow j hj).kept hgr fun k hk e' => h.ap j i hj hi e k hk e').kept gk fun k hk e' => hne j hj (by rw [hk]; exact e'.symm)
  · by_cases e1 : p = i
    · have e2 : q ≠ i := fun e => hpq (e1.trans e.symm)
      simp only [if_pos e1, if_neg e2]
      exact ((h.ap q i hq hi e2).app (h.ow q hq) h3).symm
    · by_cases e2 : q = i
      · simp only [if_neg e1, if_pos e2]
        exact (h.ap p i hp hi e1).app (h.ow p hp) h3
      · simp only [if_neg e1, if_neg e2]
        exact h.ap p q hp hq hpq
  · exact set_four harr i hi v'
  · exact (h.bel.grown hgr h.bel.size (h.ow i hi).ge).setCell (p := ⟨g, i, none⟩) h.hg v'
end
theorem Ow.shp {w : World} {B e : Nat} {v : Value} {xs : List Value} (h : Ow w B e v xs) : ∃ A n c, v = .slice A n c := by
  obtain ⟨A, c, rfl, -, -⟩ := h.rd.shape
  exact ⟨_, _, _, rfl⟩
theorem xor_u8' (a b : UInt8) : bits .xor .u8 (a.toNat : Int) (b.toNat : Int) = ((a ^^^ b).toNat : Int) := by
  rw [xor_n8 a.toNat b.toNat a.toNat_lt b.toNat_lt, UInt8.toNat_xor]
theorem three (a b c : UInt8) : (#[Value.int .u8 (bits .xor .u8 (bits .xor .u8 (a.toNat : Int) (b.toNat : Int)) (c.toNat : Int))]).toList = [a ^^^ b ^^^ c].map bv := by
  rw [xor_u8', xor_u8']; rfl
/-- an array of four matrices of the call's own, the first i of them made -/
structure Arr4M (wB : World) (k n : Nat) (st : Nat → ByteArray) (b : Nat → Value) (i : Nat) (wr : World) : Prop where
  arr : wr.heap[wB.heap.size]? = some (.cells #[b 0, b 1, b 2, b 3] 52 (0, 0))
  own : ∀ j, j < i → ∃ vs, OwM wr (wB.heap.size + 1) (b j) vs n (shR k (st j))
  bel : Below wB.heap.size wB wr
theorem Arr4M.lt {wB wr : World} {k n i : Nat} {st : Nat → ByteArray} {b : Nat → Value} (h : Arr4M wB k n st b i wr) : wB.heap.size < wr.heap.size := (Array.getElem?_eq_some_iff.1 h.arr).1
theorem Arr4M.up {wB wr w' : World} {k n i : Nat} {st : Nat → ByteArray} {b : Nat → Value} (h : Arr4M wB k n st b i wr) (hb : Below wr.heap.size wr w') : Arr4M wB k n st b i w' :=
  ⟨(hb.block _ h.lt).trans h.arr, fun j hj => by
    obtain ⟨vs, ho⟩ := h.own j hj
    exact ⟨vs, ho.below hb⟩, bwstep h.bel hb⟩
theorem Arr4M.step {wB wr : World} {k n i : Nat} {st : Nat → ByteArray} {b : Nat → Value} {m : Value} {vs : Nat → Value} (h : Arr4M wB k n st b i wr) (hi : i < 4) (ho : OwM wr (wB.heap.size + 1) m vs n (shR k (st i))) :
    wr.cell? ⟨wB.heap.size, i, none⟩ = some (b i) ∧ wr.frozen? ⟨wB.heap.size, i, none⟩ = false ∧ Hid (∃ c, Arr4M wB k n st c (i + 1) (wr.setCell ⟨wB.heap.size, i, none⟩ m)) := by
  obtain ⟨hc, hf⟩ := cell_four h.arr i hi
  have gk := grownBy_setCell wr wB.heap.size i m
  have keep : ∀ {v : Value} {vs : Nat → Value} {g : Nat → List UInt8}, OwM wr (wB.heap.size + 1) v vs n g → OwM (wr.setCell ⟨wB.heap.size, i, none⟩ m) (wB.heap.size + 1) v vs n g := fun h => h.kept gk
    (fun q hq e => by have := (h.out.lt q hq).1; injection e with e; omega) (fun j hj q hq e => by have := ((h.row j hj).lt q hq).1; injection e with e; omega)
  refine ⟨hc, hf, fun j => if j = i then m else b j, set_four h.arr i hi m, fun j hj => ?_, h.bel.setCell (p := ⟨wB.heap.size, i, none⟩) (Nat.le_refl _) m⟩
  by_cases e : j = i
  · subst e
    simp only [if_pos]
    exact ⟨vs, keep ho⟩
  · simp only [if_neg e]
    obtain ⟨vs', ho'⟩ := h.own j (by omega)
    exact ⟨vs', keep ho'⟩
/-- three texts, and the fourth of them -/
def mixL (l : List (UInt8 × UInt8 × UInt8)) (i : Nat) : List UInt8 := l.map fun y => if i = 0 then y.1 else if i = 1 then y.2.1 else if i = 2 then y.2.2 else y.1 ^^^ y.2.1 ^^^ y.2.2
theorem mixL_len (l : List (UInt8 × UInt8 × UInt8)) (i : Nat) : (mixL l i).length = l.length := List.length_map _
theorem mixL_succ {l : List (UInt8 × UInt8 × UInt8)} {k : Nat} (hk : k < l.length) (i : Nat) : mixL (l.take (k + 1)) i = mixL (l.take k) i ++ [if i = 0 then l[k].1 else if i = 1 then l[k].2.1 else if i = 2 then l[k].2.2 else l[k].1 ^^^ l[k].2.1 ^^^ l[k].2.2] := by
  unfold mixL
  rw [List.take_succ_eq_append_getElem hk, List.map_append, List.map_singleton]
/-- the four as texts -/
def mixS (l : List (UInt8 × UInt8 × UInt8)) (i : Nat) : ByteArray := ⟨(mixL l i).toArray⟩
theorem mixS_size (l : List (UInt8 × UInt8 × UInt8)) (i : Nat) : (mixS l i).size = l.length := by
  show (mixL l i).toArray.size = l.length
  rw [List.size_toArray, mixL_len]
theorem mixS_mlen (k : Nat) (l : List (UInt8 × UInt8 × UInt8)) (i : Nat) : mlen k (mixS l i) = mlen k (mixS l 3) := by
  unfold mlen
  rw [mixS_size, mixS_size]
theorem x3 (h : UInt8) : (h ^^^ h) ^^^ h = h := by rw [Mx.xx, Mx.zx]
theorem tx_mix (l : List (UInt8 × UInt8 × UInt8)) (t : Nat) : tx (mixS l 3) t = (tx (mixS l 0) t ^^^ tx (mixS l 1) t) ^^^ tx (mixS l 2) t := by
  have e : ∀ i, tx (mixS l i) t = (numB l.length ++ mixL l i).getD t 0 := fun i => by
    unfold tx textB
    rw [mixS_size]
    rfl
  rw [e, e, e, e]
  simp only [List.getD_eq_getElem?_getD]
  by_cases h4 : t < 4
  · rw [List.getElem?_append_left (by rw [numB_len]; exact h4), List.getElem?_append_left (by rw [numB_len]; exact h4), List.getElem?_append_left (by rw [numB_len]; exact h4), List.getElem?_append_left (by rw [numB_len]; exact h4), x3]
  · rw [List.getElem?_append_right (by rw [numB_len]; omega), List.getElem?_append_right (by rw [numB_len]; omega), List.getElem?_append_right (by rw [numB_len]; omega), List.getElem?_append_right (by rw [numB_len]; omega)]
    generalize t - (numB l.length).length = q
    unfold mixL
    by_cases hq : q < l.length
    · simp [hq]
    · simp [List.getElem?_eq_none (show l.length ≤ q by omega)]
theorem sh_mix (k : Nat) (l : List (UInt8 × UInt8 × UInt8)) (i j : Nat) : shM k (mixS l 3) i j = (shM k (mixS l 0) i j ^^^ shM k (mixS l 1) i j) ^^^ shM k (mixS l 2) i j := by
  unfold shM
  refine sh_add i j fun q _ => ?_
  unfold pcM
  rw [mixS_mlen k l 0, mixS_mlen k l 1, mixS_mlen k l 2]
  exact tx_mix l _
set_option maxHeartbeats 100000000 in
set_option maxRecDepth 100000 in
theorem codeMixed_walk (a0 a1 : Int) (v : Value) (l : List (UInt8 × UInt8 × UInt8)) (w : World) (w0 : (Lit.int .u8 a0).wf = true) (w1 : (Lit.int .u8 a1).wf = true) (hx : Rd3 w w.heap.size v l) :
    Calls Try.prog 8 #[.int .u8 a0, .int .u8 a1, v] w fun e w' => e = .returned (.bool true) ∧ Below w.heap.size w w' := by
  obtain ⟨a, rfl, ha⟩ := u8Of' w0
  obtain ⟨b, rfl, hb⟩ := u8Of' w1
  clear w0 w1
  obtain ⟨A, cap, rfl, hc, hm, hxc⟩ := hx
  have HX := Lib.hid hxc
  clear hxc
  unfold maxLen at hm
  go_enter Try.func8, Try.ntmps8
  go_wp2_with fail
  refine (shape_any a b _ ha hb).mono ?_
  rintro e w1 ⟨⟨k, f, rfl, hN⟩, hb1⟩
  obtain ⟨n, hn⟩ : ∃ n, k + 2 * f = n := ⟨_, rfl⟩
  have h7 := hN.2
  have hk1 := hN.1
  have hI := InBox.new w1 k f
  have hbx : Below w1.heap.size w1 (w1.alloc (.cells #[.int .i64 k, .int .i64 f] 23)) := bwalloc (Below.refl _ _) _
  generalize hw0 : w1.alloc (.cells #[.int .i64 k, .int .i64 f] 23) = w0 at *
  go_wp2_with fail
  refine (awake_ok _).mono ?_
  rintro e w2 ⟨rfl, hb2⟩
  have hI2 := hI.below hb2
  have hbb := bwstep (bwstep hb1 hbx) hb2
  clear hw0 hI hb1 hb2 hbx ha hb
  by_cases h512 : l.length ≤ 512
  · have t1 : ¬ (512 : Int) < (l.length : Int) := by omega
    go_wp2_with (refine wpList_allocRow rfl 50 rfl #[.slice none 0 0, .slice none 0 0, .slice none 0 0, .slice none 0 0] zero4 ?_)
    have hM0 : Arr4 w2 w2.heap.size (mixL (l.take 0)) (fun _ => .slice none 0 0) (w2.alloc (.cells #[.slice none 0 0, .slice none 0 0, .slice none 0 0, .slice none 0 0] 50)) :=
      ⟨fun i _ => Ow.nilB _ _ _, fun _ _ _ _ _ => Apart.nil _, heap_alloc_new _ _, Nat.le_refl _, bwalloc (bwrefl _) _⟩
    go_loopw [9] (fun i wr => ∃ j : Nat, j ≤ l.length ∧ i = .int .i64 (j : Int) ∧ Hid (∃ a, Arr4 w2 w2.heap.size (mixL (l.take j)) a wr)) (fun i _ => l.length - (intOf i).toNat)
    case atStart => exact ⟨0, by omega, rfl, Lib.hid ⟨_, hM0⟩⟩
    case round =>
      clear hM0
      obtain ⟨j, hj, rfl, HM⟩ := hrel
      by_cases hlt : j < l.length
      · obtain ⟨a, M⟩ := HM.out
        obtain ⟨p, off, rfl, hp, hcell⟩ := HX.out (by omega)
        obtain ⟨c0, c1, c2⟩ := hcell j hlt
        have HL := Lib.hid (mixL_succ hlt)
        clear hcell
        generalize l[j] = yy at c0 c1 c2 HL
        obtain ⟨y0, y1, y2⟩ := yy
        have hkeep : ∀ (W : World), Below w2.heap.size w2 W → W.cell? ⟨p, off + j * 3, none⟩ = some (bv y0) ∧ W.cell? ⟨p, off + j * 3 + 1, none⟩ = some (bv y1) ∧ W.cell? ⟨p, off + j * 3 + 2, none⟩ = some (bv y2) := by
          intro W hW
          have hWW := bwstep hbb hW
          exact ⟨(hWW.cell hp).trans c0, (hWW.cell hp).trans c1, (hWW.cell hp).trans c2⟩
        have HK := Lib.hid hkeep
        have HXS : Hid (mixL (l.take j) = mixL (l.take j)) := Lib.hid rfl
        have hlen : ∀ i, (mixL (l.take j) i).length ≤ 512 := fun i => by rw [mixL_len, List.length_take]; omega
        clear hkeep c0 c1 c2 HM
        generalize hxs : mixL (l.take j) = xs at M HL hlen
        clear hxs HXS
        go_upto_block 1 with fail
        go_cut [] from 27 to 84 (fun wx => ∃ (ys : Nat → List UInt8) (b : Nat → Value), Arr4 w2 w2.heap.size ys b wx ∧ ys 0 = xs 0 ++ [y0] ∧ ys 1 = xs 1 ++ [y1] ∧ ys 2 = xs 2 ++ [y2] ∧ ys 3 = xs 3 ++ [y0 ^^^ y1 ^^^ y2])
        case first =>
          have hlen0 := hlen 0
          have hlen1 := hlen 1
          have hlen2 := hlen 2
          have hlen3 := hlen 3
          clear hlen
          obtain ⟨q0, q1, q2⟩ := HK.out _ M.bel
          simp only [bv] at q0 q1 q2
          obtain ⟨k0, -⟩ := cell_four M.arr 0 (by omega)
          have l0 := hlen0
          obtain ⟨k0', -⟩ := cell_four (M.alloc (.cells #[.int .u8 (y0.toNat : Int)] 5)).arr 0 (by omega)
          have MA := (M.drew).alloc (.cells #[.int .u8 (y0.toNat : Int)] 5)
          go_wp2_with fail
          go_cut [] from 27 to 84 (fun wx => ∃ (ys : Nat → List UInt8) (b : Nat → Value), Arr4 w2 w2.heap.size ys b wx ∧ ys 0 = xs 0 ++ [y0] ∧ ∀ j, j ≠ 0 → ys j = xs j)
          case first =>
            go_region_law (refine step_appB bytesT rfl (.tmp 34) (.tmp 40) rfl (by simp [Act.eval]) (MA.ow 0 (by omega)) (by simp [Act.eval]) (Rd.newW _ _ _ rfl (by simp [maxLen]) (rfl : _ = [y0].map bv)) (by simp; omega) MA.bel.size ?_; intro va wa hoa hga hra; obtain ⟨Aa, na, ca, rfl⟩ := hoa.shp; obtain ⟨hc9, hf9, HM1⟩ := MA.step (by omega : 0 < 4) hoa hga hra; clear MA)
            all_goals
              go_wp2_with fail
              go_meet
              exact HM1.out
          case rest =>
            clear MA k0 k0' q0 q1 q2 l0 M
            obtain ⟨xs1, a1, M1, e1, o1⟩ := hcut
            have hlen1 : (xs1 1).length ≤ 512 := by rw [o1 1 (by omega)]; exact hlen1
            have hlen2 : (xs1 2).length ≤ 512 := by rw [o1 2 (by omega)]; exact hlen2
            have hlen3 : (xs1 3).length ≤ 512 := by rw [o1 3 (by omega)]; exact hlen3
            obtain ⟨q0, q1, q2⟩ := HK.out _ M1.bel
            simp only [bv] at q0 q1 q2
            obtain ⟨k0, -⟩ := cell_four M1.arr 1 (by omega)
            have l0 := hlen1
            obtain ⟨k0', -⟩ := cell_four (M1.alloc (.cells #[.int .u8 (y1.toNat : Int)] 5)).arr 1 (by omega)
            have MA := (M1.drew).alloc (.cells #[.int .u8 (y1.toNat : Int)] 5)
            go_wp2_with fail
            go_cut [] from 27 to 84 (fun wx => ∃ (ys : Nat → List UInt8) (b : Nat → Value), Arr4 w2 w2.heap.size ys b wx ∧ ys 1 = xs1 1 ++ [y1] ∧ ∀ j, j ≠ 1 → ys j = xs1 j)
            case first =>
              go_region_law (refine step_appB bytesT rfl (.tmp 44) (.tmp 50) rfl (by simp [Act.eval]) (MA.ow 1 (by omega)) (by simp [Act.eval]) (Rd.newW _ _ _ rfl (by simp [maxLen]) (rfl : _ = [y1].map bv)) (by simp; omega) MA.bel.size ?_; intro va wa hoa hga hra; obtain ⟨Aa, na, ca, rfl⟩ := hoa.shp; obtain ⟨hc9, hf9, HM1⟩ := MA.step (by omega : 1 < 4) hoa hga hra; clear MA)
              all_goals
                go_wp2_with fail
                go_meet
                exact HM1.out
            case rest =>
              clear MA k0 k0' q0 q1 q2 l0 M1
              obtain ⟨xs2, a2, M2, e2, o2⟩ := hcut
              have hlen2 : (xs2 2).length ≤ 512 := by rw [o2 2 (by omega)]; exact hlen2
              have hlen3 : (xs2 3).length ≤ 512 := by rw [o2 3 (by omega)]; exact hlen3
              obtain ⟨q0, q1, q2⟩ := HK.out _ M2.bel
              simp only [bv] at q0 q1 q2
              obtain ⟨k0, -⟩ := cell_four M2.arr 2 (by omega)
              have l0 := hlen2
              obtain ⟨k0', -⟩ := cell_four (M2.alloc (.cells #[.int .u8 (y2.toNat : Int)] 5)).arr 2 (by omega)
              have MA := (M2.drew).alloc (.cells #[.int .u8 (y2.toNat : Int)] 5)
              go_wp2_with fail
              go_cut [] from 27 to 84 (fun wx => ∃ (ys : Nat → List UInt8) (b : Nat → Value), Arr4 w2 w2.heap.size ys b wx ∧ ys 2 = xs2 2 ++ [y2] ∧ ∀ j, j ≠ 2 → ys j = xs2 j)
              case first =>
                go_region_law (refine step_appB bytesT rfl (.tmp 54) (.tmp 60) rfl (by simp [Act.eval]) (MA.ow 2 (by omega)) (by simp [Act.eval]) (Rd.newW _ _ _ rfl (by simp [maxLen]) (rfl : _ = [y2].map bv)) (by simp; omega) MA.bel.size ?_; intro va wa hoa hga hra; obtain ⟨Aa, na, ca, rfl⟩ := hoa.shp; obtain ⟨hc9, hf9, HM1⟩ := MA.step (by omega : 2 < 4) hoa hga hra; clear MA)
                all_goals
                  go_wp2_with fail
                  go_meet
                  exact HM1.out
              case rest =>
                clear MA k0 k0' q0 q1 q2 l0 M2
                obtain ⟨xs3, a3, M3, e3, o3⟩ := hcut
                have hlen3 : (xs3 3).length ≤ 512 := by rw [o3 3 (by omega)]; exact hlen3
                obtain ⟨q0, q1, q2⟩ := HK.out _ M3.bel
                simp only [bv] at q0 q1 q2
                obtain ⟨k0, -⟩ := cell_four M3.arr 3 (by omega)
                have l0 := hlen3
                obtain ⟨k0', -⟩ := cell_four (M3.alloc (.cells #[.int .u8 (bits .xor .u8 (bits .xor .u8 (y0.toNat : Int) (y1.toNat : Int)) (y2.toNat : Int))] 5)).arr 3 (by omega)
                have MA := (M3.drew).alloc (.cells #[.int .u8 (bits .xor .u8 (bits .xor .u8 (y0.toNat : Int) (y1.toNat : Int)) (y2.toNat : Int))] 5)
                go_wp2_with fail
                go_region_law (refine step_appB bytesT rfl (.tmp 64) (.tmp 82) rfl (by simp [Act.eval]) (MA.ow 3 (by omega)) (by simp [Act.eval]) (Rd.newW _ _ _ rfl (by simp [maxLen]) (three y0 y1 y2)) (by simp; omega) MA.bel.size ?_; intro va wa hoa hga hra; obtain ⟨Aa, na, ca, rfl⟩ := hoa.shp; obtain ⟨hc9, hf9, HM1⟩ := MA.step (by omega : 3 < 4) hoa hga hra; clear MA)
                all_goals
                  obtain ⟨xs4, a4, M4, e4, o4⟩ := HM1.out
                  go_wp2_with fail
                  go_meet
                  exact ⟨xs4, a4, M4, by rw [o4 0 (by omega), o3 0 (by omega), o2 0 (by omega), e1], by rw [o4 1 (by omega), o3 1 (by omega), e2, o1 1 (by omega)], by rw [o4 2 (by omega), e3, o2 2 (by omega), o1 2 (by omega)], by rw [e4, o3 3 (by omega), o2 3 (by omega), o1 3 (by omega)]⟩
        case rest =>
          obtain ⟨ys, b, M9, f0, f1, f2, f3⟩ := hcut
          clear M
          go_wp2_with fail
          go_roundw
          case rel => exact ⟨j + 1, by omega, by go_num, Lib.hid ⟨_, M9.congr fun i hi => by
            rw [HL.out i]
            match i, hi with
            | 0, _ => rw [f0]; rfl
            | 1, _ => rw [f1]; rfl
            | 2, _ => rw [f2]; rfl
            | 3, _ => rw [f3]; rfl⟩⟩
          case measure => simp [intOf]; omega
      · obtain rfl : j = l.length := by omega
        rw [List.take_length] at HM
        obtain ⟨a, M⟩ := HM.out
        have hbl := M.bel
        have hI3 := hI2.below hbl
        have hbb3 := bwstep hbb hbl
        have hrd : ∀ i, i < 4 → Rd wr wr.heap.size (a i) ((mixL l i).map bv) := fun i hi => (M.ow i hi).rd
        have hcl : ∀ i, i < 4 → wr.cell? ⟨w2.heap.size, i, none⟩ = some (a i) := fun i hi => (cell_four M.arr i hi).1
        have hgl := M.lt
        clear HM M hlt hj HX
        generalize hw2 : w2.heap.size = g at *
        clear hw2 hbb hbl hI2
        go_wp2_with (refine wpList_allocRow rfl 52 rfl #[.slice none 0 0, .slice none 0 0, .slice none 0 0, .slice none 0 0] zero44 ?_)
        have hN0 : Arr4M wr k n (mixS l) (fun _ => .slice none 0 0) 0 (wr.alloc (.cells #[.slice none 0 0, .slice none 0 0, .slice none 0 0, .slice none 0 0] 52)) :=
          ⟨heap_alloc_new _ _, fun j hj => by omega, bwalloc (bwrefl _) _⟩
        generalize hwB : wr = wB at *
        clear hwB
        go_loopw [11, 12, 13] (fun i _ _ wr => ∃ q : Nat, q ≤ 4 ∧ i = .int .i64 (q : Int) ∧ Hid (∃ b, Arr4M wB k n (mixS l) b q wr)) (fun i _ _ _ => 4 - (intOf i).toNat)
        case atStart => exact ⟨0, by omega, rfl, Lib.hid ⟨_, hN0⟩⟩
        case round =>
          clear hN0
          obtain ⟨q, hq, rfl, HN⟩ := hrel
          by_cases hq4 : q < 4
          · have hq4' : (q : Int) < 4 := by omega
            obtain ⟨b, N⟩ := HN.out
            have hbw := N.bel
            have hIr := hI3.below hbw
            have hcq := (hbw.cell (p := ⟨g, q, none⟩) hgl).trans (hcl q hq4)
            have hrq := (hrd q hq4).up hbw
            obtain ⟨Aq, cq, hae, -, -⟩ := hrq.shapeM
            rw [mixL_len] at hae
            rw [hae] at hcq hrq
            have hcv : ∀ y : World, Below wr.heap.size wr y → (convert 39 9 (.slice Aq l.length cq)).run Try.prog y = .ok (.string (mixS l q)) y := fun y hy => run_strS (P := Try.prog) (w := y) Try.underlying39 Try.underlying5 Try.underlying9 (hrq.up hy) l.length cq rfl
            have hsz : (mixS l q).size ≤ 512 := by rw [mixS_size]; exact h512
            have hbN := N.lt
            have HT : Hid (InBox w1.heap.size k f wr.drew ∧ wr.drew.cell? ⟨w1.heap.size, 0, none⟩ = some (.int .i64 (k : Int)) ∧ wr.drew.cell? ⟨w1.heap.size, 1, none⟩ = some (.int .i64 (f : Int)) ∧ wr.drew.cell? ⟨g, q, none⟩ = some (.slice Aq l.length cq) ∧ (convert 39 9 (.slice Aq l.length cq)).run Try.prog wr.drew = .ok (.string (mixS l q)) wr.drew ∧ Below wr.heap.size wr wr.drew) := Lib.hid ⟨hIr, hIr.c0, hIr.c1, hcq, hcv _ (Below.refl _ _).drew, (Below.refl _ _).drew⟩
            have HU : Hid (∀ x y : World, (InBox w1.heap.size k f x ∧ x.cell? ⟨w1.heap.size, 0, none⟩ = some (.int .i64 (k : Int)) ∧ x.cell? ⟨w1.heap.size, 1, none⟩ = some (.int .i64 (f : Int)) ∧ x.cell? ⟨g, q, none⟩ = some (.slice Aq l.length cq) ∧ (convert 39 9 (.slice Aq l.length cq)).run Try.prog x = .ok (.string (mixS l q)) x ∧ Below wr.heap.size wr x) → Below x.heap.size x y → (InBox w1.heap.size k f y ∧ y.cell? ⟨w1.heap.size, 0, none⟩ = some (.int .i64 (k : Int)) ∧ y.cell? ⟨w1.heap.size, 1, none⟩ = some (.int .i64 (f : Int)) ∧ y.cell? ⟨g, q, none⟩ = some (.slice Aq l.length cq) ∧ (convert 39 9 (.slice Aq l.length cq)).run Try.prog y = .ok (.string (mixS l q)) y ∧ Below wr.heap.size wr y)) :=
              Lib.hid fun x y h hb => ⟨h.1.below hb, (h.1.below hb).c0, (h.1.below hb).c1, (hb.cell (p := ⟨g, q, none⟩) (Nat.lt_of_lt_of_le (Nat.lt_of_lt_of_le hgl hbw.size) h.2.2.2.2.2.size)).trans h.2.2.2.1, hcv _ (bwstep h.2.2.2.2.2 hb), bwstep h.2.2.2.2.2 hb⟩
            clear hcv hrq hae HN
            go_wp2_with fail
            go_region_held3 (fun w' => InBox w1.heap.size k f w' ∧ w'.cell? ⟨w1.heap.size, 0, none⟩ = some (.int .i64 (k : Int)) ∧ w'.cell? ⟨w1.heap.size, 1, none⟩ = some (.int .i64 (f : Int)) ∧ w'.cell? ⟨g, q, none⟩ = some (.slice Aq l.length cq) ∧ (convert 39 9 (.slice Aq l.length cq)).run Try.prog w' = .ok (.string (mixS l q)) w' ∧ Below wr.heap.size wr w') (first | exact HT.out | assumption | exact HU.out _ _ (by assumption) (by assumption))
              (first
                | (refine wp_loadS (.tmp 7) rfl rfl (And.left (by assumption)) ?_)
                | (go_at_call 10; refine (encode_ok k f n (mixS l q) _ hN hn hsz).mono ?_; rintro e wx ⟨⟨x, vx, rfl, hx⟩, hbx⟩))
            obtain ⟨hIx, dx0, dx1, -, -, hbS⟩ := (by assumption : InBox w1.heap.size k f wx ∧ wx.cell? ⟨w1.heap.size, 0, none⟩ = some (.int .i64 (k : Int)) ∧ wx.cell? ⟨w1.heap.size, 1, none⟩ = some (.int .i64 (f : Int)) ∧ wx.cell? ⟨g, q, none⟩ = some (.slice Aq l.length cq) ∧ (convert 39 9 (.slice Aq l.length cq)).run Try.prog wx = .ok (.string (mixS l q)) wx ∧ Below wr.heap.size wr wx)
            obtain ⟨Ax, cx, rfl, -, -⟩ := hx.rd.shape
            have hxm := hx.mono (B' := wB.heap.size + 1) (show wB.heap.size + 1 ≤ wr.heap.size by omega)
            clear HT HU hIr hcq hx hbx
            go_wp2_with fail
            refine (rshpN_ok k f n _ hN hn).mono ?_
            rintro e wy ⟨rfl, hby⟩
            obtain ⟨hc9, hf9, HN2⟩ := (N.up (bwstep hbS hby)).step hq4 (hxm.below hby)
            have hqn := rfn n
            clear N hxm hIx dx0 dx1
            go_wp2_with fail
            go_roundw
            case rel => exact ⟨q + 1, by omega, by go_num, HN2⟩
            case measure => simp [intOf]; omega
          · have hq4' : ¬ (q : Int) < 4 := by omega
            obtain ⟨b, N⟩ := HN.out
            have hbw := N.bel
            have hIr := hI3.below hbw
            have hbb5 := bwstep hbb3 hbw
            have hgB := N.lt
            obtain ⟨vs0, O0⟩ := N.own 0 (by omega)
            obtain ⟨vs1, O1⟩ := N.own 1 (by omega)
            obtain ⟨vs2, O2⟩ := N.own 2 (by omega)
            obtain ⟨vs3, O3⟩ := N.own 3 (by omega)
            have R0 := O0.rd
            have R1 := O1.rd
            have R2 := O2.rd
            have R3 := O3.rd
            have C0 := (cell_four N.arr 0 (by omega)).1
            have C1 := (cell_four N.arr 1 (by omega)).1
            have C2 := (cell_four N.arr 2 (by omega)).1
            have C3 := (cell_four N.arr 3 (by omega)).1
            clear O0 O1 O2 O3 N HN hq hq4 hI3 hbw hrd hcl
            generalize b 0 = b0 at *
            generalize b 1 = b1 at *
            generalize b 2 = b2 at *
            generalize b 3 = b3 at *
            obtain ⟨A0, c0, rfl, hx0, hy0⟩ := R0.shape
            obtain ⟨A1, c1, rfl, hx1, hy1⟩ := R1.shape
            obtain ⟨A2, c2, rfl, hx2, hy2⟩ := R2.shape
            obtain ⟨A3, c3, rfl, hx3, hy3⟩ := R3.shape
            obtain ⟨d0, p0, rfl, -⟩ := R0.open_ (by omega)
            obtain ⟨d1, p1, rfl, -⟩ := R1.open_ (by omega)
            obtain ⟨d2, p2, rfl, -⟩ := R2.open_ (by omega)
            obtain ⟨d3, p3, rfl, -⟩ := R3.open_ (by omega)
            unfold maxLen at hy0 hy1 hy2 hy3
            generalize hwC : wr = wC at *
            clear hwC
            go_wp2_with fail
            go_loopw [14, 15] (fun i _ wr => ∃ q : Nat, q ≤ n ∧ i = .int .i64 (q : Int) ∧ Below wC.heap.size wC wr) (fun i _ _ => n - (intOf i).toNat)
            case atStart => exact ⟨0, by omega, rfl, Below.refl _ _⟩
            case round =>
              obtain ⟨i, hi, rfl, hbw⟩ := hrel
              have hIi := hIr.below hbw
              go_wp2_with (refine wpList_loadS rfl (.tmp 7) rfl rfl hIi ?_)
              refine (rshpN_ok k f n _ hN hn).mono ?_
              rintro e wD ⟨rfl, hbD⟩
              have hbw2 := bwstep hbw hbD
              clear hIi hbw hbD
              by_cases hin : i < n
              · have hin' : (i : Int) < (n : Int) := by omega
                have K0 := (hbw2.cell (p := ⟨wB.heap.size, 0, none⟩) hgB).trans C0
                have K1 := (hbw2.cell (p := ⟨wB.heap.size, 1, none⟩) hgB).trans C1
                have K2 := (hbw2.cell (p := ⟨wB.heap.size, 2, none⟩) hgB).trans C2
                have K3 := (hbw2.cell (p := ⟨wB.heap.size, 3, none⟩) hgB).trans C3
                obtain ⟨E0, f0, L0, l0c, l0m, r0⟩ := (R0.up hbw2).rowT hin
                obtain ⟨E1, f1, L1, l1c, l1m, r1⟩ := (R1.up hbw2).rowT hin
                obtain ⟨E2, f2, L2, l2c, l2m, r2⟩ := (R2.up hbw2).rowT hin
                obtain ⟨E3, f3, L3, l3c, l3m, r3⟩ := (R3.up hbw2).rowT hin
                have hX := sh_mix k l i
                rw [mixS_mlen k l 0] at L0 l0c r0
                rw [mixS_mlen k l 1] at L1 l1c r1
                rw [mixS_mlen k l 2] at L2 l2c r2
                have hmp := mlen_pos hk1 (mixS l 3)
                have hms := mlen_512 hk1 (mixS l 3) (by rw [mixS_size]; exact h512)
                generalize mlen k (mixS l 3) = m at *
                obtain ⟨g0, o0, rfl, -, z0⟩ := r0.cellR hmp
                obtain ⟨g1, o1, rfl, -, z1⟩ := r1.cellR hmp
                obtain ⟨g2, o2, rfl, -, z2⟩ := r2.cellR hmp
                obtain ⟨g3, o3, rfl, -, z3⟩ := r3.cellR hmp
                generalize shM k (mixS l 0) i = s0 at *
                generalize shM k (mixS l 1) i = s1 at *
                generalize shM k (mixS l 2) i = s2 at *
                generalize shM k (mixS l 3) i = s3 at *
                have HZ := Lib.hid (And.intro z0 (And.intro z1 (And.intro z2 z3)))
                have HXX := Lib.hid hX
                have hmm := rfn m
                unfold maxLen at l0m l1m l2m l3m
                clear r0 r1 r2 r3 z0 z1 z2 z3 hX
                go_wp2_with fail
                go_quiet (fail)
                go_wp2_with fail
                go_loopw [15] (fun j wr => ∃ q z : Nat, q ≤ m ∧ j = .int .i64 (q : Int) ∧ wr = wD.drewN z) (fun j _ => m - (intOf j).toNat)
                case atStart => exact ⟨0, _, by omega, rfl, rfl⟩
                case round =>
                  obtain ⟨j, z, hj, rfl, rfl⟩ := hrel
                  by_cases hjm : j < m
                  · obtain ⟨z0, z1, z2, z3⟩ := HZ.out
                    have y0 := z0 j hjm
                    have y1 := z1 j hjm
                    have y2 := z2 j hjm
                    have y3 := z3 j hjm
                    have hx3 := HXX.out j
                    generalize s0 j = u0 at *
                    generalize s1 j = u1 at *
                    generalize s2 j = u2 at *
                    generalize s3 j = u3 at *
                    have hq3 : ((u3.toNat : Int) != bits .xor .u8 (bits .xor .u8 (u0.toNat : Int) (u1.toNat : Int)) (u2.toNat : Int)) = false := by
                      rw [xor_u8', xor_u8', hx3]
                      exact bne_self_eq_false _
                    clear z0 z1 z2 z3 hx3
                    go_wp2_with fail
                    go_quiet (fail)
                    go_wp2_with fail
                    go_roundw
                    case rel => exact ⟨j + 1, _, by omega, by go_num, by first | rfl | exact drewN_two _ _ _⟩
                    case measure => simp [intOf]; omega
                  · obtain rfl : j = m := by omega
                    go_wp2_with fail
                    go_roundw
                    case rel => exact ⟨i + 1, by omega, by go_num, bwstep hbw2 (bwN _)⟩
                    case measure => simp [intOf]; omega
              · have hin' : ¬ (i : Int) < (n : Int) := by omega
                go_wp2_with fail
                go_ret
                exact ⟨rfl, bwstep hbb5 hbw2⟩
  · have t1 : (512 : Int) < (l.length : Int) := by omega
    go_wp2_with fail
    refine (awake_ok _).mono ?_
    rintro e w3 ⟨rfl, hb3⟩
    go_wp2_with fail
    go_ret
    exact ⟨rfl, bwstep hbb hb3⟩
end Go.Proofs.Ytfnenehiapibiaa
