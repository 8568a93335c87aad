/- The contract of told. -/
import Derived.Test.YtfnenehiapibiaaEnc
import Derived.Test.YtfnenehiapibiaaHand
import Derived.Test.YtfnenehiapibiaaCat
import Derived.Test.YtfnenehiapibiaaMatIv
import Derived.Test.YtfnenehiapibiaaWir
namespace Go.Proofs.Ytfnenehiapibiaa
open Go.RowKit
open Mx (rw rw_len rw_get rw_congr dl cod mm fm sm)

theorem getD_at {l : List Nat} {i : Nat} (h : i < l.length) : l.getD i 0 = l[i] := by
  rw [List.getD_eq_getElem?_getD, List.getElem?_eq_getElem h]
  rfl
/-- rows of a coding that have a contrary -/
structure Places (k n : Nat) (l : List Nat) : Prop where
  len : l.length = k
  nd : l.Nodup
  lt : ∀ a ∈ l, a < n
theorem Places.none {k n : Nat} {l : List Nat} (h : Places k n l) (hn : n ≤ 256) (y : Nat → UInt8) (hy : ∃ j, j < k ∧ y j ≠ 0) (hz : ∀ i, i < k → sm k (fun j => fm (cod k (l.getD i 0) j) (y j)) = 0) : False := by
  obtain ⟨j, hj, hne⟩ := hy
  refine hne (Mx.cod_any hn l h.len h.nd h.lt y (fun a ha => ?_) j hj)
  obtain ⟨i, hi, rfl⟩ := List.getElem_of_mem ha
  have := hz i (by have := h.len; omega)
  rw [getD_at hi] at this
  exact this
theorem invert_cod (v : Value) (k n : Nat) (l : List Nat) (w : World) (h : Places k n l) (hn : n ≤ 256) (hk : 0 < k) (hk2 : k ≤ 1000) (ha : RdM w w.heap.size v k (fun i => rw k (cod k (l.getD i 0)))) :
    Calls Try.prog 50 #[v] w fun e w' => (∃ (x : Value) (vs : Nat → Value) (X : Mx.M), e = .returned (.tuple #[x, .bool true]) ∧ OwM w' w.heap.size x vs k (fun i => rw k (X i)) ∧ ∀ i, i < k → ∀ j, j < k → mm k X (fun i => cod k (l.getD i 0)) i j = dl i j) ∧ Below w.heap.size w w' := by
  refine (invert_any v k (fun i => cod k (l.getD i 0)) w ha hk (by omega)).mono ?_
  rintro e w' ⟨⟨x, vs, X, he, hx, hX1, -, -⟩ | ⟨-, -, y', hy1, hy2⟩, hb⟩
  · exact ⟨⟨x, vs, X, he, hx, hX1⟩, hb⟩
  · exact (h.none hn y' hy1 hy2).elim
/-- the first K that are at hand -/
theorem first_places {k n : Nat} {g : Nat → List UInt8} (hk : k ≤ (hand n g).length) : Places k n ((hand n g).take k) :=
  ⟨by rw [List.length_take]; omega, (hand_nodup n g).sublist (List.take_sublist _ _), fun a ha => (hand_mem.1 (List.mem_of_mem_take ha)).1⟩
theorem first_mem {k n i : Nat} {g : Nat → List UInt8} (hk : k ≤ (hand n g).length) (hi : i < k) : ((hand n g).take k).getD i 0 ∈ hand n g := by
  have hl : i < ((hand n g).take k).length := by rw [List.length_take]; omega
  rw [getD_at hl]
  exact List.mem_of_mem_take (List.getElem_mem hl)
/-- what is told: where the shards at hand are those of some pieces, it is the text of these -/
def Tells (k n : Nat) (g : Nat → List UInt8) (s : ByteArray) (ok : Bool) : Prop :=
  ∀ (m : Nat) (p : Mx.M), 0 < m → (∀ i ∈ hand n g, g i = rw m (mm k (cod k) p i)) → textOk (flatM k m p) → ok = true ∧ s = ⟨(textOf (flatM k m p)).toArray⟩
/-- the bytes of the first K as a matrix -/
def fstM (k n : Nat) (g : Nat → List UInt8) : Mx.M := fun i j => (g (((hand n g).take k).getD i 0)).getD j 0
theorem tells_no {k n : Nat} {g : Nat → List UInt8} (hk0 : 0 < k) (hk : k ≤ (hand n g).length) (h : isR (hand n g).length (fun i => g ((hand n g).getD i 0)) = false) (s : ByteArray) (ok : Bool) : Tells k n g s ok := by
  intro m p hm hp _
  exfalso
  have hmem : ∀ i, i < (hand n g).length → (hand n g).getD i 0 ∈ hand n g := fun i hi => by
    rw [getD_at hi]
    exact List.getElem_mem hi
  have hl : ∀ i, i < (hand n g).length → (g ((hand n g).getD i 0)).length = m := fun i hi => by
    rw [hp _ (hmem i hi), rw_len]
  rw [isR_true (by omega) (by show 0 < (g ((hand n g).getD 0 0)).length; rw [hl 0 (by omega)]; exact hm) (fun j hj => by show (g ((hand n g).getD j 0)).length = (g ((hand n g).getD 0 0)).length; rw [hl j hj, hl 0 (by omega)])] at h
  cases h
theorem tells_yes {k n m : Nat} {g : Nat → List UInt8} {X : Mx.M} (hk0 : 0 < k) (hk : k ≤ (hand n g).length) (hm : m = (g (((hand n g).take k).getD 0 0)).length)
    (hX : ∀ i, i < k → ∀ j, j < k → mm k X (fun i => cod k (((hand n g).take k).getD i 0)) i j = dl i j) {m' : Nat} {p : Mx.M} (hp : ∀ i ∈ hand n g, g i = rw m' (mm k (cod k) p i)) : m' = m ∧ flatM k m' p = flatM k m (mm k X (fstM k n g)) := by
  have e : m' = m := by rw [hm, hp _ (first_mem hk hk0), rw_len]
  subst e
  refine ⟨rfl, flatM_congr fun i hi j hj => ?_⟩
  have h1 : mm k X (fstM k n g) i j = mm k X (mm k (fun i => cod k (((hand n g).take k).getD i 0)) p) i j := Mx.mm_congr (fun _ _ => rfl) fun l hl => by
    unfold fstM
    rw [hp _ (first_mem hk hl)]
    have := rw_get (f := mm k (cod k) p (((hand n g).take k).getD l 0)) hj
    rw [List.getD_eq_getElem?_getD, this]
    rfl
  rw [h1, ← Mx.mm_assoc]
  rw [Mx.mm_congr (a' := dl) (b' := p) (fun l hl => hX i hi l hl) (fun _ _ => rfl), Mx.one_mm _ _ hi]
theorem rw_of' (l : List UInt8) : rw l.length (fun j => l.getD j 0) = l := Mx.rw_of l
theorem int_take (l : List Nat) (k : Nat) : (l.map nvI).take k = (l.take k).map nvI := by rw [List.map_take]
set_option maxHeartbeats 4000000 in
set_option maxRecDepth 100000 in
theorem told_any (k f n : Nat) (v va : Value) (g : Nat → List UInt8) (w : World) (h : isShN k f) (hn : k + 2 * f = n) (hr : RdM w w.heap.size v n g) (ha : Rd w w.heap.size va ((hand n g).map nvI))
    (hk : k ≤ (hand n g).length) (hg : ∀ i, i < n → (g i).length ≤ 1000) :
    Calls Try.prog 43 #[shp k f, v, va] w fun e w' => (∃ (s : ByteArray) (ok : Bool), e = .returned (.tuple #[.string s, .bool ok]) ∧ Tells k n g s ok) ∧ Below w.heap.size w w' := by
  have hk1 := h.1
  have hk2 := h.2
  have hhl := hand_len n g
  have hnx : ∀ j (hj : j < (hand n g).length), (hand n g)[j] < n := fun j hj => (hand_mem.1 (List.getElem_mem hj)).1
  have hI := InBox.new w k f
  have hb : Below w.heap.size w (w.alloc (.cells #[.int .i64 k, .int .i64 f] 23)) := bwalloc (Below.refl _ _) _
  obtain ⟨A2, c2, rfl, hc2, hm2⟩ := ha.shapeM
  unfold maxLen at hm2
  generalize hw0 : w.alloc (.cells #[.int .i64 k, .int .i64 f] 23) = w0 at *
  have hr0 := hr.up hb
  have ha0 := ha.up hb
  clear hr ha
  go_enter Try.func43, Try.ntmps43
  go_wp2_with (refine boxH rfl (.tmp 0) k f rfl rfl ?_)
  constructor
  go_wp2_with fail
  refine (rows_ok _ _ n g (hand n g) _ hr0 ha0 hnx (by omega) (fun i hi => Nat.le_trans (hg i hi) (by omega))).mono ?_
  rintro e w1 ⟨⟨x, vs, rfl, hx⟩, hb1⟩
  have hx1 := hx.rd
  go_wp2_with fail
  refine (right_any _ _ _ _ _ hx1).mono ?_
  rintro e w1' ⟨rfl, rfl⟩
  have hbb := bwstep hb hb1
  have hI1 := hI.below hb1
  have hr1 := hr0.up hb1
  have ha1 := ha0.up hb1
  clear hb hb1 hI hr0 ha0 hx hx1 hw0
  by_cases hR : isR (hand n g).length (fun i => g ((hand n g).getD i 0)) = true
  · rw [hR]
    have hRo := isR_out hR
    have hP := first_places hk
    have hcut := ha1.cutTo (hi := k) hk
    rw [int_take] at hcut
    have c0 := hI1.c0
    have c1 := hI1.c1
    have S0 : InBox w.heap.size k f w1.drew ∧ w1.drew.cell? ⟨w.heap.size, 0, none⟩ = some (.int .i64 (k : Int)) ∧ w1.drew.cell? ⟨w.heap.size, 1, none⟩ = some (.int .i64 (f : Int)) ∧ Below w1.heap.size w1 w1.drew := ⟨hI1, hI1.c0, hI1.c1, (Below.refl _ _).drew⟩
    have HU : Hid (∀ a b : World, (InBox w.heap.size k f a ∧ a.cell? ⟨w.heap.size, 0, none⟩ = some (.int .i64 (k : Int)) ∧ a.cell? ⟨w.heap.size, 1, none⟩ = some (.int .i64 (f : Int)) ∧ Below w1.heap.size w1 a) → Below a.heap.size a b → (InBox w.heap.size k f b ∧ b.cell? ⟨w.heap.size, 0, none⟩ = some (.int .i64 (k : Int)) ∧ b.cell? ⟨w.heap.size, 1, none⟩ = some (.int .i64 (f : Int)) ∧ Below w1.heap.size w1 b)) :=
      Lib.hid fun a b hS hb => ⟨hS.1.below hb, (hS.1.below hb).c0, (hS.1.below hb).c1, bwstep hS.2.2.2 hb⟩
    have HT := Lib.hid S0
    have hkc : k ≤ c2 := by omega
    have hfl : ∀ j (hj : j < ((hand n g).take k).length), ((hand n g).take k)[j] < n := fun j hj => hP.lt _ (List.getElem_mem hj)
    have hgl : ∀ i, i < n → (rw k (cod k i)).length ≤ 140737488355328 := fun i _ => by rw [rw_len]; omega
    have hfl1 : ((hand n g).take k).length = k := hP.len
    clear S0 hR hI1
    go_wp2_with fail
    go_region_held3 (fun w' => InBox w.heap.size k f w' ∧ w'.cell? ⟨w.heap.size, 0, none⟩ = some (.int .i64 (k : Int)) ∧ w'.cell? ⟨w.heap.size, 1, none⟩ = some (.int .i64 (f : Int)) ∧ Below w1.heap.size w1 w') (first | exact HT.out | assumption | exact HU.out _ _ (by assumption) (by assumption))
      (first
        | (refine wp_loadS (.tmp 3) rfl rfl (And.left (by assumption)) ?_)
        | (go_at_call 13; refine (shpN_ok k f n _ h hn).mono ?_; rintro e wn ⟨rfl, hbn⟩)
        | (go_at_call 25; refine (coding_any k n _ hk1 (by omega) (by omega)).mono ?_; rintro e wx ⟨⟨x, vx, rfl, hx⟩, hbx⟩)
        | (go_at_call 49; refine (rows_ok _ _ n _ ((hand n g).take k) _ hx.rd (hcut.up (And.right (And.right (And.right (by assumption))))) hfl (by omega) hgl).mono ?_; rintro e wy ⟨⟨y, vy, rfl, hy⟩, hby⟩; rw [hfl1] at hy)
        | (go_at_call 50; refine (invert_cod _ k n ((hand n g).take k) _ hP (by omega) hk1 (by omega) hy.rd).mono ?_; rintro e wz ⟨⟨z, vz, X, rfl, hz, hX⟩, hbz⟩))
    have hb9 : Below w1.heap.size w1 wz := And.right (And.right (And.right (by assumption)))
    have hz1 := hz.rd
    have hr2 := hr1.up hb9
    have hcut2 := hcut.up hb9
    have hbb2 := bwstep hbb hb9
    clear hr1 hcut hb9 hz hx hy hbn hbx hby hbz HU HT
    go_wp2_with fail
    refine (rows_ok _ _ n g ((hand n g).take k) _ hr2 hcut2 hfl (by omega) (fun i hi => Nat.le_trans (hg i hi) (by omega))).mono ?_
    rintro e w2 ⟨⟨y, vy, rfl, hy⟩, hb2⟩
    rw [hfl1] at hy
    obtain ⟨m, hm⟩ : ∃ m, m = (g (((hand n g).take k).getD 0 0)).length := ⟨_, rfl⟩
    have hlen : ∀ i, i < k → (g (((hand n g).take k).getD i 0)).length = m := fun i hi => by
      have e1 : ∀ j, j < k → ((hand n g).take k).getD j 0 = (hand n g).getD j 0 := fun j hj => by
        rw [List.getD_eq_getElem?_getD, List.getD_eq_getElem?_getD, List.getElem?_take, if_pos hj]
      rw [hm, e1 i hi, e1 0 (by omega)]
      exact hRo.2.2 i (by omega)
    have hm0 : 0 < m := by
      have := hlen 0 (by omega)
      have h9 := (hand_mem.1 (first_mem (g := g) hk (show 0 < k by omega))).2
      omega
    have hm1 : m ≤ 1000 := by
      have h9 := (hand_mem.1 (first_mem (g := g) hk (show 0 < k by omega))).1
      have := hg _ h9
      omega
    have hy1 : RdM w2 w2.heap.size y k (fun i => rw m (fstM k n g i)) := hy.rd.congr fun i hi => by
      have := rw_of' (g (((hand n g).take k).getD i 0))
      rw [hlen i hi] at this
      exact this.symm
    have hz2 := hz1.up hb2
    have hbb3 := bwstep hbb2 hb2
    clear hz1 hy hr2 hcut2 hb2 hbb2
    go_wp2_with fail
    refine (mmul_any _ _ k k m X (fstM k n g) _ hz2 hy1 (by omega) (by omega) hm0 (by omega) (by omega)).mono ?_
    rintro e w3 ⟨⟨u, vu, rfl, hu⟩, hb3⟩
    have hbb4 := bwstep hbb3 hb3
    go_wp2_with fail
    refine (concat_any _ k m (mm k X (fstM k n g)) _ hu.rd (by omega) hm0 (by omega) hm1).mono ?_
    rintro e w4 ⟨⟨t, rfl, ht⟩, hb4⟩
    have hbb5 := bwstep hbb4 hb4
    have ht1 := ht.rd
    have HS : Hid (∀ (s : ByteArray) (ok : Bool), (textOk (flatM k m (mm k X (fstM k n g))) → ok = true ∧ s = ⟨(textOf (flatM k m (mm k X (fstM k n g)))).toArray⟩) → Tells k n g s ok) := Lib.hid fun s ok hs m' p hm' hp hok => by
      obtain ⟨e1, e2⟩ := tells_yes hk1 hk hm hX hp
      rw [e2] at hok ⊢
      exact hs hok
    have hfl2 : (flatM k m (mm k X (fstM k n g))).length ≤ 1000000000000 := by
      rw [flatM_len]
      exact Nat.le_trans (Nat.mul_le_mul (show k ≤ 7 by omega) hm1) (by omega)
    generalize flatM k m (mm k X (fstM k n g)) = L at *
    clear hb3 hb4 hu ht hz2 hy1 hX hbb3 hbb4
    by_cases hok : textOk L
    · go_wp2_with fail
      refine (cutText_ok _ L _ _ ht1 hok hfl2).mono ?_
      rintro e w5 ⟨r, rfl, -, hb5⟩
      have HS2 := Lib.hid (HS.out _ true fun _ => ⟨rfl, rfl⟩)
      go_wp2_with fail
      go_ret2
      exact ⟨⟨_, _, rfl, HS2.out⟩, bwstep hbb5 hb5⟩
    · go_wp2_with fail
      refine (cutText_no _ L _ _ ht1 hok).mono ?_
      rintro e w5 ⟨r, rfl, -, hb5⟩
      have HS2 := Lib.hid (HS.out ⟨#[]⟩ false fun h => absurd h hok)
      go_wp2_with fail
      go_ret2
      exact ⟨⟨_, _, rfl, HS2.out⟩, bwstep hbb5 hb5⟩
  · have hR' : isR (hand n g).length (fun i => g ((hand n g).getD i 0)) = false := by simpa using hR
    rw [hR']
    have HT : Hid (Tells k n g ⟨#[]⟩ false) := Lib.hid (tells_no hk1 hk hR' _ _)
    clear hR hR'
    go_wp2_with fail
    go_ret2
    exact ⟨⟨_, _, rfl, HT.out⟩, hbb⟩
end Go.Proofs.Ytfnenehiapibiaa
