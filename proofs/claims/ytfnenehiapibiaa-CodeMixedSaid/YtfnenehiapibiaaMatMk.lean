/- The contract of zeros: a matrix of new memory. The contracts of turn, and of bytes.Clone. The contracts of One and Coding. The contract of Rows. -/
import Derived.Test.YtfnenehiapibiaaSl
import Derived.Test.YtfnenehiapibiaaBase
import Derived.Test.YtfnenehiapibiaaFldAll
import Derived.Test.YtfnenehiapibiaaMatPl
import Derived.Lib.SliceRun
namespace Go.Proofs.Ytfnenehiapibiaa
open Go.RowKit
open Mx (rw rw_len rw_get rw_congr)

/-- 'make([][]byte, n)' -/
theorem wpList_makeM {ops : Array Oper} {rest : List Oper} {o : Oper} {a : Act} {w : World} {Q : Exit → Act → World → Prop} (hgd : o.guard = none) (l c : Operand)
    (ho : o.op = .makeSlice 25 l c) (n : Nat) {kl kc : IntKind} (hl : a.eval l = .int kl (n : Int)) (hc : a.eval c = .int kc (n : Int)) (hn : 24 * n ≤ 140737488355328)
    (h : ∀ w', OwM w' w.heap.size (.slice (some ⟨w.heap.size, 0, none⟩) n n) (fun _ => .slice none 0 0) n (fun _ => []) → Below w.heap.size w w' → wpList Try.prog ops Q rest (a.put o.dst (.slice (some ⟨w.heap.size, 0, none⟩) n n)) w') :
    wpList Try.prog ops Q (o :: rest) a w := by
  obtain ⟨i, hi, hi0, hi1, hi2⟩ := info_parts rowsT.info
  refine wpList_make_full w hgd l c 25 ho w.heap.size 39 i (.slice none 0 0) 1 rowsT.ht hi hi0 hi1 kl kc _ _ n hl hc rfl rfl (by rw [hi2]; omega) (by simp [maxLen]; omega) (Nat.le_refl _) ?_
  intro w' hown hgr
  refine h w' ⟨?_, fun j _ => Ow.nil _ _ _, fun _ _ _ _ _ => Apart.nil _, fun _ _ => (Apart.nil _).symm⟩ ((Below.refl _ _).grown hgr (Nat.le_refl _) (by simp))
  have e1 : (madeCells (Value.slice none 0 0).cells (n * 1)).toList = (List.range n).map fun _ => .slice none 0 0 := by
    show (madeCells #[.slice none 0 0] (n * 1)).toList = _
    rw [madeCells_one, List.map_const', List.length_range]
  unfold Ow
  rw [e1] at hown
  simpa using hown
/-- zeros behind k rounds -/
def zrow (wd k i : Nat) : List UInt8 := if i < k then rw wd (fun _ => 0) else []
theorem zrow_step (wd k : Nat) : (fun i => if i = k then List.replicate wd (0 : UInt8) else zrow wd k i) = zrow wd (k + 1) := by
  funext i
  unfold zrow
  by_cases e : i = k
  · rw [if_pos e, if_pos (by omega), Mx.rw_zero]
  · rw [if_neg e]
    by_cases h : i < k
    · rw [if_pos h, if_pos (by omega)]
    · rw [if_neg h, if_neg (by omega)]
theorem zeros_step {w wr w2 : World} {n wd k : Nat} {vs : Nat → Value} {u : Value} (ho : OwM wr w.heap.size (.slice (some ⟨w.heap.size, 0, none⟩) n n) vs n (zrow wd k)) (hk : k < n) (hb : Below w.heap.size w wr)
    (ho2 : Ow w2 wr.heap.size 5 u ((List.replicate wd (0 : UInt8)).map bv)) (hb2 : Below wr.heap.size wr w2) :
    w2.cell? ⟨w.heap.size, k, none⟩ = some (vs k) ∧ w2.frozen? ⟨w.heap.size, k, none⟩ = false ∧
      Hid ((∃ vs', OwM (w2.setCell ⟨w.heap.size, k, none⟩ u) w.heap.size (.slice (some ⟨w.heap.size, 0, none⟩) n n) vs' n (zrow wd (k + 1))) ∧ Below w.heap.size w (w2.setCell ⟨w.heap.size, k, none⟩ u)) := by
  obtain ⟨gb, hA, hgb, hgs, hgc, hgf, hput⟩ := ho.put_ hk hb2 ho2 hb.size
  have hA' : w.heap.size = gb := by injection hA with hA; injection hA
  subst hA'
  rw [zrow_step] at hput
  exact ⟨hgc, hgf, ⟨_, hput⟩, (bwstep hb hb2).setCell (Nat.le_refl _) _⟩
set_option maxHeartbeats 1000000 in
set_option maxRecDepth 100000 in
theorem zeros_any (n wd : Nat) (w : World) (hn : n ≤ 1000000000) (hwd : wd ≤ 140737488355328) :
    Calls Try.prog 33 #[.int .i64 (n : Int), .int .i64 (wd : Int)] w fun e w' =>
      (∃ v vs, e = .returned v ∧ OwM w' w.heap.size v vs n (fun _ => rw wd fun _ => 0)) ∧ Below w.heap.size w w' := by
  go_enter Try.func33, Try.ntmps33
  go_wp2_with (refine wpList_makeM rfl (.tmp 7) (.tmp 7) rfl n rfl rfl (by omega) ?_; intro w1 ho hb)
  go_loopw [6, 11] (fun _ i wr => ∃ k : Nat, k ≤ n ∧ i = .int .i64 k ∧ (∃ vs, OwM wr w.heap.size (.slice (some ⟨w.heap.size, 0, none⟩) n n) vs n (zrow wd k)) ∧ Below w.heap.size w wr) (fun _ i _ => n - (intOf i).toNat)
  case atStart => exact ⟨0, by omega, rfl, ⟨_, ho⟩, hb⟩
  case round =>
    clear ho hb
    obtain ⟨k, hk, rfl, ⟨vs, ho⟩, hb⟩ := hrel
    by_cases hlt : k < n
    · go_wp2_with (refine wpList_makeB bytesT rfl (.tmp 16) (.tmp 16) rfl wd rfl rfl hwd ?_; intro w2 ho2 hb2; obtain ⟨hgc, hgf, HP⟩ := zeros_step ho hlt hb ho2 hb2; clear ho ho2 hb hb2)
      go_roundw
      case rel => exact ⟨k + 1, by omega, by go_num, HP.out.1, HP.out.2⟩
      case measure => simp [intOf]; omega
    · obtain rfl : k = n := by omega
      have ho2 := ho.congr (g' := fun _ => rw wd fun _ => 0) (fun j hj => by unfold zrow; rw [if_pos hj])
      clear ho
      go_wp2_with fail
      go_ret
      exact ⟨⟨_, vs, rfl, ho2⟩, hb⟩
end Go.Proofs.Ytfnenehiapibiaa

namespace Go.Proofs.Ytfnenehiapibiaa
open Go.RowKit
open Mx (rw rw_len rw_get rw_congr)

theorem xor_b8 (a b : UInt8) : Value.int .u8 (bits .xor .u8 (a.toNat : Int) (b.toNat : Int)) = bv (a ^^^ b) := by
  rw [xor_n8 _ _ a.toNat_lt b.toNat_lt]
  unfold bv
  rw [UInt8.toNat_xor]
/-- a row turned by another behind k rounds -/
def trow (f f2 : Nat → UInt8) (k j : Nat) : UInt8 := if j < k then f j ^^^ f2 j else f j
theorem trow_zero (f f2 : Nat → UInt8) : trow f f2 0 = f := by funext j; unfold trow; rw [if_neg (by omega)]
theorem trow_at (f f2 : Nat → UInt8) (k : Nat) : trow f f2 k k = f k := by unfold trow; rw [if_neg (by omega)]
theorem trow_step (f f2 : Nat → UInt8) (k : Nat) : (fun j => if j = k then f k ^^^ f2 k else trow f f2 k j) = trow f f2 (k + 1) := by
  funext j
  unfold trow
  by_cases e : j = k
  · rw [if_pos e, if_pos (by omega), e]
  · rw [if_neg e]
    by_cases h : j < k
    · rw [if_pos h, if_pos (by omega)]
    · rw [if_neg h, if_neg (by omega)]
theorem Ow.atR {w : World} {B e k wd : Nat} {A : Option Addr} {m c : Nat} {f : Nat → UInt8} (h : Ow w B e (.slice A m c) ((rw wd f).map bv)) (hk : k < wd) :
    ∃ g, A = some ⟨g, 0, none⟩ ∧ B ≤ g ∧ g < w.heap.size ∧ w.cell? ⟨g, k, none⟩ = some (.int .u8 ((f k).toNat : Int)) ∧ w.frozen? ⟨g, k, none⟩ = false ∧
      ∀ u : UInt8, Ow (w.setCell ⟨g, k, none⟩ (bv u)) B e (.slice A m c) ((rw wd fun j => if j = k then u else f j).map bv) := by
  obtain ⟨g, hA, hgb, hgs, hgc, hgf, hset⟩ := h.at_ (k := k) (by rw [List.length_map, rw_len]; exact hk)
  refine ⟨g, hA, hgb, hgs, ?_, hgf, fun u => ?_⟩
  · rw [hgc]
    have := rw_get (f := f) hk
    rw [List.getElem?_eq_getElem (by rw [rw_len]; exact hk)] at this
    rw [List.getElem_map, Option.some.inj this]
    rfl
  · have := hset (bv u)
    rw [← List.map_set, Mx.rw_set] at this
    exact this
theorem turn_step {w wr : World} {B D e e' wd k : Nat} {A : Option Addr} {m c : Nat} {x : Value} {f f2 : Nat → UInt8} (ho : Ow wr B e (.slice A m c) ((rw wd (trow f f2 k)).map bv)) (hk : k < wd)
    (hg : w.grownBy wr (Value.slice A m c).ownBlock) (hx : Ow w D e' x ((rw wd f2).map bv)) (hap : Apart x (.slice A m c)) :
    ∃ g b off m' c', A = some ⟨g, 0, none⟩ ∧ x = .slice (some ⟨b, off, none⟩) m' c' ∧ wr.cell? ⟨b, off + k, none⟩ = some (.int .u8 ((f2 k).toNat : Int)) ∧ wr.cell? ⟨g, k, none⟩ = some (.int .u8 ((f k).toNat : Int)) ∧ wr.frozen? ⟨g, k, none⟩ = false ∧
      Hid (Ow (wr.setCell ⟨g, k, none⟩ (.int .u8 (bits .xor .u8 ((f k).toNat : Int) ((f2 k).toNat : Int)))) B e (.slice A m c) ((rw wd (trow f f2 (k + 1))).map bv) ∧
        w.grownBy (wr.setCell ⟨g, k, none⟩ (.int .u8 (bits .xor .u8 ((f k).toNat : Int) ((f2 k).toNat : Int)))) (Value.slice A m c).ownBlock) := by
  obtain ⟨g, hA, hgb, hgs, hgc, hgf, hset⟩ := ho.atR hk
  have hxr := (hx.kept hg hap).rd
  obtain ⟨A', c', hxe, _, _⟩ := hxr.shapeR
  subst hxe
  obtain ⟨b, off, hA', _, hc'⟩ := hxr.cellR (by omega)
  subst hA
  subst hA'
  refine ⟨g, b, off, wd, c', rfl, rfl, hc' k hk, ?_, hgf, ?_, ?_⟩
  · rw [hgc, trow_at]
  · rw [xor_b8, ← trow_step]
    exact hset _
  · exact hg.trans (grownBy_setCell wr g k _)
set_option maxHeartbeats 1000000 in
set_option maxRecDepth 100000 in
theorem turn_any (v x : Value) (B D e wd : Nat) (f f2 : Nat → UInt8) (w : World) (ho : Ow w B e v ((rw wd f).map bv)) (hx : Ow w D 5 x ((rw wd f2).map bv)) (hap : Apart x v) :
    Calls Try.prog 34 #[v, x] w fun r w' => r = .returned (.tuple #[]) ∧ Ow w' B e v ((rw wd fun j => f j ^^^ f2 j).map bv) ∧ w.grownBy w' v.ownBlock := by
  obtain ⟨A, c, rfl, hc, hm⟩ := ho.rd.shapeR
  obtain ⟨A', c', hxe, hc', hm'⟩ := hx.rd.shapeR
  unfold maxLen at hm hm'
  go_enter Try.func34, Try.ntmps34
  rw [hxe]
  go_wp2_with fail
  go_loopw [4, 5, 8] (fun _ _ i wr => ∃ k : Nat, k ≤ wd ∧ i = .int .i64 k ∧ Ow wr B e (.slice A wd c) ((rw wd (trow f f2 k)).map bv) ∧ w.grownBy wr (Value.slice A wd c).ownBlock) (fun _ _ i _ => wd - (intOf i).toNat)
  case atStart => exact ⟨0, by omega, rfl, by rw [trow_zero]; exact ho, World.grownBy.refl _ _⟩
  case round =>
    obtain ⟨k, hk, rfl, hor, hg⟩ := hrel
    by_cases hlt : k < wd
    · obtain ⟨g, b, off, m2, c2, rfl, hxe2, hcx, hcv, hfz, HS⟩ := turn_step hor hlt hg hx hap
      rw [hxe] at hxe2
      injection hxe2 with h1 h2 h3
      subst h1
      clear hor hg ho hx h2 h3
      go_wp2_with fail
      go_roundw
      case rel => exact ⟨k + 1, by omega, by go_num, HS.out.1, HS.out.2⟩
      case measure => simp [intOf]; omega
    · obtain rfl : k = wd := by omega
      have ho2 : Ow wr B e (.slice A k c) ((rw k fun j => f j ^^^ f2 j).map bv) := by
        rw [← rw_congr (f := trow f f2 k) (fun j hj => by unfold trow; rw [if_pos hj])]
        exact hor
      clear hor ho hx
      go_wp2_with fail
      go_end0
      exact ⟨rfl, ho2, hg⟩
set_option maxHeartbeats 1000000 in
set_option maxRecDepth 100000 in
/-- bytes.Clone -/
theorem clone_any (v : Value) (l : List UInt8) (w : World) (hr : Rd w w.heap.size v (l.map bv)) (hl : l.length ≤ 140737488355328) :
    Calls Try.prog 55 #[v] w fun e w' => (∃ x, e = .returned x ∧ Ow w' w.heap.size 5 x (l.map bv)) ∧ Below w.heap.size w w' := by
  have q := fun (w : World) (a : Option Addr) (n c n' c' : Nat) => Lib.run_eql_slice_nil (P := Try.prog) w 39 5 a n c n' c' Try.underlying39
  obtain ⟨A, c, rfl, hc, hm⟩ := hr.shapeM
  cases A with
  | none =>
    have h0 : l = [] := by
      cases l with
      | nil => rfl
      | cons x l =>
        obtain ⟨b, off, hA, _⟩ := hr.cellM (by simp)
        cases hA
    subst h0
    clear hr
    go_enter Try.func55, Try.ntmps55
    go_wp2_with fail
    go_ret
    exact ⟨⟨_, rfl, Ow.nilB _ _ _⟩, Below.refl _ _⟩
  | some a =>
    go_enter Try.func55, Try.ntmps55
    go_wp2_with (at_builtin; refine wpList_appB bytesT rfl (.tmp 5) (.tmp 6) rfl rfl (Ow.empty w (Nat.le_refl _) 5) rfl (hr.below (bwalloc (Below.refl _ _) _)) (by simpa using hl) (by simp) ?_; intro v' w' ho hg _)
    go_ret
    exact ⟨⟨_, rfl, by simpa using ho⟩, Ow.emptyG hg⟩
end Go.Proofs.Ytfnenehiapibiaa

namespace Go.Proofs.Ytfnenehiapibiaa
open Go.RowKit
open Mx (rw rw_len rw_get rw_congr dl cod)

/-- one element turned to u -/
def upd (f : Mx.M) (i k : Nat) (u : UInt8) : Mx.M := fun i' j => if i' = i ∧ j = k then u else f i' j
/-- an element of an owned matrix: read, and written -/
theorem OwM.at_ {w : World} {B n m c i k wd : Nat} {A : Option Addr} {vs : Nat → Value} {f : Mx.M} (h : OwM w B (.slice A m c) vs n (fun i => rw wd (f i))) (hi : i < n) (hk : k < wd) :
    ∃ gb g c', A = some ⟨gb, 0, none⟩ ∧ vs i = .slice (some ⟨g, 0, none⟩) wd c' ∧ w.cell? ⟨gb, i, none⟩ = some (.slice (some ⟨g, 0, none⟩) wd c') ∧ wd ≤ c' ∧ c' ≤ maxLen ∧ B ≤ g ∧ g < w.heap.size ∧
      w.cell? ⟨g, k, none⟩ = some (.int .u8 ((f i k).toNat : Int)) ∧ w.frozen? ⟨g, k, none⟩ = false ∧ ∀ u : UInt8, OwM (w.setCell ⟨g, k, none⟩ (bv u)) B (.slice A m c) vs n (fun i' => rw wd (upd f i k u i')) := by
  obtain ⟨gb, hA, hgb, hgs, hgc, hgf, hset⟩ := h.out.at_ (k := i) (by simpa using hi)
  have hr := h.row i hi
  obtain ⟨A', c', hv, h1, h2⟩ := hr.rd.shapeR
  rw [hv] at hr
  obtain ⟨g, hA', hg1, hg2, hc2, hf2, hset2⟩ := hr.atR hk
  subst hA'
  refine ⟨gb, g, c', hA, hv, by rw [hgc]; simp [hv], h1, h2, hg1, hg2, hc2, hf2, fun u => ?_⟩
  have hgk := grownBy_setCell w g k (bv u)
  have := h.setRow (j := i) (w' := w.setCell ⟨g, k, none⟩ (bv u)) hi (by rw [hv]; exact hgk) (by rw [hv]; exact hset2 u)
  refine this.congr fun i' _ => ?_
  by_cases e : i' = i
  · subst e
    rw [if_pos rfl]
    exact rw_congr fun j _ => by unfold upd; simp
  · rw [if_neg e]
    exact rw_congr fun j _ => by unfold upd; rw [if_neg (fun h => e h.1)]
/-- One behind k rounds -/
def orow (k : Nat) : Mx.M := fun i j => if i < k then dl i j else 0
theorem orow_step (k : Nat) : upd (orow k) k k 1 = orow (k + 1) := by
  funext i j
  unfold upd orow
  by_cases h1 : i = k
  · subst h1
    rw [if_pos (show i < i + 1 by omega)]
    by_cases h2 : j = i
    · subst h2; rw [if_pos ⟨rfl, rfl⟩, Mx.dl_self]
    · rw [if_neg (fun h => h2 h.2), if_neg (by omega), Mx.dl_ne (fun h => h2 h.symm)]
  · rw [if_neg (fun h => h1 h.1)]
    by_cases h2 : i < k
    · rw [if_pos h2, if_pos (by omega)]
    · rw [if_neg h2, if_neg (by omega)]
theorem bv_one : bv 1 = .int .u8 1 := rfl
/-- the coding behind i rows and j elements -/
def cst (k i j : Nat) : Mx.M := fun i' j' => if i' < i ∨ i' = i ∧ j' < j then cod k i' j' else 0
theorem cst_step (k i j : Nat) : upd (cst k i j) i j (cod k i j) = cst k i (j + 1) := by
  funext i' j'
  unfold upd cst
  by_cases e : i' = i ∧ j' = j
  · rw [if_pos e, if_pos (.inr ⟨e.1, by omega⟩), e.1, e.2]
  · rw [if_neg e]
    by_cases h : i' < i ∨ i' = i ∧ j' < j
    · rw [if_pos h, if_pos (by omega)]
    · rw [if_neg h, if_neg (by omega)]
theorem cst_next (k i : Nat) (i' j' : Nat) (hj : j' < k) : cst k i k i' j' = cst k (i + 1) 0 i' j' := by
  unfold cst
  by_cases h : i' < i ∨ i' = i ∧ j' < k
  · rw [if_pos h, if_pos (by omega)]
  · rw [if_neg h, if_neg (by omega)]
theorem cst_unit (k i : Nat) (hi : i < k) : upd (cst k i 0) i i 1 = cst k (i + 1) 0 := by
  funext i' j'
  unfold upd cst
  by_cases e : i' = i
  · subst e
    have hc : cod k i' j' = dl i' j' := by unfold cod; rw [if_pos hi]
    rw [if_pos (show i' < i' + 1 ∨ _ from .inl (by omega)), hc]
    by_cases e2 : j' = i'
    · subst e2; rw [if_pos ⟨rfl, rfl⟩, Mx.dl_self]
    · rw [if_neg (fun h => e2 h.2), if_neg (by omega), Mx.dl_ne (fun h => e2 h.symm)]
  · rw [if_neg (fun h => e h.1)]
    by_cases h : i' < i
    · rw [if_pos (.inl h), if_pos (.inl (by omega))]
    · rw [if_neg (by omega), if_neg (by omega)]
theorem byte_xor (i j : Nat) (hi : i < 256) (hj : j < 256) : bits .xor .i64 (i : Int) (j : Int) % 256 = ((i ^^^ j : Nat) : Int) := by
  have hx : i ^^^ j < 256 := Gf.xor_lt hi hj
  rw [xor_i64 i j (by omega) (by omega)]
  omega
theorem cod_val (k i j : Nat) (hi : ¬ i < k) (h : i < 256) (hj : j < 256) : ((Gf.inv (i ^^^ j) : Nat) : Int) = ((cod k i j).toNat : Int) := by
  have hx : i ^^^ j < 256 := Gf.xor_lt h hj
  unfold cod
  rw [if_neg hi, Mx.fi_nat, Mx.ofNat_nat hx]
set_option maxHeartbeats 2000000 in
set_option maxRecDepth 100000 in
theorem coding_any (k n : Nat) (w : World) (h1 : 1 ≤ k) (h2 : k ≤ n) (h3 : n ≤ 200) :
    Calls Try.prog 25 #[.int .i64 (k : Int), .int .i64 (n : Int)] w fun e w' => (∃ v vs, e = .returned v ∧ OwM w' w.heap.size v vs n (fun i => rw k (cod k i))) ∧ Below w.heap.size w w' := by
  have t1 : ¬ (k : Int) < 1 := by omega
  have t2 : ¬ (n : Int) < k := by omega
  have t3 : ¬ (200 : Int) < n := by omega
  go_enter Try.func25, Try.ntmps25
  go_wp2_with fail
  refine (new_any _).mono ?_
  rintro e w1 ⟨⟨p, rfl, hp, hf⟩, hb1⟩
  go_wp2_with fail
  refine (zeros_any n k _ (by omega) (by omega)).mono ?_
  rintro e w2 ⟨⟨v, vs, rfl, ho⟩, hb2⟩
  obtain ⟨A, c, rfl, hc, hm⟩ := ho.rd.shape
  unfold maxLen at hm
  clear hp
  go_wp2_with fail
  go_loopw [7, 8, 9, 27] (fun _ _ _ i wr => ∃ k' : Nat, k' ≤ n ∧ i = .int .i64 k' ∧ OwM wr w1.heap.size (.slice A n c) vs n (fun i => rw k (cst k k' 0 i)) ∧ Below w1.heap.size w1 wr) (fun _ _ _ i _ => n - (intOf i).toNat)
  case atStart => exact ⟨0, by omega, rfl, ho.congr (fun i _ => rw_congr fun j _ => by unfold cst; rw [if_neg (by omega)]), hb2⟩
  case round =>
    clear ho hb2
    obtain ⟨i, hi, rfl, ho, hb⟩ := hrel
    by_cases hlt : i < n
    · by_cases hik : i < k
      · obtain ⟨gb, g, c', rfl, hv, hcell, h1c, h2c, hBg, hgs, hcv, hfz, hset⟩ := ho.at_ hlt hik
        have hs := hset 1
        rw [cst_unit k i hik, bv_one] at hs
        have HS := Lib.hid hs
        have HB := Lib.hid (hb.setCell (p := ⟨g, i, none⟩) hBg (.int .u8 1))
        clear hset hs ho hb hv
        go_wp2_with fail
        go_roundw
        case rel => exact ⟨i + 1, by omega, by go_num, HS.out, HB.out⟩
        case measure => simp [intOf]; omega
      · obtain ⟨gb, g, c', rfl, hv, hcell, h1c, h2c, hBg, hgs, hcv, hfz, hset⟩ := ho.at_ (k := 0) hlt (by omega)
        unfold maxLen at h2c
        clear hset hcv hfz
        go_wp2_with fail
        go_loopw [9, 40] (fun _ j wr => ∃ j' : Nat, j' ≤ k ∧ j = .int .i64 j' ∧ OwM wr w1.heap.size (.slice (some ⟨gb, 0, none⟩) n c) vs n (fun i' => rw k (cst k i j' i')) ∧ Below w1.heap.size w1 wr) (fun _ j _ => k - (intOf j).toNat)
        case atStart => exact ⟨0, by omega, rfl, ho, hb⟩
        case round =>
          clear ho hb hcell
          obtain ⟨j, hj, rfl, ho, hb⟩ := hrel
          by_cases hjl : j < k
          · obtain ⟨gb', g', c2, hA, hv', -, -, -, -, -, hcv, hfz, hset⟩ := ho.at_ hlt hjl
            rw [hv] at hv'
            injection hv' with q1 q2 q3
            injection q1 with q1
            injection q1 with q1
            subst q1
            have hs := hset (cod k i j)
            rw [cst_step] at hs
            have HX := Lib.hid (cod_val k i j hik (by omega) (by omega))
            have hx : i ^^^ j < 256 := Gf.xor_lt (by omega) (by omega)
            have HS := Lib.hid hs
            have HB := Lib.hid (hb.setCell (p := ⟨g, j, none⟩) hBg (bv (cod k i j)))
            have hfw := hf.below hb
            have HW := Lib.hid (byte_xor i j (by omega) (by omega))
            clear hset hs ho hb hA q2 q3
            go_wp2_with fail
            rw [HW.out]
            refine (inv_any p (i ^^^ j) _ hfw hx).mono ?_
            rintro e w3 ⟨rfl, m, rfl⟩
            go_wp2_with fail
            go_roundw
            case rel => exact ⟨j + 1, by omega, by go_num, by rw [HX.out]; exact HS.out.below (bwN m), by rw [HX.out]; exact below_drewN HB.out m⟩
            case measure => simp [intOf]; omega
          · obtain rfl : j = k := by omega
            have HO := Lib.hid (ho.congr (g' := fun i' => rw j (cst j (i + 1) 0 i')) (fun i' _ => rw_congr fun j' hj' => cst_next j i i' j' hj'))
            clear ho
            go_wp2_with fail
            go_roundw
            case rel => exact ⟨i + 1, by omega, by go_num, HO.out, hb⟩
            case measure => simp [intOf]; omega
    · obtain rfl : i = n := by omega
      have ho2 := ho.congr (g' := fun i => rw k (cod k i)) (fun i hi => rw_congr fun j _ => by unfold cst; rw [if_pos (.inl hi)])
      clear ho
      go_wp2_with fail
      go_ret
      exact ⟨⟨_, vs, rfl, ho2.mono hb1.size⟩, bwstep hb1 hb⟩
end Go.Proofs.Ytfnenehiapibiaa

namespace Go.Proofs.Ytfnenehiapibiaa
open Go.RowKit
open Mx (rw rw_len rw_get rw_congr dl cod)

/-- an int as a cell -/
def iv (n : Int) : Value := .int .i64 n
def nvI (n : Nat) : Value := .int .i64 (n : Int)
theorem one_iv (l : List Int) : One (l.map iv) := one_map _ (fun _ => rfl) l
/-- rows that are picked behind k rounds -/
def prow (g : Nat → List UInt8) (l : List Nat) (k i : Nat) : List UInt8 := if i < k then g (l.getD i 0) else []
theorem prow_step (g : Nat → List UInt8) (l : List Nat) (k : Nat) : (fun i => if i = k then g (l.getD k 0) else prow g l k i) = prow g l (k + 1) := by
  funext i
  unfold prow
  by_cases e : i = k
  · rw [if_pos e, if_pos (by omega), e]
  · rw [if_neg e]
    by_cases h : i < k
    · rw [if_pos h, if_pos (by omega)]
    · rw [if_neg h, if_neg (by omega)]
/-- a new row is stored into the outer slice, whose block is known -/
theorem OwM.put2 {w0 wr w2 : World} {B b n m c k : Nat} {vs : Nat → Value} {g : Nat → List UInt8} {u : Value} {l : List UInt8} (ho : OwM wr B (.slice (some ⟨b, 0, none⟩) m c) vs n g) (hk : k < n)
    (ho2 : Ow w2 wr.heap.size 5 u (l.map bv)) (hb2 : Below wr.heap.size wr w2) (hB : B ≤ wr.heap.size) (hbb : Below B w0 wr) :
    w2.cell? ⟨b, k, none⟩ = some (vs k) ∧ w2.frozen? ⟨b, k, none⟩ = false ∧
      Hid ((∃ vs', OwM (w2.setCell ⟨b, k, none⟩ u) B (.slice (some ⟨b, 0, none⟩) m c) vs' n (fun i => if i = k then l else g i)) ∧ Below B w0 (w2.setCell ⟨b, k, none⟩ u)) := by
  obtain ⟨gb, hA, hgb, hgs, hgc, hgf, hput⟩ := ho.put_ hk hb2 ho2 hB
  have hA' : b = gb := by injection hA with hA; injection hA
  subst hA'
  exact ⟨hgc, hgf, ⟨_, hput⟩, (hbb.trans (hb2.mono hB)).setCell hgb _⟩
set_option maxHeartbeats 2000000 in
set_option maxRecDepth 100000 in
theorem rows_ok (v va : Value) (n : Nat) (g : Nat → List UInt8) (l : List Nat) (w : World) (hr : RdM w w.heap.size v n g) (ha : Rd w w.heap.size va (l.map nvI)) (hl : ∀ k (h : k < l.length), l[k] < n)
    (hn : l.length ≤ 1000000000) (hg : ∀ i, i < n → (g i).length ≤ 140737488355328) :
    Calls Try.prog 49 #[v, va] w fun e w' => (∃ x vs, e = .returned x ∧ OwM w' w.heap.size x vs l.length (fun i => g (l.getD i 0))) ∧ Below w.heap.size w w' := by
  obtain ⟨A, c, rfl, hc, hm⟩ := hr.shape
  obtain ⟨A', c', rfl, hc', hm'⟩ := ha.shapeM
  unfold maxLen at hm hm'
  go_enter Try.func49, Try.ntmps49
  go_wp2_with fail
  go_loop [6, 12] (fun _ i => ∃ k : Nat, k ≤ l.length ∧ i = .int .i64 k) (fun _ i => l.length - (intOf i).toNat)
  case atStart => exact ⟨0, by omega, rfl⟩
  case round =>
    obtain ⟨k, hk, rfl⟩ := hrel
    by_cases hlt : k < l.length
    · obtain ⟨b, off, rfl, hb, hcell⟩ := ha.cellM (by omega)
      have hck := hcell k hlt
      have hlk := hl k hlt
      unfold nvI at hck
      clear hcell
      generalize l[k] = p at *
      have t1 : ¬ (p : Int) < 0 := by omega
      have t2 : ¬ (n : Int) ≤ (p : Int) := by omega
      go_wp2_with fail
      go_round
      case rel => exact ⟨k + 1, by omega, by go_num⟩
      case measure => simp [intOf]; omega
    · obtain rfl : k = l.length := by omega
      clear hlt hk
      go_wp2_with (refine wpList_makeM rfl (.tmp 26) (.tmp 26) rfl l.length rfl rfl (by omega) ?_; intro w1 ho hb)
      go_loopw [8, 9, 30] (fun _ _ i wr => ∃ k : Nat, k ≤ l.length ∧ i = .int .i64 k ∧ (∃ vs, OwM wr w.heap.size (.slice (some ⟨w.heap.size, 0, none⟩) l.length l.length) vs l.length (prow g l k)) ∧ Below w.heap.size w wr) (fun _ _ i _ => l.length - (intOf i).toNat)
      case atStart => exact ⟨0, by omega, rfl, ⟨_, ho⟩, hb⟩
      case round =>
        clear ho hb
        obtain ⟨k, hk, rfl, ⟨vs, ho⟩, hb⟩ := hrel
        by_cases hlt : k < l.length
        · obtain ⟨ba, offa, rfl, hba, hcella⟩ := (ha.up hb).cellM (by omega)
          have hck := hcella k hlt
          have hlk := hl k hlt
          have hgd : l.getD k 0 = l[k] := by simp [List.getD, hlt]
          unfold nvI at hck
          clear hcella
          generalize l[k] = p at *
          obtain ⟨b, off, rfl, hbb⟩ := hr.open_ (by omega)
          obtain ⟨A1, c1, hcell1, h1c, h1m, hr1⟩ := (hr.up hb).row hlk
          have hl1 := hg p hlk
          go_wp2_with fail
          refine (clone_any _ (g p) _ hr1 hl1).mono ?_
          rintro e w2 ⟨⟨x, rfl, ho2⟩, hb2⟩
          obtain ⟨hgc, hgf, HP⟩ := ho.put2 hlt ho2 hb2 hb.size hb
          rw [← hgd, prow_step] at HP
          obtain ⟨A2, c2, rfl, h2c, h2m⟩ := ho2.rd.shapeM
          clear ho ho2 hb hb2 hr1 hgd
          go_wp2_with fail
          go_roundw
          case rel => exact ⟨k + 1, by omega, by go_num, HP.out.1, HP.out.2⟩
          case measure => simp [intOf]; omega
        · obtain rfl : k = l.length := by omega
          have ho2 := ho.congr (g' := fun i => g (l.getD i 0)) (fun i hi => by unfold prow; rw [if_pos hi])
          clear ho
          go_wp2_with fail
          go_ret
          exact ⟨⟨_, vs, rfl, ho2⟩, hb⟩
set_option maxHeartbeats 1000000 in
set_option maxRecDepth 100000 in
theorem rows_no (v va : Value) (n : Nat) (g : Nat → List UInt8) (l : List Int) (B : Nat) (w : World) (hr : RdM w B v n g) (ha : Rd w w.heap.size va (l.map iv)) (hbad : ∃ k, ∃ h : k < l.length, ¬ (0 ≤ l[k] ∧ l[k] < n)) :
    Calls Try.prog 49 #[v, va] w fun e w' => e = .returned (.slice none 0 0) ∧ w = w' := by
  obtain ⟨A, c, rfl, hc, hm⟩ := hr.shape
  obtain ⟨A', c', rfl, hc', hm'⟩ := ha.shapeM
  unfold maxLen at hm hm'
  have HB := Lib.hid hbad
  clear hbad
  go_enter Try.func49, Try.ntmps49
  go_wp2_with fail
  go_loop [6, 12] (fun _ i => ∃ k : Nat, k ≤ l.length ∧ i = .int .i64 k ∧ Hid (∀ j, j < k → ∀ h : j < l.length, 0 ≤ l[j] ∧ l[j] < n)) (fun _ i => l.length - (intOf i).toNat)
  case atStart => exact ⟨0, by omega, rfl, fun j hj => by omega⟩
  case round =>
    obtain ⟨k, hk, rfl, hall⟩ := hrel
    by_cases hlt : k < l.length
    · obtain ⟨b, off, rfl, hb, hcell⟩ := ha.cellM (by omega)
      have hck := hcell k hlt
      unfold iv at hck
      clear hcell
      have HE : Hid (∀ p, p = l[k] → 0 ≤ p ∧ p < n → ∀ j, j < k + 1 → ∀ h : j < l.length, 0 ≤ l[j] ∧ l[j] < n) := fun p hp h j hj h' => by
        by_cases e : j = k
        · subst e; rw [← hp]; exact h
        · exact hall.out j (by omega) h'
      obtain ⟨p, hp⟩ : ∃ p, p = l[k] := ⟨_, rfl⟩
      have HE := Lib.hid (HE.out p hp)
      rw [← hp] at hck
      clear hp
      by_cases t1 : p < 0
      · go_wp2_with fail
        go_ret
        exact ⟨rfl, rfl⟩
      · by_cases t2 : (n : Int) ≤ p
        · go_wp2_with fail
          go_ret
          exact ⟨rfl, rfl⟩
        · go_wp2_with fail
          go_round
          case rel => exact ⟨k + 1, by omega, by go_num, HE.out ⟨by omega, by omega⟩⟩
          case measure => simp [intOf]; omega
    · exfalso
      obtain ⟨j, hj, hno⟩ := HB.out
      exact hno (hall.out j (by omega) hj)
end Go.Proofs.Ytfnenehiapibiaa
