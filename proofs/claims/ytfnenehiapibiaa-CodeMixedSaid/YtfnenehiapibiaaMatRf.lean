/- The contracts of the reference functions of layer 3: Mul, Inv. A slice of slices of bytes that is built by appends, its last row by appends too. Of no function in particular. The contract of the reference's product. The contract of the reference's coding. -/
import Derived.Test.YtfnenehiapibiaaFldAll
import Derived.Test.YtfnenehiapibiaaSl
import Derived.Test.YtfnenehiapibiaaMatPl
import Derived.IntWalk
import Derived.Deep.QuietTactic
import Derived.BigQuiet
namespace Go.Proofs.Ytfnenehiapibiaa
open Go.RowKit

/-- the reference's loop behind k rounds -/
structure St where
  x : Nat
  y : Nat
  o : Nat
def stp (s : St) : St := ⟨Gf.tw s.x, s.y / 2, if s.y % 2 = 1 then s.o ^^^ s.x else s.o⟩
def sts : Nat → St → St
  | 0, s => s
  | n + 1, s => stp (sts n s)
theorem sts_comm (n : Nat) (s : St) : sts n (stp s) = stp (sts n s) := by
  induction n with
  | zero => rfl
  | succ n ih => rw [sts, ih]; rfl
theorem gmL_sts (n : Nat) : ∀ s : St, Gf.gmL n s.x s.y s.o = (sts n s).o := by
  induction n with
  | zero => intro s; rfl
  | succ n ih =>
    intro s
    have := ih (stp s)
    rw [sts_comm] at this
    exact this
theorem sts_lt (n : Nat) (s : St) (hx : s.x < 256) (hy : s.y < 256) (ho : s.o < 256) : (sts n s).x < 256 ∧ (sts n s).y < 256 ∧ (sts n s).o < 256 := by
  induction n with
  | zero => exact ⟨hx, hy, ho⟩
  | succ n ih =>
    refine ⟨Gf.tw_lt ih.1, by show _ / 2 < 256; omega, ?_⟩
    show (if _ then _ else _) < 256
    split
    · exact Gf.xor_lt ih.2.2 ih.1
    · exact ih.2.2
theorem stp_x (s : St) : (stp s).x = Gf.tw s.x := rfl
theorem stp_y (s : St) : ((stp s).y : Int) = (s.y : Int) / 2 := rfl
theorem stp_odd (s : St) (h : ((s.y : Int) % 2 == 1) = true) (hx : s.x < 256) (ho : s.o < 256) : ((stp s).o : Int) = bits .xor .i64 (s.o : Int) (s.x : Int) := by
  rw [beq_iff_eq] at h
  rw [xor_i64 _ _ (by omega) (by omega)]
  show ((if _ then _ else _ : Nat) : Int) = _
  rw [if_pos (by omega)]
theorem stp_even (s : St) (h : ((s.y : Int) % 2 == 1) = false) : ((stp s).o : Int) = (s.o : Int) := by
  rw [beq_eq_false_iff_ne] at h
  show ((if _ then _ else _ : Nat) : Int) = _
  rw [if_neg (by omega)]
set_option maxHeartbeats 1000000 in
set_option maxRecDepth 100000 in
theorem rmul_any (x y : Nat) (w : World) (hx : x < 256) (hy : y < 256) :
    Calls Try.prog 40 #[.int .u8 (x : Int), .int .u8 (y : Int)] w fun e w' => e = .returned (.int .u8 (Gf.gm x y : Int)) ∧ w = w' := by
  have hgl := Gf.gm_lt y hx
  have HG := Lib.hid (gmL_sts 8 ⟨x, y, 0⟩)
  go_enter Try.func40, Try.ntmps40
  go_wp2_with fail
  go_loop [5, 6, 7, 8] (fun p q o i => ∃ k : Nat, k ≤ 8 ∧ i = .int .i64 k ∧ p = .int .i64 ((sts k ⟨x, y, 0⟩).x : Int) ∧ q = .int .i64 ((sts k ⟨x, y, 0⟩).y : Int) ∧ o = .int .i64 ((sts k ⟨x, y, 0⟩).o : Int)) (fun _ _ _ i => 8 - (intOf i).toNat)
  case atStart => exact ⟨0, by omega, rfl, rfl, rfl, rfl⟩
  case round =>
    obtain ⟨k, hk, rfl, rfl, rfl, rfl⟩ := hrel
    obtain ⟨l1, l2, l3⟩ := sts_lt k ⟨x, y, 0⟩ hx hy (by show 0 < 256; omega)
    by_cases hlt : k < 8
    · have HS : Hid (sts (k + 1) ⟨x, y, 0⟩ = stp (sts k ⟨x, y, 0⟩)) := Lib.hid rfl
      generalize sts k ⟨x, y, 0⟩ = s at *
      obtain ⟨sx, sy, so⟩ := s
      simp only at l1 l2 l3
      by_cases ho : ((sy : Int) % 2 == 1) = true
      all_goals (
        by_cases hb : 256 ≤ 2 * sx
        all_goals (
          go_wp2_with fail
          go_round
          case rel => exact ⟨k + 1, by omega, by go_num, vi (by rw [HS.out]; first | exact tw_big sx hb l1 | exact tw_small sx hb), vi (by rw [HS.out]; rfl), vi (by rw [HS.out]; first | exact (stp_odd ⟨sx, sy, so⟩ ho l1 l3).symm | exact (stp_even ⟨sx, sy, so⟩ (by simpa using ho)).symm)⟩
          case measure => simp [intOf]; omega))
    · obtain rfl : k = 8 := by omega
      have HG' : Hid ((sts 8 ⟨x, y, 0⟩).o = Gf.gm x y) := Lib.hid HG.out.symm
      clear HG
      generalize (sts 8 ⟨x, y, 0⟩).o = o at *
      go_wp2_with fail
      go_ret
      exact ⟨ret1 (vi (by have := HG'.out; omega)), rfl⟩
/-- no element below k, but 0, has x's product 1 -/
def NoInv (x k : Nat) : Prop := ∀ j, 1 ≤ j → j < k → Gf.gm x j ≠ 1
theorem NoInv.step {x k : Nat} (h : NoInv x k) (hk : ¬ Gf.gm x k = 1) : NoInv x (k + 1) := by
  intro j h1 h2
  by_cases e : j = k
  · subst e; exact hk
  · exact h j h1 (by omega)
theorem NoInv.all {x : Nat} (hx : x < 256) (h : NoInv x 256) : Gf.inv x = 0 := by
  by_cases h0 : x = 0
  · subst h0; rfl
  · exact absurd (Gf.gm_inv hx h0) (h _ (by have := Gf.inv_ne h0; omega) (Gf.inv_lt x))
set_option maxHeartbeats 1000000 in
set_option maxRecDepth 100000 in
theorem rinv_any (x : Nat) (w : World) (hx : x < 256) :
    Calls Try.prog 41 #[.int .u8 (x : Int)] w fun e w' => e = .returned (.int .u8 (Gf.inv x : Int)) ∧ w = w' := by
  go_enter Try.func41, Try.ntmps41
  go_wp2_with fail
  go_loop [3] (fun i => ∃ k : Nat, 1 ≤ k ∧ k ≤ 256 ∧ i = .int .i64 k ∧ NoInv x k) (fun i => 256 - (intOf i).toNat)
  case atStart => exact ⟨1, by omega, by omega, rfl, fun j h1 h2 => by omega⟩
  case round =>
    obtain ⟨k, hk1, hk, rfl, hn⟩ := hrel
    have HN := Lib.hid hn
    clear hn
    by_cases hlt : k < 256
    · have he : IntKind.u8.wrap (k : Int) = (k : Int) := by rw [IntKind.wrap_u8]; omega
      by_cases hg : Gf.gm x k = 1
      · have HI := Lib.hid (Gf.inv_of hx hlt hg)
        have hg' : ((Gf.gm x k : Int) == 1) = true := by rw [hg]; rfl
        clear hg
        go_wp2_with fail
        refine (rmul_any x k _ hx hlt).mono ?_
        rintro e w' ⟨rfl, rfl⟩
        go_wp2_with fail
        go_ret
        exact ⟨ret1 (vi (by have := HI.out; omega)), rfl⟩
      · have HM := Lib.hid (HN.out.step hg)
        have hg' : ((Gf.gm x k : Int) == 1) = false := by simp; omega
        clear hg
        go_wp2_with fail
        refine (rmul_any x k _ hx hlt).mono ?_
        rintro e w' ⟨rfl, rfl⟩
        go_wp2_with fail
        go_round
        case rel => exact ⟨k + 1, by omega, by omega, by go_num, HM.out⟩
        case measure => simp [intOf]; omega
    · obtain rfl : k = 256 := by omega
      have HZ := Lib.hid (NoInv.all hx HN.out)
      go_wp2_with fail
      go_ret
      exact ⟨ret1 (vi (by rw [HZ.out]; rfl)), rfl⟩
end Go.Proofs.Ytfnenehiapibiaa

namespace Go.Proofs.Ytfnenehiapibiaa
open Go.RowKit
open Mx (rw rw_len rw_get rw_congr)

/-- the outer slice and the row that is being built -/
structure Bld (w1 wr : World) (v : Value) (vs : Nat → Value) (n : Nat) (g : Nat → List UInt8) (u : Value) (l : List UInt8) : Prop where
  om : OwM wr w1.heap.size v vs n g
  ro : Ow wr w1.heap.size 5 u (l.map bv)
  ar : ∀ j, j < n → Apart u (vs j)
  ao : Apart u v
  bel : Below w1.heap.size w1 wr
section
variable {w1 wr w' : World} {v u : Value} {vs : Nat → Value} {n : Nat} {g : Nat → List UInt8} {l : List UInt8}
theorem Bld.start (w1 : World) (g : Nat → List UInt8) : Bld w1 w1 (.slice none 0 0) (fun _ => .slice none 0 0) 0 g (.slice none 0 0) [] :=
  ⟨OwM.nil _ _ _, Ow.nilB _ _ _, fun j hj => by omega, Apart.nil _, Below.refl _ _⟩
theorem Bld.fresh (h : OwM wr w1.heap.size v vs n g) (hb : Below w1.heap.size w1 wr) : Bld w1 wr v vs n g (.slice none 0 0) [] := ⟨h, Ow.nilB _ _ _, fun _ _ => Apart.nil _, Apart.nil _, hb⟩
theorem Bld.up (h : Bld w1 wr v vs n g u l) (hb : Below wr.heap.size wr w') : Bld w1 w' v vs n g u l := ⟨h.om.below hb, h.ro.below hb, h.ar, h.ao, bwstep h.bel hb⟩
theorem OwM.kept {B : Nat} {row : Option Nat} (h : OwM wr B v vs n g) (hg : wr.grownBy w' row) (ho : ∀ k, v.ownBlock = some k → row ≠ some k) (hr : ∀ j, j < n → ∀ k, (vs j).ownBlock = some k → row ≠ some k) : OwM w' B v vs n g :=
  ⟨h.out.kept hg ho, fun j hj => (h.row j hj).kept hg (hr j hj), h.ap, h.apo⟩
/-- the row has grown by an append: wa is the world in which the append began -/
theorem Bld.app {wa : World} {u' : Value} {l' : List UInt8} (h : Bld w1 wa v vs n g u l) (ho : Ow w' w1.heap.size 5 u' (l'.map bv)) (hg : wa.grownBy w' u.ownBlock)
    (h3 : u'.ownBlock = u.ownBlock ∨ u'.ownBlock = some wa.heap.size) : Bld w1 w' v vs n g u' l' := by
  refine ⟨h.om.kept hg (fun k hk e => h.ao k e hk) (fun j hj k hk e => h.ar j hj k e hk), ho, fun j hj k hk e => ?_, fun k hk e => ?_, h.bel.grown hg h.bel.size h.ro.ge⟩
  · rcases h3 with h3 | h3
    · exact h.ar j hj k (h3 ▸ hk) e
    · rw [h3] at hk
      injection hk with hk
      have := ((h.om.row j hj).lt k e).2
      omega
  · rcases h3 with h3 | h3
    · exact h.ao k (h3 ▸ hk) e
    · rw [h3] at hk
      injection hk with hk
      have := (h.om.out.lt k e).2
      omega
theorem map_push (n : Nat) (vs : Nat → Value) (u : Value) : (List.range n).map vs ++ [u] = (List.range (n + 1)).map fun i => if i = n then u else vs i := by
  rw [List.range_succ, List.map_append, List.map_singleton, if_pos rfl]
  congr 1
  exact List.map_congr_left fun i hi => by have := List.mem_range.1 hi; rw [if_neg (by omega)]
/-- the row is appended to the outer slice -/
theorem Bld.push {wa : World} {v' : Value} (h : Bld w1 wa v vs n g u l) (ho : Ow w' w1.heap.size 39 v' ((List.range n).map vs ++ [u])) (hg : wa.grownBy w' v.ownBlock)
    (h3 : v'.ownBlock = v.ownBlock ∨ v'.ownBlock = some wa.heap.size) : OwM w' w1.heap.size v' (fun i => if i = n then u else vs i) (n + 1) (fun i => if i = n then l else g i) ∧ Below w1.heap.size w1 w' := by
  rw [map_push] at ho
  have nv : ∀ x : Value, (∀ k, v.ownBlock = some k → x.ownBlock ≠ some k) → (∀ k, x.ownBlock = some k → k < wa.heap.size) → Apart v' x := fun x h1 h2 k hk e => by
    rcases h3 with h3 | h3
    · exact h1 k (h3 ▸ hk) e
    · rw [h3] at hk
      injection hk with hk
      have := h2 k e
      omega
  refine ⟨⟨ho, fun i hi => ?_, fun i j hi hj hne => ?_, fun i hi => ?_⟩, h.bel.grown hg h.bel.size h.om.out.ge⟩
  · by_cases e : i = n
    · simp only [if_pos e]
      exact h.ro.kept hg fun k hk e' => h.ao k hk e'
    · simp only [if_neg e]
      exact (h.om.row i (by omega)).kept hg fun k hk e' => h.om.apo i (by omega) k e' hk
  · by_cases e1 : i = n
    · by_cases e2 : j = n
      · omega
      · simp only [if_pos e1, if_neg e2]
        exact h.ar j (by omega)
    · by_cases e2 : j = n
      · simp only [if_pos e2, if_neg e1]
        exact (h.ar i (by omega)).symm
      · simp only [if_neg e1, if_neg e2]
        exact h.om.ap i j (by omega) (by omega) hne
  · by_cases e : i = n
    · simp only [if_pos e]
      exact nv u (fun k hk e' => h.ao k e' hk) fun k hk => (h.ro.lt k hk).2
    · simp only [if_neg e]
      exact nv (vs i) (fun k hk => h.om.apo i (by omega) k hk) fun k hk => ((h.om.row i (by omega)).lt k hk).2
end
/-- a slice of slices of bytes is one cell -/
theorem Ow.oneV {w : World} {B e : Nat} {v : Value} {xs : List Value} (h : Ow w B e v xs) : v.oneCell' = true := by
  obtain ⟨A, c, rfl, _, _⟩ := h.rd.shape
  rfl
theorem one_one {u : Value} (h : u.oneCell' = true) : One [u] := fun x hx => by rw [List.mem_singleton.1 hx]; exact h
end Go.Proofs.Ytfnenehiapibiaa

namespace Go.Proofs.Ytfnenehiapibiaa
open Go.RowKit
open Mx (rw rw_len rw_get rw_congr mm fm sm)

theorem rw_push {w : World} {B e k : Nat} {v : Value} {f : Nat → UInt8} (h : Ow w B e v ((rw k f ++ [f k]).map bv)) : Ow w B e v ((rw (k + 1) f).map bv) := by rw [Mx.rw_succ]; exact h
set_option maxHeartbeats 1000000 in
set_option maxRecDepth 100000 in
theorem rmmul_no (v v' : Value) (n q q' : Nat) (g : Nat → List UInt8) (a : Mx.M) (B D : Nat) (w : World) (ha : RdM w B v n (fun i => rw q (a i))) (hb : RdM w D v' q' g) (hn : 0 < n) (hne : q ≠ q') :
    Calls Try.prog 28 #[v, v'] w fun e w' => e = .returned (.slice none 0 0) ∧ w = w' := by
  obtain ⟨A, c, rfl, hc, hm⟩ := ha.shape
  obtain ⟨A', c', rfl, hc', hm'⟩ := hb.shape
  obtain ⟨ba, offa, rfl, hba⟩ := ha.open_ hn
  obtain ⟨A0, c0, hcell0, h0c, h0m, hr0⟩ := ha.rowT (j := 0) hn
  rw [Nat.add_zero] at hcell0
  have t : ((q : Int) != (q' : Int)) = true := bne_iff_ne.2 (fun e => hne (Int.ofNat.inj e))
  clear hne hr0 ha hb
  go_enter Try.func28, Try.ntmps28
  go_wp2_with fail
  go_ret
  exact ⟨rfl, rfl⟩
theorem sum_step (a b x : UInt8) : Value.int .u8 (bits .xor .u8 (x.toNat : Int) (Gf.gm a.toNat b.toNat : Int)) = .int .u8 (((x ^^^ fm a b).toNat : Nat) : Int) := by
  rw [xor_n8 _ _ x.toNat_lt (Gf.gm_lt _ a.toNat_lt), UInt8.toNat_xor, Mx.fm_nat]
theorem rmul_q (x y : UInt8) (w : World) (n : Nat) : Calls Try.prog 40 #[.int .u8 (x.toNat : Int), .int .u8 (y.toNat : Int)] (w.drewN n) fun e w'' => e = .returned (.int .u8 (Gf.gm x.toNat y.toNat : Int)) ∧ ∃ m, w'' = w.drewN m :=
  (rmul_any x.toNat y.toNat _ x.toNat_lt y.toNat_lt).mono fun _ _ h => ⟨h.1, n, h.2.symm⟩
set_option maxHeartbeats 4000000 in
set_option maxRecDepth 100000 in
theorem rmmul_any (v v' : Value) (n q r : Nat) (a b : Mx.M) (w : World) (ha : RdM w w.heap.size v n (fun i => rw q (a i))) (hb : RdM w w.heap.size v' q (fun i => rw r (b i))) (hn : 0 < n) (hq : 0 < q) (hr : 0 < r) (hn2 : n ≤ 1000000) (hr2 : r ≤ 1000000) :
    Calls Try.prog 28 #[v, v'] w fun e w' => (∃ x vs, e = .returned x ∧ OwM w' w.heap.size x vs n (fun i => rw r (mm q a b i))) ∧ Below w.heap.size w w' := by
  obtain ⟨A, c, rfl, hc, hm⟩ := ha.shape
  obtain ⟨A', c', rfl, hc', hm'⟩ := hb.shape
  unfold maxLen at hm hm'
  obtain ⟨ba, offa, rfl, hba⟩ := ha.open_ hn
  obtain ⟨bb, offb, rfl, hbb⟩ := hb.open_ hq
  obtain ⟨A0, c0, hcell0, h0c, h0m, hr0⟩ := ha.rowT (j := 0) hn
  obtain ⟨A1, c1, hcell1, h1c, h1m, hr1⟩ := hb.rowT (j := 0) hq
  rw [Nat.add_zero] at hcell0 hcell1
  clear hr0 hr1
  go_enter Try.func28, Try.ntmps28
  go_wp2_with fail
  clear hcell0
  go_loopw [5, 6, 7, 8, 9, 10] (fun o i _ _ _ _ wr => ∃ k : Nat, k ≤ n ∧ i = .int .i64 k ∧ (∃ vs, OwM wr w.heap.size o vs k (fun i => rw r (mm q a b i))) ∧ Below w.heap.size w wr) (fun _ i _ _ _ _ _ => n - (intOf i).toNat)
  case atStart => exact ⟨0, by omega, rfl, ⟨_, OwM.nil _ _ _⟩, Below.refl _ _⟩
  case round =>
    obtain ⟨i, hi, rfl, ⟨vs, ho⟩, hbw⟩ := hrel
    obtain ⟨Ao, co, rfl, hco, hmo⟩ := ho.rd.shape
    by_cases hlt : i < n
    · obtain ⟨A3, c3, hcell3, h3c, h3m, hr3⟩ := ha.rowT hlt
      obtain ⟨b3, off3, rfl, hb3, hc3⟩ := hr3.cellR hq
      have hB := Bld.fresh ho hbw
      clear ho hr3
      go_wp2_with fail
      go_loopw [7, 8, 9, 10] (fun u j _ _ wr => ∃ k : Nat, k ≤ r ∧ j = .int .i64 k ∧ Bld w wr (.slice Ao i co) vs i (fun i => rw r (mm q a b i)) u (rw k (mm q a b i))) (fun _ j _ _ _ => r - (intOf j).toNat)
      case atStart => exact ⟨0, by omega, rfl, hB⟩
      case round =>
        clear hB hbw
        obtain ⟨j, hj, rfl, hB⟩ := hrel
        have hcell1w := (hB.bel.cell (p := ⟨bb, offb, none⟩) hbb).trans hcell1
        by_cases hjl : j < r
        · go_wp2_with fail
          go_loopw [9, 10] (fun x l wr => ∃ k : Nat, k ≤ q ∧ l = .int .i64 k ∧ x = .int .u8 ((sm k fun l => fm (a i l) (b l j)).toNat : Int) ∧ Bld w wr (.slice Ao i co) vs i (fun i => rw r (mm q a b i)) u7 (rw j (mm q a b i))) (fun _ l _ => q - (intOf l).toNat)
          case atStart => exact ⟨0, by omega, rfl, rfl, hB⟩
          case round =>
            clear hB hcell1w
            obtain ⟨l, hl, rfl, rfl, hB⟩ := hrel
            by_cases hll : l < q
            · obtain ⟨A5, c5, hcell5, h5c, h5m, hr5⟩ := hb.rowT hll
              obtain ⟨b5, off5, rfl, hb5, hc5⟩ := hr5.cellR hr
              have k3 := (hB.bel.cell (p := ⟨ba, offa + i, none⟩) hba).trans hcell3
              have k4 := (hB.bel.cell (p := ⟨b3, off3 + l, none⟩) hb3).trans (hc3 l hll)
              have k5 := (hB.bel.cell (p := ⟨bb, offb + l, none⟩) hbb).trans hcell5
              have k6 := (hB.bel.cell (p := ⟨b5, off5 + j, none⟩) hb5).trans (hc5 j hjl)
              have HS := Lib.hid (sum_step (a i l) (b l j) (sm l fun l => fm (a i l) (b l j)))
              have HM : Hid (sm (l + 1) (fun l => fm (a i l) (b l j)) = (sm l fun l => fm (a i l) (b l j)) ^^^ fm (a i l) (b l j)) := Lib.hid rfl
              have HB := Lib.hid hB
              clear hB hcell5 hr5 hc5
              generalize (sm l fun l => fm (a i l) (b l j)) = s at *
              go_wp2_with fail
              go_quiet (first | (go_at_call 40; exact rmul_q (a i l) (b l j) _ _))
              go_wp2_with fail
              go_roundw
              case rel => exact ⟨l + 1, by omega, by go_num, by rw [HM.out]; exact HS.out, HB.out.up (bwN _)⟩
              case measure => simp [intOf]; omega
            · obtain rfl : l = q := by omega
              have HM : Hid (bv (mm l a b i j) = .int .u8 ((sm l fun l => fm (a i l) (b l j)).toNat : Int)) := Lib.hid rfl
              generalize (sm l fun l => fm (a i l) (b l j)) = s at *
              have hrd : Rd (wr.alloc (.cells #[.int .u8 (s.toNat : Int)] 5)) _ (.slice (some ⟨wr.heap.size, 0, none⟩) 1 1) ([mm l a b i j].map bv) := Rd.newW wr 5 #[.int .u8 (s.toNat : Int)] rfl (by simp [maxLen]) (by rw [List.map_singleton, HM.out])
              have hB2 := hB.up (bwalloc (Below.refl _ _) (.cells #[.int .u8 (s.toNat : Int)] 5))
              have hsz : w.heap.size ≤ (wr.alloc (.cells #[.int .u8 (s.toNat : Int)] 5)).heap.size := hB2.bel.size
              have hlen : (rw j (mm l a b i)).length + [mm l a b i j].length ≤ 140737488355328 := by rw [rw_len]; simp; omega
              clear hB HM
              go_wp2_with (at_builtin; refine wpList_appB bytesT rfl (.tmp 55) (.tmp 57) rfl rfl hB2.ro rfl hrd hlen hsz ?_; intro v' w' ho hg h3; have HB := Lib.hid (hB2.app ho hg h3); clear ho hg h3 hrd hB2)
              go_roundw
              case rel =>
                have HB2 : Bld w w' (.slice Ao i co) vs i (fun i => rw r (mm l a b i)) v' (rw (j + 1) (mm l a b i)) := by rw [Mx.rw_succ]; exact HB.out
                first
                  | exact ⟨j + 1, by omega, by go_num, HB2⟩
                  | ((repeat apply Exists.intro); exact ⟨⟨j + 1, by omega, by go_num, HB2⟩, rfl⟩)
              case measure => simp [intOf]; omega
        · obtain rfl : j = r := by omega
          obtain ⟨Au, cu, rfl, -, -⟩ := hB.ro.rd.shapeR
          have hone := one_one hB.ro.oneV
          have hrd : Rd (wr.alloc (.cells #[.slice Au j cu] 39)) _ (.slice (some ⟨wr.heap.size, 0, none⟩) 1 1) [.slice Au j cu] := Rd.newW wr 39 #[.slice Au j cu] rfl (by simp [maxLen]) rfl
          have hB2 := hB.up (bwalloc (Below.refl _ _) (.cells #[.slice Au j cu] 39))
          have hsz : w.heap.size ≤ (wr.alloc (.cells #[.slice Au j cu] 39)).heap.size := hB2.bel.size
          have hl1 : ((List.range i).map vs).length + [Value.slice Au j cu].length ≤ maxLen := by simp [maxLen]; omega
          have hl2 : (((List.range i).map vs).length + [Value.slice Au j cu].length) * 24 ≤ 140737488355328 := by simp; omega
          clear hB
          go_wp2_with (at_builtin; refine wpList_app rowsT rfl rfl (.tmp 59) (.tmp 61) rfl rfl hB2.om.out rfl hrd hone hl1 hl2 hsz ?_; intro v' w' ho hg h3; have HB := Lib.hid (hB2.push ho hg h3); clear ho hg h3 hrd hB2 hone)
          go_roundw
          case rel => exact ⟨i + 1, by omega, by go_num, ⟨_, HB.out.1.congr fun i' _ => by
            by_cases e : i' = i
            · rw [if_pos e, e]
            · rw [if_neg e]⟩, HB.out.2⟩
          case measure => simp [intOf]; omega
    · obtain rfl : i = n := by omega
      go_wp2_with fail
      go_ret
      exact ⟨⟨_, vs, rfl, ho⟩, hbw⟩
end Go.Proofs.Ytfnenehiapibiaa

namespace Go.Proofs.Ytfnenehiapibiaa
open Go.RowKit
open Mx (rw rw_len rw_get rw_congr cod dl)

theorem byte_xor' (i j : Nat) (hi : i < 256) (hj : j < 256) : bits .xor .i64 (i : Int) (j : Int) % 256 = ((i ^^^ j : Nat) : Int) := by
  have hx : i ^^^ j < 256 := Gf.xor_lt hi hj
  rw [xor_i64 i j (by omega) (by omega)]
  omega
theorem cod_big (k i j : Nat) (hi : ¬ i < k) (h : i < 256) (hj : j < 256) : bv (cod k i j) = .int .u8 ((Gf.inv (i ^^^ j) : Nat) : Int) := by
  have hx : i ^^^ j < 256 := Gf.xor_lt h hj
  unfold bv cod
  rw [if_neg hi, Mx.fi_nat, Mx.ofNat_nat hx]
theorem cod_same (k i : Nat) (hi : i < k) : bv (cod k i i) = .int .u8 1 := by unfold cod; rw [if_pos hi, Mx.dl_self]; rfl
theorem cod_other (k i j : Nat) (hi : i < k) (h : i ≠ j) : bv (cod k i j) = .int .u8 0 := by unfold cod; rw [if_pos hi, Mx.dl_ne h]; rfl
set_option maxHeartbeats 4000000 in
set_option maxRecDepth 100000 in
theorem rcod_any (k n : Nat) (w : World) (hk : k ≤ 256) (hn : n ≤ 256) :
    Calls Try.prog 29 #[.int .i64 (k : Int), .int .i64 (n : Int)] w fun e w' => (∃ x vs, e = .returned x ∧ OwM w' w.heap.size x vs n (fun i => rw k (cod k i))) ∧ Below w.heap.size w w' := by
  go_enter Try.func29, Try.ntmps29
  go_wp2_with fail
  go_loopw [5, 6, 7, 8, 9] (fun o i _ _ _ wr => ∃ i' : Nat, i' ≤ n ∧ i = .int .i64 i' ∧ (∃ vs, OwM wr w.heap.size o vs i' (fun i => rw k (cod k i))) ∧ Below w.heap.size w wr) (fun _ i _ _ _ _ => n - (intOf i).toNat)
  case atStart => exact ⟨0, by omega, rfl, ⟨_, OwM.nil _ _ _⟩, Below.refl _ _⟩
  case round =>
    obtain ⟨i, hi, rfl, ⟨vs, ho⟩, hbw⟩ := hrel
    obtain ⟨Ao, co, rfl, hco, hmo⟩ := ho.rd.shape
    by_cases hlt : i < n
    · have hB := Bld.fresh ho hbw
      clear ho
      go_wp2_with fail
      go_loopw [7, 8, 9] (fun u j _ wr => ∃ j' : Nat, j' ≤ k ∧ j = .int .i64 j' ∧ Bld w wr (.slice Ao i co) vs i (fun i => rw k (cod k i)) u (rw j' (cod k i))) (fun _ j _ _ => k - (intOf j).toNat)
      case atStart => exact ⟨0, by omega, rfl, hB⟩
      case round =>
        clear hB hbw
        obtain ⟨j, hj, rfl, hB⟩ := hrel
        by_cases hjl : j < k
        · by_cases hik : i < k
          · by_cases hij : i = j
            · subst hij
              have HM := Lib.hid (cod_same k i hik)
              have hrd : Rd (wr.alloc (.cells #[.int .u8 1] 5)) _ (.slice (some ⟨wr.heap.size, 0, none⟩) 1 1) ([cod k i i].map bv) := Rd.newW wr 5 #[.int .u8 1] rfl (by simp [maxLen]) (by rw [List.map_singleton, HM.out])
              have hB2 := hB.up (bwalloc (Below.refl _ _) (.cells #[.int .u8 1] 5))
              have hsz : w.heap.size ≤ (wr.alloc (.cells #[.int .u8 1] 5)).heap.size := hB2.bel.size
              have hlen : (rw i (cod k i)).length + [cod k i i].length ≤ 140737488355328 := by rw [rw_len]; simp; omega
              clear hB HM
              go_wp2_with (at_builtin; refine wpList_appB bytesT rfl (.tmp 31) (.tmp 33) rfl rfl hB2.ro rfl hrd hlen hsz ?_; intro v' w' ho hg h3; have HB := Lib.hid (hB2.app ho hg h3); clear ho hg h3 hrd hB2)
              go_roundw
              case rel =>
                have HB2 : Bld w w' (.slice Ao i co) vs i (fun i => rw k (cod k i)) v' (rw (i + 1) (cod k i)) := by rw [Mx.rw_succ]; exact HB.out
                first
                  | exact ⟨i + 1, by omega, by go_num, HB2⟩
                  | ((repeat apply Exists.intro); exact ⟨⟨i + 1, by omega, by go_num, HB2⟩, rfl⟩)
              case measure => simp [intOf]; omega
            · have HM := Lib.hid (cod_other k i j hik hij)
              have hne : ((i : Int) == (j : Int)) = false := by simp; omega
              have hrd : Rd (wr.alloc (.cells #[.int .u8 0] 5)) _ (.slice (some ⟨wr.heap.size, 0, none⟩) 1 1) ([cod k i j].map bv) := Rd.newW wr 5 #[.int .u8 0] rfl (by simp [maxLen]) (by rw [List.map_singleton, HM.out])
              have hB2 := hB.up (bwalloc (Below.refl _ _) (.cells #[.int .u8 0] 5))
              have hsz : w.heap.size ≤ (wr.alloc (.cells #[.int .u8 0] 5)).heap.size := hB2.bel.size
              have hlen : (rw j (cod k i)).length + [cod k i j].length ≤ 140737488355328 := by rw [rw_len]; simp; omega
              clear hB HM
              go_wp2_with (at_builtin; refine wpList_appB bytesT rfl (.tmp 31) (.tmp 33) rfl rfl hB2.ro rfl hrd hlen hsz ?_; intro v' w' ho hg h3; have HB := Lib.hid (hB2.app ho hg h3); clear ho hg h3 hrd hB2)
              go_roundw
              case rel =>
                have HB2 : Bld w w' (.slice Ao i co) vs i (fun i => rw k (cod k i)) v' (rw (j + 1) (cod k i)) := by rw [Mx.rw_succ]; exact HB.out
                first
                  | exact ⟨j + 1, by omega, by go_num, HB2⟩
                  | ((repeat apply Exists.intro); exact ⟨⟨j + 1, by omega, by go_num, HB2⟩, rfl⟩)
              case measure => simp [intOf]; omega
          · have HM := Lib.hid (cod_big k i j hik (by omega) (by omega))
            have hx : i ^^^ j < 256 := Gf.xor_lt (by omega) (by omega)
            have HX := Lib.hid (byte_xor' i j (by omega) (by omega))
            have hne : ((i : Int) == (j : Int)) = false := by simp; omega
            have hik' : (k : Int) ≤ (i : Int) := by omega
            have hrd : Rd (wr.alloc (.cells #[.int .u8 ((Gf.inv (i ^^^ j) : Nat) : Int)] 5)) _ (.slice (some ⟨wr.heap.size, 0, none⟩) 1 1) ([cod k i j].map bv) := Rd.newW wr 5 #[.int .u8 ((Gf.inv (i ^^^ j) : Nat) : Int)] rfl (by simp [maxLen]) (by rw [List.map_singleton, HM.out])
            have hB2 := hB.up (bwalloc (Below.refl _ _) (.cells #[.int .u8 ((Gf.inv (i ^^^ j) : Nat) : Int)] 5))
            have hsz : w.heap.size ≤ (wr.alloc (.cells #[.int .u8 ((Gf.inv (i ^^^ j) : Nat) : Int)] 5)).heap.size := hB2.bel.size
            have hlen : (rw j (cod k i)).length + [cod k i j].length ≤ 140737488355328 := by rw [rw_len]; simp; omega
            clear hB HM
            go_wp2_with fail
            rw [HX.out]
            refine (rinv_any (i ^^^ j) _ hx).mono ?_
            rintro e w' ⟨rfl, rfl⟩
            go_wp2_with (at_builtin; refine wpList_appB bytesT rfl (.tmp 31) (.tmp 33) rfl rfl hB2.ro rfl hrd hlen hsz ?_; intro v' w' ho hg h3; have HB := Lib.hid (hB2.app ho hg h3); clear ho hg h3 hrd hB2)
            go_roundw
            case rel =>
              have HB2 : Bld w w' (.slice Ao i co) vs i (fun i => rw k (cod k i)) v' (rw (j + 1) (cod k i)) := by rw [Mx.rw_succ]; exact HB.out
              first
                | exact ⟨j + 1, by omega, by go_num, HB2⟩
                | ((repeat apply Exists.intro); exact ⟨⟨j + 1, by omega, by go_num, HB2⟩, rfl⟩)
            case measure => simp [intOf]; omega
        · obtain rfl : j = k := by omega
          obtain ⟨Au, cu, rfl, -, -⟩ := hB.ro.rd.shapeR
          have hone := one_one hB.ro.oneV
          have hrd : Rd (wr.alloc (.cells #[.slice Au j cu] 39)) _ (.slice (some ⟨wr.heap.size, 0, none⟩) 1 1) [.slice Au j cu] := Rd.newW wr 39 #[.slice Au j cu] rfl (by simp [maxLen]) rfl
          have hB2 := hB.up (bwalloc (Below.refl _ _) (.cells #[.slice Au j cu] 39))
          have hsz : w.heap.size ≤ (wr.alloc (.cells #[.slice Au j cu] 39)).heap.size := hB2.bel.size
          have hl1 : ((List.range i).map vs).length + [Value.slice Au j cu].length ≤ maxLen := by simp [maxLen]; omega
          have hl2 : (((List.range i).map vs).length + [Value.slice Au j cu].length) * 24 ≤ 140737488355328 := by simp; omega
          clear hB
          go_wp2_with (at_builtin; refine wpList_app rowsT rfl rfl (.tmp 35) (.tmp 37) rfl rfl hB2.om.out rfl hrd hone hl1 hl2 hsz ?_; intro v' w' ho hg h3; have HB := Lib.hid (hB2.push ho hg h3); clear ho hg h3 hrd hB2 hone)
          go_roundw
          case rel => exact ⟨i + 1, by omega, by go_num, ⟨_, HB.out.1.congr fun i' _ => by
            by_cases e : i' = i
            · rw [if_pos e, e]
            · rw [if_neg e]⟩, HB.out.2⟩
          case measure => simp [intOf]; omega
    · obtain rfl : i = n := by omega
      go_wp2_with fail
      go_ret
      exact ⟨⟨_, vs, rfl, ho⟩, hbw⟩
end Go.Proofs.Ytfnenehiapibiaa
