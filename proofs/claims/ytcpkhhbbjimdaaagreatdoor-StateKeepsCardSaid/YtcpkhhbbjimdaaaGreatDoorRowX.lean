/- How arguments that came in are opened: a slice of bytes, a slice of texts, a text. How an argument is opened that is a cell, or a slice of cells. How an argument is opened that is a slice of cells, with how many there are at most. How an argument is opened that is a slice of slices of cells; parts of such slices. How an argument is opened that is a slice of structs of one-cell parts, whatever the type. A command that came in, opened; what the condition on cmd's table gives. How commands and replies are opened that come in as arguments. -/
import Derived.Test.YtcpkhhbbjimdaaaGreatDoorBase
import Derived.ProofKit
import Derived.OpenShut
import Derived.ShutString
import Derived.ChangeOld
import Derived.Below
import Derived.SizedLaws
import Derived.Test.YtcpkhhbbjimdaaaGreatDoorCsA
import Derived.Deep.Slices
import Derived.Test.YtcpkhhbbjimdaaaGreatDoorStA
import Derived.Test.YtcpkhhbbjimdaaaGreatDoorCmY
import Derived.Test.YtcpkhhbbjimdaaaGreatDoorRows
import Derived.LaidMore
import Derived.Lib.SmallJoins
import Derived.Stop.Joined
import Derived.Test.YtcpkhhbbjimdaaaGreatDoorRpX
set_option maxHeartbeats 8000000
set_option maxRecDepth 100000
namespace Go.Proofs.YtcpkhhbbjimdaaaGreatDoor
open Go.ChangeShapes Go.WideShapes Go.ChangeAt Go.RowKit
open Go.ChangeMaps (open_string shut_string)
theorem own : ownKnob Tryz.prog.godebug = none := by kernel_rfl
theorem laidOut : laidOutB Tryz.prog = true := by kernel_rfl
section
variable {H : Type} {enc : TypeId × Value → H} {P : Program} {w : World}
theorem spot_none {x : Addr} {u : Value} (h : w.cell? (x.add 0) = some u) : x = ⟨x.block, x.off, none⟩ := by
 obtain ⟨b, off, spot⟩ := x
 have : spot = none := by simpa [Addr.add] using World.cell?_spot h
 subst this
 rfl
end
end Go.Proofs.YtcpkhhbbjimdaaaGreatDoor
namespace Go.Proofs.YtcpkhhbbjimdaaaGreatDoor.Ce
open Go.ChangeShapes Go.WideShapes Go.ChangeAt Go.RowKit Go.Deep
section
variable {H : Type} {enc : TypeId × Value → H} {w : World}
theorem openCell {fuel : Nat} {cs : List Value} {y : DataW H × List MemPlace} (hcells : ∀ t ∈ [3, 9, 4], Tryz.prog.cellsOf t = 1) (hce : Tryz.prog.cellsOf 47 = 5)
  (hf : DataW.trod enc Tryz.prog w 0 (fun _ => true) true fuel 47 cs = some y) : ∃ c : Cl, cs = c.cs.toList := by
 obtain ⟨xs, n, _, rfl, hl, hxl, hfs⟩ := DataW.trod_struct Tryz.underlying47 hf
 rw [hce] at hl
 have hxl : xs.length = 5 := hxl
 have ci := hcells 3 (by simp)
 have cst := hcells 9 (by simp)
 have cb := hcells 4 (by simp)
 match cs, hl with
 | [c0, c1, c2, c3, c4], _ =>
  match xs, hxl with
  | [y0, y1, y2, y3, y4], _ =>
   have f0 : DataW.trod enc Tryz.prog w 0 (fun _ => true) true n 9 (([c0, c1, c2, c3, c4].drop 0).take (Tryz.prog.cellsOf 9)) = some y0 := hfs 0 _ rfl
   rw [cst] at f0
   have f1 : DataW.trod enc Tryz.prog w 0 (fun _ => true) true n 9 (([c0, c1, c2, c3, c4].drop 1).take (Tryz.prog.cellsOf 9)) = some y1 := hfs 1 _ rfl
   rw [cst] at f1
   have f2 : DataW.trod enc Tryz.prog w 0 (fun _ => true) true n 3 (([c0, c1, c2, c3, c4].drop 2).take (Tryz.prog.cellsOf 3)) = some y2 := hfs 2 _ rfl
   rw [ci] at f2
   have f3 : DataW.trod enc Tryz.prog w 0 (fun _ => true) true n 9 (([c0, c1, c2, c3, c4].drop 3).take (Tryz.prog.cellsOf 9)) = some y3 := hfs 3 _ rfl
   rw [cst] at f3
   have f4 : DataW.trod enc Tryz.prog w 0 (fun _ => true) true n 4 (([c0, c1, c2, c3, c4].drop 4).take (Tryz.prog.cellsOf 4)) = some y4 := hfs 4 _ rfl
   rw [cb] at f4
   obtain ⟨a0, e0, -, -⟩ := DataW.trod_string Tryz.underlying9 (show DataW.trod enc Tryz.prog w 0 (fun _ => true) true n 9 [c0] = some y0 from f0)
   obtain ⟨a1, e1, -, -⟩ := DataW.trod_string Tryz.underlying9 (show DataW.trod enc Tryz.prog w 0 (fun _ => true) true n 9 [c1] = some y1 from f1)
   obtain ⟨a2, e2, -, -⟩ := DataW.trod_int Tryz.underlying3 (show DataW.trod enc Tryz.prog w 0 (fun _ => true) true n 3 [c2] = some y2 from f2)
   obtain ⟨a3, e3, -, -⟩ := DataW.trod_string Tryz.underlying9 (show DataW.trod enc Tryz.prog w 0 (fun _ => true) true n 9 [c3] = some y3 from f3)
   obtain ⟨a4, e4, -⟩ := DataW.trod_bool Tryz.underlying4 (show DataW.trod enc Tryz.prog w 0 (fun _ => true) true n 4 [c4] = some y4 from f4)
   simp only [List.cons.injEq, and_true] at e0 e1 e2 e3 e4
   subst e0 e1 e2 e3 e4
   exact ⟨⟨a0, a1, a2, a3, a4⟩, rfl⟩
theorem cellI : Tryz.prog.cellsOf 3 = 1 := by kernel_rfl
theorem cellS : Tryz.prog.cellsOf 9 = 1 := by kernel_rfl
theorem cellB1 : Tryz.prog.cellsOf 4 = 1 := by kernel_rfl
theorem cellC : ∀ t ∈ [3, 9, 4], Tryz.prog.cellsOf t = 1 := by
 intro t ht
 rcases List.mem_cons.1 ht with h | ht
 ·exact h ▸ cellI
 ·rcases List.mem_cons.1 ht with h | ht
  ·exact h ▸ cellS
  ·rcases List.mem_cons.1 ht with h | ht
   ·exact h ▸ cellB1
   ·cases ht
theorem cellN : Tryz.prog.cellsOf 47 = 5 := by kernel_rfl
theorem openL {a : Option Addr} {len cap fuel : Nat} {d : DataW H} {p : List MemPlace}
  (hf : DataW.trod enc Tryz.prog w 0 (fun _ => true) true fuel 27 (Value.slice a len cap).cells.toList = some (d, p)) : ∃ L : List Cl, RdL w [] (.slice a len cap) L := by
 rcases open_slice Tryz.underlying27 hf with ⟨hcs, _⟩ | ⟨x, n, c, m, fu, D, Pl, hcs, _, hl, hm, hmm, hx, hall⟩
 ·simp [Value.cells] at hcs
  obtain ⟨rfl, rfl, rfl⟩ := hcs
  exact ⟨[], RdL.nil _ _⟩
 ·simp [Value.cells] at hcs
  obtain ⟨rfl, rfl, rfl⟩ := hcs
  simp only [if_true] at hmm
  subst hmm
  have hone : ∀ i, i < len → ∃ y : Cl, ∀ k u, y.cs.toList[k]? = some u → w.cell? (x.add (i * 5 + k)) = some u := by
   intro i hi
   obtain ⟨cs', hcc, htr⟩ := hall i (by omega)
   rw [cellN] at hcc
   obtain ⟨_, hcl, hat⟩ := World.cells?_some hcc
   obtain ⟨y, rfl⟩ := openCell cellC cellN htr
   refine ⟨y, fun k u hu => ?_⟩
   have hk : k < 5 := (List.getElem?_eq_some_iff.1 hu).1
   have := hat k hk
   rw [Go.Deep.add_add] at this
   rw [this]
   exact hu
  have hex : ∃ L : List Cl, L.length = len ∧ ∀ i y, L[i]? = some y → ∀ k u, y.cs.toList[k]? = some u → w.cell? (x.add (i * 5 + k)) = some u := by
   refine ⟨(List.range len).map fun i => if h : i < len then Classical.choose (hone i h) else Cl.zero, by simp, fun i y hy => ?_⟩
   rw [List.getElem?_map] at hy
   by_cases hi : i < len
   ·rw [List.getElem?_range hi, Option.map_some, dif_pos hi] at hy
    injection hy with hy
    rw [← hy]
    exact Classical.choose_spec (hone i hi)
   ·rw [List.getElem?_eq_none (by simpa using hi)] at hy
    cases hy
  obtain ⟨L, hL, hat⟩ := hex
  refine ⟨L, some x, _, by rw [hL], by rw [hL]; exact hl, hm, fun hp => ?_⟩
  obtain ⟨y0, hy0⟩ : ∃ y, L[0]? = some y := ⟨_, List.getElem?_eq_getElem hp⟩
  have h0 := hat 0 y0 hy0 0 _ rfl
  have hxn := spot_none h0
  refine ⟨x.block, x.off, by rw [← hxn], ?_, by simp, fun i u hu => ?_⟩
  ·have := World.block_lt_of_cell? w _ h0
   rw [hxn, Addr.add_lit] at this
   exact this
  ·have hi : i < L.length * 5 := by
    have := (List.getElem?_eq_some_iff.1 hu).1
    rw [flat5_len] at this
    exact this
   obtain ⟨y, hy⟩ : ∃ y, L[i / 5]? = some y := ⟨_, List.getElem?_eq_getElem (by omega)⟩
   have h5 := flat5_at hy (i % 5)
   have hlt : i % 5 < y.cs.toList.length := by show i % 5 < 5; omega
   have h6 := h5 _ (List.getElem?_eq_getElem hlt)
   rw [show i / 5 * 5 + i % 5 = i by omega] at h6
   rw [hu] at h6
   injection h6 with h6
   subst h6
   have := hat _ y hy (i % 5) _ (List.getElem?_eq_getElem hlt)
   rw [show i / 5 * 5 + i % 5 = i by omega, hxn, Addr.add_lit] at this
   exact this
end
end Go.Proofs.YtcpkhhbbjimdaaaGreatDoor.Ce
namespace Go.Proofs.YtcpkhhbbjimdaaaGreatDoor.Ce
open Go.ChangeShapes Go.WideShapes Go.ChangeAt Go.RowKit Go.Deep
section
variable {H : Type} {enc : TypeId × Value → H} {w : World}
end
end Go.Proofs.YtcpkhhbbjimdaaaGreatDoor.Ce
namespace Go.Proofs.YtcpkhhbbjimdaaaGreatDoor.Ce
open Go.ChangeShapes Go.WideShapes Go.ChangeAt Go.RowKit Go.Deep
section
variable {w : World} {LL : List (List Cl)}
theorem RdB.cutTo {A : Option Addr} {n c k : Nat} (h : RdB w (.slice A n c) LL) (hk : k ≤ n) : RdB w (.slice A k c) (LL.take k) := by
 obtain ⟨vs, h1, h2, h3⟩ := h
 refine ⟨vs.take k, h1.cutTo hk, by rw [List.length_take, List.length_take, h2], fun j u L hu hL => ?_⟩
 rw [List.getElem?_take] at hu hL
 split at hu
 ·rename_i hj
  rw [if_pos hj] at hL
  exact h3 j u L hu hL
 ·cases hu
theorem RdB.fromC {b off n c k : Nat} (h : RdB w (.slice (some ⟨b, off, none⟩) n c) LL) (hk : k ≤ n) (hne : ¬ c = k) : RdB w (.slice (some ⟨b, off + k, none⟩) (n - k) (c - k)) (LL.drop k) := by
 obtain ⟨vs, h1, h2, h3⟩ := h
 refine ⟨vs.drop k, h1.fromC hk hne, by rw [List.length_drop, List.length_drop, h2], fun j u L hu hL => ?_⟩
 rw [List.getElem?_drop] at hu hL
 exact h3 (k + j) u L hu hL
theorem RdB.midC {b off n c lo hi : Nat} (h : RdB w (.slice (some ⟨b, off, none⟩) n c) LL) (h1 : lo ≤ hi) (h2 : hi ≤ n) (hne : ¬ c = lo) : RdB w (.slice (some ⟨b, off + lo, none⟩) (hi - lo) (c - lo)) ((LL.take hi).drop lo) := by
 have h3 := (h.cutTo h2).fromC (k := lo) h1 hne
 exact h3
theorem RdB.none_ {A : Option Addr} {c : Nat} (hc : c ≤ maxLen) : RdB w (.slice A 0 c) [] := ⟨[], ⟨A, c, rfl, Nat.zero_le _, hc, fun h => absurd h (by simp)⟩, rfl, fun j u L h => by simp at h⟩
end
section
variable {H : Type} {enc : TypeId × Value → H} {w : World}
end
end Go.Proofs.YtcpkhhbbjimdaaaGreatDoor.Ce
namespace Go.Proofs.YtcpkhhbbjimdaaaGreatDoor.St
open Go.ChangeShapes Go.WideShapes Go.ChangeAt Go.RowKit Go.Deep
section
variable {H : Type} {enc : TypeId × Value → H} {w : World} {α : Type} {P : Program} {D : Sp α} {Q : α → Prop}
theorem openSl (hD : D.Ok P) (hts : P.underlying D.ts = some (.slice D.t)) (hce : P.cellsOf D.t = D.k)
  (hel : ∀ (fuel : Nat) (cs : List Value) (y : DataW H × List MemPlace), DataW.trod enc P w 0 (fun _ => true) true fuel D.t cs = some y → ∃ x : α, cs = (D.f x).toList ∧ Q x)
  {a : Option Addr} {len cap fuel : Nat} {d : DataW H} {p : List MemPlace}
  (hf : DataW.trod enc P w 0 (fun _ => true) true fuel D.ts (Value.slice a len cap).cells.toList = some (d, p)) : ∃ L : List α, RdS D w [] (.slice a len cap) L ∧ ∀ x ∈ L, Q x := by
 rcases open_slice hts hf with ⟨hcs, _⟩ | ⟨x, n, c, m, fu, Dd, Pl, hcs, _, hl, hm, hmm, hx, hall⟩
 ·simp [Value.cells] at hcs
  obtain ⟨rfl, rfl, rfl⟩ := hcs
  exact ⟨[], RdS.nil _ _ _, by simp⟩
 ·simp [Value.cells] at hcs
  obtain ⟨rfl, rfl, rfl⟩ := hcs
  simp only [if_true] at hmm
  subst hmm
  have hone : ∀ i, i < len → ∃ y : α, (∀ k u, (D.f y)[k]? = some u → w.cell? (x.add (i * D.k + k)) = some u) ∧ Q y := by
   intro i hi
   obtain ⟨cs', hcc, htr⟩ := hall i (by omega)
   rw [hce] at hcc
   obtain ⟨_, hcl, hat⟩ := World.cells?_some hcc
   obtain ⟨y, rfl, hq⟩ := hel _ _ _ htr
   refine ⟨y, fun k u hu => ?_, hq⟩
   have hk : k < D.k := by
    have := (Array.getElem?_eq_some_iff.1 hu).1
    rwa [hD.size] at this
   have := hat k hk
   rw [Go.Deep.add_add] at this
   rw [this]
   simpa using hu
  have hex : ∃ L : List α, L.length = len ∧ ∀ (i : Nat) (y : α), L[i]? = some y → (∀ k u, (D.f y)[k]? = some u → w.cell? (x.add (i * D.k + k)) = some u) ∧ Q y := by
   refine ⟨(List.range len).map fun i => if h : i < len then Classical.choose (hone i h) else D.z, by simp, fun i y hy => ?_⟩
   rw [List.getElem?_map] at hy
   by_cases hi : i < len
   ·rw [List.getElem?_range hi, Option.map_some, dif_pos hi] at hy
    injection hy with hy
    rw [← hy]
    exact Classical.choose_spec (hone i hi)
   ·rw [List.getElem?_eq_none (by simpa using hi)] at hy
    cases hy
  obtain ⟨L, hL, hat⟩ := hex
  have hpos := hD.pos
  refine ⟨L, ⟨some x, _, by rw [hL], by rw [hL]; exact hl, hm, fun hp => ?_⟩, fun y hy => ?_⟩
  ·obtain ⟨y0, hy0⟩ : ∃ y, L[0]? = some y := ⟨_, List.getElem?_eq_getElem hp⟩
   have h0 := (hat 0 y0 hy0).1 0 _ (Array.getElem?_eq_getElem (show 0 < (D.f y0).size by rw [hD.size]; exact hpos))
   rw [Nat.zero_mul] at h0
   have hxn := spot_none h0
   refine ⟨x.block, x.off, by rw [← hxn], ?_, by simp, fun i u hu => ?_⟩
   ·have := World.block_lt_of_cell? w _ h0
    rw [hxn, Addr.add_lit] at this
    exact this
   ·have hi : i < L.length * D.k := by
     have := (List.getElem?_eq_some_iff.1 hu).1
     rw [flat_len hD] at this
     exact this
    have hdiv : i / D.k < L.length := Nat.div_lt_of_lt_mul (by rw [Nat.mul_comm]; exact hi)
    obtain ⟨y, hy⟩ : ∃ y, L[i / D.k]? = some y := ⟨_, List.getElem?_eq_getElem hdiv⟩
    have hlt : i % D.k < (D.f y).size := by rw [hD.size]; exact Nat.mod_lt _ hpos
    have h6 := flat_at hD hy (i % D.k) _ (Array.getElem?_eq_getElem hlt)
    rw [Nat.div_add_mod' i D.k] at h6
    rw [hu] at h6
    injection h6 with h6
    subst h6
    have := (hat _ y hy).1 (i % D.k) _ (Array.getElem?_eq_getElem hlt)
    rw [Nat.div_add_mod' i D.k, hxn, Addr.add_lit] at this
    exact this
  ·obtain ⟨i, hi⟩ := List.getElem?_of_mem hy
   exact (hat i y hi).2
end
end Go.Proofs.YtcpkhhbbjimdaaaGreatDoor.St
namespace Go.Proofs.YtcpkhhbbjimdaaaGreatDoor.Ce
open Go.ChangeShapes Go.WideShapes Go.ChangeAt Go.RowKit
section
variable {H : Type} {enc : TypeId × Value → H} {w : World}
theorem cellCm : Tryz.prog.cellsOf 36 = 10 := by kernel_rfl
theorem cell1I : Tryz.prog.cellsOf 3 = 1 := by kernel_rfl
theorem cell1S : Tryz.prog.cellsOf 9 = 1 := by kernel_rfl
theorem cell1B : Tryz.prog.cellsOf 4 = 1 := by kernel_rfl
theorem openCmC {fuel : Nat} {cs : List Value} {y : DataW H × List MemPlace} (hf : DataW.trod enc Tryz.prog w 0 (fun _ => true) true fuel 36 cs = some y) : ∃ c : Cm, cs = c.cs.toList := by
 obtain ⟨xs, n, _, rfl, hl, hxl, hfs⟩ := DataW.trod_struct Tryz.underlying36 hf
 rw [cellCm] at hl
 have hxl : xs.length = 10 := hxl
 match cs, hl with
 | [c0, c1, c2, c3, c4, c5, c6, c7, c8, c9], _ =>
  match xs, hxl with
  | [y0, y1, y2, y3, y4, y5, y6, y7, y8, y9], _ =>
   have f0 : DataW.trod enc Tryz.prog w 0 (fun _ => true) true n 3 (([c0, c1, c2, c3, c4, c5, c6, c7, c8, c9].drop 0).take (Tryz.prog.cellsOf 3)) = some y0 := hfs 0 _ rfl
   rw [cell1I] at f0
   have f1 : DataW.trod enc Tryz.prog w 0 (fun _ => true) true n 3 (([c0, c1, c2, c3, c4, c5, c6, c7, c8, c9].drop 1).take (Tryz.prog.cellsOf 3)) = some y1 := hfs 1 _ rfl
   rw [cell1I] at f1
   have f2 : DataW.trod enc Tryz.prog w 0 (fun _ => true) true n 3 (([c0, c1, c2, c3, c4, c5, c6, c7, c8, c9].drop 2).take (Tryz.prog.cellsOf 3)) = some y2 := hfs 2 _ rfl
   rw [cell1I] at f2
   have f3 : DataW.trod enc Tryz.prog w 0 (fun _ => true) true n 9 (([c0, c1, c2, c3, c4, c5, c6, c7, c8, c9].drop 3).take (Tryz.prog.cellsOf 9)) = some y3 := hfs 3 _ rfl
   rw [cell1S] at f3
   have f4 : DataW.trod enc Tryz.prog w 0 (fun _ => true) true n 9 (([c0, c1, c2, c3, c4, c5, c6, c7, c8, c9].drop 4).take (Tryz.prog.cellsOf 9)) = some y4 := hfs 4 _ rfl
   rw [cell1S] at f4
   have f5 : DataW.trod enc Tryz.prog w 0 (fun _ => true) true n 9 (([c0, c1, c2, c3, c4, c5, c6, c7, c8, c9].drop 5).take (Tryz.prog.cellsOf 9)) = some y5 := hfs 5 _ rfl
   rw [cell1S] at f5
   have f6 : DataW.trod enc Tryz.prog w 0 (fun _ => true) true n 3 (([c0, c1, c2, c3, c4, c5, c6, c7, c8, c9].drop 6).take (Tryz.prog.cellsOf 3)) = some y6 := hfs 6 _ rfl
   rw [cell1I] at f6
   have f7 : DataW.trod enc Tryz.prog w 0 (fun _ => true) true n 9 (([c0, c1, c2, c3, c4, c5, c6, c7, c8, c9].drop 7).take (Tryz.prog.cellsOf 9)) = some y7 := hfs 7 _ rfl
   rw [cell1S] at f7
   have f8 : DataW.trod enc Tryz.prog w 0 (fun _ => true) true n 9 (([c0, c1, c2, c3, c4, c5, c6, c7, c8, c9].drop 8).take (Tryz.prog.cellsOf 9)) = some y8 := hfs 8 _ rfl
   rw [cell1S] at f8
   have f9 : DataW.trod enc Tryz.prog w 0 (fun _ => true) true n 4 (([c0, c1, c2, c3, c4, c5, c6, c7, c8, c9].drop 9).take (Tryz.prog.cellsOf 4)) = some y9 := hfs 9 _ rfl
   rw [cell1B] at f9
   obtain ⟨a0, e0, -, -⟩ := DataW.trod_int Tryz.underlying3 (show DataW.trod enc Tryz.prog w 0 (fun _ => true) true n 3 [c0] = some y0 from f0)
   obtain ⟨a1, e1, -, -⟩ := DataW.trod_int Tryz.underlying3 (show DataW.trod enc Tryz.prog w 0 (fun _ => true) true n 3 [c1] = some y1 from f1)
   obtain ⟨a2, e2, -, -⟩ := DataW.trod_int Tryz.underlying3 (show DataW.trod enc Tryz.prog w 0 (fun _ => true) true n 3 [c2] = some y2 from f2)
   obtain ⟨a3, e3, -⟩ := DataW.trod_string Tryz.underlying9 (show DataW.trod enc Tryz.prog w 0 (fun _ => true) true n 9 [c3] = some y3 from f3)
   obtain ⟨a4, e4, -⟩ := DataW.trod_string Tryz.underlying9 (show DataW.trod enc Tryz.prog w 0 (fun _ => true) true n 9 [c4] = some y4 from f4)
   obtain ⟨a5, e5, -⟩ := DataW.trod_string Tryz.underlying9 (show DataW.trod enc Tryz.prog w 0 (fun _ => true) true n 9 [c5] = some y5 from f5)
   obtain ⟨a6, e6, -, -⟩ := DataW.trod_int Tryz.underlying3 (show DataW.trod enc Tryz.prog w 0 (fun _ => true) true n 3 [c6] = some y6 from f6)
   obtain ⟨a7, e7, -⟩ := DataW.trod_string Tryz.underlying9 (show DataW.trod enc Tryz.prog w 0 (fun _ => true) true n 9 [c7] = some y7 from f7)
   obtain ⟨a8, e8, -⟩ := DataW.trod_string Tryz.underlying9 (show DataW.trod enc Tryz.prog w 0 (fun _ => true) true n 9 [c8] = some y8 from f8)
   obtain ⟨a9, e9, -⟩ := DataW.trod_bool Tryz.underlying4 (show DataW.trod enc Tryz.prog w 0 (fun _ => true) true n 4 [c9] = some y9 from f9)
   simp only [List.cons.injEq, and_true] at e0 e1 e2 e3 e4 e5 e6 e7 e8 e9
   subst e0 e1 e2 e3 e4 e5 e6 e7 e8 e9
   exact ⟨⟨a0, a1, a2, a3, a4, a5, a6, a7, a8, a9⟩, rfl⟩
theorem openCm {r : Reach} {b0 : Nat} {v : Value} {d : DataW H} {p : List MemPlace} (hv : Value.okWide Tryz.prog w r b0 36 v) (h : DataW.Trod enc Tryz.prog w 0 (fun _ => true) true 36 v d p) : ∃ c : Cm, v = c.v := by
 obtain ⟨cs, rfl, _⟩ := okWide_struct Tryz.underlying36 hv
 obtain ⟨fuel, hf⟩ := h
 obtain ⟨s, hs⟩ := openCmC hf
 refine ⟨s, ?_⟩
 unfold Cm.v
 have hs' : cs.toList = s.cs.toList := hs
 rw [Array.toList_inj.1 hs']
end
abbrev kindsD : List (String × DataW Unit) := [("shardlog/cmd.kinds", Rows.laid_shardlog_cmd_kinds)]
theorem gKinds : Tryz.prog.globalNamed "shardlog/cmd.kinds" = some 0 := by kernel_rfl
theorem tKinds : (Tryz.prog.globals[0]?).map (·.type) = some 116 := by kernel_rfl
theorem cellPt : Tryz.prog.cellsOf 115 = 5 := by kernel_rfl
section
variable {w : World} {base : Nat} {sp : Nat → Bool} {held : Bool}
theorem openPt {fuel : Nat} {cs : List Value} {b0 b1 b2 b3 b4 : Bool} {q : List MemPlace} (enc : TypeId × Value → Unit) (hf : DataW.trod enc Tryz.prog w base sp held fuel 115 cs = some (.agg [.lit (.bool b0), .lit (.bool b1), .lit (.bool b2), .lit (.bool b3), .lit (.bool b4)], q)) : cs = [.bool b0, .bool b1, .bool b2, .bool b3, .bool b4] := by
 obtain ⟨xs, n, _, hx, hl, hxl, hfs⟩ := DataW.trod_struct Tryz.underlying115 hf
 rw [cellPt] at hl
 have hxl : xs.length = 5 := hxl
 match cs, hl with
 | [c0, c1, c2, c3, c4], _ =>
  match xs, hxl with
  | [y0, y1, y2, y3, y4], _ =>
   have f0 : DataW.trod enc Tryz.prog w base sp held n 4 (([c0, c1, c2, c3, c4].drop 0).take (Tryz.prog.cellsOf 4)) = some y0 := hfs 0 _ rfl
   rw [cell1B] at f0
   obtain ⟨a0, e0, g0⟩ := DataW.trod_bool Tryz.underlying4 (show DataW.trod enc Tryz.prog w base sp held n 4 [c0] = some y0 from f0)
   have f1 : DataW.trod enc Tryz.prog w base sp held n 4 (([c0, c1, c2, c3, c4].drop 1).take (Tryz.prog.cellsOf 4)) = some y1 := hfs 1 _ rfl
   rw [cell1B] at f1
   obtain ⟨a1, e1, g1⟩ := DataW.trod_bool Tryz.underlying4 (show DataW.trod enc Tryz.prog w base sp held n 4 [c1] = some y1 from f1)
   have f2 : DataW.trod enc Tryz.prog w base sp held n 4 (([c0, c1, c2, c3, c4].drop 2).take (Tryz.prog.cellsOf 4)) = some y2 := hfs 2 _ rfl
   rw [cell1B] at f2
   obtain ⟨a2, e2, g2⟩ := DataW.trod_bool Tryz.underlying4 (show DataW.trod enc Tryz.prog w base sp held n 4 [c2] = some y2 from f2)
   have f3 : DataW.trod enc Tryz.prog w base sp held n 4 (([c0, c1, c2, c3, c4].drop 3).take (Tryz.prog.cellsOf 4)) = some y3 := hfs 3 _ rfl
   rw [cell1B] at f3
   obtain ⟨a3, e3, g3⟩ := DataW.trod_bool Tryz.underlying4 (show DataW.trod enc Tryz.prog w base sp held n 4 [c3] = some y3 from f3)
   have f4 : DataW.trod enc Tryz.prog w base sp held n 4 (([c0, c1, c2, c3, c4].drop 4).take (Tryz.prog.cellsOf 4)) = some y4 := hfs 4 _ rfl
   rw [cell1B] at f4
   obtain ⟨a4, e4, g4⟩ := DataW.trod_bool Tryz.underlying4 (show DataW.trod enc Tryz.prog w base sp held n 4 [c4] = some y4 from f4)
   simp only [List.cons.injEq, and_true] at e0 e1 e2 e3 e4
   subst e0 e1 e2 e3 e4 g0 g1 g2 g3 g4
   simp only [List.map_cons, List.map_nil, Prod.mk.injEq, DataW.agg.injEq, List.cons.injEq, DataW.lit.injEq, Lit.bool.injEq, and_true] at hx
   obtain ⟨⟨rfl, rfl, rfl, rfl, rfl⟩, -⟩ := hx
   rfl
end
theorem kd_of {W : World} (h : laidMetH Tryz.prog kindsD W) : Kd W := by
 rw [MakeChecks.laidMetH_plain _ _ _ (by kernel_rfl)] at h
 obtain ⟨ps, ⟨g0, t0, cs0, f0, p0, q0, hg0, ht0, hv0, hd0, -, -⟩, -, -⟩ := h
 obtain rfl := Option.some.inj (gKinds.symm.trans hg0)
 obtain rfl := Option.some.inj (tKinds.symm.trans ht0)
 obtain ⟨xs, m, -, hx, hl, hxl, hel⟩ := DataW.trod_array Tryz.underlying116 hd0
 rw [show Tryz.prog.cellsOf 116 = 30 by kernel_rfl] at hl
 rw [cellPt] at hel
 match xs, hxl with
 | [y0, y1, y2, y3, y4, y5], _ =>
  simp only [Rows.laid_shardlog_cmd_kinds, List.map_cons, List.map_nil, Prod.mk.injEq, DataW.agg.injEq, List.cons.injEq, and_true] at hx
  obtain ⟨⟨g0, g1, g2, g3, g4, g5⟩, -⟩ := hx
  have hall : ∀ k, k < 6 → (cs0.toList.drop (k * 5)).take 5 = (ptOf k).cs.toList := by
   intro k hk
   have hk' : k = 0 ∨ k = 1 ∨ k = 2 ∨ k = 3 ∨ k = 4 ∨ k = 5 := by omega
   rcases hk' with rfl | rfl | rfl | rfl | rfl | rfl
   ·have e := hel 0 (by omega)
    rw [show ([y0, y1, y2, y3, y4, y5] : List _)[0]? = some (y0.1, y0.2) from rfl, ← g0] at e
    exact openPt _ e
   ·have e := hel 1 (by omega)
    rw [show ([y0, y1, y2, y3, y4, y5] : List _)[1]? = some (y1.1, y1.2) from rfl, ← g1] at e
    exact openPt _ e
   ·have e := hel 2 (by omega)
    rw [show ([y0, y1, y2, y3, y4, y5] : List _)[2]? = some (y2.1, y2.2) from rfl, ← g2] at e
    exact openPt _ e
   ·have e := hel 3 (by omega)
    rw [show ([y0, y1, y2, y3, y4, y5] : List _)[3]? = some (y3.1, y3.2) from rfl, ← g3] at e
    exact openPt _ e
   ·have e := hel 4 (by omega)
    rw [show ([y0, y1, y2, y3, y4, y5] : List _)[4]? = some (y4.1, y4.2) from rfl, ← g4] at e
    exact openPt _ e
   ·have e := hel 5 (by omega)
    rw [show ([y0, y1, y2, y3, y4, y5] : List _)[5]? = some (y5.1, y5.2) from rfl, ← g5] at e
    exact openPt _ e
  have hcell : ∀ k, k < 6 → ∀ (i : Nat) (u : Value), (ptOf k).cs[i]? = some u → W.cell? ⟨0, k * 5 + i, none⟩ = some u := by
   intro k hk i u hu
   have hi : i < 5 := (Array.getElem?_eq_some_iff.1 hu).1
   rw [World.var?_cell hg0 hv0, ← Array.getElem?_toList]
   have e := congrArg (fun l => l[i]?) (hall k hk)
   simp only [List.getElem?_take, List.getElem?_drop, hi, if_true] at e
   rw [e, Array.getElem?_toList]
   exact hu
  exact ⟨World.block_lt_of_cell? W _ (hcell 0 (by omega) 0 _ rfl), hcell⟩
theorem door_met (os : Os) (args : Array Value) : laidMetH Tryz.prog kindsD ((World.doorLaid Tryz.prog 400 os).forCall (fun _ _ => 0) ⟨#[], args, []⟩).memory :=
 laidMetH_of_parts3 (fuel := 8) (laidMet_of_run' 8 (by kernel_rfl) (by kernel_rfl)) (by kernel_rfl) (by kernel_rfl)
end Go.Proofs.YtcpkhhbbjimdaaaGreatDoor.Ce
namespace Go.Proofs.YtcpkhhbbjimdaaaGreatDoor.Ce
open Go.ChangeShapes Go.WideShapes Go.ChangeAt Go.RowKit Go.Deep
abbrev cmL : St.Sp Cm := ⟨36, 22, 10, 120, Cm.cs, Cm.zero⟩
theorem cmLOk : cmL.Ok Tryz.prog := ⟨cmOk.und, cmOk.info, cmOk.pos, cmOk.size, cmOk.one⟩
theorem flat_cm : ∀ L : List Cm, St.flat cmL L = St.flat cmD L
 | [] => rfl
 | x :: L => congrArg (fun l => (Cm.cs x).toList ++ l) (flat_cm L)
section
variable {H : Type} {enc : TypeId × Value → H} {w : World}
theorem openCms {a : Option Addr} {len cap fuel : Nat} {d : DataW H} {p : List MemPlace} (hf : DataW.trod enc Tryz.prog w 0 (fun _ => true) true fuel 22 (Value.slice a len cap).cells.toList = some (d, p)) : ∃ L : List Cm, St.RdS cmD w [] (.slice a len cap) L := by
 obtain ⟨L, ⟨A, c, e, h1, h2, h3⟩, -⟩ := St.openSl (D := cmL) (Q := fun _ => True) cmLOk Tryz.underlying22 cellCm (fun fuel cs y h => (openCmC h).imp fun c hc => ⟨hc, trivial⟩) hf
 refine ⟨L, A, c, e, h1, h2, fun hp => ?_⟩
 obtain ⟨b, off, q1, q2, q3, q4⟩ := h3 hp
 exact ⟨b, off, q1, q2, q3, fun i u hu => q4 i u (by rw [flat_cm]; exact hu)⟩
theorem cellRp : Tryz.prog.cellsOf 31 = 4 := by kernel_rfl
theorem cell1E : Tryz.prog.cellsOf 29 = 1 := by kernel_rfl
theorem cell1L : Tryz.prog.cellsOf 27 = 1 := by kernel_rfl
theorem openRp {r : Reach} {b0 : Nat} {v : Value} {d : DataW H} {p : List MemPlace} (hv : Value.okWide Tryz.prog w r b0 31 v) (h : DataW.Trod enc Tryz.prog w 0 (fun _ => true) true 31 v d p) : ∃ (s : Rv) (R : Rp), v = s.v ∧ RpIs w [] s R := by
 obtain ⟨cs, rfl, _⟩ := okWide_struct Tryz.underlying31 hv
 obtain ⟨fuel, hf⟩ := h
 obtain ⟨xs, n, _, -, hl, hxl, hfs⟩ := DataW.trod_struct Tryz.underlying31 hf
 rw [cellRp] at hl
 have hxl : xs.length = 4 := hxl
 have hcs : (Value.agg cs).cells.toList = cs.toList := rfl
 rw [hcs] at hl hfs
 match hc : cs.toList, hl with
 | [c0, c1, c2, c3], _ =>
  rw [hc] at hfs
  match xs, hxl with
  | [y0, y1, y2, y3], _ =>
   have f0 : DataW.trod enc Tryz.prog w 0 (fun _ => true) true n 29 (([c0, c1, c2, c3].drop 0).take (Tryz.prog.cellsOf 29)) = some y0 := hfs 0 _ rfl
   rw [cell1E] at f0
   have f1 : DataW.trod enc Tryz.prog w 0 (fun _ => true) true n 4 (([c0, c1, c2, c3].drop 1).take (Tryz.prog.cellsOf 4)) = some y1 := hfs 1 _ rfl
   rw [cell1B] at f1
   have f2 : DataW.trod enc Tryz.prog w 0 (fun _ => true) true n 9 (([c0, c1, c2, c3].drop 2).take (Tryz.prog.cellsOf 9)) = some y2 := hfs 2 _ rfl
   rw [cell1S] at f2
   have f3 : DataW.trod enc Tryz.prog w 0 (fun _ => true) true n 27 (([c0, c1, c2, c3].drop 3).take (Tryz.prog.cellsOf 27)) = some y3 := hfs 3 _ rfl
   rw [cell1L] at f3
   obtain ⟨a0, e0, -, -⟩ := DataW.trod_int Tryz.underlying29 (show DataW.trod enc Tryz.prog w 0 (fun _ => true) true n 29 [c0] = some y0 from f0)
   obtain ⟨a1, e1, -⟩ := DataW.trod_bool Tryz.underlying4 (show DataW.trod enc Tryz.prog w 0 (fun _ => true) true n 4 [c1] = some y1 from f1)
   obtain ⟨a2, e2, -⟩ := DataW.trod_string Tryz.underlying9 (show DataW.trod enc Tryz.prog w 0 (fun _ => true) true n 9 [c2] = some y2 from f2)
   have f3 : DataW.trod enc Tryz.prog w 0 (fun _ => true) true n 27 [c3] = some (y3.1, y3.2) := f3
   have hsl : ∃ a len cap, c3 = .slice a len cap := by
    rcases open_slice Tryz.underlying27 f3 with ⟨hcs, _⟩ | ⟨x, n, c, m, fu, Dd, Pl, hcs, _⟩
    ·simp only [List.cons.injEq, and_true] at hcs
     exact ⟨_, _, _, hcs⟩
    ·simp only [List.cons.injEq, and_true] at hcs
     exact ⟨_, _, _, hcs⟩
   obtain ⟨a3, len, cap, e3⟩ := hsl
   simp only [List.cons.injEq, and_true] at e0 e1 e2
   subst e0 e1 e2 e3
   obtain ⟨L, hL⟩ := openL (a := a3) (len := len) (cap := cap) f3
   refine ⟨⟨a0, a1, a2, a3, len, cap⟩, ⟨a0, a1, a2, L⟩, ?_, rfl, rfl, rfl, hL⟩
   unfold Rv.v
   have hs' : cs.toList = (Rv.cs ⟨a0, a1, a2, a3, len, cap⟩).toList := hc
   rw [Array.toList_inj.1 hs']
end
end Go.Proofs.YtcpkhhbbjimdaaaGreatDoor.Ce
