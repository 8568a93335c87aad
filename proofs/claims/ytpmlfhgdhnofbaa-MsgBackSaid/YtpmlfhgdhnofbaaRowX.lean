/- How arguments that came in are opened: a slice of bytes, a slice of texts, a text. How an argument is opened that is a cell, or a slice of cells. How an argument is opened that is a slice of cells, with how many there are at most. How an argument is opened that is a slice of slices of cells; parts of such slices. How an argument is opened that is a slice of structs of one-cell parts, whatever the type. A command that came in, opened; what the condition on cmd's table gives. How commands and replies are opened that come in as arguments. -/
import Derived.Test.YtpmlfhgdhnofbaaBase
import Derived.ProofKit
import Derived.OpenShut
import Derived.ShutString
import Derived.ChangeOld
import Derived.Below
import Derived.SizedLaws
import Derived.Test.YtpmlfhgdhnofbaaCsA
import Derived.Deep.Slices
import Derived.Test.YtpmlfhgdhnofbaaStA
import Derived.Test.YtpmlfhgdhnofbaaCmY
import Derived.Test.YtpmlfhgdhnofbaaRows
import Derived.LaidMore
import Derived.Lib.SmallJoins
import Derived.Stop.Joined
import Derived.Test.YtpmlfhgdhnofbaaRpX
namespace Go.Proofs.Ytpmlfhgdhnofbaa
open Go.ChangeShapes Go.WideShapes Go.ChangeAt Go.RowKit
open Go.ChangeMaps (open_string shut_string)
theorem own : ownKnob Try.prog.godebug = none := by kernel_rfl
theorem laidOut : laidOutB Try.prog = true := by kernel_rfl
section
variable {H : Type} {enc : TypeId × Value → H} {P : Program} {w : World}
theorem spot_none {x : Addr} {u : Value} (h : w.cell? (x.add 0) = some u) : x = ⟨x.block, x.off, none⟩ := by
 obtain ⟨b, off, spot⟩ := x
 have : spot = none := by simpa [Addr.add] using World.cell?_spot h
 subst this
 rfl
theorem openB {ts : List TypeId} {ds : List (DataW H)} {j t e : Nat} {a : Option Addr} {len cap fuel : Nat} {d : DataW H} {p : List MemPlace}
  (hsz : (DataW.weightsEach P ts ds).all (· ≤ reachBytes) = true) (hj : ts[j]? = some t) (hd : ds[j]? = some d)
  (ht : P.underlying t = some (.slice e)) (he : P.underlying e = some (.int .u8)) (hc : P.cellsOf e = 1) (hby : P.bytesOf e = 1)
  (hf : DataW.trod enc P w 0 (fun _ => true) true fuel t (Value.slice a len cap).cells.toList = some (d, p)) :
  ∃ l : List UInt8, Rd w w.heap.size (.slice a len cap) (l.map bv) ∧ l.length ≤ 140737488351232 := by
 rcases open_ints ht he hc hf with ⟨hcs, _⟩ | ⟨x, l, c, zs, hcs, _, hl, hm, hz, hx, hcell, hwz⟩
 ·simp [Value.cells] at hcs
  obtain ⟨rfl, rfl, rfl⟩ := hcs
  exact ⟨[], Rd.nil _ _, by simp⟩
 ·simp [Value.cells] at hcs
  obtain ⟨rfl, rfl, rfl⟩ := hcs
  have hzl : zs.length = cap := by simpa using hz
  injection hx with hx _
  subst hx
  have hs := sized_slice hsz hj hd ht
  rw [hby, Nat.mul_one] at hs
  simp only [lits, List.length_map, List.length_take, List.length_drop, reachBytes] at hs
  have hll : ((zs.take len).map fun z => UInt8.ofNat z.toNat).length = len := by simp; omega
  refine ⟨(zs.take len).map fun z => UInt8.ofNat z.toNat, ⟨some x, cap, by rw [List.length_map, hll], by rw [List.length_map, hll]; exact hl, hm, fun hp => ?_⟩, by rw [hll]; omega⟩
  rw [List.length_map, hll] at hp
  have h0 := hcell 0 (by omega)
  have hx := spot_none h0
  refine ⟨x.block, x.off, by rw [← hx], ?_, fun j u hu => ?_⟩
  ·have := World.block_lt_of_cell? w _ h0
   rw [hx, Addr.add_lit] at this
   exact this
  ·have hjl : j < len := by
    have := (List.getElem?_eq_some_iff.1 hu).1
    rw [List.length_map, hll] at this
    exact this
   have hcj := hcell j (by omega)
   rw [hx, Addr.add_lit] at hcj
   rw [hcj]
   have hjz : j < zs.length := by omega
   rw [← hu]
   have hw := hwz _ (List.getElem_mem hjz)
   have hb8 := bounds_u8 hw
   simp [List.getElem?_map, hjl, List.getElem?_eq_getElem hjz, bv]
   omega
end
end Go.Proofs.Ytpmlfhgdhnofbaa
namespace Go.Proofs.Ytpmlfhgdhnofbaa.Ce
open Go.ChangeShapes Go.WideShapes Go.ChangeAt Go.RowKit Go.Deep
section
variable {H : Type} {enc : TypeId × Value → H} {w : World}
end
end Go.Proofs.Ytpmlfhgdhnofbaa.Ce
namespace Go.Proofs.Ytpmlfhgdhnofbaa.Ce
open Go.ChangeShapes Go.WideShapes Go.ChangeAt Go.RowKit Go.Deep
section
variable {H : Type} {enc : TypeId × Value → H} {w : World}
end
end Go.Proofs.Ytpmlfhgdhnofbaa.Ce
namespace Go.Proofs.Ytpmlfhgdhnofbaa.Ce
open Go.ChangeShapes Go.WideShapes Go.ChangeAt Go.RowKit Go.Deep
section
variable {w : World} {LL : List (List Cl)}
theorem RdB.cutTo {A : Option Addr} {n c k : Nat} (h : RdB w (.slice A n c) LL) (hk : k ≤ n) : RdB w (.slice A k c) (LL.take k) := by
 obtain ⟨vs, h1, h2, h3⟩ := h
 refine ⟨vs.take k, h1.cutTo hk, by rw [List.length_take, List.length_take, h2], fun j u L hu hL => ?_⟩
 rw [List.getElem?_take] at hu hL
 split at hu
 ·rename_i hj
  rw [if_pos hj] at hL
  exact h3 j u L hu hL
 ·cases hu
theorem RdB.fromC {b off n c k : Nat} (h : RdB w (.slice (some ⟨b, off, none⟩) n c) LL) (hk : k ≤ n) (hne : ¬ c = k) : RdB w (.slice (some ⟨b, off + k, none⟩) (n - k) (c - k)) (LL.drop k) := by
 obtain ⟨vs, h1, h2, h3⟩ := h
 refine ⟨vs.drop k, h1.fromC hk hne, by rw [List.length_drop, List.length_drop, h2], fun j u L hu hL => ?_⟩
 rw [List.getElem?_drop] at hu hL
 exact h3 (k + j) u L hu hL
theorem RdB.midC {b off n c lo hi : Nat} (h : RdB w (.slice (some ⟨b, off, none⟩) n c) LL) (h1 : lo ≤ hi) (h2 : hi ≤ n) (hne : ¬ c = lo) : RdB w (.slice (some ⟨b, off + lo, none⟩) (hi - lo) (c - lo)) ((LL.take hi).drop lo) := by
 have h3 := (h.cutTo h2).fromC (k := lo) h1 hne
 exact h3
end
section
variable {H : Type} {enc : TypeId × Value → H} {w : World}
end
end Go.Proofs.Ytpmlfhgdhnofbaa.Ce
namespace Go.Proofs.Ytpmlfhgdhnofbaa.St
open Go.ChangeShapes Go.WideShapes Go.ChangeAt Go.RowKit Go.Deep
section
variable {H : Type} {enc : TypeId × Value → H} {w : World} {α : Type} {P : Program} {D : Sp α} {Q : α → Prop}
theorem openSl (hD : D.Ok P) (hts : P.underlying D.ts = some (.slice D.t)) (hce : P.cellsOf D.t = D.k)
  (hel : ∀ (fuel : Nat) (cs : List Value) (y : DataW H × List MemPlace), DataW.trod enc P w 0 (fun _ => true) true fuel D.t cs = some y → ∃ x : α, cs = (D.f x).toList ∧ Q x)
  {a : Option Addr} {len cap fuel : Nat} {d : DataW H} {p : List MemPlace}
  (hf : DataW.trod enc P w 0 (fun _ => true) true fuel D.ts (Value.slice a len cap).cells.toList = some (d, p)) : ∃ L : List α, RdS D w [] (.slice a len cap) L ∧ ∀ x ∈ L, Q x := by
 rcases open_slice hts hf with ⟨hcs, _⟩ | ⟨x, n, c, m, fu, Dd, Pl, hcs, _, hl, hm, hmm, hx, hall⟩
 ·simp [Value.cells] at hcs
  obtain ⟨rfl, rfl, rfl⟩ := hcs
  exact ⟨[], RdS.nil _ _ _, by simp⟩
 ·simp [Value.cells] at hcs
  obtain ⟨rfl, rfl, rfl⟩ := hcs
  simp only [if_true] at hmm
  subst hmm
  have hone : ∀ i, i < len → ∃ y : α, (∀ k u, (D.f y)[k]? = some u → w.cell? (x.add (i * D.k + k)) = some u) ∧ Q y := by
   intro i hi
   obtain ⟨cs', hcc, htr⟩ := hall i (by omega)
   rw [hce] at hcc
   obtain ⟨_, hcl, hat⟩ := World.cells?_some hcc
   obtain ⟨y, rfl, hq⟩ := hel _ _ _ htr
   refine ⟨y, fun k u hu => ?_, hq⟩
   have hk : k < D.k := by
    have := (Array.getElem?_eq_some_iff.1 hu).1
    rwa [hD.size] at this
   have := hat k hk
   rw [Go.Deep.add_add] at this
   rw [this]
   simpa using hu
  have hex : ∃ L : List α, L.length = len ∧ ∀ (i : Nat) (y : α), L[i]? = some y → (∀ k u, (D.f y)[k]? = some u → w.cell? (x.add (i * D.k + k)) = some u) ∧ Q y := by
   refine ⟨(List.range len).map fun i => if h : i < len then Classical.choose (hone i h) else D.z, by simp, fun i y hy => ?_⟩
   rw [List.getElem?_map] at hy
   by_cases hi : i < len
   ·rw [List.getElem?_range hi, Option.map_some, dif_pos hi] at hy
    injection hy with hy
    rw [← hy]
    exact Classical.choose_spec (hone i hi)
   ·rw [List.getElem?_eq_none (by simpa using hi)] at hy
    cases hy
  obtain ⟨L, hL, hat⟩ := hex
  have hpos := hD.pos
  refine ⟨L, ⟨some x, _, by rw [hL], by rw [hL]; exact hl, hm, fun hp => ?_⟩, fun y hy => ?_⟩
  ·obtain ⟨y0, hy0⟩ : ∃ y, L[0]? = some y := ⟨_, List.getElem?_eq_getElem hp⟩
   have h0 := (hat 0 y0 hy0).1 0 _ (Array.getElem?_eq_getElem (show 0 < (D.f y0).size by rw [hD.size]; exact hpos))
   rw [Nat.zero_mul] at h0
   have hxn := spot_none h0
   refine ⟨x.block, x.off, by rw [← hxn], ?_, by simp, fun i u hu => ?_⟩
   ·have := World.block_lt_of_cell? w _ h0
    rw [hxn, Addr.add_lit] at this
    exact this
   ·have hi : i < L.length * D.k := by
     have := (List.getElem?_eq_some_iff.1 hu).1
     rw [flat_len hD] at this
     exact this
    have hdiv : i / D.k < L.length := Nat.div_lt_of_lt_mul (by rw [Nat.mul_comm]; exact hi)
    obtain ⟨y, hy⟩ : ∃ y, L[i / D.k]? = some y := ⟨_, List.getElem?_eq_getElem hdiv⟩
    have hlt : i % D.k < (D.f y).size := by rw [hD.size]; exact Nat.mod_lt _ hpos
    have h6 := flat_at hD hy (i % D.k) _ (Array.getElem?_eq_getElem hlt)
    rw [Nat.div_add_mod' i D.k] at h6
    rw [hu] at h6
    injection h6 with h6
    subst h6
    have := (hat _ y hy).1 (i % D.k) _ (Array.getElem?_eq_getElem hlt)
    rw [Nat.div_add_mod' i D.k, hxn, Addr.add_lit] at this
    exact this
  ·obtain ⟨i, hi⟩ := List.getElem?_of_mem hy
   exact (hat i y hi).2
end
end Go.Proofs.Ytpmlfhgdhnofbaa.St
namespace Go.Proofs.Ytpmlfhgdhnofbaa.Ce
open Go.ChangeShapes Go.WideShapes Go.ChangeAt Go.RowKit
section
variable {H : Type} {enc : TypeId × Value → H} {w : World}
end
section
variable {w : World} {base : Nat} {sp : Nat → Bool} {held : Bool}
end
end Go.Proofs.Ytpmlfhgdhnofbaa.Ce
namespace Go.Proofs.Ytpmlfhgdhnofbaa.Ce
open Go.ChangeShapes Go.WideShapes Go.ChangeAt Go.RowKit Go.Deep
section
variable {H : Type} {enc : TypeId × Value → H} {w : World}
end
end Go.Proofs.Ytpmlfhgdhnofbaa.Ce
