/- How arguments that came in are opened: a slice of bytes, a slice of texts, a text. How an argument is opened that is a cell, or a slice of cells. How an argument is opened that is a slice of cells, with how many there are at most. How an argument is opened that is a slice of slices of cells; parts of such slices. How an argument is opened that is a slice of structs of one-cell parts, whatever the type. A command that came in, opened; what the condition on cmd's table gives. How commands and replies are opened that come in as arguments. -/
import Derived.Test.YtaddbhdkgneiaaaBase
import Derived.ProofKit
import Derived.OpenShut
import Derived.ShutString
import Derived.ChangeOld
import Derived.Below
import Derived.SizedLaws
import Derived.Test.YtaddbhdkgneiaaaCsA
import Derived.Deep.Slices
import Derived.Test.YtaddbhdkgneiaaaStA
import Derived.Test.YtaddbhdkgneiaaaCmY
import Derived.Test.YtaddbhdkgneiaaaRows
import Derived.LaidMore
import Derived.Lib.SmallJoins
import Derived.Stop.Joined
import Derived.Test.YtaddbhdkgneiaaaRpX
namespace Go.Proofs.Ytaddbhdkgneiaaa
open Go.ChangeShapes Go.WideShapes Go.ChangeAt Go.RowKit
open Go.ChangeMaps (open_string shut_string)
theorem own : ownKnob Try.prog.godebug = none := by kernel_rfl
theorem laidOut : laidOutB Try.prog = true := by kernel_rfl
section
variable {H : Type} {enc : TypeId × Value → H} {P : Program} {w : World}
theorem spot_none {x : Addr} {u : Value} (h : w.cell? (x.add 0) = some u) : x = ⟨x.block, x.off, none⟩ := by
 obtain ⟨b, off, spot⟩ := x
 have : spot = none := by simpa [Addr.add] using World.cell?_spot h
 subst this
 rfl
theorem openB {ts : List TypeId} {ds : List (DataW H)} {j t e : Nat} {a : Option Addr} {len cap fuel : Nat} {d : DataW H} {p : List MemPlace}
  (hsz : (DataW.weightsEach P ts ds).all (· ≤ reachBytes) = true) (hj : ts[j]? = some t) (hd : ds[j]? = some d)
  (ht : P.underlying t = some (.slice e)) (he : P.underlying e = some (.int .u8)) (hc : P.cellsOf e = 1) (hby : P.bytesOf e = 1)
  (hf : DataW.trod enc P w 0 (fun _ => true) true fuel t (Value.slice a len cap).cells.toList = some (d, p)) :
  ∃ l : List UInt8, Rd w w.heap.size (.slice a len cap) (l.map bv) ∧ l.length ≤ 140737488351232 := by
 rcases open_ints ht he hc hf with ⟨hcs, _⟩ | ⟨x, l, c, zs, hcs, _, hl, hm, hz, hx, hcell, hwz⟩
 ·simp [Value.cells] at hcs
  obtain ⟨rfl, rfl, rfl⟩ := hcs
  exact ⟨[], Rd.nil _ _, by simp⟩
 ·simp [Value.cells] at hcs
  obtain ⟨rfl, rfl, rfl⟩ := hcs
  have hzl : zs.length = cap := by simpa using hz
  injection hx with hx _
  subst hx
  have hs := sized_slice hsz hj hd ht
  rw [hby, Nat.mul_one] at hs
  simp only [lits, List.length_map, List.length_take, List.length_drop, reachBytes] at hs
  have hll : ((zs.take len).map fun z => UInt8.ofNat z.toNat).length = len := by simp; omega
  refine ⟨(zs.take len).map fun z => UInt8.ofNat z.toNat, ⟨some x, cap, by rw [List.length_map, hll], by rw [List.length_map, hll]; exact hl, hm, fun hp => ?_⟩, by rw [hll]; omega⟩
  rw [List.length_map, hll] at hp
  have h0 := hcell 0 (by omega)
  have hx := spot_none h0
  refine ⟨x.block, x.off, by rw [← hx], ?_, fun j u hu => ?_⟩
  ·have := World.block_lt_of_cell? w _ h0
   rw [hx, Addr.add_lit] at this
   exact this
  ·have hjl : j < len := by
    have := (List.getElem?_eq_some_iff.1 hu).1
    rw [List.length_map, hll] at this
    exact this
   have hcj := hcell j (by omega)
   rw [hx, Addr.add_lit] at hcj
   rw [hcj]
   have hjz : j < zs.length := by omega
   rw [← hu]
   have hw := hwz _ (List.getElem_mem hjz)
   have hb8 := bounds_u8 hw
   simp [List.getElem?_map, hjl, List.getElem?_eq_getElem hjz, bv]
   omega
end
end Go.Proofs.Ytaddbhdkgneiaaa
namespace Go.Proofs.Ytaddbhdkgneiaaa.Ce
open Go.ChangeShapes Go.WideShapes Go.ChangeAt Go.RowKit Go.Deep
section
variable {H : Type} {enc : TypeId × Value → H} {w : World}
end
end Go.Proofs.Ytaddbhdkgneiaaa.Ce
namespace Go.Proofs.Ytaddbhdkgneiaaa.Ce
open Go.ChangeShapes Go.WideShapes Go.ChangeAt Go.RowKit Go.Deep
section
variable {H : Type} {enc : TypeId × Value → H} {w : World}
end
end Go.Proofs.Ytaddbhdkgneiaaa.Ce
namespace Go.Proofs.Ytaddbhdkgneiaaa.Ce
open Go.ChangeShapes Go.WideShapes Go.ChangeAt Go.RowKit Go.Deep
section
variable {w : World} {LL : List (List Cl)}
theorem RdB.cutTo {A : Option Addr} {n c k : Nat} (h : RdB w (.slice A n c) LL) (hk : k ≤ n) : RdB w (.slice A k c) (LL.take k) := by
 obtain ⟨vs, h1, h2, h3⟩ := h
 refine ⟨vs.take k, h1.cutTo hk, by rw [List.length_take, List.length_take, h2], fun j u L hu hL => ?_⟩
 rw [List.getElem?_take] at hu hL
 split at hu
 ·rename_i hj
  rw [if_pos hj] at hL
  exact h3 j u L hu hL
 ·cases hu
theorem RdB.fromC {b off n c k : Nat} (h : RdB w (.slice (some ⟨b, off, none⟩) n c) LL) (hk : k ≤ n) (hne : ¬ c = k) : RdB w (.slice (some ⟨b, off + k, none⟩) (n - k) (c - k)) (LL.drop k) := by
 obtain ⟨vs, h1, h2, h3⟩ := h
 refine ⟨vs.drop k, h1.fromC hk hne, by rw [List.length_drop, List.length_drop, h2], fun j u L hu hL => ?_⟩
 rw [List.getElem?_drop] at hu hL
 exact h3 (k + j) u L hu hL
theorem RdB.midC {b off n c lo hi : Nat} (h : RdB w (.slice (some ⟨b, off, none⟩) n c) LL) (h1 : lo ≤ hi) (h2 : hi ≤ n) (hne : ¬ c = lo) : RdB w (.slice (some ⟨b, off + lo, none⟩) (hi - lo) (c - lo)) ((LL.take hi).drop lo) := by
 have h3 := (h.cutTo h2).fromC (k := lo) h1 hne
 exact h3
theorem RdB.none_ {A : Option Addr} {c : Nat} (hc : c ≤ maxLen) : RdB w (.slice A 0 c) [] := ⟨[], ⟨A, c, rfl, Nat.zero_le _, hc, fun h => absurd h (by simp)⟩, rfl, fun j u L h => by simp at h⟩
end
section
variable {H : Type} {enc : TypeId × Value → H} {w : World}
end
end Go.Proofs.Ytaddbhdkgneiaaa.Ce
namespace Go.Proofs.Ytaddbhdkgneiaaa.St
open Go.ChangeShapes Go.WideShapes Go.ChangeAt Go.RowKit Go.Deep
section
variable {H : Type} {enc : TypeId × Value → H} {w : World} {α : Type} {P : Program} {D : Sp α} {Q : α → Prop}
end
end Go.Proofs.Ytaddbhdkgneiaaa.St
namespace Go.Proofs.Ytaddbhdkgneiaaa.Ce
open Go.ChangeShapes Go.WideShapes Go.ChangeAt Go.RowKit
section
variable {H : Type} {enc : TypeId × Value → H} {w : World}
end
section
variable {w : World} {base : Nat} {sp : Nat → Bool} {held : Bool}
end
end Go.Proofs.Ytaddbhdkgneiaaa.Ce
namespace Go.Proofs.Ytaddbhdkgneiaaa.Ce
open Go.ChangeShapes Go.WideShapes Go.ChangeAt Go.RowKit Go.Deep
section
variable {H : Type} {enc : TypeId × Value → H} {w : World}
end
end Go.Proofs.Ytaddbhdkgneiaaa.Ce
