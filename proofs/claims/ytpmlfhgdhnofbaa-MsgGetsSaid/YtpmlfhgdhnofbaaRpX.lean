/- Replies and the reference's states of layer 16, plain and as values. The contract of the reference's Same of layer 8, at whatever two slices of cells. The contracts of the reference's Same and put of layer 16. The contract of slices.Equal of cells. The contract of state's Same. -/
import Derived.Test.YtpmlfhgdhnofbaaCmX
import Derived.Test.YtpmlfhgdhnofbaaCbA
import Derived.Test.YtpmlfhgdhnofbaaCsA
import Derived.Test.YtpmlfhgdhnofbaaMgPl
import Derived.Test.YtpmlfhgdhnofbaaClA
import Derived.IntWalk
import Derived.Deep.RegionLaw
namespace Go.Proofs.Ytpmlfhgdhnofbaa.Ce
open Go.RowKit
structure Rp where
 e : Int
 did : Bool
 value : ByteArray
 cells : List Cl
def Rp.zero : Rp := ⟨0, false, ⟨#[]⟩, []⟩
theorem Rp.ext' {a b : Rp} (h0 : a.e = b.e) (h1 : a.did = b.did) (h2 : a.value = b.value) (h3 : a.cells = b.cells) : a = b := by
 cases a; cases b; simp_all
structure Rv where
 e : Int
 did : Bool
 value : ByteArray
 a : Option Addr
 n : Nat
 c : Nat
def Rv.cs (r : Rv) : Array Value := #[.int .i64 r.e, .bool r.did, .string r.value, .slice r.a r.n r.c]
def Rv.v (r : Rv) : Value := .agg r.cs
structure RpIs (w : World) (S : List Nat) (r : Rv) (R : Rp) : Prop where
 e : r.e = R.e
 did : r.did = R.did
 value : r.value = R.value
 cells : RdL w S (.slice r.a r.n r.c) R.cells
theorem RpIs.bel {w w' : World} {S : List Nat} {r : Rv} {R : Rp} (h : RpIs w S r R) (hb : Below w.heap.size w w') : RpIs w' S r R := ⟨h.e, h.did, h.value, h.cells.bel hb⟩
end Go.Proofs.Ytpmlfhgdhnofbaa.Ce
namespace Go.Proofs.Ytpmlfhgdhnofbaa.Ce
open Go.RowKit
end Go.Proofs.Ytpmlfhgdhnofbaa.Ce
namespace Go.Proofs.Ytpmlfhgdhnofbaa.Ce
open Go.RowKit
noncomputable instance : DecidableEq Rp := fun _ _ => Classical.propDecidable _
def roomB (L : List Cl) (c : Cl) : Bool := decide ((put1 c L).length ≤ 400)
def putL (L : List Cl) (c : Cl) : List Cl := if roomB L c = true then put1 c L else L
end Go.Proofs.Ytpmlfhgdhnofbaa.Ce
namespace Go.Proofs.Ytpmlfhgdhnofbaa.Ce
open Go.RowKit
end Go.Proofs.Ytpmlfhgdhnofbaa.Ce
namespace Go.Proofs.Ytpmlfhgdhnofbaa.Ce
open Go.RowKit
end Go.Proofs.Ytpmlfhgdhnofbaa.Ce
