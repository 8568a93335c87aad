/-
  No cell of these rows narrows 'for every input' (looked for: loops, veiled, ifaces, maps, wideKeys, modest, calm, conditions, laid).
  DERIVED. THE GIVEN ROWS OF THIS SEAT. 6 by the template 'for every input the law returns true; each argument reads behind the call as it read before'; 0 by the template 'total and deterministic' (their statements: YtjhnbhgpnmfdgaaTotals.lean).
  GIVEN WITH THE SEED: the statements are not yours to turn. If you find one false, say at which input.
  Laid BY PROGRAM, IN A SANDBOX (cutbox-rows.mjs): the forced cells as the released guide's own fill.sh prints them over the translation 2f3c13118c3a6841… (all of the seat's roots in one cut). By AI agents, Wed Nov 11 2026. No macro, syntax, notation, axiom, sorry.
-/
import Derived.Test.YtjhnbhgpnmfdgaaChecked
import GoSem.Claim
import GoSem.ClaimJoined
import GoSem.ClaimMapViews
import Derived.JoinedTies
import Derived.KernelRfl
namespace Go.Proofs.Ytjhnbhgpnmfdgaa
/- THE CELL 'sum', in the pinned program and in every row, IS THE sha256 OF THE DUMP (.gsa) THAT YtjhnbhgpnmfdgaaProg.lean LOADS. Nothing in Lean hashes anything: it is a label: what it is worth is what the hold of that sum in a sandbox is worth. -/
noncomputable def Try.pinned : Pinned := { name := "ytjhnbhgpnmfdgaa", sum := "2f3c13118c3a68414653cb138808f2b5a114963e86b6df2abc8eef843e1b71b3", checked := Try.checked }
namespace Rows
def none {H : Type} : Left H := { results := [], args := [] }

/-- 'shardloglaw04.MatrixProducts': WHATEVER THE INPUT: true; the input reads as it did. -/
def matrixProductsSpec : ChangeSpec := { name := "matrixProducts", fn := fun _ => fun
  | [d1, d2] => { results := [.lit (.bool true)], args := [d1, d2] }
  | _ => none }
def matrixProductsRow : OpenClaim := { program := "ytjhnbhgpnmfdgaa", sum := "2f3c13118c3a68414653cb138808f2b5a114963e86b6df2abc8eef843e1b71b3", func := "shardlog/shardloglaw04.MatrixProducts", spec := "matrixProducts", unfollowed := true, recurses := true, apart := false }
def MatrixProductsSaid : Prop := matrixProductsRow.holds Try.pinned (OpenSpec.ofChange matrixProductsSpec)

/-- ITS FALSE NEIGHBOUR: 'it returns false'. Refute it at one input. -/
def matrixProductsWrong : ChangeSpec := { name := "matrixProducts", fn := fun _ => fun
  | [d1, d2] => { results := [.lit (.bool false)], args := [d1, d2] }
  | _ => none }
def MatrixProductsWrongFalsely : Prop := matrixProductsRow.holds Try.pinned (OpenSpec.ofChange matrixProductsWrong)

/-- 'shardloglaw04.MatrixBack': WHATEVER THE INPUT: true; the input reads as it did. -/
def matrixBackSpec : ChangeSpec := { name := "matrixBack", fn := fun _ => fun
  | [d] => { results := [.lit (.bool true)], args := [d] }
  | _ => none }
def matrixBackRow : OpenClaim := { program := "ytjhnbhgpnmfdgaa", sum := "2f3c13118c3a68414653cb138808f2b5a114963e86b6df2abc8eef843e1b71b3", func := "shardlog/shardloglaw04.MatrixBack", spec := "matrixBack", unfollowed := true, recurses := true, apart := false }
def MatrixBackSaid : Prop := matrixBackRow.holds Try.pinned (OpenSpec.ofChange matrixBackSpec)

/-- ITS FALSE NEIGHBOUR: 'it returns false'. Refute it at one input. -/
def matrixBackWrong : ChangeSpec := { name := "matrixBack", fn := fun _ => fun
  | [d] => { results := [.lit (.bool false)], args := [d] }
  | _ => none }
def MatrixBackWrongFalsely : Prop := matrixBackRow.holds Try.pinned (OpenSpec.ofChange matrixBackWrong)

/-- 'shardloglaw04.MatrixCodes': WHATEVER THE INPUT: true; the input reads as it did. -/
def matrixCodesSpec : ChangeSpec := { name := "matrixCodes", fn := fun _ => fun
  | [d1, d2, d3] => { results := [.lit (.bool true)], args := [d1, d2, d3] }
  | _ => none }
def matrixCodesRow : OpenClaim := { program := "ytjhnbhgpnmfdgaa", sum := "2f3c13118c3a68414653cb138808f2b5a114963e86b6df2abc8eef843e1b71b3", func := "shardlog/shardloglaw04.MatrixCodes", spec := "matrixCodes", unfollowed := true, recurses := true, apart := false }
def MatrixCodesSaid : Prop := matrixCodesRow.holds Try.pinned (OpenSpec.ofChange matrixCodesSpec)

/-- ITS FALSE NEIGHBOUR: 'it returns false'. Refute it at one input. -/
def matrixCodesWrong : ChangeSpec := { name := "matrixCodes", fn := fun _ => fun
  | [d1, d2, d3] => { results := [.lit (.bool false)], args := [d1, d2, d3] }
  | _ => none }
def MatrixCodesWrongFalsely : Prop := matrixCodesRow.holds Try.pinned (OpenSpec.ofChange matrixCodesWrong)

/-- 'shardloglaw04.MatrixAny': WHATEVER THE INPUT: true; the input reads as it did. -/
def matrixAnySpec : ChangeSpec := { name := "matrixAny", fn := fun _ => fun
  | [d1, d2, d3] => { results := [.lit (.bool true)], args := [d1, d2, d3] }
  | _ => none }
def matrixAnyRow : OpenClaim := { program := "ytjhnbhgpnmfdgaa", sum := "2f3c13118c3a68414653cb138808f2b5a114963e86b6df2abc8eef843e1b71b3", func := "shardlog/shardloglaw04.MatrixAny", spec := "matrixAny", unfollowed := true, recurses := true, apart := false }
def MatrixAnySaid : Prop := matrixAnyRow.holds Try.pinned (OpenSpec.ofChange matrixAnySpec)

/-- ITS FALSE NEIGHBOUR: 'it returns false'. Refute it at one input. -/
def matrixAnyWrong : ChangeSpec := { name := "matrixAny", fn := fun _ => fun
  | [d1, d2, d3] => { results := [.lit (.bool false)], args := [d1, d2, d3] }
  | _ => none }
def MatrixAnyWrongFalsely : Prop := matrixAnyRow.holds Try.pinned (OpenSpec.ofChange matrixAnyWrong)

/-- 'shardloglaw04.MatrixKeeps': WHATEVER THE INPUT: true; the input reads as it did. -/
def matrixKeepsSpec : ChangeSpec := { name := "matrixKeeps", fn := fun _ => fun
  | [d] => { results := [.lit (.bool true)], args := [d] }
  | _ => none }
def matrixKeepsRow : OpenClaim := { program := "ytjhnbhgpnmfdgaa", sum := "2f3c13118c3a68414653cb138808f2b5a114963e86b6df2abc8eef843e1b71b3", func := "shardlog/shardloglaw04.MatrixKeeps", spec := "matrixKeeps", unfollowed := true, recurses := true, apart := false }
def MatrixKeepsSaid : Prop := matrixKeepsRow.holds Try.pinned (OpenSpec.ofChange matrixKeepsSpec)

/-- ITS FALSE NEIGHBOUR: 'it returns false'. Refute it at one input. -/
def matrixKeepsWrong : ChangeSpec := { name := "matrixKeeps", fn := fun _ => fun
  | [d] => { results := [.lit (.bool false)], args := [d] }
  | _ => none }
def MatrixKeepsWrongFalsely : Prop := matrixKeepsRow.holds Try.pinned (OpenSpec.ofChange matrixKeepsWrong)

/-- 'shardloglaw04.MatrixTimes': WHATEVER THE INPUT: true; the input reads as it did. -/
def matrixTimesSpec : ChangeSpec := { name := "matrixTimes", fn := fun _ => fun
  | [d1, d2, d3] => { results := [.lit (.bool true)], args := [d1, d2, d3] }
  | _ => none }
def matrixTimesRow : OpenClaim := { program := "ytjhnbhgpnmfdgaa", sum := "2f3c13118c3a68414653cb138808f2b5a114963e86b6df2abc8eef843e1b71b3", func := "shardlog/shardloglaw04.MatrixTimes", spec := "matrixTimes", unfollowed := true, recurses := true, apart := false }
def MatrixTimesSaid : Prop := matrixTimesRow.holds Try.pinned (OpenSpec.ofChange matrixTimesSpec)

/-- ITS FALSE NEIGHBOUR: 'it returns false'. Refute it at one input. -/
def matrixTimesWrong : ChangeSpec := { name := "matrixTimes", fn := fun _ => fun
  | [d1, d2, d3] => { results := [.lit (.bool false)], args := [d1, d2, d3] }
  | _ => none }
def MatrixTimesWrongFalsely : Prop := matrixTimesRow.holds Try.pinned (OpenSpec.ofChange matrixTimesWrong)

/- THE SECOND FORM. 'bulk': how many values and letters a reading holds, each counted each time it is reached (what is shared counts as often as it is met; a slice's spare places count too). A statement '..UptoSaid' is the law's where the arguments, and the package variables that the reading takes, are together of bulk at most 1048576: NARROWER than '..Said'. Prove '..Said' where nothing that the law and all that it calls make is longer than what came in: it says more and counts as full. Else prove '..UptoSaid'. A law counts once. -/
mutual
def uptoBulk {H : Type} : DataW H → Nat
  | .lit (.string bytes) => bytes.length + 1
  | .lit _ => 1
  | .nil => 1
  | .ptr d => uptoBulk d + 1
  | .slice elems spare => uptoBulkAll elems + uptoBulkAll spare + 1
  | .agg parts => uptoBulkAll parts + 1
  | .iface _ d => uptoBulk d + 1
  | .map entries => uptoBulkEntries entries + 1
  | .held _ => 1
def uptoBulkAll {H : Type} : List (DataW H) → Nat
  | [] => 0
  | d :: r => uptoBulk d + uptoBulkAll r
def uptoBulkEntries {H : Type} : List (Lit × DataW H) → Nat
  | [] => 0
  | x :: r => uptoBulkEntry x + uptoBulkEntries r
def uptoBulkEntry {H : Type} : Lit × DataW H → Nat
  | (.string bytes, d) => bytes.length + uptoBulk d + 1
  | (_, d) => uptoBulk d + 1
 end
def uptoSmall : (H : Type) → List (DataW H) → Bool := fun _ ds => decide (uptoBulkAll ds ≤ 1048576)
def OpenSpec.upto (s : _root_.Go.ChangeSpec) : _root_.Go.OpenSpec := { _root_.Go.OpenSpec.ofChange s with cond := some uptoSmall }

/-- 'shardloglaw04.MatrixProducts', WHERE WHAT IT READS IS OF BULK AT MOST 1048576: true; the input reads as it did. -/
def matrixProductsUptoRow : OpenClaim := { program := "ytjhnbhgpnmfdgaa", sum := "2f3c13118c3a68414653cb138808f2b5a114963e86b6df2abc8eef843e1b71b3", func := "shardlog/shardloglaw04.MatrixProducts", spec := "matrixProducts", unfollowed := true, recurses := true, apart := false, narrowed := true }
def MatrixProductsUptoSaid : Prop := matrixProductsUptoRow.holds Try.pinned (OpenSpec.upto matrixProductsSpec)

/-- 'shardloglaw04.MatrixBack', WHERE WHAT IT READS IS OF BULK AT MOST 1048576: true; the input reads as it did. -/
def matrixBackUptoRow : OpenClaim := { program := "ytjhnbhgpnmfdgaa", sum := "2f3c13118c3a68414653cb138808f2b5a114963e86b6df2abc8eef843e1b71b3", func := "shardlog/shardloglaw04.MatrixBack", spec := "matrixBack", unfollowed := true, recurses := true, apart := false, narrowed := true }
def MatrixBackUptoSaid : Prop := matrixBackUptoRow.holds Try.pinned (OpenSpec.upto matrixBackSpec)

/-- 'shardloglaw04.MatrixCodes', WHERE WHAT IT READS IS OF BULK AT MOST 1048576: true; the input reads as it did. -/
def matrixCodesUptoRow : OpenClaim := { program := "ytjhnbhgpnmfdgaa", sum := "2f3c13118c3a68414653cb138808f2b5a114963e86b6df2abc8eef843e1b71b3", func := "shardlog/shardloglaw04.MatrixCodes", spec := "matrixCodes", unfollowed := true, recurses := true, apart := false, narrowed := true }
def MatrixCodesUptoSaid : Prop := matrixCodesUptoRow.holds Try.pinned (OpenSpec.upto matrixCodesSpec)

/-- 'shardloglaw04.MatrixAny', WHERE WHAT IT READS IS OF BULK AT MOST 1048576: true; the input reads as it did. -/
def matrixAnyUptoRow : OpenClaim := { program := "ytjhnbhgpnmfdgaa", sum := "2f3c13118c3a68414653cb138808f2b5a114963e86b6df2abc8eef843e1b71b3", func := "shardlog/shardloglaw04.MatrixAny", spec := "matrixAny", unfollowed := true, recurses := true, apart := false, narrowed := true }
def MatrixAnyUptoSaid : Prop := matrixAnyUptoRow.holds Try.pinned (OpenSpec.upto matrixAnySpec)

/-- 'shardloglaw04.MatrixKeeps', WHERE WHAT IT READS IS OF BULK AT MOST 1048576: true; the input reads as it did. -/
def matrixKeepsUptoRow : OpenClaim := { program := "ytjhnbhgpnmfdgaa", sum := "2f3c13118c3a68414653cb138808f2b5a114963e86b6df2abc8eef843e1b71b3", func := "shardlog/shardloglaw04.MatrixKeeps", spec := "matrixKeeps", unfollowed := true, recurses := true, apart := false, narrowed := true }
def MatrixKeepsUptoSaid : Prop := matrixKeepsUptoRow.holds Try.pinned (OpenSpec.upto matrixKeepsSpec)

/-- 'shardloglaw04.MatrixTimes', WHERE WHAT IT READS IS OF BULK AT MOST 1048576: true; the input reads as it did. -/
def matrixTimesUptoRow : OpenClaim := { program := "ytjhnbhgpnmfdgaa", sum := "2f3c13118c3a68414653cb138808f2b5a114963e86b6df2abc8eef843e1b71b3", func := "shardlog/shardloglaw04.MatrixTimes", spec := "matrixTimes", unfollowed := true, recurses := true, apart := false, narrowed := true }
def MatrixTimesUptoSaid : Prop := matrixTimesUptoRow.holds Try.pinned (OpenSpec.upto matrixTimesSpec)

end Rows
end Go.Proofs.Ytjhnbhgpnmfdgaa
