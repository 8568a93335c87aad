/-
  No cell of these rows narrows 'for every input' (looked for: loops, veiled, ifaces, maps, wideKeys, modest, calm, conditions, laid).
  DERIVED. THE GIVEN ROWS OF THIS SEAT. 3 by the template 'for every input the law returns true; each argument reads behind the call as it read before'; 0 by the template 'total and deterministic' (their statements: YtaddbhdkgneiaaaGreatTotals.lean).
  GIVEN WITH THE SEED: the statements are not yours to turn. If you find one false, say at which input.
  Laid BY PROGRAM, IN A SANDBOX (cutbox-rows.mjs): the forced cells as the released guide's own fill.sh prints them over the translation 386e70c22798f59c… (all of the seat's roots in one cut). By AI agents, Wed Nov 11 2026. No macro, syntax, notation, axiom, sorry.
-/
import Derived.Test.YtaddbhdkgneiaaaGreatChecked
import GoSem.Claim
import GoSem.ClaimJoined
import GoSem.ClaimMapViews
import Derived.JoinedTies
import Derived.KernelRfl
namespace Go.Proofs.YtaddbhdkgneiaaaGreat
/- THE CELL 'sum', in the pinned program and in every row, IS THE sha256 OF THE DUMP (.gsa) THAT YtaddbhdkgneiaaaGreatProg.lean LOADS. Nothing in Lean hashes anything: it is a label: what it is worth is what the hold of that sum in a sandbox is worth. -/
noncomputable def Tryz.pinned : Pinned := { name := "ytaddbhdkgneiaaagreat", sum := "386e70c22798f59c573d1c2b5e41609540475d654941d2b0f034f3b2f1090733", checked := Tryz.checked }
namespace Rows
def none {H : Type} : Left H := { results := [], args := [] }

/-- 'shardloglaw18.LogActs': WHATEVER THE INPUT: true; the input reads as it did. -/
def logActsSpec : ChangeSpec := { name := "logActs", fn := fun _ => fun
  | [d1, d2] => { results := [.lit (.bool true)], args := [d1, d2] }
  | _ => none }
def logActsRow : OpenClaim := { program := "ytaddbhdkgneiaaagreat", sum := "386e70c22798f59c573d1c2b5e41609540475d654941d2b0f034f3b2f1090733", func := "shardlog/shardloglaw18.LogActs", spec := "logActs", unfollowed := true, recurses := true, apart := false }
def LogActsSaid : Prop := logActsRow.holds Tryz.pinned (OpenSpec.ofChange logActsSpec)

/-- ITS FALSE NEIGHBOUR: 'it returns false'. Refute it at one input. -/
def logActsWrong : ChangeSpec := { name := "logActs", fn := fun _ => fun
  | [d1, d2] => { results := [.lit (.bool false)], args := [d1, d2] }
  | _ => none }
def LogActsWrongFalsely : Prop := logActsRow.holds Tryz.pinned (OpenSpec.ofChange logActsWrong)

/-- 'shardloglaw18.LogSynced': WHATEVER THE INPUT: true; the input reads as it did. -/
def logSyncedSpec : ChangeSpec := { name := "logSynced", fn := fun _ => fun
  | [d1, d2, d3] => { results := [.lit (.bool true)], args := [d1, d2, d3] }
  | _ => none }
def logSyncedRow : OpenClaim := { program := "ytaddbhdkgneiaaagreat", sum := "386e70c22798f59c573d1c2b5e41609540475d654941d2b0f034f3b2f1090733", func := "shardlog/shardloglaw18.LogSynced", spec := "logSynced", unfollowed := true, recurses := true, apart := false }
def LogSyncedSaid : Prop := logSyncedRow.holds Tryz.pinned (OpenSpec.ofChange logSyncedSpec)

/-- ITS FALSE NEIGHBOUR: 'it returns false'. Refute it at one input. -/
def logSyncedWrong : ChangeSpec := { name := "logSynced", fn := fun _ => fun
  | [d1, d2, d3] => { results := [.lit (.bool false)], args := [d1, d2, d3] }
  | _ => none }
def LogSyncedWrongFalsely : Prop := logSyncedRow.holds Tryz.pinned (OpenSpec.ofChange logSyncedWrong)

/-- 'shardloglaw18.LogCompacts': WHATEVER THE INPUT: true; the input reads as it did. -/
def logCompactsSpec : ChangeSpec := { name := "logCompacts", fn := fun _ => fun
  | [d] => { results := [.lit (.bool true)], args := [d] }
  | _ => none }
def logCompactsRow : OpenClaim := { program := "ytaddbhdkgneiaaagreat", sum := "386e70c22798f59c573d1c2b5e41609540475d654941d2b0f034f3b2f1090733", func := "shardlog/shardloglaw18.LogCompacts", spec := "logCompacts", unfollowed := true, recurses := true, apart := false }
def LogCompactsSaid : Prop := logCompactsRow.holds Tryz.pinned (OpenSpec.ofChange logCompactsSpec)

/-- ITS FALSE NEIGHBOUR: 'it returns false'. Refute it at one input. -/
def logCompactsWrong : ChangeSpec := { name := "logCompacts", fn := fun _ => fun
  | [d] => { results := [.lit (.bool false)], args := [d] }
  | _ => none }
def LogCompactsWrongFalsely : Prop := logCompactsRow.holds Tryz.pinned (OpenSpec.ofChange logCompactsWrong)

/- THE SECOND FORM. 'bulk': how many values and letters a reading holds, each counted each time it is reached (what is shared counts as often as it is met; a slice's spare places count too). A statement '..UptoSaid' is the law's where the arguments, and the package variables that the reading takes, are together of bulk at most 1048576: NARROWER than '..Said'. Prove '..Said' where nothing that the law and all that it calls make is longer than what came in: it says more and counts as full. Else prove '..UptoSaid'. A law counts once. -/
mutual
def uptoBulk {H : Type} : DataW H → Nat
  | .lit (.string bytes) => bytes.length + 1
  | .lit _ => 1
  | .nil => 1
  | .ptr d => uptoBulk d + 1
  | .slice elems spare => uptoBulkAll elems + uptoBulkAll spare + 1
  | .agg parts => uptoBulkAll parts + 1
  | .iface _ d => uptoBulk d + 1
  | .map entries => uptoBulkEntries entries + 1
  | .held _ => 1
def uptoBulkAll {H : Type} : List (DataW H) → Nat
  | [] => 0
  | d :: r => uptoBulk d + uptoBulkAll r
def uptoBulkEntries {H : Type} : List (Lit × DataW H) → Nat
  | [] => 0
  | x :: r => uptoBulkEntry x + uptoBulkEntries r
def uptoBulkEntry {H : Type} : Lit × DataW H → Nat
  | (.string bytes, d) => bytes.length + uptoBulk d + 1
  | (_, d) => uptoBulk d + 1
 end
def uptoSmall : (H : Type) → List (DataW H) → Bool := fun _ ds => decide (uptoBulkAll ds ≤ 1048576)
def OpenSpec.upto (s : _root_.Go.ChangeSpec) : _root_.Go.OpenSpec := { _root_.Go.OpenSpec.ofChange s with cond := some uptoSmall }

/-- 'shardloglaw18.LogActs', WHERE WHAT IT READS IS OF BULK AT MOST 1048576: true; the input reads as it did. -/
def logActsUptoRow : OpenClaim := { program := "ytaddbhdkgneiaaagreat", sum := "386e70c22798f59c573d1c2b5e41609540475d654941d2b0f034f3b2f1090733", func := "shardlog/shardloglaw18.LogActs", spec := "logActs", unfollowed := true, recurses := true, apart := false, narrowed := true }
def LogActsUptoSaid : Prop := logActsUptoRow.holds Tryz.pinned (OpenSpec.upto logActsSpec)

/-- 'shardloglaw18.LogSynced', WHERE WHAT IT READS IS OF BULK AT MOST 1048576: true; the input reads as it did. -/
def logSyncedUptoRow : OpenClaim := { program := "ytaddbhdkgneiaaagreat", sum := "386e70c22798f59c573d1c2b5e41609540475d654941d2b0f034f3b2f1090733", func := "shardlog/shardloglaw18.LogSynced", spec := "logSynced", unfollowed := true, recurses := true, apart := false, narrowed := true }
def LogSyncedUptoSaid : Prop := logSyncedUptoRow.holds Tryz.pinned (OpenSpec.upto logSyncedSpec)

/-- 'shardloglaw18.LogCompacts', WHERE WHAT IT READS IS OF BULK AT MOST 1048576: true; the input reads as it did. -/
def logCompactsUptoRow : OpenClaim := { program := "ytaddbhdkgneiaaagreat", sum := "386e70c22798f59c573d1c2b5e41609540475d654941d2b0f034f3b2f1090733", func := "shardlog/shardloglaw18.LogCompacts", spec := "logCompacts", unfollowed := true, recurses := true, apart := false, narrowed := true }
def LogCompactsUptoSaid : Prop := logCompactsUptoRow.holds Tryz.pinned (OpenSpec.upto logCompactsSpec)

end Rows
end Go.Proofs.YtaddbhdkgneiaaaGreat
