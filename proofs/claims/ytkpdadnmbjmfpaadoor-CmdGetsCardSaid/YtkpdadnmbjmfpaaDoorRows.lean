/-
  NARROWER THAN 'FOR EVERY INPUT', by the rows' own cells (each row's printed sentence says how): CmdPuts: laid · CmdGets: laid · CmdBack: laid · CmdLong: laid.
  DERIVED. THE GIVEN ROWS OF THIS SEAT. 4 by the template 'for every input the law returns true; each argument reads behind the call as it read before'; 0 by the template 'total and deterministic' (their statements: YtkpdadnmbjmfpaaDoorTotals.lean).
  GIVEN WITH THE SEED: the statements are not yours to turn. If you find one false, say at which input.
  Laid BY PROGRAM, IN A SANDBOX (cutbox-rows.mjs): the forced cells as the released guide's own fill.sh prints them over the translation 8b327470f29e85eb… (all of the seat's roots in one cut). By AI agents, Wed Nov 11 2026. No macro, syntax, notation, axiom, sorry.
-/
import Derived.Test.YtkpdadnmbjmfpaaDoorChecked
import GoSem.Claim
import GoSem.ClaimJoined
import GoSem.ClaimMapViews
import Derived.JoinedTies
import Derived.KernelRfl
namespace Go.Proofs.YtkpdadnmbjmfpaaDoor
/- THE CELL 'sum', in the pinned program and in every row, IS THE sha256 OF THE DUMP (.gsa) THAT YtkpdadnmbjmfpaaDoorProg.lean LOADS. Nothing in Lean hashes anything: it is a label: what it is worth is what the hold of that sum in a sandbox is worth. -/
noncomputable def Tryd.pinned : Pinned := { name := "ytkpdadnmbjmfpaadoor", sum := "8b327470f29e85eb3221d18c503d58597fb12ee44753a9c1e7a87ac9b0121c51", checked := Tryd.checked }
namespace Rows
def none {H : Type} : Left H := { results := [], args := [] }

/- WHAT THE LISTED PACKAGE-LEVEL VARIABLES READ AS WHEN THE CALL BEGINS. Each datum BY PROGRAM (the guide's laid-datum.mjs) off the statement by which the dump's own 'gosem.cut.vars' lays the variable. In a bare row this is a premise. The card (YtkpdadnmbjmfpaaDoorCards.lean) ties it to the program's text. -/
def laid_shardlog_cmd_kinds {H : Type} : DataW H := .agg [.agg [.lit (.bool false), .lit (.bool false), .lit (.bool false), .lit (.bool false), .lit (.bool false)], .agg [.lit (.bool true), .lit (.bool false), .lit (.bool true), .lit (.bool false), .lit (.bool true)], .agg [.lit (.bool true), .lit (.bool false), .lit (.bool false), .lit (.bool false), .lit (.bool true)], .agg [.lit (.bool true), .lit (.bool false), .lit (.bool true), .lit (.bool true), .lit (.bool true)], .agg [.lit (.bool true), .lit (.bool false), .lit (.bool false), .lit (.bool false), .lit (.bool false)], .agg [.lit (.bool false), .lit (.bool true), .lit (.bool false), .lit (.bool false), .lit (.bool false)]]

/-- 'shardloglaw15.CmdPuts': WHATEVER THE INPUT: true; the input reads as it did. -/
def cmdPutsSpec : ChangeSpec := { name := "cmdPuts", fn := fun _ => fun
  | [d] => { results := [.lit (.bool true)], args := [d] }
  | _ => none }
def cmdPutsRow : OpenClaim := { program := "ytkpdadnmbjmfpaadoor", sum := "8b327470f29e85eb3221d18c503d58597fb12ee44753a9c1e7a87ac9b0121c51", func := "shardlog/shardloglaw15.CmdPuts", spec := "cmdPuts", named := ["shardlog/cmd.kinds"], apart := false, laid := [("shardlog/cmd.kinds", laid_shardlog_cmd_kinds)] }
def CmdPutsSaid : Prop := cmdPutsRow.holds Tryd.pinned (OpenSpec.ofChange cmdPutsSpec)

/-- ITS FALSE NEIGHBOUR: 'it returns false'. Refute it at one input. -/
def cmdPutsWrong : ChangeSpec := { name := "cmdPuts", fn := fun _ => fun
  | [d] => { results := [.lit (.bool false)], args := [d] }
  | _ => none }
def CmdPutsWrongFalsely : Prop := cmdPutsRow.holds Tryd.pinned (OpenSpec.ofChange cmdPutsWrong)

/-- 'shardloglaw15.CmdGets': WHATEVER THE INPUT: true; the input reads as it did. -/
def cmdGetsSpec : ChangeSpec := { name := "cmdGets", fn := fun _ => fun
  | [d] => { results := [.lit (.bool true)], args := [d] }
  | _ => none }
def cmdGetsRow : OpenClaim := { program := "ytkpdadnmbjmfpaadoor", sum := "8b327470f29e85eb3221d18c503d58597fb12ee44753a9c1e7a87ac9b0121c51", func := "shardlog/shardloglaw15.CmdGets", spec := "cmdGets", named := ["shardlog/cmd.kinds"], apart := false, laid := [("shardlog/cmd.kinds", laid_shardlog_cmd_kinds)] }
def CmdGetsSaid : Prop := cmdGetsRow.holds Tryd.pinned (OpenSpec.ofChange cmdGetsSpec)

/-- ITS FALSE NEIGHBOUR: 'it returns false'. Refute it at one input. -/
def cmdGetsWrong : ChangeSpec := { name := "cmdGets", fn := fun _ => fun
  | [d] => { results := [.lit (.bool false)], args := [d] }
  | _ => none }
def CmdGetsWrongFalsely : Prop := cmdGetsRow.holds Tryd.pinned (OpenSpec.ofChange cmdGetsWrong)

/-- 'shardloglaw15.CmdBack': WHATEVER THE INPUT: true; the input reads as it did. -/
def cmdBackSpec : ChangeSpec := { name := "cmdBack", fn := fun _ => fun
  | [d1, d2, d3] => { results := [.lit (.bool true)], args := [d1, d2, d3] }
  | _ => none }
def cmdBackRow : OpenClaim := { program := "ytkpdadnmbjmfpaadoor", sum := "8b327470f29e85eb3221d18c503d58597fb12ee44753a9c1e7a87ac9b0121c51", func := "shardlog/shardloglaw15.CmdBack", spec := "cmdBack", named := ["shardlog/cmd.kinds"], apart := false, laid := [("shardlog/cmd.kinds", laid_shardlog_cmd_kinds)] }
def CmdBackSaid : Prop := cmdBackRow.holds Tryd.pinned (OpenSpec.ofChange cmdBackSpec)

/-- ITS FALSE NEIGHBOUR: 'it returns false'. Refute it at one input. -/
def cmdBackWrong : ChangeSpec := { name := "cmdBack", fn := fun _ => fun
  | [d1, d2, d3] => { results := [.lit (.bool false)], args := [d1, d2, d3] }
  | _ => none }
def CmdBackWrongFalsely : Prop := cmdBackRow.holds Tryd.pinned (OpenSpec.ofChange cmdBackWrong)

/-- 'shardloglaw15.CmdLong': WHATEVER THE INPUT: true; the input reads as it did. -/
def cmdLongSpec : ChangeSpec := { name := "cmdLong", fn := fun _ => fun
  | [d] => { results := [.lit (.bool true)], args := [d] }
  | _ => none }
def cmdLongRow : OpenClaim := { program := "ytkpdadnmbjmfpaadoor", sum := "8b327470f29e85eb3221d18c503d58597fb12ee44753a9c1e7a87ac9b0121c51", func := "shardlog/shardloglaw15.CmdLong", spec := "cmdLong", named := ["shardlog/cmd.kinds"], apart := false, laid := [("shardlog/cmd.kinds", laid_shardlog_cmd_kinds)] }
def CmdLongSaid : Prop := cmdLongRow.holds Tryd.pinned (OpenSpec.ofChange cmdLongSpec)

/-- ITS FALSE NEIGHBOUR: 'it returns false'. Refute it at one input. -/
def cmdLongWrong : ChangeSpec := { name := "cmdLong", fn := fun _ => fun
  | [d] => { results := [.lit (.bool false)], args := [d] }
  | _ => none }
def CmdLongWrongFalsely : Prop := cmdLongRow.holds Tryd.pinned (OpenSpec.ofChange cmdLongWrong)

/- THE SECOND FORM. 'bulk': how many values and letters a reading holds, each counted each time it is reached (what is shared counts as often as it is met; a slice's spare places count too). A statement '..UptoSaid' is the law's where the arguments, and the package variables that the reading takes, are together of bulk at most 1048576: NARROWER than '..Said'. Prove '..Said' where nothing that the law and all that it calls make is longer than what came in: it says more and counts as full. Else prove '..UptoSaid'. A law counts once. -/
mutual
def uptoBulk {H : Type} : DataW H → Nat
  | .lit (.string bytes) => bytes.length + 1
  | .lit _ => 1
  | .nil => 1
  | .ptr d => uptoBulk d + 1
  | .slice elems spare => uptoBulkAll elems + uptoBulkAll spare + 1
  | .agg parts => uptoBulkAll parts + 1
  | .iface _ d => uptoBulk d + 1
  | .map entries => uptoBulkEntries entries + 1
  | .held _ => 1
def uptoBulkAll {H : Type} : List (DataW H) → Nat
  | [] => 0
  | d :: r => uptoBulk d + uptoBulkAll r
def uptoBulkEntries {H : Type} : List (Lit × DataW H) → Nat
  | [] => 0
  | x :: r => uptoBulkEntry x + uptoBulkEntries r
def uptoBulkEntry {H : Type} : Lit × DataW H → Nat
  | (.string bytes, d) => bytes.length + uptoBulk d + 1
  | (_, d) => uptoBulk d + 1
 end
def uptoSmall : (H : Type) → List (DataW H) → Bool := fun _ ds => decide (uptoBulkAll ds ≤ 1048576)
def OpenSpec.upto (s : _root_.Go.ChangeSpec) : _root_.Go.OpenSpec := { _root_.Go.OpenSpec.ofChange s with cond := some uptoSmall }

/-- 'shardloglaw15.CmdPuts', WHERE WHAT IT READS IS OF BULK AT MOST 1048576: true; the input reads as it did. -/
def cmdPutsUptoRow : OpenClaim := { program := "ytkpdadnmbjmfpaadoor", sum := "8b327470f29e85eb3221d18c503d58597fb12ee44753a9c1e7a87ac9b0121c51", func := "shardlog/shardloglaw15.CmdPuts", spec := "cmdPuts", named := ["shardlog/cmd.kinds"], apart := false, laid := [("shardlog/cmd.kinds", laid_shardlog_cmd_kinds)], narrowed := true }
def CmdPutsUptoSaid : Prop := cmdPutsUptoRow.holds Tryd.pinned (OpenSpec.upto cmdPutsSpec)

/-- 'shardloglaw15.CmdGets', WHERE WHAT IT READS IS OF BULK AT MOST 1048576: true; the input reads as it did. -/
def cmdGetsUptoRow : OpenClaim := { program := "ytkpdadnmbjmfpaadoor", sum := "8b327470f29e85eb3221d18c503d58597fb12ee44753a9c1e7a87ac9b0121c51", func := "shardlog/shardloglaw15.CmdGets", spec := "cmdGets", named := ["shardlog/cmd.kinds"], apart := false, laid := [("shardlog/cmd.kinds", laid_shardlog_cmd_kinds)], narrowed := true }
def CmdGetsUptoSaid : Prop := cmdGetsUptoRow.holds Tryd.pinned (OpenSpec.upto cmdGetsSpec)

/-- 'shardloglaw15.CmdBack', WHERE WHAT IT READS IS OF BULK AT MOST 1048576: true; the input reads as it did. -/
def cmdBackUptoRow : OpenClaim := { program := "ytkpdadnmbjmfpaadoor", sum := "8b327470f29e85eb3221d18c503d58597fb12ee44753a9c1e7a87ac9b0121c51", func := "shardlog/shardloglaw15.CmdBack", spec := "cmdBack", named := ["shardlog/cmd.kinds"], apart := false, laid := [("shardlog/cmd.kinds", laid_shardlog_cmd_kinds)], narrowed := true }
def CmdBackUptoSaid : Prop := cmdBackUptoRow.holds Tryd.pinned (OpenSpec.upto cmdBackSpec)

/-- 'shardloglaw15.CmdLong', WHERE WHAT IT READS IS OF BULK AT MOST 1048576: true; the input reads as it did. -/
def cmdLongUptoRow : OpenClaim := { program := "ytkpdadnmbjmfpaadoor", sum := "8b327470f29e85eb3221d18c503d58597fb12ee44753a9c1e7a87ac9b0121c51", func := "shardlog/shardloglaw15.CmdLong", spec := "cmdLong", named := ["shardlog/cmd.kinds"], apart := false, laid := [("shardlog/cmd.kinds", laid_shardlog_cmd_kinds)], narrowed := true }
def CmdLongUptoSaid : Prop := cmdLongUptoRow.holds Tryd.pinned (OpenSpec.upto cmdLongSpec)

end Rows
end Go.Proofs.YtkpdadnmbjmfpaaDoor
