/-
  NARROWER THAN 'FOR EVERY INPUT', by the rows' own cells (each row's printed sentence says how): StateModel: laid · StateOnce: laid · StateSame: laid · StateReplies: laid · StateKeeps: laid.
  DERIVED. THE GIVEN ROWS OF THIS SEAT. 5 by the template 'for every input the law returns true; each argument reads behind the call as it read before'; 0 by the template 'total and deterministic' (their statements: YtcpkhhbbjimdaaaGreatDoorTotals.lean).
  GIVEN WITH THE SEED: the statements are not yours to turn. If you find one false, say at which input.
  Laid BY PROGRAM, IN A SANDBOX (cutbox-rows.mjs): the forced cells as the released guide's own fill.sh prints them over the translation d60bbb356d084ee7… (all of the seat's roots in one cut). By AI agents, Wed Nov 11 2026. No macro, syntax, notation, axiom, sorry.
-/
import Derived.Test.YtcpkhhbbjimdaaaGreatDoorChecked
import GoSem.Claim
import GoSem.ClaimJoined
import GoSem.ClaimMapViews
import Derived.JoinedTies
import Derived.KernelRfl
namespace Go.Proofs.YtcpkhhbbjimdaaaGreatDoor
/- THE CELL 'sum', in the pinned program and in every row, IS THE sha256 OF THE DUMP (.gsa) THAT YtcpkhhbbjimdaaaGreatDoorProg.lean LOADS. Nothing in Lean hashes anything: it is a label: what it is worth is what the hold of that sum in a sandbox is worth. -/
noncomputable def Tryz.pinned : Pinned := { name := "ytcpkhhbbjimdaaagreatdoor", sum := "d60bbb356d084ee74fa367e054b97429932da1b92e2de03377943a05056ea06b", checked := Tryz.checked }
namespace Rows
def none {H : Type} : Left H := { results := [], args := [] }

/- WHAT THE LISTED PACKAGE-LEVEL VARIABLES READ AS WHEN THE CALL BEGINS. Each datum BY PROGRAM (the guide's laid-datum.mjs) off the statement by which the dump's own 'gosem.cut.vars' lays the variable. In a bare row this is a premise. The card (YtcpkhhbbjimdaaaGreatDoorCards.lean) ties it to the program's text. -/
def laid_shardlog_cmd_kinds {H : Type} : DataW H := .agg [.agg [.lit (.bool false), .lit (.bool false), .lit (.bool false), .lit (.bool false), .lit (.bool false)], .agg [.lit (.bool true), .lit (.bool false), .lit (.bool true), .lit (.bool false), .lit (.bool true)], .agg [.lit (.bool true), .lit (.bool false), .lit (.bool false), .lit (.bool false), .lit (.bool true)], .agg [.lit (.bool true), .lit (.bool false), .lit (.bool true), .lit (.bool true), .lit (.bool true)], .agg [.lit (.bool true), .lit (.bool false), .lit (.bool false), .lit (.bool false), .lit (.bool false)], .agg [.lit (.bool false), .lit (.bool true), .lit (.bool false), .lit (.bool false), .lit (.bool false)]]

/-- 'shardloglaw16.StateModel': WHATEVER THE INPUT: true; the input reads as it did. -/
def stateModelSpec : ChangeSpec := { name := "stateModel", fn := fun _ => fun
  | [d] => { results := [.lit (.bool true)], args := [d] }
  | _ => none }
def stateModelRow : OpenClaim := { program := "ytcpkhhbbjimdaaagreatdoor", sum := "d60bbb356d084ee74fa367e054b97429932da1b92e2de03377943a05056ea06b", func := "shardlog/shardloglaw16.StateModel", spec := "stateModel", inPlace := ["slices.overlaps[shardlog/api.Cell]"], unfollowed := true, recurses := true, named := ["shardlog/cmd.kinds"], apart := false, laid := [("shardlog/cmd.kinds", laid_shardlog_cmd_kinds)] }
def StateModelSaid : Prop := stateModelRow.holds Tryz.pinned (OpenSpec.ofChange stateModelSpec)

/-- ITS FALSE NEIGHBOUR: 'it returns false'. Refute it at one input. -/
def stateModelWrong : ChangeSpec := { name := "stateModel", fn := fun _ => fun
  | [d] => { results := [.lit (.bool false)], args := [d] }
  | _ => none }
def StateModelWrongFalsely : Prop := stateModelRow.holds Tryz.pinned (OpenSpec.ofChange stateModelWrong)

/-- 'shardloglaw16.StateOnce': WHATEVER THE INPUT: true; the input reads as it did. -/
def stateOnceSpec : ChangeSpec := { name := "stateOnce", fn := fun _ => fun
  | [d1, d2, d3] => { results := [.lit (.bool true)], args := [d1, d2, d3] }
  | _ => none }
def stateOnceRow : OpenClaim := { program := "ytcpkhhbbjimdaaagreatdoor", sum := "d60bbb356d084ee74fa367e054b97429932da1b92e2de03377943a05056ea06b", func := "shardlog/shardloglaw16.StateOnce", spec := "stateOnce", inPlace := ["slices.overlaps[shardlog/api.Cell]"], unfollowed := true, recurses := true, named := ["shardlog/cmd.kinds"], apart := false, laid := [("shardlog/cmd.kinds", laid_shardlog_cmd_kinds)] }
def StateOnceSaid : Prop := stateOnceRow.holds Tryz.pinned (OpenSpec.ofChange stateOnceSpec)

/-- ITS FALSE NEIGHBOUR: 'it returns false'. Refute it at one input. -/
def stateOnceWrong : ChangeSpec := { name := "stateOnce", fn := fun _ => fun
  | [d1, d2, d3] => { results := [.lit (.bool false)], args := [d1, d2, d3] }
  | _ => none }
def StateOnceWrongFalsely : Prop := stateOnceRow.holds Tryz.pinned (OpenSpec.ofChange stateOnceWrong)

/-- 'shardloglaw16.StateSame': WHATEVER THE INPUT: true; the input reads as it did. -/
def stateSameSpec : ChangeSpec := { name := "stateSame", fn := fun _ => fun
  | [d] => { results := [.lit (.bool true)], args := [d] }
  | _ => none }
def stateSameRow : OpenClaim := { program := "ytcpkhhbbjimdaaagreatdoor", sum := "d60bbb356d084ee74fa367e054b97429932da1b92e2de03377943a05056ea06b", func := "shardlog/shardloglaw16.StateSame", spec := "stateSame", inPlace := ["slices.overlaps[shardlog/api.Cell]"], unfollowed := true, recurses := true, named := ["shardlog/cmd.kinds"], apart := false, laid := [("shardlog/cmd.kinds", laid_shardlog_cmd_kinds)] }
def StateSameSaid : Prop := stateSameRow.holds Tryz.pinned (OpenSpec.ofChange stateSameSpec)

/-- ITS FALSE NEIGHBOUR: 'it returns false'. Refute it at one input. -/
def stateSameWrong : ChangeSpec := { name := "stateSame", fn := fun _ => fun
  | [d] => { results := [.lit (.bool false)], args := [d] }
  | _ => none }
def StateSameWrongFalsely : Prop := stateSameRow.holds Tryz.pinned (OpenSpec.ofChange stateSameWrong)

/-- 'shardloglaw16.StateReplies': WHATEVER THE INPUT: true; the input reads as it did. -/
def stateRepliesSpec : ChangeSpec := { name := "stateReplies", fn := fun _ => fun
  | [d1, d2] => { results := [.lit (.bool true)], args := [d1, d2] }
  | _ => none }
def stateRepliesRow : OpenClaim := { program := "ytcpkhhbbjimdaaagreatdoor", sum := "d60bbb356d084ee74fa367e054b97429932da1b92e2de03377943a05056ea06b", func := "shardlog/shardloglaw16.StateReplies", spec := "stateReplies", inPlace := ["slices.overlaps[shardlog/api.Cell]"], unfollowed := true, recurses := true, named := ["shardlog/cmd.kinds"], apart := false, laid := [("shardlog/cmd.kinds", laid_shardlog_cmd_kinds)] }
def StateRepliesSaid : Prop := stateRepliesRow.holds Tryz.pinned (OpenSpec.ofChange stateRepliesSpec)

/-- ITS FALSE NEIGHBOUR: 'it returns false'. Refute it at one input. -/
def stateRepliesWrong : ChangeSpec := { name := "stateReplies", fn := fun _ => fun
  | [d1, d2] => { results := [.lit (.bool false)], args := [d1, d2] }
  | _ => none }
def StateRepliesWrongFalsely : Prop := stateRepliesRow.holds Tryz.pinned (OpenSpec.ofChange stateRepliesWrong)

/-- 'shardloglaw16.StateKeeps': WHATEVER THE INPUT: true; the input reads as it did. -/
def stateKeepsSpec : ChangeSpec := { name := "stateKeeps", fn := fun _ => fun
  | [d1, d2] => { results := [.lit (.bool true)], args := [d1, d2] }
  | _ => none }
def stateKeepsRow : OpenClaim := { program := "ytcpkhhbbjimdaaagreatdoor", sum := "d60bbb356d084ee74fa367e054b97429932da1b92e2de03377943a05056ea06b", func := "shardlog/shardloglaw16.StateKeeps", spec := "stateKeeps", inPlace := ["slices.overlaps[shardlog/api.Cell]"], unfollowed := true, recurses := true, named := ["shardlog/cmd.kinds"], apart := false, laid := [("shardlog/cmd.kinds", laid_shardlog_cmd_kinds)] }
def StateKeepsSaid : Prop := stateKeepsRow.holds Tryz.pinned (OpenSpec.ofChange stateKeepsSpec)

/-- ITS FALSE NEIGHBOUR: 'it returns false'. Refute it at one input. -/
def stateKeepsWrong : ChangeSpec := { name := "stateKeeps", fn := fun _ => fun
  | [d1, d2] => { results := [.lit (.bool false)], args := [d1, d2] }
  | _ => none }
def StateKeepsWrongFalsely : Prop := stateKeepsRow.holds Tryz.pinned (OpenSpec.ofChange stateKeepsWrong)

/- THE SECOND FORM. 'bulk': how many values and letters a reading holds, each counted each time it is reached (what is shared counts as often as it is met; a slice's spare places count too). A statement '..UptoSaid' is the law's where the arguments, and the package variables that the reading takes, are together of bulk at most 1048576: NARROWER than '..Said'. Prove '..Said' where nothing that the law and all that it calls make is longer than what came in: it says more and counts as full. Else prove '..UptoSaid'. A law counts once. -/
mutual
def uptoBulk {H : Type} : DataW H → Nat
  | .lit (.string bytes) => bytes.length + 1
  | .lit _ => 1
  | .nil => 1
  | .ptr d => uptoBulk d + 1
  | .slice elems spare => uptoBulkAll elems + uptoBulkAll spare + 1
  | .agg parts => uptoBulkAll parts + 1
  | .iface _ d => uptoBulk d + 1
  | .map entries => uptoBulkEntries entries + 1
  | .held _ => 1
def uptoBulkAll {H : Type} : List (DataW H) → Nat
  | [] => 0
  | d :: r => uptoBulk d + uptoBulkAll r
def uptoBulkEntries {H : Type} : List (Lit × DataW H) → Nat
  | [] => 0
  | x :: r => uptoBulkEntry x + uptoBulkEntries r
def uptoBulkEntry {H : Type} : Lit × DataW H → Nat
  | (.string bytes, d) => bytes.length + uptoBulk d + 1
  | (_, d) => uptoBulk d + 1
 end
def uptoSmall : (H : Type) → List (DataW H) → Bool := fun _ ds => decide (uptoBulkAll ds ≤ 1048576)
def OpenSpec.upto (s : _root_.Go.ChangeSpec) : _root_.Go.OpenSpec := { _root_.Go.OpenSpec.ofChange s with cond := some uptoSmall }

/-- 'shardloglaw16.StateModel', WHERE WHAT IT READS IS OF BULK AT MOST 1048576: true; the input reads as it did. -/
def stateModelUptoRow : OpenClaim := { program := "ytcpkhhbbjimdaaagreatdoor", sum := "d60bbb356d084ee74fa367e054b97429932da1b92e2de03377943a05056ea06b", func := "shardlog/shardloglaw16.StateModel", spec := "stateModel", inPlace := ["slices.overlaps[shardlog/api.Cell]"], unfollowed := true, recurses := true, named := ["shardlog/cmd.kinds"], apart := false, laid := [("shardlog/cmd.kinds", laid_shardlog_cmd_kinds)], narrowed := true }
def StateModelUptoSaid : Prop := stateModelUptoRow.holds Tryz.pinned (OpenSpec.upto stateModelSpec)

/-- 'shardloglaw16.StateOnce', WHERE WHAT IT READS IS OF BULK AT MOST 1048576: true; the input reads as it did. -/
def stateOnceUptoRow : OpenClaim := { program := "ytcpkhhbbjimdaaagreatdoor", sum := "d60bbb356d084ee74fa367e054b97429932da1b92e2de03377943a05056ea06b", func := "shardlog/shardloglaw16.StateOnce", spec := "stateOnce", inPlace := ["slices.overlaps[shardlog/api.Cell]"], unfollowed := true, recurses := true, named := ["shardlog/cmd.kinds"], apart := false, laid := [("shardlog/cmd.kinds", laid_shardlog_cmd_kinds)], narrowed := true }
def StateOnceUptoSaid : Prop := stateOnceUptoRow.holds Tryz.pinned (OpenSpec.upto stateOnceSpec)

/-- 'shardloglaw16.StateSame', WHERE WHAT IT READS IS OF BULK AT MOST 1048576: true; the input reads as it did. -/
def stateSameUptoRow : OpenClaim := { program := "ytcpkhhbbjimdaaagreatdoor", sum := "d60bbb356d084ee74fa367e054b97429932da1b92e2de03377943a05056ea06b", func := "shardlog/shardloglaw16.StateSame", spec := "stateSame", inPlace := ["slices.overlaps[shardlog/api.Cell]"], unfollowed := true, recurses := true, named := ["shardlog/cmd.kinds"], apart := false, laid := [("shardlog/cmd.kinds", laid_shardlog_cmd_kinds)], narrowed := true }
def StateSameUptoSaid : Prop := stateSameUptoRow.holds Tryz.pinned (OpenSpec.upto stateSameSpec)

/-- 'shardloglaw16.StateReplies', WHERE WHAT IT READS IS OF BULK AT MOST 1048576: true; the input reads as it did. -/
def stateRepliesUptoRow : OpenClaim := { program := "ytcpkhhbbjimdaaagreatdoor", sum := "d60bbb356d084ee74fa367e054b97429932da1b92e2de03377943a05056ea06b", func := "shardlog/shardloglaw16.StateReplies", spec := "stateReplies", inPlace := ["slices.overlaps[shardlog/api.Cell]"], unfollowed := true, recurses := true, named := ["shardlog/cmd.kinds"], apart := false, laid := [("shardlog/cmd.kinds", laid_shardlog_cmd_kinds)], narrowed := true }
def StateRepliesUptoSaid : Prop := stateRepliesUptoRow.holds Tryz.pinned (OpenSpec.upto stateRepliesSpec)

/-- 'shardloglaw16.StateKeeps', WHERE WHAT IT READS IS OF BULK AT MOST 1048576: true; the input reads as it did. -/
def stateKeepsUptoRow : OpenClaim := { program := "ytcpkhhbbjimdaaagreatdoor", sum := "d60bbb356d084ee74fa367e054b97429932da1b92e2de03377943a05056ea06b", func := "shardlog/shardloglaw16.StateKeeps", spec := "stateKeeps", inPlace := ["slices.overlaps[shardlog/api.Cell]"], unfollowed := true, recurses := true, named := ["shardlog/cmd.kinds"], apart := false, laid := [("shardlog/cmd.kinds", laid_shardlog_cmd_kinds)], narrowed := true }
def StateKeepsUptoSaid : Prop := stateKeepsUptoRow.holds Tryz.pinned (OpenSpec.upto stateKeepsSpec)

end Rows
end Go.Proofs.YtcpkhhbbjimdaaaGreatDoor
