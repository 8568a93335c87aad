/-
  DERIVED. GIVEN WITH THE SEED: THE CARDS: each row of YtkpdadnmbjmfpaaDoorRows.lean that lists a variable, with what it lists TIED to the program's text (the seventh form; the later family's looks); each row that meets fmt, with fmt's text TOLD by the authors' own Lean function (tested against real Go, not proved from fmt's source: count such statements apart). THE CARD IS WHAT COUNTS. Prove the row's statement (the work); the ties are given (YtkpdadnmbjmfpaaDoorTie.lean); close each card by the builder's one call (the guide's Derived/Test/ToyasCard.lean, 'card_holds'). Laid BY PROGRAM, IN A SANDBOX (cutbox-door.mjs). By AI agents, Wed Nov 11 2026. No macro, syntax, notation, axiom, sorry.
-/
import Derived.Test.YtkpdadnmbjmfpaaDoorRows
import GoSem.ClaimSeven
namespace Go.Proofs.YtkpdadnmbjmfpaaDoor
namespace Rows

/-- THE TIED CARD OF 'shardloglaw15.CmdPuts'. -/
def cmdPutsCard : Claim7 := { stood := { row := cmdPutsRow, standIns := [], harness := (true, "8f8b28386c6f520ea9290a8dea2a72ee5afeab17a4dd554202cb1eb95cdbce7c"), looks := false }, kinds := [], alts := [], laidByText := true, laidKinds := [.data], laidTests := true, laidLooks := .later }
def CmdPutsCardSaid : Prop := Claim7.holds Tryd.pinned (.plain (OpenSpec.ofChange cmdPutsSpec)) cmdPutsCard

/-- THE TIED CARD OF 'shardloglaw15.CmdGets'. -/
def cmdGetsCard : Claim7 := { stood := { row := cmdGetsRow, standIns := [], harness := (true, "8f8b28386c6f520ea9290a8dea2a72ee5afeab17a4dd554202cb1eb95cdbce7c"), looks := false }, kinds := [], alts := [], laidByText := true, laidKinds := [.data], laidTests := true, laidLooks := .later }
def CmdGetsCardSaid : Prop := Claim7.holds Tryd.pinned (.plain (OpenSpec.ofChange cmdGetsSpec)) cmdGetsCard

/-- THE TIED CARD OF 'shardloglaw15.CmdBack'. -/
def cmdBackCard : Claim7 := { stood := { row := cmdBackRow, standIns := [], harness := (true, "8f8b28386c6f520ea9290a8dea2a72ee5afeab17a4dd554202cb1eb95cdbce7c"), looks := false }, kinds := [], alts := [], laidByText := true, laidKinds := [.data], laidTests := true, laidLooks := .later }
def CmdBackCardSaid : Prop := Claim7.holds Tryd.pinned (.plain (OpenSpec.ofChange cmdBackSpec)) cmdBackCard

/-- THE TIED CARD OF 'shardloglaw15.CmdLong'. -/
def cmdLongCard : Claim7 := { stood := { row := cmdLongRow, standIns := [], harness := (true, "8f8b28386c6f520ea9290a8dea2a72ee5afeab17a4dd554202cb1eb95cdbce7c"), looks := false }, kinds := [], alts := [], laidByText := true, laidKinds := [.data], laidTests := true, laidLooks := .later }
def CmdLongCardSaid : Prop := Claim7.holds Tryd.pinned (.plain (OpenSpec.ofChange cmdLongSpec)) cmdLongCard

/-- THE SECOND FORM's CARD OF 'shardloglaw15.CmdPuts'. -/
def cmdPutsUptoCard : Claim7 := { stood := { row := cmdPutsUptoRow, standIns := [], harness := (true, "8f8b28386c6f520ea9290a8dea2a72ee5afeab17a4dd554202cb1eb95cdbce7c"), looks := false }, kinds := [], alts := [], laidByText := true, laidKinds := [.data], laidTests := true, laidLooks := .later }
def CmdPutsUptoCardSaid : Prop := Claim7.holds Tryd.pinned (.plain (OpenSpec.upto cmdPutsSpec)) cmdPutsUptoCard

/-- THE SECOND FORM's CARD OF 'shardloglaw15.CmdGets'. -/
def cmdGetsUptoCard : Claim7 := { stood := { row := cmdGetsUptoRow, standIns := [], harness := (true, "8f8b28386c6f520ea9290a8dea2a72ee5afeab17a4dd554202cb1eb95cdbce7c"), looks := false }, kinds := [], alts := [], laidByText := true, laidKinds := [.data], laidTests := true, laidLooks := .later }
def CmdGetsUptoCardSaid : Prop := Claim7.holds Tryd.pinned (.plain (OpenSpec.upto cmdGetsSpec)) cmdGetsUptoCard

/-- THE SECOND FORM's CARD OF 'shardloglaw15.CmdBack'. -/
def cmdBackUptoCard : Claim7 := { stood := { row := cmdBackUptoRow, standIns := [], harness := (true, "8f8b28386c6f520ea9290a8dea2a72ee5afeab17a4dd554202cb1eb95cdbce7c"), looks := false }, kinds := [], alts := [], laidByText := true, laidKinds := [.data], laidTests := true, laidLooks := .later }
def CmdBackUptoCardSaid : Prop := Claim7.holds Tryd.pinned (.plain (OpenSpec.upto cmdBackSpec)) cmdBackUptoCard

/-- THE SECOND FORM's CARD OF 'shardloglaw15.CmdLong'. -/
def cmdLongUptoCard : Claim7 := { stood := { row := cmdLongUptoRow, standIns := [], harness := (true, "8f8b28386c6f520ea9290a8dea2a72ee5afeab17a4dd554202cb1eb95cdbce7c"), looks := false }, kinds := [], alts := [], laidByText := true, laidKinds := [.data], laidTests := true, laidLooks := .later }
def CmdLongUptoCardSaid : Prop := Claim7.holds Tryd.pinned (.plain (OpenSpec.upto cmdLongSpec)) cmdLongUptoCard
end Rows
end Go.Proofs.YtkpdadnmbjmfpaaDoor
