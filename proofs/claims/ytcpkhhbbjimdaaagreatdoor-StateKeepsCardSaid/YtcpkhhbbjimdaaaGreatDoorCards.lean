/-
  DERIVED. GIVEN WITH THE SEED: THE CARDS: each row of YtcpkhhbbjimdaaaGreatDoorRows.lean that lists a variable, with what it lists TIED to the program's text (the seventh form; the later family's looks); each row that meets fmt, with fmt's text TOLD by the authors' own Lean function (tested against real Go, not proved from fmt's source: count such statements apart). THE CARD IS WHAT COUNTS. Prove the row's statement (the work); the ties are given (YtcpkhhbbjimdaaaGreatDoorTie.lean); close each card by the builder's one call (the guide's Derived/Test/ToyasCard.lean, 'card_holds'). Laid BY PROGRAM, IN A SANDBOX (cutbox-door.mjs). By AI agents, Wed Nov 11 2026. No macro, syntax, notation, axiom, sorry.
-/
import Derived.Test.YtcpkhhbbjimdaaaGreatDoorRows
import GoSem.ClaimSeven
namespace Go.Proofs.YtcpkhhbbjimdaaaGreatDoor
namespace Rows

/-- THE TIED CARD OF 'shardloglaw16.StateModel'. -/
def stateModelCard : Claim7 := { stood := { row := stateModelRow, standIns := [], harness := (true, "7175bf303415dd2c9161a13bc413bcbd2b84792adce065cfb5a1001c732634fd"), looks := true }, kinds := [], alts := [], laidByText := true, laidKinds := [.data], laidTests := true, laidLooks := .later }
def StateModelCardSaid : Prop := Claim7.holds Tryz.pinned (.plain (OpenSpec.ofChange stateModelSpec)) stateModelCard

/-- THE TIED CARD OF 'shardloglaw16.StateOnce'. -/
def stateOnceCard : Claim7 := { stood := { row := stateOnceRow, standIns := [], harness := (true, "7175bf303415dd2c9161a13bc413bcbd2b84792adce065cfb5a1001c732634fd"), looks := true }, kinds := [], alts := [], laidByText := true, laidKinds := [.data], laidTests := true, laidLooks := .later }
def StateOnceCardSaid : Prop := Claim7.holds Tryz.pinned (.plain (OpenSpec.ofChange stateOnceSpec)) stateOnceCard

/-- THE TIED CARD OF 'shardloglaw16.StateSame'. -/
def stateSameCard : Claim7 := { stood := { row := stateSameRow, standIns := [], harness := (true, "7175bf303415dd2c9161a13bc413bcbd2b84792adce065cfb5a1001c732634fd"), looks := true }, kinds := [], alts := [], laidByText := true, laidKinds := [.data], laidTests := true, laidLooks := .later }
def StateSameCardSaid : Prop := Claim7.holds Tryz.pinned (.plain (OpenSpec.ofChange stateSameSpec)) stateSameCard

/-- THE TIED CARD OF 'shardloglaw16.StateReplies'. -/
def stateRepliesCard : Claim7 := { stood := { row := stateRepliesRow, standIns := [], harness := (true, "7175bf303415dd2c9161a13bc413bcbd2b84792adce065cfb5a1001c732634fd"), looks := true }, kinds := [], alts := [], laidByText := true, laidKinds := [.data], laidTests := true, laidLooks := .later }
def StateRepliesCardSaid : Prop := Claim7.holds Tryz.pinned (.plain (OpenSpec.ofChange stateRepliesSpec)) stateRepliesCard

/-- THE TIED CARD OF 'shardloglaw16.StateKeeps'. -/
def stateKeepsCard : Claim7 := { stood := { row := stateKeepsRow, standIns := [], harness := (true, "7175bf303415dd2c9161a13bc413bcbd2b84792adce065cfb5a1001c732634fd"), looks := true }, kinds := [], alts := [], laidByText := true, laidKinds := [.data], laidTests := true, laidLooks := .later }
def StateKeepsCardSaid : Prop := Claim7.holds Tryz.pinned (.plain (OpenSpec.ofChange stateKeepsSpec)) stateKeepsCard

/-- THE SECOND FORM's CARD OF 'shardloglaw16.StateModel'. -/
def stateModelUptoCard : Claim7 := { stood := { row := stateModelUptoRow, standIns := [], harness := (true, "7175bf303415dd2c9161a13bc413bcbd2b84792adce065cfb5a1001c732634fd"), looks := true }, kinds := [], alts := [], laidByText := true, laidKinds := [.data], laidTests := true, laidLooks := .later }
def StateModelUptoCardSaid : Prop := Claim7.holds Tryz.pinned (.plain (OpenSpec.upto stateModelSpec)) stateModelUptoCard

/-- THE SECOND FORM's CARD OF 'shardloglaw16.StateOnce'. -/
def stateOnceUptoCard : Claim7 := { stood := { row := stateOnceUptoRow, standIns := [], harness := (true, "7175bf303415dd2c9161a13bc413bcbd2b84792adce065cfb5a1001c732634fd"), looks := true }, kinds := [], alts := [], laidByText := true, laidKinds := [.data], laidTests := true, laidLooks := .later }
def StateOnceUptoCardSaid : Prop := Claim7.holds Tryz.pinned (.plain (OpenSpec.upto stateOnceSpec)) stateOnceUptoCard

/-- THE SECOND FORM's CARD OF 'shardloglaw16.StateSame'. -/
def stateSameUptoCard : Claim7 := { stood := { row := stateSameUptoRow, standIns := [], harness := (true, "7175bf303415dd2c9161a13bc413bcbd2b84792adce065cfb5a1001c732634fd"), looks := true }, kinds := [], alts := [], laidByText := true, laidKinds := [.data], laidTests := true, laidLooks := .later }
def StateSameUptoCardSaid : Prop := Claim7.holds Tryz.pinned (.plain (OpenSpec.upto stateSameSpec)) stateSameUptoCard

/-- THE SECOND FORM's CARD OF 'shardloglaw16.StateReplies'. -/
def stateRepliesUptoCard : Claim7 := { stood := { row := stateRepliesUptoRow, standIns := [], harness := (true, "7175bf303415dd2c9161a13bc413bcbd2b84792adce065cfb5a1001c732634fd"), looks := true }, kinds := [], alts := [], laidByText := true, laidKinds := [.data], laidTests := true, laidLooks := .later }
def StateRepliesUptoCardSaid : Prop := Claim7.holds Tryz.pinned (.plain (OpenSpec.upto stateRepliesSpec)) stateRepliesUptoCard

/-- THE SECOND FORM's CARD OF 'shardloglaw16.StateKeeps'. -/
def stateKeepsUptoCard : Claim7 := { stood := { row := stateKeepsUptoRow, standIns := [], harness := (true, "7175bf303415dd2c9161a13bc413bcbd2b84792adce065cfb5a1001c732634fd"), looks := true }, kinds := [], alts := [], laidByText := true, laidKinds := [.data], laidTests := true, laidLooks := .later }
def StateKeepsUptoCardSaid : Prop := Claim7.holds Tryz.pinned (.plain (OpenSpec.upto stateKeepsSpec)) stateKeepsUptoCard
end Rows
end Go.Proofs.YtcpkhhbbjimdaaaGreatDoor
