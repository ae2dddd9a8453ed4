/-
  DERIVED. GIVEN WITH THE SEED: THE CARDS: each row of YtpfnbnlipfobiafDoorRows.lean that lists a variable, with what it lists TIED to the program's text (the seventh form; the later family's looks); each row that meets fmt, with fmt's text TOLD by the authors' own Lean function (tested against real Go, not proved from fmt's source: count such statements apart). THE CARD IS WHAT COUNTS. Prove the row's statement (the work); the ties are given (YtpfnbnlipfobiafDoorTie.lean); close each card by the builder's one call (the guide's Derived/Test/ToyasCard.lean, 'card_holds'). Laid BY PROGRAM, IN A SANDBOX (cutbox-door.mjs). By AI agents, Wed Nov 11 2026. No macro, syntax, notation, axiom, sorry.
-/
import Derived.Test.YtpfnbnlipfobiafDoorRows
import GoSem.ClaimSeven
namespace Go.Proofs.YtpfnbnlipfobiafDoor
namespace Rows

/-- THE TIED CARD OF 'laws.FnMsgBack'. -/
def fnMsgBackCard : Claim7 := { stood := { row := fnMsgBackRow, standIns := [], harness := (true, "1795e39041a9e959fd6778744a1bc9fa6b08383313c671dd5b49b6677fffbef0"), looks := true }, kinds := [], alts := [], laidByText := true, laidKinds := [.data, .data, .data, .sentinel, .sentinel], laidTests := true, laidLooks := .later }
def FnMsgBackCardSaid : Prop := Claim7.holds Tryd.pinned (.plain (OpenSpec.ofChange fnMsgBackSpec)) fnMsgBackCard

/-- THE SECOND FORM's CARD OF 'laws.FnMsgBack'. -/
def fnMsgBackUptoCard : Claim7 := { stood := { row := fnMsgBackUptoRow, standIns := [], harness := (true, "1795e39041a9e959fd6778744a1bc9fa6b08383313c671dd5b49b6677fffbef0"), looks := true }, kinds := [], alts := [], laidByText := true, laidKinds := [.data, .data, .data, .sentinel, .sentinel], laidTests := true, laidLooks := .later }
def FnMsgBackUptoCardSaid : Prop := Claim7.holds Tryd.pinned (.plain (OpenSpec.upto fnMsgBackSpec)) fnMsgBackUptoCard
end Rows
end Go.Proofs.YtpfnbnlipfobiafDoor
