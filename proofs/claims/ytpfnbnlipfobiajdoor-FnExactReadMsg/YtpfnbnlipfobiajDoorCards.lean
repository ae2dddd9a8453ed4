/-
  DERIVED. GIVEN WITH THE SEED: THE CARDS: each row of YtpfnbnlipfobiajDoorRows.lean that lists a variable, with what it lists TIED to the program's text (the seventh form; the later family's looks); each row that meets fmt, with fmt's text TOLD by the authors' own Lean function (tested against real Go, not proved from fmt's source: count such statements apart). THE CARD IS WHAT COUNTS. Prove the row's statement (the work); the ties are given (YtpfnbnlipfobiajDoorTie.lean); close each card by the builder's one call (the guide's Derived/Test/ToyasCard.lean, 'card_holds'). Laid BY PROGRAM, IN A SANDBOX (cutbox-door.mjs). By AI agents, Wed Nov 11 2026. No macro, syntax, notation, axiom, sorry.
-/
import Derived.Test.YtpfnbnlipfobiajDoorRows
import GoSem.ClaimSeven
namespace Go.Proofs.YtpfnbnlipfobiajDoor
namespace Rows

/-- THE TIED CARD OF 'laws.FnExactReadMsg'. -/
def fnExactReadMsgCard : Claim7 := { stood := { row := fnExactReadMsgRow, standIns := [], harness := (true, "8654b86bf3a0e68fbc0137e068515d773d8cfbc84c9db9961d012f5c2d1bc77c"), looks := true }, kinds := [], alts := [], laidByText := true, laidKinds := [.data, .data, .data, .sentinel, .sentinel], laidTests := true, laidLooks := .later }
def FnExactReadMsgCardSaid : Prop := Claim7.holds Tryd.pinned (.plain (OpenSpec.ofChange fnExactReadMsgSpec)) fnExactReadMsgCard

/-- THE SECOND FORM's CARD OF 'laws.FnExactReadMsg'. -/
def fnExactReadMsgUptoCard : Claim7 := { stood := { row := fnExactReadMsgUptoRow, standIns := [], harness := (true, "8654b86bf3a0e68fbc0137e068515d773d8cfbc84c9db9961d012f5c2d1bc77c"), looks := true }, kinds := [], alts := [], laidByText := true, laidKinds := [.data, .data, .data, .sentinel, .sentinel], laidTests := true, laidLooks := .later }
def FnExactReadMsgUptoCardSaid : Prop := Claim7.holds Tryd.pinned (.plain (OpenSpec.upto fnExactReadMsgSpec)) fnExactReadMsgUptoCard
end Rows
end Go.Proofs.YtpfnbnlipfobiajDoor
