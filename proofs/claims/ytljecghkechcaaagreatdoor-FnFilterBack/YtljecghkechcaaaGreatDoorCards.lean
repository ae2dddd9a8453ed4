/-
  DERIVED. GIVEN WITH THE SEED: THE CARDS: each row of YtljecghkechcaaaGreatDoorRows.lean that lists a variable, with what it lists TIED to the program's text (the seventh form; the later family's looks); each row that meets fmt, with fmt's text TOLD by the authors' own Lean function (tested against real Go, not proved from fmt's source: count such statements apart). THE CARD IS WHAT COUNTS. Prove the row's statement (the work); the ties are given (YtljecghkechcaaaGreatDoorTie.lean); close each card by the builder's one call (the guide's Derived/Test/ToyasCard.lean, 'card_holds'). Laid BY PROGRAM, IN A SANDBOX (cutbox-door.mjs). By AI agents, Wed Nov 11 2026. No macro, syntax, notation, axiom, sorry.
-/
import Derived.Test.YtljecghkechcaaaGreatDoorRows
import GoSem.ClaimSeven
namespace Go.Proofs.YtljecghkechcaaaGreatDoor
namespace Rows

/-- THE TIED CARD OF 'laws.FnFilterBack'. -/
def fnFilterBackCard : Claim7 := { stood := { row := fnFilterBackRow, standIns := [], harness := (true, "5946614ebde2d4ce222da444e8a942961ab34453dc28e71f30a0aca6a73fbc3d"), looks := true }, kinds := [], alts := [], laidByText := true, laidKinds := [.data, .data, .data, .data, .sentinel, .sentinel, .data, .pinned], laidTests := true, laidLooks := .later }
def FnFilterBackCardSaid : Prop := Claim7.holds Tryz.pinned (.plain (OpenSpec.ofChange fnFilterBackSpec)) fnFilterBackCard

/-- THE SECOND FORM's CARD OF 'laws.FnFilterBack'. -/
def fnFilterBackUptoCard : Claim7 := { stood := { row := fnFilterBackUptoRow, standIns := [], harness := (true, "5946614ebde2d4ce222da444e8a942961ab34453dc28e71f30a0aca6a73fbc3d"), looks := true }, kinds := [], alts := [], laidByText := true, laidKinds := [.data, .data, .data, .data, .sentinel, .sentinel, .data, .pinned], laidTests := true, laidLooks := .later }
def FnFilterBackUptoCardSaid : Prop := Claim7.holds Tryz.pinned (.plain (OpenSpec.upto fnFilterBackSpec)) fnFilterBackUptoCard
end Rows
end Go.Proofs.YtljecghkechcaaaGreatDoor
