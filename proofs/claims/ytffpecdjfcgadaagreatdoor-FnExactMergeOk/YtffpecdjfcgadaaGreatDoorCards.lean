/-
  DERIVED. GIVEN WITH THE SEED: THE CARDS: each row of YtffpecdjfcgadaaGreatDoorRows.lean that lists a variable, with what it lists TIED to the program's text (the seventh form; the later family's looks); each row that meets fmt, with fmt's text TOLD by the authors' own Lean function (tested against real Go, not proved from fmt's source: count such statements apart). THE CARD IS WHAT COUNTS. Prove the row's statement (the work); the ties are given (YtffpecdjfcgadaaGreatDoorTie.lean); close each card by the builder's one call (the guide's Derived/Test/ToyasCard.lean, 'card_holds'). Laid BY PROGRAM, IN A SANDBOX (cutbox-door.mjs). By AI agents, Wed Nov 11 2026. No macro, syntax, notation, axiom, sorry.
-/
import Derived.Test.YtffpecdjfcgadaaGreatDoorRows
import GoSem.ClaimSeven
namespace Go.Proofs.YtffpecdjfcgadaaGreatDoor
namespace Rows

/-- THE TIED CARD OF 'laws.FnExactMergeOk'. -/
def fnExactMergeOkCard : Claim7 := { stood := { row := fnExactMergeOkRow, standIns := [], harness := (true, "456579643d8bdc1a300f7e4eaa3d30d7e4ea07d2686f4749ee679c078176ab31"), looks := true }, kinds := [], alts := [], laidByText := true, laidKinds := [.data, .pinned], laidTests := true, laidLooks := .later }
def FnExactMergeOkCardSaid : Prop := Claim7.holds Tryz.pinned (.plain (OpenSpec.ofChange fnExactMergeOkSpec)) fnExactMergeOkCard

/-- THE SECOND FORM's CARD OF 'laws.FnExactMergeOk'. -/
def fnExactMergeOkUptoCard : Claim7 := { stood := { row := fnExactMergeOkUptoRow, standIns := [], harness := (true, "456579643d8bdc1a300f7e4eaa3d30d7e4ea07d2686f4749ee679c078176ab31"), looks := true }, kinds := [], alts := [], laidByText := true, laidKinds := [.data, .pinned], laidTests := true, laidLooks := .later }
def FnExactMergeOkUptoCardSaid : Prop := Claim7.holds Tryz.pinned (.plain (OpenSpec.upto fnExactMergeOkSpec)) fnExactMergeOkUptoCard
end Rows
end Go.Proofs.YtffpecdjfcgadaaGreatDoor
