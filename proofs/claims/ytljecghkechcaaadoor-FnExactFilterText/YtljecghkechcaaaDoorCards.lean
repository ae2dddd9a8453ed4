/-
  DERIVED. GIVEN WITH THE SEED: THE CARDS: each row of YtljecghkechcaaaDoorRows.lean that lists a variable, with what it lists TIED to the program's text (the seventh form; the later family's looks); each row that meets fmt, with fmt's text TOLD by the authors' own Lean function (tested against real Go, not proved from fmt's source: count such statements apart). THE CARD IS WHAT COUNTS. Prove the row's statement (the work); the ties are given (YtljecghkechcaaaDoorTie.lean); close each card by the builder's one call (the guide's Derived/Test/ToyasCard.lean, 'card_holds'). Laid BY PROGRAM, IN A SANDBOX (cutbox-door.mjs). By AI agents, Wed Nov 11 2026. No macro, syntax, notation, axiom, sorry.
-/
import Derived.Test.YtljecghkechcaaaDoorRows
import GoSem.ClaimSeven
namespace Go.Proofs.YtljecghkechcaaaDoor
namespace Rows

/-- THE TIED CARD OF 'laws.FnExactFilterText'. -/
def fnExactFilterTextCard : Claim7 := { stood := { row := fnExactFilterTextRow, standIns := [], harness := (true, "8dccf742fcd6b1594adc2a04209a5310f0ab47f903bd620dc5705117d5feece8"), looks := true }, kinds := [], alts := [], laidByText := true, laidKinds := [.data, .data, .data, .data], laidTests := true, laidLooks := .later }
def FnExactFilterTextCardSaid : Prop := Claim7.holds Tryd.pinned (.plain (OpenSpec.ofChange fnExactFilterTextSpec)) fnExactFilterTextCard

/-- THE TIED CARD OF 'laws.FnExactReadFilter'. -/
def fnExactReadFilterCard : Claim7 := { stood := { row := fnExactReadFilterRow, standIns := [], harness := (true, "8dccf742fcd6b1594adc2a04209a5310f0ab47f903bd620dc5705117d5feece8"), looks := true }, kinds := [], alts := [], laidByText := true, laidKinds := [.data, .data, .data, .data, .sentinel, .sentinel, .data, .pinned], laidTests := true, laidLooks := .later }
def FnExactReadFilterCardSaid : Prop := Claim7.holds Tryd.pinned (.plain (OpenSpec.ofChange fnExactReadFilterSpec)) fnExactReadFilterCard

/-- THE SECOND FORM's CARD OF 'laws.FnExactFilterText'. -/
def fnExactFilterTextUptoCard : Claim7 := { stood := { row := fnExactFilterTextUptoRow, standIns := [], harness := (true, "8dccf742fcd6b1594adc2a04209a5310f0ab47f903bd620dc5705117d5feece8"), looks := true }, kinds := [], alts := [], laidByText := true, laidKinds := [.data, .data, .data, .data], laidTests := true, laidLooks := .later }
def FnExactFilterTextUptoCardSaid : Prop := Claim7.holds Tryd.pinned (.plain (OpenSpec.upto fnExactFilterTextSpec)) fnExactFilterTextUptoCard

/-- THE SECOND FORM's CARD OF 'laws.FnExactReadFilter'. -/
def fnExactReadFilterUptoCard : Claim7 := { stood := { row := fnExactReadFilterUptoRow, standIns := [], harness := (true, "8dccf742fcd6b1594adc2a04209a5310f0ab47f903bd620dc5705117d5feece8"), looks := true }, kinds := [], alts := [], laidByText := true, laidKinds := [.data, .data, .data, .data, .sentinel, .sentinel, .data, .pinned], laidTests := true, laidLooks := .later }
def FnExactReadFilterUptoCardSaid : Prop := Claim7.holds Tryd.pinned (.plain (OpenSpec.upto fnExactReadFilterSpec)) fnExactReadFilterUptoCard
end Rows
end Go.Proofs.YtljecghkechcaaaDoor
