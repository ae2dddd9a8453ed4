/-
  DERIVED. GIVEN WITH THE SEED: THE CARDS: each row of YtojajaibeifhoaaGreatDoorRows.lean that lists a variable, with what it lists TIED to the program's text (the seventh form; the later family's looks); each row that meets fmt, with fmt's text TOLD by the authors' own Lean function (tested against real Go, not proved from fmt's source: count such statements apart). THE CARD IS WHAT COUNTS. Prove the row's statement (the work); the ties are given (YtojajaibeifhoaaGreatDoorTie.lean); close each card by the builder's one call (the guide's Derived/Test/ToyasCard.lean, 'card_holds'). Laid BY PROGRAM, IN A SANDBOX (cutbox-door.mjs). By AI agents, Wed Nov 11 2026. No macro, syntax, notation, axiom, sorry.
-/
import Derived.Test.YtojajaibeifhoaaGreatDoorRows
import GoSem.ClaimSeven
namespace Go.Proofs.YtojajaibeifhoaaGreatDoor
namespace Rows

/-- THE TIED CARD OF 'laws.FnPublish'. -/
def fnPublishCard : Claim7 := { stood := { row := fnPublishRow, standIns := [], harness := (true, "0f56d35d3557dc8d1d0d908d151a2d7aab3835409f7288fec05bb577e7429a12"), looks := true }, kinds := [], alts := [], laidByText := true, laidKinds := [.data, .pinned], laidTests := true, laidLooks := .later }
def FnPublishCardSaid : Prop := Claim7.holds Tryz.pinned (.plain (OpenSpec.ofChange fnPublishSpec)) fnPublishCard

/-- THE TIED CARD OF 'laws.FnExactTopicsOk'. -/
def fnExactTopicsOkCard : Claim7 := { stood := { row := fnExactTopicsOkRow, standIns := [], harness := (true, "0f56d35d3557dc8d1d0d908d151a2d7aab3835409f7288fec05bb577e7429a12"), looks := true }, kinds := [], alts := [], laidByText := true, laidKinds := [.data, .pinned], laidTests := true, laidLooks := .later }
def FnExactTopicsOkCardSaid : Prop := Claim7.holds Tryz.pinned (.plain (OpenSpec.ofChange fnExactTopicsOkSpec)) fnExactTopicsOkCard

/-- THE TIED CARD OF 'laws.FnExactTopicAt'. -/
def fnExactTopicAtCard : Claim7 := { stood := { row := fnExactTopicAtRow, standIns := [], harness := (true, "0f56d35d3557dc8d1d0d908d151a2d7aab3835409f7288fec05bb577e7429a12"), looks := true }, kinds := [], alts := [], laidByText := true, laidKinds := [.data, .pinned], laidTests := true, laidLooks := .later }
def FnExactTopicAtCardSaid : Prop := Claim7.holds Tryz.pinned (.plain (OpenSpec.ofChange fnExactTopicAtSpec)) fnExactTopicAtCard

/-- THE TIED CARD OF 'laws.FnExactOpenTopic'. -/
def fnExactOpenTopicCard : Claim7 := { stood := { row := fnExactOpenTopicRow, standIns := [], harness := (true, "0f56d35d3557dc8d1d0d908d151a2d7aab3835409f7288fec05bb577e7429a12"), looks := true }, kinds := [], alts := [], laidByText := true, laidKinds := [.data, .pinned], laidTests := true, laidLooks := .later }
def FnExactOpenTopicCardSaid : Prop := Claim7.holds Tryz.pinned (.plain (OpenSpec.ofChange fnExactOpenTopicSpec)) fnExactOpenTopicCard

/-- THE TIED CARD OF 'laws.FnExactPublish'. -/
def fnExactPublishCard : Claim7 := { stood := { row := fnExactPublishRow, standIns := [], harness := (true, "0f56d35d3557dc8d1d0d908d151a2d7aab3835409f7288fec05bb577e7429a12"), looks := true }, kinds := [], alts := [], laidByText := true, laidKinds := [.data, .pinned], laidTests := true, laidLooks := .later }
def FnExactPublishCardSaid : Prop := Claim7.holds Tryz.pinned (.plain (OpenSpec.ofChange fnExactPublishSpec)) fnExactPublishCard

/-- THE SECOND FORM's CARD OF 'laws.FnPublish'. -/
def fnPublishUptoCard : Claim7 := { stood := { row := fnPublishUptoRow, standIns := [], harness := (true, "0f56d35d3557dc8d1d0d908d151a2d7aab3835409f7288fec05bb577e7429a12"), looks := true }, kinds := [], alts := [], laidByText := true, laidKinds := [.data, .pinned], laidTests := true, laidLooks := .later }
def FnPublishUptoCardSaid : Prop := Claim7.holds Tryz.pinned (.plain (OpenSpec.upto fnPublishSpec)) fnPublishUptoCard

/-- THE SECOND FORM's CARD OF 'laws.FnExactTopicsOk'. -/
def fnExactTopicsOkUptoCard : Claim7 := { stood := { row := fnExactTopicsOkUptoRow, standIns := [], harness := (true, "0f56d35d3557dc8d1d0d908d151a2d7aab3835409f7288fec05bb577e7429a12"), looks := true }, kinds := [], alts := [], laidByText := true, laidKinds := [.data, .pinned], laidTests := true, laidLooks := .later }
def FnExactTopicsOkUptoCardSaid : Prop := Claim7.holds Tryz.pinned (.plain (OpenSpec.upto fnExactTopicsOkSpec)) fnExactTopicsOkUptoCard

/-- THE SECOND FORM's CARD OF 'laws.FnExactTopicAt'. -/
def fnExactTopicAtUptoCard : Claim7 := { stood := { row := fnExactTopicAtUptoRow, standIns := [], harness := (true, "0f56d35d3557dc8d1d0d908d151a2d7aab3835409f7288fec05bb577e7429a12"), looks := true }, kinds := [], alts := [], laidByText := true, laidKinds := [.data, .pinned], laidTests := true, laidLooks := .later }
def FnExactTopicAtUptoCardSaid : Prop := Claim7.holds Tryz.pinned (.plain (OpenSpec.upto fnExactTopicAtSpec)) fnExactTopicAtUptoCard

/-- THE SECOND FORM's CARD OF 'laws.FnExactOpenTopic'. -/
def fnExactOpenTopicUptoCard : Claim7 := { stood := { row := fnExactOpenTopicUptoRow, standIns := [], harness := (true, "0f56d35d3557dc8d1d0d908d151a2d7aab3835409f7288fec05bb577e7429a12"), looks := true }, kinds := [], alts := [], laidByText := true, laidKinds := [.data, .pinned], laidTests := true, laidLooks := .later }
def FnExactOpenTopicUptoCardSaid : Prop := Claim7.holds Tryz.pinned (.plain (OpenSpec.upto fnExactOpenTopicSpec)) fnExactOpenTopicUptoCard

/-- THE SECOND FORM's CARD OF 'laws.FnExactPublish'. -/
def fnExactPublishUptoCard : Claim7 := { stood := { row := fnExactPublishUptoRow, standIns := [], harness := (true, "0f56d35d3557dc8d1d0d908d151a2d7aab3835409f7288fec05bb577e7429a12"), looks := true }, kinds := [], alts := [], laidByText := true, laidKinds := [.data, .pinned], laidTests := true, laidLooks := .later }
def FnExactPublishUptoCardSaid : Prop := Claim7.holds Tryz.pinned (.plain (OpenSpec.upto fnExactPublishSpec)) fnExactPublishUptoCard
end Rows
end Go.Proofs.YtojajaibeifhoaaGreatDoor
