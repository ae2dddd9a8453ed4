/-
  No cell of these rows narrows 'for every input' (looked for: loops, veiled, ifaces, maps, wideKeys, modest, calm, conditions, laid).
  DERIVED. THE GIVEN ROWS OF THIS SEAT. 9 by the template 'for every input the law returns true; each argument reads behind the call as it read before'; 0 by the template 'total and deterministic' (their statements: YtejakmbpmnobiabTotals.lean).
  GIVEN WITH THE SEED: the statements are not yours to turn. If you find one false, say at which input.
  Laid BY PROGRAM, IN A SANDBOX (cutbox-rows.mjs): the forced cells as the released guide's own fill.sh prints them over the translation 4aec2f0c4bab95c4… (all of the seat's roots in one cut). By AI agents, Wed Nov 11 2026. No macro, syntax, notation, axiom, sorry.
-/
import Derived.Test.YtejakmbpmnobiabChecked
import GoSem.Claim
import GoSem.ClaimJoined
import GoSem.ClaimMapViews
import Derived.JoinedTies
import Derived.KernelRfl
namespace Go.Proofs.Ytejakmbpmnobiab
/- THE CELL 'sum', in the pinned program and in every row, IS THE sha256 OF THE DUMP (.gsa) THAT YtejakmbpmnobiabProg.lean LOADS. Nothing in Lean hashes anything: it is a label: what it is worth is what the hold of that sum in a sandbox is worth. -/
noncomputable def Try.pinned : Pinned := { name := "ytejakmbpmnobiab", sum := "4aec2f0c4bab95c49b0cfdc79d35cb2f3f9cb1e000b2db930eb535ac114bad32", checked := Try.checked }
namespace Rows
def none {H : Type} : Left H := { results := [], args := [] }

/-- 'laws.FnExactCellOk': WHATEVER THE INPUT: true; the input reads as it did. -/
def fnExactCellOkSpec : ChangeSpec := { name := "fnExactCellOk", fn := fun _ => fun
  | [d] => { results := [.lit (.bool true)], args := [d] }
  | _ => none }
def fnExactCellOkRow : OpenClaim := { program := "ytejakmbpmnobiab", sum := "4aec2f0c4bab95c49b0cfdc79d35cb2f3f9cb1e000b2db930eb535ac114bad32", func := "loop.example/g00098/laws.FnExactCellOk", spec := "fnExactCellOk", unfollowed := true, recurses := true, apart := false }
def FnExactCellOkSaid : Prop := fnExactCellOkRow.holds Try.pinned (OpenSpec.ofChange fnExactCellOkSpec)

/-- ITS FALSE NEIGHBOUR: 'it returns false'. Refute it at one input. -/
def fnExactCellOkWrong : ChangeSpec := { name := "fnExactCellOk", fn := fun _ => fun
  | [d] => { results := [.lit (.bool false)], args := [d] }
  | _ => none }
def FnExactCellOkWrongFalsely : Prop := fnExactCellOkRow.holds Try.pinned (OpenSpec.ofChange fnExactCellOkWrong)

/-- 'laws.FnExactChanged': WHATEVER THE INPUT: true; the input reads as it did. -/
def fnExactChangedSpec : ChangeSpec := { name := "fnExactChanged", fn := fun _ => fun
  | [d1, d2] => { results := [.lit (.bool true)], args := [d1, d2] }
  | _ => none }
def fnExactChangedRow : OpenClaim := { program := "ytejakmbpmnobiab", sum := "4aec2f0c4bab95c49b0cfdc79d35cb2f3f9cb1e000b2db930eb535ac114bad32", func := "loop.example/g00098/laws.FnExactChanged", spec := "fnExactChanged", unfollowed := true, recurses := true, apart := false }
def FnExactChangedSaid : Prop := fnExactChangedRow.holds Try.pinned (OpenSpec.ofChange fnExactChangedSpec)

/-- ITS FALSE NEIGHBOUR: 'it returns false'. Refute it at one input. -/
def fnExactChangedWrong : ChangeSpec := { name := "fnExactChanged", fn := fun _ => fun
  | [d1, d2] => { results := [.lit (.bool false)], args := [d1, d2] }
  | _ => none }
def FnExactChangedWrongFalsely : Prop := fnExactChangedRow.holds Try.pinned (OpenSpec.ofChange fnExactChangedWrong)

/-- 'laws.FnExactUpdate': WHATEVER THE INPUT: true; the input reads as it did. -/
def fnExactUpdateSpec : ChangeSpec := { name := "fnExactUpdate", fn := fun _ => fun
  | [d1, d2] => { results := [.lit (.bool true)], args := [d1, d2] }
  | _ => none }
def fnExactUpdateRow : OpenClaim := { program := "ytejakmbpmnobiab", sum := "4aec2f0c4bab95c49b0cfdc79d35cb2f3f9cb1e000b2db930eb535ac114bad32", func := "loop.example/g00098/laws.FnExactUpdate", spec := "fnExactUpdate", unfollowed := true, recurses := true, apart := false }
def FnExactUpdateSaid : Prop := fnExactUpdateRow.holds Try.pinned (OpenSpec.ofChange fnExactUpdateSpec)

/-- ITS FALSE NEIGHBOUR: 'it returns false'. Refute it at one input. -/
def fnExactUpdateWrong : ChangeSpec := { name := "fnExactUpdate", fn := fun _ => fun
  | [d1, d2] => { results := [.lit (.bool false)], args := [d1, d2] }
  | _ => none }
def FnExactUpdateWrongFalsely : Prop := fnExactUpdateRow.holds Try.pinned (OpenSpec.ofChange fnExactUpdateWrong)

/-- 'laws.FnExactShut': WHATEVER THE INPUT: true; the input reads as it did. -/
def fnExactShutSpec : ChangeSpec := { name := "fnExactShut", fn := fun _ => fun
  | [d] => { results := [.lit (.bool true)], args := [d] }
  | _ => none }
def fnExactShutRow : OpenClaim := { program := "ytejakmbpmnobiab", sum := "4aec2f0c4bab95c49b0cfdc79d35cb2f3f9cb1e000b2db930eb535ac114bad32", func := "loop.example/g00098/laws.FnExactShut", spec := "fnExactShut", unfollowed := true, recurses := true, apart := false }
def FnExactShutSaid : Prop := fnExactShutRow.holds Try.pinned (OpenSpec.ofChange fnExactShutSpec)

/-- ITS FALSE NEIGHBOUR: 'it returns false'. Refute it at one input. -/
def fnExactShutWrong : ChangeSpec := { name := "fnExactShut", fn := fun _ => fun
  | [d] => { results := [.lit (.bool false)], args := [d] }
  | _ => none }
def FnExactShutWrongFalsely : Prop := fnExactShutRow.holds Try.pinned (OpenSpec.ofChange fnExactShutWrong)

/-- 'laws.FnExactLook': WHATEVER THE INPUT: true; the input reads as it did. -/
def fnExactLookSpec : ChangeSpec := { name := "fnExactLook", fn := fun _ => fun
  | [d] => { results := [.lit (.bool true)], args := [d] }
  | _ => none }
def fnExactLookRow : OpenClaim := { program := "ytejakmbpmnobiab", sum := "4aec2f0c4bab95c49b0cfdc79d35cb2f3f9cb1e000b2db930eb535ac114bad32", func := "loop.example/g00098/laws.FnExactLook", spec := "fnExactLook", unfollowed := true, recurses := true, apart := false }
def FnExactLookSaid : Prop := fnExactLookRow.holds Try.pinned (OpenSpec.ofChange fnExactLookSpec)

/-- ITS FALSE NEIGHBOUR: 'it returns false'. Refute it at one input. -/
def fnExactLookWrong : ChangeSpec := { name := "fnExactLook", fn := fun _ => fun
  | [d] => { results := [.lit (.bool false)], args := [d] }
  | _ => none }
def FnExactLookWrongFalsely : Prop := fnExactLookRow.holds Try.pinned (OpenSpec.ofChange fnExactLookWrong)

/-- 'laws.FnExactWatch': WHATEVER THE INPUT: true; the input reads as it did. -/
def fnExactWatchSpec : ChangeSpec := { name := "fnExactWatch", fn := fun _ => fun
  | [d1, d2, d3] => { results := [.lit (.bool true)], args := [d1, d2, d3] }
  | _ => none }
def fnExactWatchRow : OpenClaim := { program := "ytejakmbpmnobiab", sum := "4aec2f0c4bab95c49b0cfdc79d35cb2f3f9cb1e000b2db930eb535ac114bad32", func := "loop.example/g00098/laws.FnExactWatch", spec := "fnExactWatch", unfollowed := true, recurses := true, apart := false }
def FnExactWatchSaid : Prop := fnExactWatchRow.holds Try.pinned (OpenSpec.ofChange fnExactWatchSpec)

/-- ITS FALSE NEIGHBOUR: 'it returns false'. Refute it at one input. -/
def fnExactWatchWrong : ChangeSpec := { name := "fnExactWatch", fn := fun _ => fun
  | [d1, d2, d3] => { results := [.lit (.bool false)], args := [d1, d2, d3] }
  | _ => none }
def FnExactWatchWrongFalsely : Prop := fnExactWatchRow.holds Try.pinned (OpenSpec.ofChange fnExactWatchWrong)

/-- 'laws.FnExactSeen': WHATEVER THE INPUT: true; the input reads as it did. -/
def fnExactSeenSpec : ChangeSpec := { name := "fnExactSeen", fn := fun _ => fun
  | [d1, d2] => { results := [.lit (.bool true)], args := [d1, d2] }
  | _ => none }
def fnExactSeenRow : OpenClaim := { program := "ytejakmbpmnobiab", sum := "4aec2f0c4bab95c49b0cfdc79d35cb2f3f9cb1e000b2db930eb535ac114bad32", func := "loop.example/g00098/laws.FnExactSeen", spec := "fnExactSeen", unfollowed := true, recurses := true, apart := false }
def FnExactSeenSaid : Prop := fnExactSeenRow.holds Try.pinned (OpenSpec.ofChange fnExactSeenSpec)

/-- ITS FALSE NEIGHBOUR: 'it returns false'. Refute it at one input. -/
def fnExactSeenWrong : ChangeSpec := { name := "fnExactSeen", fn := fun _ => fun
  | [d1, d2] => { results := [.lit (.bool false)], args := [d1, d2] }
  | _ => none }
def FnExactSeenWrongFalsely : Prop := fnExactSeenRow.holds Try.pinned (OpenSpec.ofChange fnExactSeenWrong)

/-- 'laws.FnExactUnwatch': WHATEVER THE INPUT: true; the input reads as it did. -/
def fnExactUnwatchSpec : ChangeSpec := { name := "fnExactUnwatch", fn := fun _ => fun
  | [d1, d2] => { results := [.lit (.bool true)], args := [d1, d2] }
  | _ => none }
def fnExactUnwatchRow : OpenClaim := { program := "ytejakmbpmnobiab", sum := "4aec2f0c4bab95c49b0cfdc79d35cb2f3f9cb1e000b2db930eb535ac114bad32", func := "loop.example/g00098/laws.FnExactUnwatch", spec := "fnExactUnwatch", unfollowed := true, recurses := true, apart := false }
def FnExactUnwatchSaid : Prop := fnExactUnwatchRow.holds Try.pinned (OpenSpec.ofChange fnExactUnwatchSpec)

/-- ITS FALSE NEIGHBOUR: 'it returns false'. Refute it at one input. -/
def fnExactUnwatchWrong : ChangeSpec := { name := "fnExactUnwatch", fn := fun _ => fun
  | [d1, d2] => { results := [.lit (.bool false)], args := [d1, d2] }
  | _ => none }
def FnExactUnwatchWrongFalsely : Prop := fnExactUnwatchRow.holds Try.pinned (OpenSpec.ofChange fnExactUnwatchWrong)

/-- 'laws.FnChanges': WHATEVER THE INPUT: true; the input reads as it did. -/
def fnChangesSpec : ChangeSpec := { name := "fnChanges", fn := fun _ => fun
  | [d] => { results := [.lit (.bool true)], args := [d] }
  | _ => none }
def fnChangesRow : OpenClaim := { program := "ytejakmbpmnobiab", sum := "4aec2f0c4bab95c49b0cfdc79d35cb2f3f9cb1e000b2db930eb535ac114bad32", func := "loop.example/g00098/laws.FnChanges", spec := "fnChanges", unfollowed := true, recurses := true, apart := false }
def FnChangesSaid : Prop := fnChangesRow.holds Try.pinned (OpenSpec.ofChange fnChangesSpec)

/-- ITS FALSE NEIGHBOUR: 'it returns false'. Refute it at one input. -/
def fnChangesWrong : ChangeSpec := { name := "fnChanges", fn := fun _ => fun
  | [d] => { results := [.lit (.bool false)], args := [d] }
  | _ => none }
def FnChangesWrongFalsely : Prop := fnChangesRow.holds Try.pinned (OpenSpec.ofChange fnChangesWrong)

/- THE SECOND FORM. 'bulk': how many values and letters a reading holds, each counted each time it is reached (what is shared counts as often as it is met; a slice's spare places count too). A statement '..UptoSaid' is the law's where the arguments, and the package variables that the reading takes, are together of bulk at most 1048576: NARROWER than '..Said'. Prove '..Said' where nothing that the law and all that it calls make is longer than what came in: it says more and counts as full. Else prove '..UptoSaid'. A law counts once. -/
mutual
def uptoBulk {H : Type} : DataW H → Nat
  | .lit (.string bytes) => bytes.length + 1
  | .lit _ => 1
  | .nil => 1
  | .ptr d => uptoBulk d + 1
  | .slice elems spare => uptoBulkAll elems + uptoBulkAll spare + 1
  | .agg parts => uptoBulkAll parts + 1
  | .iface _ d => uptoBulk d + 1
  | .map entries => uptoBulkEntries entries + 1
  | .held _ => 1
def uptoBulkAll {H : Type} : List (DataW H) → Nat
  | [] => 0
  | d :: r => uptoBulk d + uptoBulkAll r
def uptoBulkEntries {H : Type} : List (Lit × DataW H) → Nat
  | [] => 0
  | x :: r => uptoBulkEntry x + uptoBulkEntries r
def uptoBulkEntry {H : Type} : Lit × DataW H → Nat
  | (.string bytes, d) => bytes.length + uptoBulk d + 1
  | (_, d) => uptoBulk d + 1
 end
def uptoSmall : (H : Type) → List (DataW H) → Bool := fun _ ds => decide (uptoBulkAll ds ≤ 1048576)
def OpenSpec.upto (s : _root_.Go.ChangeSpec) : _root_.Go.OpenSpec := { _root_.Go.OpenSpec.ofChange s with cond := some uptoSmall }

/-- 'laws.FnExactCellOk', WHERE WHAT IT READS IS OF BULK AT MOST 1048576: true; the input reads as it did. -/
def fnExactCellOkUptoRow : OpenClaim := { program := "ytejakmbpmnobiab", sum := "4aec2f0c4bab95c49b0cfdc79d35cb2f3f9cb1e000b2db930eb535ac114bad32", func := "loop.example/g00098/laws.FnExactCellOk", spec := "fnExactCellOk", unfollowed := true, recurses := true, apart := false, narrowed := true }
def FnExactCellOkUptoSaid : Prop := fnExactCellOkUptoRow.holds Try.pinned (OpenSpec.upto fnExactCellOkSpec)

/-- 'laws.FnExactChanged', WHERE WHAT IT READS IS OF BULK AT MOST 1048576: true; the input reads as it did. -/
def fnExactChangedUptoRow : OpenClaim := { program := "ytejakmbpmnobiab", sum := "4aec2f0c4bab95c49b0cfdc79d35cb2f3f9cb1e000b2db930eb535ac114bad32", func := "loop.example/g00098/laws.FnExactChanged", spec := "fnExactChanged", unfollowed := true, recurses := true, apart := false, narrowed := true }
def FnExactChangedUptoSaid : Prop := fnExactChangedUptoRow.holds Try.pinned (OpenSpec.upto fnExactChangedSpec)

/-- 'laws.FnExactUpdate', WHERE WHAT IT READS IS OF BULK AT MOST 1048576: true; the input reads as it did. -/
def fnExactUpdateUptoRow : OpenClaim := { program := "ytejakmbpmnobiab", sum := "4aec2f0c4bab95c49b0cfdc79d35cb2f3f9cb1e000b2db930eb535ac114bad32", func := "loop.example/g00098/laws.FnExactUpdate", spec := "fnExactUpdate", unfollowed := true, recurses := true, apart := false, narrowed := true }
def FnExactUpdateUptoSaid : Prop := fnExactUpdateUptoRow.holds Try.pinned (OpenSpec.upto fnExactUpdateSpec)

/-- 'laws.FnExactShut', WHERE WHAT IT READS IS OF BULK AT MOST 1048576: true; the input reads as it did. -/
def fnExactShutUptoRow : OpenClaim := { program := "ytejakmbpmnobiab", sum := "4aec2f0c4bab95c49b0cfdc79d35cb2f3f9cb1e000b2db930eb535ac114bad32", func := "loop.example/g00098/laws.FnExactShut", spec := "fnExactShut", unfollowed := true, recurses := true, apart := false, narrowed := true }
def FnExactShutUptoSaid : Prop := fnExactShutUptoRow.holds Try.pinned (OpenSpec.upto fnExactShutSpec)

/-- 'laws.FnExactLook', WHERE WHAT IT READS IS OF BULK AT MOST 1048576: true; the input reads as it did. -/
def fnExactLookUptoRow : OpenClaim := { program := "ytejakmbpmnobiab", sum := "4aec2f0c4bab95c49b0cfdc79d35cb2f3f9cb1e000b2db930eb535ac114bad32", func := "loop.example/g00098/laws.FnExactLook", spec := "fnExactLook", unfollowed := true, recurses := true, apart := false, narrowed := true }
def FnExactLookUptoSaid : Prop := fnExactLookUptoRow.holds Try.pinned (OpenSpec.upto fnExactLookSpec)

/-- 'laws.FnExactWatch', WHERE WHAT IT READS IS OF BULK AT MOST 1048576: true; the input reads as it did. -/
def fnExactWatchUptoRow : OpenClaim := { program := "ytejakmbpmnobiab", sum := "4aec2f0c4bab95c49b0cfdc79d35cb2f3f9cb1e000b2db930eb535ac114bad32", func := "loop.example/g00098/laws.FnExactWatch", spec := "fnExactWatch", unfollowed := true, recurses := true, apart := false, narrowed := true }
def FnExactWatchUptoSaid : Prop := fnExactWatchUptoRow.holds Try.pinned (OpenSpec.upto fnExactWatchSpec)

/-- 'laws.FnExactSeen', WHERE WHAT IT READS IS OF BULK AT MOST 1048576: true; the input reads as it did. -/
def fnExactSeenUptoRow : OpenClaim := { program := "ytejakmbpmnobiab", sum := "4aec2f0c4bab95c49b0cfdc79d35cb2f3f9cb1e000b2db930eb535ac114bad32", func := "loop.example/g00098/laws.FnExactSeen", spec := "fnExactSeen", unfollowed := true, recurses := true, apart := false, narrowed := true }
def FnExactSeenUptoSaid : Prop := fnExactSeenUptoRow.holds Try.pinned (OpenSpec.upto fnExactSeenSpec)

/-- 'laws.FnExactUnwatch', WHERE WHAT IT READS IS OF BULK AT MOST 1048576: true; the input reads as it did. -/
def fnExactUnwatchUptoRow : OpenClaim := { program := "ytejakmbpmnobiab", sum := "4aec2f0c4bab95c49b0cfdc79d35cb2f3f9cb1e000b2db930eb535ac114bad32", func := "loop.example/g00098/laws.FnExactUnwatch", spec := "fnExactUnwatch", unfollowed := true, recurses := true, apart := false, narrowed := true }
def FnExactUnwatchUptoSaid : Prop := fnExactUnwatchUptoRow.holds Try.pinned (OpenSpec.upto fnExactUnwatchSpec)

/-- 'laws.FnChanges', WHERE WHAT IT READS IS OF BULK AT MOST 1048576: true; the input reads as it did. -/
def fnChangesUptoRow : OpenClaim := { program := "ytejakmbpmnobiab", sum := "4aec2f0c4bab95c49b0cfdc79d35cb2f3f9cb1e000b2db930eb535ac114bad32", func := "loop.example/g00098/laws.FnChanges", spec := "fnChanges", unfollowed := true, recurses := true, apart := false, narrowed := true }
def FnChangesUptoSaid : Prop := fnChangesUptoRow.holds Try.pinned (OpenSpec.upto fnChangesSpec)

end Rows
end Go.Proofs.Ytejakmbpmnobiab
