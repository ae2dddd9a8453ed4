/-
  No cell of these rows narrows 'for every input' (looked for: loops, veiled, ifaces, maps, wideKeys, modest, calm, conditions, laid).
  DERIVED. THE GIVEN ROWS OF THIS SEAT. 15 by the template 'for every input the law returns true; each argument reads behind the call as it read before'; 0 by the template 'total and deterministic' (their statements: YtbhdjcggcgddfaaTotals.lean).
  GIVEN WITH THE SEED: the statements are not yours to turn. If you find one false, say at which input.
  Laid BY PROGRAM, IN A SANDBOX (cutbox-rows.mjs): the forced cells as the released guide's own fill.sh prints them over the translation af05faee77dc9f06… (all of the seat's roots in one cut). By AI agents, Wed Nov 11 2026. No macro, syntax, notation, axiom, sorry.
-/
import Derived.Test.YtbhdjcggcgddfaaChecked
import GoSem.Claim
import GoSem.ClaimJoined
import GoSem.ClaimMapViews
import Derived.JoinedTies
import Derived.KernelRfl
namespace Go.Proofs.Ytbhdjcggcgddfaa
/- THE CELL 'sum', in the pinned program and in every row, IS THE sha256 OF THE DUMP (.gsa) THAT YtbhdjcggcgddfaaProg.lean LOADS. Nothing in Lean hashes anything: it is a label: what it is worth is what the hold of that sum in a sandbox is worth. -/
noncomputable def Try.pinned : Pinned := { name := "ytbhdjcggcgddfaa", sum := "af05faee77dc9f061ca0ad159891cdaf9aeb8c24874966f607f4c56cefc3173b", checked := Try.checked }
namespace Rows
def none {H : Type} : Left H := { results := [], args := [] }

/-- 'laws.FnBalanced': WHATEVER THE INPUT: true; the input reads as it did. -/
def fnBalancedSpec : ChangeSpec := { name := "fnBalanced", fn := fun _ => fun
  | [d] => { results := [.lit (.bool true)], args := [d] }
  | _ => none }
def fnBalancedRow : OpenClaim := { program := "ytbhdjcggcgddfaa", sum := "af05faee77dc9f061ca0ad159891cdaf9aeb8c24874966f607f4c56cefc3173b", func := "loop.example/g00098/laws.FnBalanced", spec := "fnBalanced", unfollowed := true, recurses := true, apart := false }
def FnBalancedSaid : Prop := fnBalancedRow.holds Try.pinned (OpenSpec.ofChange fnBalancedSpec)

/-- ITS FALSE NEIGHBOUR: 'it returns false'. Refute it at one input. -/
def fnBalancedWrong : ChangeSpec := { name := "fnBalanced", fn := fun _ => fun
  | [d] => { results := [.lit (.bool false)], args := [d] }
  | _ => none }
def FnBalancedWrongFalsely : Prop := fnBalancedRow.holds Try.pinned (OpenSpec.ofChange fnBalancedWrong)

/-- 'laws.FnPermit': WHATEVER THE INPUT: true; the input reads as it did. -/
def fnPermitSpec : ChangeSpec := { name := "fnPermit", fn := fun _ => fun
  | [d] => { results := [.lit (.bool true)], args := [d] }
  | _ => none }
def fnPermitRow : OpenClaim := { program := "ytbhdjcggcgddfaa", sum := "af05faee77dc9f061ca0ad159891cdaf9aeb8c24874966f607f4c56cefc3173b", func := "loop.example/g00098/laws.FnPermit", spec := "fnPermit", apart := false }
def FnPermitSaid : Prop := fnPermitRow.holds Try.pinned (OpenSpec.ofChange fnPermitSpec)

/-- ITS FALSE NEIGHBOUR: 'it returns false'. Refute it at one input. -/
def fnPermitWrong : ChangeSpec := { name := "fnPermit", fn := fun _ => fun
  | [d] => { results := [.lit (.bool false)], args := [d] }
  | _ => none }
def FnPermitWrongFalsely : Prop := fnPermitRow.holds Try.pinned (OpenSpec.ofChange fnPermitWrong)

/-- 'laws.FnPassOn': WHATEVER THE INPUT: true; the input reads as it did. -/
def fnPassOnSpec : ChangeSpec := { name := "fnPassOn", fn := fun _ => fun
  | [d] => { results := [.lit (.bool true)], args := [d] }
  | _ => none }
def fnPassOnRow : OpenClaim := { program := "ytbhdjcggcgddfaa", sum := "af05faee77dc9f061ca0ad159891cdaf9aeb8c24874966f607f4c56cefc3173b", func := "loop.example/g00098/laws.FnPassOn", spec := "fnPassOn", unfollowed := true, recurses := true, apart := false }
def FnPassOnSaid : Prop := fnPassOnRow.holds Try.pinned (OpenSpec.ofChange fnPassOnSpec)

/-- ITS FALSE NEIGHBOUR: 'it returns false'. Refute it at one input. -/
def fnPassOnWrong : ChangeSpec := { name := "fnPassOn", fn := fun _ => fun
  | [d] => { results := [.lit (.bool false)], args := [d] }
  | _ => none }
def FnPassOnWrongFalsely : Prop := fnPassOnRow.holds Try.pinned (OpenSpec.ofChange fnPassOnWrong)

/-- 'laws.FnAuto': WHATEVER THE INPUT: true; the input reads as it did. -/
def fnAutoSpec : ChangeSpec := { name := "fnAuto", fn := fun _ => fun
  | [d] => { results := [.lit (.bool true)], args := [d] }
  | _ => none }
def fnAutoRow : OpenClaim := { program := "ytbhdjcggcgddfaa", sum := "af05faee77dc9f061ca0ad159891cdaf9aeb8c24874966f607f4c56cefc3173b", func := "loop.example/g00098/laws.FnAuto", spec := "fnAuto", unfollowed := true, recurses := true, apart := false }
def FnAutoSaid : Prop := fnAutoRow.holds Try.pinned (OpenSpec.ofChange fnAutoSpec)

/-- ITS FALSE NEIGHBOUR: 'it returns false'. Refute it at one input. -/
def fnAutoWrong : ChangeSpec := { name := "fnAuto", fn := fun _ => fun
  | [d] => { results := [.lit (.bool false)], args := [d] }
  | _ => none }
def FnAutoWrongFalsely : Prop := fnAutoRow.holds Try.pinned (OpenSpec.ofChange fnAutoWrong)

/-- 'laws.FnSees': WHATEVER THE INPUT: true; the input reads as it did. -/
def fnSeesSpec : ChangeSpec := { name := "fnSees", fn := fun _ => fun
  | [d] => { results := [.lit (.bool true)], args := [d] }
  | _ => none }
def fnSeesRow : OpenClaim := { program := "ytbhdjcggcgddfaa", sum := "af05faee77dc9f061ca0ad159891cdaf9aeb8c24874966f607f4c56cefc3173b", func := "loop.example/g00098/laws.FnSees", spec := "fnSees", unfollowed := true, recurses := true, apart := false }
def FnSeesSaid : Prop := fnSeesRow.holds Try.pinned (OpenSpec.ofChange fnSeesSpec)

/-- ITS FALSE NEIGHBOUR: 'it returns false'. Refute it at one input. -/
def fnSeesWrong : ChangeSpec := { name := "fnSees", fn := fun _ => fun
  | [d] => { results := [.lit (.bool false)], args := [d] }
  | _ => none }
def FnSeesWrongFalsely : Prop := fnSeesRow.holds Try.pinned (OpenSpec.ofChange fnSeesWrong)

/-- 'laws.FnExactRaise': WHATEVER THE INPUT: true; the input reads as it did. -/
def fnExactRaiseSpec : ChangeSpec := { name := "fnExactRaise", fn := fun _ => fun
  | [d] => { results := [.lit (.bool true)], args := [d] }
  | _ => none }
def fnExactRaiseRow : OpenClaim := { program := "ytbhdjcggcgddfaa", sum := "af05faee77dc9f061ca0ad159891cdaf9aeb8c24874966f607f4c56cefc3173b", func := "loop.example/g00098/laws.FnExactRaise", spec := "fnExactRaise", unfollowed := true, recurses := true, apart := false }
def FnExactRaiseSaid : Prop := fnExactRaiseRow.holds Try.pinned (OpenSpec.ofChange fnExactRaiseSpec)

/-- ITS FALSE NEIGHBOUR: 'it returns false'. Refute it at one input. -/
def fnExactRaiseWrong : ChangeSpec := { name := "fnExactRaise", fn := fun _ => fun
  | [d] => { results := [.lit (.bool false)], args := [d] }
  | _ => none }
def FnExactRaiseWrongFalsely : Prop := fnExactRaiseRow.holds Try.pinned (OpenSpec.ofChange fnExactRaiseWrong)

/-- 'laws.FnExactGoOn': WHATEVER THE INPUT: true; the input reads as it did. -/
def fnExactGoOnSpec : ChangeSpec := { name := "fnExactGoOn", fn := fun _ => fun
  | [d1, d2] => { results := [.lit (.bool true)], args := [d1, d2] }
  | _ => none }
def fnExactGoOnRow : OpenClaim := { program := "ytbhdjcggcgddfaa", sum := "af05faee77dc9f061ca0ad159891cdaf9aeb8c24874966f607f4c56cefc3173b", func := "loop.example/g00098/laws.FnExactGoOn", spec := "fnExactGoOn", unfollowed := true, recurses := true, apart := false }
def FnExactGoOnSaid : Prop := fnExactGoOnRow.holds Try.pinned (OpenSpec.ofChange fnExactGoOnSpec)

/-- ITS FALSE NEIGHBOUR: 'it returns false'. Refute it at one input. -/
def fnExactGoOnWrong : ChangeSpec := { name := "fnExactGoOn", fn := fun _ => fun
  | [d1, d2] => { results := [.lit (.bool false)], args := [d1, d2] }
  | _ => none }
def FnExactGoOnWrongFalsely : Prop := fnExactGoOnRow.holds Try.pinned (OpenSpec.ofChange fnExactGoOnWrong)

/-- 'laws.FnExactStepBack': WHATEVER THE INPUT: true; the input reads as it did. -/
def fnExactStepBackSpec : ChangeSpec := { name := "fnExactStepBack", fn := fun _ => fun
  | [d1, d2] => { results := [.lit (.bool true)], args := [d1, d2] }
  | _ => none }
def fnExactStepBackRow : OpenClaim := { program := "ytbhdjcggcgddfaa", sum := "af05faee77dc9f061ca0ad159891cdaf9aeb8c24874966f607f4c56cefc3173b", func := "loop.example/g00098/laws.FnExactStepBack", spec := "fnExactStepBack", unfollowed := true, recurses := true, apart := false }
def FnExactStepBackSaid : Prop := fnExactStepBackRow.holds Try.pinned (OpenSpec.ofChange fnExactStepBackSpec)

/-- ITS FALSE NEIGHBOUR: 'it returns false'. Refute it at one input. -/
def fnExactStepBackWrong : ChangeSpec := { name := "fnExactStepBack", fn := fun _ => fun
  | [d1, d2] => { results := [.lit (.bool false)], args := [d1, d2] }
  | _ => none }
def FnExactStepBackWrongFalsely : Prop := fnExactStepBackRow.holds Try.pinned (OpenSpec.ofChange fnExactStepBackWrong)

/-- 'laws.FnLatch': WHATEVER THE INPUT: true; the input reads as it did. -/
def fnLatchSpec : ChangeSpec := { name := "fnLatch", fn := fun _ => fun
  | [d] => { results := [.lit (.bool true)], args := [d] }
  | _ => none }
def fnLatchRow : OpenClaim := { program := "ytbhdjcggcgddfaa", sum := "af05faee77dc9f061ca0ad159891cdaf9aeb8c24874966f607f4c56cefc3173b", func := "loop.example/g00098/laws.FnLatch", spec := "fnLatch", apart := false }
def FnLatchSaid : Prop := fnLatchRow.holds Try.pinned (OpenSpec.ofChange fnLatchSpec)

/-- ITS FALSE NEIGHBOUR: 'it returns false'. Refute it at one input. -/
def fnLatchWrong : ChangeSpec := { name := "fnLatch", fn := fun _ => fun
  | [d] => { results := [.lit (.bool false)], args := [d] }
  | _ => none }
def FnLatchWrongFalsely : Prop := fnLatchRow.holds Try.pinned (OpenSpec.ofChange fnLatchWrong)

/-- 'laws.FnExactCountDown': WHATEVER THE INPUT: true; the input reads as it did. -/
def fnExactCountDownSpec : ChangeSpec := { name := "fnExactCountDown", fn := fun _ => fun
  | [d1, d2] => { results := [.lit (.bool true)], args := [d1, d2] }
  | _ => none }
def fnExactCountDownRow : OpenClaim := { program := "ytbhdjcggcgddfaa", sum := "af05faee77dc9f061ca0ad159891cdaf9aeb8c24874966f607f4c56cefc3173b", func := "loop.example/g00098/laws.FnExactCountDown", spec := "fnExactCountDown", apart := false }
def FnExactCountDownSaid : Prop := fnExactCountDownRow.holds Try.pinned (OpenSpec.ofChange fnExactCountDownSpec)

/-- ITS FALSE NEIGHBOUR: 'it returns false'. Refute it at one input. -/
def fnExactCountDownWrong : ChangeSpec := { name := "fnExactCountDown", fn := fun _ => fun
  | [d1, d2] => { results := [.lit (.bool false)], args := [d1, d2] }
  | _ => none }
def FnExactCountDownWrongFalsely : Prop := fnExactCountDownRow.holds Try.pinned (OpenSpec.ofChange fnExactCountDownWrong)

/-- 'laws.FnExactPassLatch': WHATEVER THE INPUT: true; the input reads as it did. -/
def fnExactPassLatchSpec : ChangeSpec := { name := "fnExactPassLatch", fn := fun _ => fun
  | [d1, d2] => { results := [.lit (.bool true)], args := [d1, d2] }
  | _ => none }
def fnExactPassLatchRow : OpenClaim := { program := "ytbhdjcggcgddfaa", sum := "af05faee77dc9f061ca0ad159891cdaf9aeb8c24874966f607f4c56cefc3173b", func := "loop.example/g00098/laws.FnExactPassLatch", spec := "fnExactPassLatch", apart := false }
def FnExactPassLatchSaid : Prop := fnExactPassLatchRow.holds Try.pinned (OpenSpec.ofChange fnExactPassLatchSpec)

/-- ITS FALSE NEIGHBOUR: 'it returns false'. Refute it at one input. -/
def fnExactPassLatchWrong : ChangeSpec := { name := "fnExactPassLatch", fn := fun _ => fun
  | [d1, d2] => { results := [.lit (.bool false)], args := [d1, d2] }
  | _ => none }
def FnExactPassLatchWrongFalsely : Prop := fnExactPassLatchRow.holds Try.pinned (OpenSpec.ofChange fnExactPassLatchWrong)

/-- 'laws.FnExactQuitLatch': WHATEVER THE INPUT: true; the input reads as it did. -/
def fnExactQuitLatchSpec : ChangeSpec := { name := "fnExactQuitLatch", fn := fun _ => fun
  | [d1, d2] => { results := [.lit (.bool true)], args := [d1, d2] }
  | _ => none }
def fnExactQuitLatchRow : OpenClaim := { program := "ytbhdjcggcgddfaa", sum := "af05faee77dc9f061ca0ad159891cdaf9aeb8c24874966f607f4c56cefc3173b", func := "loop.example/g00098/laws.FnExactQuitLatch", spec := "fnExactQuitLatch", apart := false }
def FnExactQuitLatchSaid : Prop := fnExactQuitLatchRow.holds Try.pinned (OpenSpec.ofChange fnExactQuitLatchSpec)

/-- ITS FALSE NEIGHBOUR: 'it returns false'. Refute it at one input. -/
def fnExactQuitLatchWrong : ChangeSpec := { name := "fnExactQuitLatch", fn := fun _ => fun
  | [d1, d2] => { results := [.lit (.bool false)], args := [d1, d2] }
  | _ => none }
def FnExactQuitLatchWrongFalsely : Prop := fnExactQuitLatchRow.holds Try.pinned (OpenSpec.ofChange fnExactQuitLatchWrong)

/-- 'laws.FnExactUpdate': WHATEVER THE INPUT: true; the input reads as it did. -/
def fnExactUpdateSpec : ChangeSpec := { name := "fnExactUpdate", fn := fun _ => fun
  | [d1, d2] => { results := [.lit (.bool true)], args := [d1, d2] }
  | _ => none }
def fnExactUpdateRow : OpenClaim := { program := "ytbhdjcggcgddfaa", sum := "af05faee77dc9f061ca0ad159891cdaf9aeb8c24874966f607f4c56cefc3173b", func := "loop.example/g00098/laws.FnExactUpdate", spec := "fnExactUpdate", unfollowed := true, recurses := true, apart := false }
def FnExactUpdateSaid : Prop := fnExactUpdateRow.holds Try.pinned (OpenSpec.ofChange fnExactUpdateSpec)

/-- ITS FALSE NEIGHBOUR: 'it returns false'. Refute it at one input. -/
def fnExactUpdateWrong : ChangeSpec := { name := "fnExactUpdate", fn := fun _ => fun
  | [d1, d2] => { results := [.lit (.bool false)], args := [d1, d2] }
  | _ => none }
def FnExactUpdateWrongFalsely : Prop := fnExactUpdateRow.holds Try.pinned (OpenSpec.ofChange fnExactUpdateWrong)

/-- 'laws.FnExactSeen': WHATEVER THE INPUT: true; the input reads as it did. -/
def fnExactSeenSpec : ChangeSpec := { name := "fnExactSeen", fn := fun _ => fun
  | [d1, d2] => { results := [.lit (.bool true)], args := [d1, d2] }
  | _ => none }
def fnExactSeenRow : OpenClaim := { program := "ytbhdjcggcgddfaa", sum := "af05faee77dc9f061ca0ad159891cdaf9aeb8c24874966f607f4c56cefc3173b", func := "loop.example/g00098/laws.FnExactSeen", spec := "fnExactSeen", unfollowed := true, recurses := true, apart := false }
def FnExactSeenSaid : Prop := fnExactSeenRow.holds Try.pinned (OpenSpec.ofChange fnExactSeenSpec)

/-- ITS FALSE NEIGHBOUR: 'it returns false'. Refute it at one input. -/
def fnExactSeenWrong : ChangeSpec := { name := "fnExactSeen", fn := fun _ => fun
  | [d1, d2] => { results := [.lit (.bool false)], args := [d1, d2] }
  | _ => none }
def FnExactSeenWrongFalsely : Prop := fnExactSeenRow.holds Try.pinned (OpenSpec.ofChange fnExactSeenWrong)

/-- 'laws.FnExactUnwatch': WHATEVER THE INPUT: true; the input reads as it did. -/
def fnExactUnwatchSpec : ChangeSpec := { name := "fnExactUnwatch", fn := fun _ => fun
  | [d1, d2] => { results := [.lit (.bool true)], args := [d1, d2] }
  | _ => none }
def fnExactUnwatchRow : OpenClaim := { program := "ytbhdjcggcgddfaa", sum := "af05faee77dc9f061ca0ad159891cdaf9aeb8c24874966f607f4c56cefc3173b", func := "loop.example/g00098/laws.FnExactUnwatch", spec := "fnExactUnwatch", unfollowed := true, recurses := true, apart := false }
def FnExactUnwatchSaid : Prop := fnExactUnwatchRow.holds Try.pinned (OpenSpec.ofChange fnExactUnwatchSpec)

/-- ITS FALSE NEIGHBOUR: 'it returns false'. Refute it at one input. -/
def fnExactUnwatchWrong : ChangeSpec := { name := "fnExactUnwatch", fn := fun _ => fun
  | [d1, d2] => { results := [.lit (.bool false)], args := [d1, d2] }
  | _ => none }
def FnExactUnwatchWrongFalsely : Prop := fnExactUnwatchRow.holds Try.pinned (OpenSpec.ofChange fnExactUnwatchWrong)

/- THE SECOND FORM. 'bulk': how many values and letters a reading holds, each counted each time it is reached (what is shared counts as often as it is met; a slice's spare places count too). A statement '..UptoSaid' is the law's where the arguments, and the package variables that the reading takes, are together of bulk at most 1048576: NARROWER than '..Said'. Prove '..Said' where nothing that the law and all that it calls make is longer than what came in: it says more and counts as full. Else prove '..UptoSaid'. A law counts once. -/
mutual
def uptoBulk {H : Type} : DataW H → Nat
  | .lit (.string bytes) => bytes.length + 1
  | .lit _ => 1
  | .nil => 1
  | .ptr d => uptoBulk d + 1
  | .slice elems spare => uptoBulkAll elems + uptoBulkAll spare + 1
  | .agg parts => uptoBulkAll parts + 1
  | .iface _ d => uptoBulk d + 1
  | .map entries => uptoBulkEntries entries + 1
  | .held _ => 1
def uptoBulkAll {H : Type} : List (DataW H) → Nat
  | [] => 0
  | d :: r => uptoBulk d + uptoBulkAll r
def uptoBulkEntries {H : Type} : List (Lit × DataW H) → Nat
  | [] => 0
  | x :: r => uptoBulkEntry x + uptoBulkEntries r
def uptoBulkEntry {H : Type} : Lit × DataW H → Nat
  | (.string bytes, d) => bytes.length + uptoBulk d + 1
  | (_, d) => uptoBulk d + 1
 end
def uptoSmall : (H : Type) → List (DataW H) → Bool := fun _ ds => decide (uptoBulkAll ds ≤ 1048576)
def OpenSpec.upto (s : _root_.Go.ChangeSpec) : _root_.Go.OpenSpec := { _root_.Go.OpenSpec.ofChange s with cond := some uptoSmall }

/-- 'laws.FnBalanced', WHERE WHAT IT READS IS OF BULK AT MOST 1048576: true; the input reads as it did. -/
def fnBalancedUptoRow : OpenClaim := { program := "ytbhdjcggcgddfaa", sum := "af05faee77dc9f061ca0ad159891cdaf9aeb8c24874966f607f4c56cefc3173b", func := "loop.example/g00098/laws.FnBalanced", spec := "fnBalanced", unfollowed := true, recurses := true, apart := false, narrowed := true }
def FnBalancedUptoSaid : Prop := fnBalancedUptoRow.holds Try.pinned (OpenSpec.upto fnBalancedSpec)

/-- 'laws.FnPermit', WHERE WHAT IT READS IS OF BULK AT MOST 1048576: true; the input reads as it did. -/
def fnPermitUptoRow : OpenClaim := { program := "ytbhdjcggcgddfaa", sum := "af05faee77dc9f061ca0ad159891cdaf9aeb8c24874966f607f4c56cefc3173b", func := "loop.example/g00098/laws.FnPermit", spec := "fnPermit", apart := false, narrowed := true }
def FnPermitUptoSaid : Prop := fnPermitUptoRow.holds Try.pinned (OpenSpec.upto fnPermitSpec)

/-- 'laws.FnPassOn', WHERE WHAT IT READS IS OF BULK AT MOST 1048576: true; the input reads as it did. -/
def fnPassOnUptoRow : OpenClaim := { program := "ytbhdjcggcgddfaa", sum := "af05faee77dc9f061ca0ad159891cdaf9aeb8c24874966f607f4c56cefc3173b", func := "loop.example/g00098/laws.FnPassOn", spec := "fnPassOn", unfollowed := true, recurses := true, apart := false, narrowed := true }
def FnPassOnUptoSaid : Prop := fnPassOnUptoRow.holds Try.pinned (OpenSpec.upto fnPassOnSpec)

/-- 'laws.FnAuto', WHERE WHAT IT READS IS OF BULK AT MOST 1048576: true; the input reads as it did. -/
def fnAutoUptoRow : OpenClaim := { program := "ytbhdjcggcgddfaa", sum := "af05faee77dc9f061ca0ad159891cdaf9aeb8c24874966f607f4c56cefc3173b", func := "loop.example/g00098/laws.FnAuto", spec := "fnAuto", unfollowed := true, recurses := true, apart := false, narrowed := true }
def FnAutoUptoSaid : Prop := fnAutoUptoRow.holds Try.pinned (OpenSpec.upto fnAutoSpec)

/-- 'laws.FnSees', WHERE WHAT IT READS IS OF BULK AT MOST 1048576: true; the input reads as it did. -/
def fnSeesUptoRow : OpenClaim := { program := "ytbhdjcggcgddfaa", sum := "af05faee77dc9f061ca0ad159891cdaf9aeb8c24874966f607f4c56cefc3173b", func := "loop.example/g00098/laws.FnSees", spec := "fnSees", unfollowed := true, recurses := true, apart := false, narrowed := true }
def FnSeesUptoSaid : Prop := fnSeesUptoRow.holds Try.pinned (OpenSpec.upto fnSeesSpec)

/-- 'laws.FnExactRaise', WHERE WHAT IT READS IS OF BULK AT MOST 1048576: true; the input reads as it did. -/
def fnExactRaiseUptoRow : OpenClaim := { program := "ytbhdjcggcgddfaa", sum := "af05faee77dc9f061ca0ad159891cdaf9aeb8c24874966f607f4c56cefc3173b", func := "loop.example/g00098/laws.FnExactRaise", spec := "fnExactRaise", unfollowed := true, recurses := true, apart := false, narrowed := true }
def FnExactRaiseUptoSaid : Prop := fnExactRaiseUptoRow.holds Try.pinned (OpenSpec.upto fnExactRaiseSpec)

/-- 'laws.FnExactGoOn', WHERE WHAT IT READS IS OF BULK AT MOST 1048576: true; the input reads as it did. -/
def fnExactGoOnUptoRow : OpenClaim := { program := "ytbhdjcggcgddfaa", sum := "af05faee77dc9f061ca0ad159891cdaf9aeb8c24874966f607f4c56cefc3173b", func := "loop.example/g00098/laws.FnExactGoOn", spec := "fnExactGoOn", unfollowed := true, recurses := true, apart := false, narrowed := true }
def FnExactGoOnUptoSaid : Prop := fnExactGoOnUptoRow.holds Try.pinned (OpenSpec.upto fnExactGoOnSpec)

/-- 'laws.FnExactStepBack', WHERE WHAT IT READS IS OF BULK AT MOST 1048576: true; the input reads as it did. -/
def fnExactStepBackUptoRow : OpenClaim := { program := "ytbhdjcggcgddfaa", sum := "af05faee77dc9f061ca0ad159891cdaf9aeb8c24874966f607f4c56cefc3173b", func := "loop.example/g00098/laws.FnExactStepBack", spec := "fnExactStepBack", unfollowed := true, recurses := true, apart := false, narrowed := true }
def FnExactStepBackUptoSaid : Prop := fnExactStepBackUptoRow.holds Try.pinned (OpenSpec.upto fnExactStepBackSpec)

/-- 'laws.FnLatch', WHERE WHAT IT READS IS OF BULK AT MOST 1048576: true; the input reads as it did. -/
def fnLatchUptoRow : OpenClaim := { program := "ytbhdjcggcgddfaa", sum := "af05faee77dc9f061ca0ad159891cdaf9aeb8c24874966f607f4c56cefc3173b", func := "loop.example/g00098/laws.FnLatch", spec := "fnLatch", apart := false, narrowed := true }
def FnLatchUptoSaid : Prop := fnLatchUptoRow.holds Try.pinned (OpenSpec.upto fnLatchSpec)

/-- 'laws.FnExactCountDown', WHERE WHAT IT READS IS OF BULK AT MOST 1048576: true; the input reads as it did. -/
def fnExactCountDownUptoRow : OpenClaim := { program := "ytbhdjcggcgddfaa", sum := "af05faee77dc9f061ca0ad159891cdaf9aeb8c24874966f607f4c56cefc3173b", func := "loop.example/g00098/laws.FnExactCountDown", spec := "fnExactCountDown", apart := false, narrowed := true }
def FnExactCountDownUptoSaid : Prop := fnExactCountDownUptoRow.holds Try.pinned (OpenSpec.upto fnExactCountDownSpec)

/-- 'laws.FnExactPassLatch', WHERE WHAT IT READS IS OF BULK AT MOST 1048576: true; the input reads as it did. -/
def fnExactPassLatchUptoRow : OpenClaim := { program := "ytbhdjcggcgddfaa", sum := "af05faee77dc9f061ca0ad159891cdaf9aeb8c24874966f607f4c56cefc3173b", func := "loop.example/g00098/laws.FnExactPassLatch", spec := "fnExactPassLatch", apart := false, narrowed := true }
def FnExactPassLatchUptoSaid : Prop := fnExactPassLatchUptoRow.holds Try.pinned (OpenSpec.upto fnExactPassLatchSpec)

/-- 'laws.FnExactQuitLatch', WHERE WHAT IT READS IS OF BULK AT MOST 1048576: true; the input reads as it did. -/
def fnExactQuitLatchUptoRow : OpenClaim := { program := "ytbhdjcggcgddfaa", sum := "af05faee77dc9f061ca0ad159891cdaf9aeb8c24874966f607f4c56cefc3173b", func := "loop.example/g00098/laws.FnExactQuitLatch", spec := "fnExactQuitLatch", apart := false, narrowed := true }
def FnExactQuitLatchUptoSaid : Prop := fnExactQuitLatchUptoRow.holds Try.pinned (OpenSpec.upto fnExactQuitLatchSpec)

/-- 'laws.FnExactUpdate', WHERE WHAT IT READS IS OF BULK AT MOST 1048576: true; the input reads as it did. -/
def fnExactUpdateUptoRow : OpenClaim := { program := "ytbhdjcggcgddfaa", sum := "af05faee77dc9f061ca0ad159891cdaf9aeb8c24874966f607f4c56cefc3173b", func := "loop.example/g00098/laws.FnExactUpdate", spec := "fnExactUpdate", unfollowed := true, recurses := true, apart := false, narrowed := true }
def FnExactUpdateUptoSaid : Prop := fnExactUpdateUptoRow.holds Try.pinned (OpenSpec.upto fnExactUpdateSpec)

/-- 'laws.FnExactSeen', WHERE WHAT IT READS IS OF BULK AT MOST 1048576: true; the input reads as it did. -/
def fnExactSeenUptoRow : OpenClaim := { program := "ytbhdjcggcgddfaa", sum := "af05faee77dc9f061ca0ad159891cdaf9aeb8c24874966f607f4c56cefc3173b", func := "loop.example/g00098/laws.FnExactSeen", spec := "fnExactSeen", unfollowed := true, recurses := true, apart := false, narrowed := true }
def FnExactSeenUptoSaid : Prop := fnExactSeenUptoRow.holds Try.pinned (OpenSpec.upto fnExactSeenSpec)

/-- 'laws.FnExactUnwatch', WHERE WHAT IT READS IS OF BULK AT MOST 1048576: true; the input reads as it did. -/
def fnExactUnwatchUptoRow : OpenClaim := { program := "ytbhdjcggcgddfaa", sum := "af05faee77dc9f061ca0ad159891cdaf9aeb8c24874966f607f4c56cefc3173b", func := "loop.example/g00098/laws.FnExactUnwatch", spec := "fnExactUnwatch", unfollowed := true, recurses := true, apart := false, narrowed := true }
def FnExactUnwatchUptoSaid : Prop := fnExactUnwatchUptoRow.holds Try.pinned (OpenSpec.upto fnExactUnwatchSpec)

end Rows
end Go.Proofs.Ytbhdjcggcgddfaa
