/-
  No cell of these rows narrows 'for every input' (looked for: loops, veiled, ifaces, maps, wideKeys, modest, calm, conditions, laid).
  DERIVED. THE GIVEN ROWS OF THIS SEAT. 6 by the template 'for every input the law returns true; each argument reads behind the call as it read before'; 0 by the template 'total and deterministic' (their statements: YtoieefjlblkldabTotals.lean).
  GIVEN WITH THE SEED: the statements are not yours to turn. If you find one false, say at which input.
  Laid BY PROGRAM, IN A SANDBOX (cutbox-rows.mjs): the forced cells as the released guide's own fill.sh prints them over the translation 4cbce1e982b6ef12… (all of the seat's roots in one cut). By AI agents, Wed Nov 11 2026. No macro, syntax, notation, axiom, sorry.
-/
import Derived.Test.YtoieefjlblkldabChecked
import GoSem.Claim
import GoSem.ClaimJoined
import GoSem.ClaimMapViews
import Derived.JoinedTies
import Derived.KernelRfl
namespace Go.Proofs.Ytoieefjlblkldab
/- THE CELL 'sum', in the pinned program and in every row, IS THE sha256 OF THE DUMP (.gsa) THAT YtoieefjlblkldabProg.lean LOADS. Nothing in Lean hashes anything: it is a label: what it is worth is what the hold of that sum in a sandbox is worth. -/
noncomputable def Try.pinned : Pinned := { name := "ytoieefjlblkldab", sum := "4cbce1e982b6ef128a0861a41eed51400ea2908ba933eedf5b31a172daccec3f", checked := Try.checked }
namespace Rows
def none {H : Type} : Left H := { results := [], args := [] }

/-- 'laws.FnExactResume': WHATEVER THE INPUT: true; the input reads as it did. -/
def fnExactResumeSpec : ChangeSpec := { name := "fnExactResume", fn := fun _ => fun
  | [d1, d2] => { results := [.lit (.bool true)], args := [d1, d2] }
  | _ => none }
def fnExactResumeRow : OpenClaim := { program := "ytoieefjlblkldab", sum := "4cbce1e982b6ef128a0861a41eed51400ea2908ba933eedf5b31a172daccec3f", func := "loop.example/g00098/laws.FnExactResume", spec := "fnExactResume", apart := false }
def FnExactResumeSaid : Prop := fnExactResumeRow.holds Try.pinned (OpenSpec.ofChange fnExactResumeSpec)

/-- ITS FALSE NEIGHBOUR: 'it returns false'. Refute it at one input. -/
def fnExactResumeWrong : ChangeSpec := { name := "fnExactResume", fn := fun _ => fun
  | [d1, d2] => { results := [.lit (.bool false)], args := [d1, d2] }
  | _ => none }
def FnExactResumeWrongFalsely : Prop := fnExactResumeRow.holds Try.pinned (OpenSpec.ofChange fnExactResumeWrong)

/-- 'laws.FnExactWithdraw': WHATEVER THE INPUT: true; the input reads as it did. -/
def fnExactWithdrawSpec : ChangeSpec := { name := "fnExactWithdraw", fn := fun _ => fun
  | [d1, d2] => { results := [.lit (.bool true)], args := [d1, d2] }
  | _ => none }
def fnExactWithdrawRow : OpenClaim := { program := "ytoieefjlblkldab", sum := "4cbce1e982b6ef128a0861a41eed51400ea2908ba933eedf5b31a172daccec3f", func := "loop.example/g00098/laws.FnExactWithdraw", spec := "fnExactWithdraw", unfollowed := true, recurses := true, apart := false }
def FnExactWithdrawSaid : Prop := fnExactWithdrawRow.holds Try.pinned (OpenSpec.ofChange fnExactWithdrawSpec)

/-- ITS FALSE NEIGHBOUR: 'it returns false'. Refute it at one input. -/
def fnExactWithdrawWrong : ChangeSpec := { name := "fnExactWithdraw", fn := fun _ => fun
  | [d1, d2] => { results := [.lit (.bool false)], args := [d1, d2] }
  | _ => none }
def FnExactWithdrawWrongFalsely : Prop := fnExactWithdrawRow.holds Try.pinned (OpenSpec.ofChange fnExactWithdrawWrong)

/-- 'laws.FnAuto': WHATEVER THE INPUT: true; the input reads as it did. -/
def fnAutoSpec : ChangeSpec := { name := "fnAuto", fn := fun _ => fun
  | [d] => { results := [.lit (.bool true)], args := [d] }
  | _ => none }
def fnAutoRow : OpenClaim := { program := "ytoieefjlblkldab", sum := "4cbce1e982b6ef128a0861a41eed51400ea2908ba933eedf5b31a172daccec3f", func := "loop.example/g00098/laws.FnAuto", spec := "fnAuto", unfollowed := true, recurses := true, apart := false }
def FnAutoSaid : Prop := fnAutoRow.holds Try.pinned (OpenSpec.ofChange fnAutoSpec)

/-- ITS FALSE NEIGHBOUR: 'it returns false'. Refute it at one input. -/
def fnAutoWrong : ChangeSpec := { name := "fnAuto", fn := fun _ => fun
  | [d] => { results := [.lit (.bool false)], args := [d] }
  | _ => none }
def FnAutoWrongFalsely : Prop := fnAutoRow.holds Try.pinned (OpenSpec.ofChange fnAutoWrong)

/-- 'laws.FnLatch': WHATEVER THE INPUT: true; the input reads as it did. -/
def fnLatchSpec : ChangeSpec := { name := "fnLatch", fn := fun _ => fun
  | [d] => { results := [.lit (.bool true)], args := [d] }
  | _ => none }
def fnLatchRow : OpenClaim := { program := "ytoieefjlblkldab", sum := "4cbce1e982b6ef128a0861a41eed51400ea2908ba933eedf5b31a172daccec3f", func := "loop.example/g00098/laws.FnLatch", spec := "fnLatch", apart := false }
def FnLatchSaid : Prop := fnLatchRow.holds Try.pinned (OpenSpec.ofChange fnLatchSpec)

/-- ITS FALSE NEIGHBOUR: 'it returns false'. Refute it at one input. -/
def fnLatchWrong : ChangeSpec := { name := "fnLatch", fn := fun _ => fun
  | [d] => { results := [.lit (.bool false)], args := [d] }
  | _ => none }
def FnLatchWrongFalsely : Prop := fnLatchRow.holds Try.pinned (OpenSpec.ofChange fnLatchWrong)

/-- 'laws.FnExactEventOk': WHATEVER THE INPUT: true; the input reads as it did. -/
def fnExactEventOkSpec : ChangeSpec := { name := "fnExactEventOk", fn := fun _ => fun
  | [d] => { results := [.lit (.bool true)], args := [d] }
  | _ => none }
def fnExactEventOkRow : OpenClaim := { program := "ytoieefjlblkldab", sum := "4cbce1e982b6ef128a0861a41eed51400ea2908ba933eedf5b31a172daccec3f", func := "loop.example/g00098/laws.FnExactEventOk", spec := "fnExactEventOk", unfollowed := true, recurses := true, apart := false }
def FnExactEventOkSaid : Prop := fnExactEventOkRow.holds Try.pinned (OpenSpec.ofChange fnExactEventOkSpec)

/-- ITS FALSE NEIGHBOUR: 'it returns false'. Refute it at one input. -/
def fnExactEventOkWrong : ChangeSpec := { name := "fnExactEventOk", fn := fun _ => fun
  | [d] => { results := [.lit (.bool false)], args := [d] }
  | _ => none }
def FnExactEventOkWrongFalsely : Prop := fnExactEventOkRow.holds Try.pinned (OpenSpec.ofChange fnExactEventOkWrong)

/-- 'laws.FnExactRaise': WHATEVER THE INPUT: true; the input reads as it did. -/
def fnExactRaiseSpec : ChangeSpec := { name := "fnExactRaise", fn := fun _ => fun
  | [d] => { results := [.lit (.bool true)], args := [d] }
  | _ => none }
def fnExactRaiseRow : OpenClaim := { program := "ytoieefjlblkldab", sum := "4cbce1e982b6ef128a0861a41eed51400ea2908ba933eedf5b31a172daccec3f", func := "loop.example/g00098/laws.FnExactRaise", spec := "fnExactRaise", unfollowed := true, recurses := true, apart := false }
def FnExactRaiseSaid : Prop := fnExactRaiseRow.holds Try.pinned (OpenSpec.ofChange fnExactRaiseSpec)

/-- ITS FALSE NEIGHBOUR: 'it returns false'. Refute it at one input. -/
def fnExactRaiseWrong : ChangeSpec := { name := "fnExactRaise", fn := fun _ => fun
  | [d] => { results := [.lit (.bool false)], args := [d] }
  | _ => none }
def FnExactRaiseWrongFalsely : Prop := fnExactRaiseRow.holds Try.pinned (OpenSpec.ofChange fnExactRaiseWrong)

/- THE SECOND FORM. 'bulk': how many values and letters a reading holds, each counted each time it is reached (what is shared counts as often as it is met; a slice's spare places count too). A statement '..UptoSaid' is the law's where the arguments, and the package variables that the reading takes, are together of bulk at most 1048576: NARROWER than '..Said'. Prove '..Said' where nothing that the law and all that it calls make is longer than what came in: it says more and counts as full. Else prove '..UptoSaid'. A law counts once. -/
mutual
def uptoBulk {H : Type} : DataW H → Nat
  | .lit (.string bytes) => bytes.length + 1
  | .lit _ => 1
  | .nil => 1
  | .ptr d => uptoBulk d + 1
  | .slice elems spare => uptoBulkAll elems + uptoBulkAll spare + 1
  | .agg parts => uptoBulkAll parts + 1
  | .iface _ d => uptoBulk d + 1
  | .map entries => uptoBulkEntries entries + 1
  | .held _ => 1
def uptoBulkAll {H : Type} : List (DataW H) → Nat
  | [] => 0
  | d :: r => uptoBulk d + uptoBulkAll r
def uptoBulkEntries {H : Type} : List (Lit × DataW H) → Nat
  | [] => 0
  | x :: r => uptoBulkEntry x + uptoBulkEntries r
def uptoBulkEntry {H : Type} : Lit × DataW H → Nat
  | (.string bytes, d) => bytes.length + uptoBulk d + 1
  | (_, d) => uptoBulk d + 1
 end
def uptoSmall : (H : Type) → List (DataW H) → Bool := fun _ ds => decide (uptoBulkAll ds ≤ 1048576)
def OpenSpec.upto (s : _root_.Go.ChangeSpec) : _root_.Go.OpenSpec := { _root_.Go.OpenSpec.ofChange s with cond := some uptoSmall }

/-- 'laws.FnExactResume', WHERE WHAT IT READS IS OF BULK AT MOST 1048576: true; the input reads as it did. -/
def fnExactResumeUptoRow : OpenClaim := { program := "ytoieefjlblkldab", sum := "4cbce1e982b6ef128a0861a41eed51400ea2908ba933eedf5b31a172daccec3f", func := "loop.example/g00098/laws.FnExactResume", spec := "fnExactResume", apart := false, narrowed := true }
def FnExactResumeUptoSaid : Prop := fnExactResumeUptoRow.holds Try.pinned (OpenSpec.upto fnExactResumeSpec)

/-- 'laws.FnExactWithdraw', WHERE WHAT IT READS IS OF BULK AT MOST 1048576: true; the input reads as it did. -/
def fnExactWithdrawUptoRow : OpenClaim := { program := "ytoieefjlblkldab", sum := "4cbce1e982b6ef128a0861a41eed51400ea2908ba933eedf5b31a172daccec3f", func := "loop.example/g00098/laws.FnExactWithdraw", spec := "fnExactWithdraw", unfollowed := true, recurses := true, apart := false, narrowed := true }
def FnExactWithdrawUptoSaid : Prop := fnExactWithdrawUptoRow.holds Try.pinned (OpenSpec.upto fnExactWithdrawSpec)

/-- 'laws.FnAuto', WHERE WHAT IT READS IS OF BULK AT MOST 1048576: true; the input reads as it did. -/
def fnAutoUptoRow : OpenClaim := { program := "ytoieefjlblkldab", sum := "4cbce1e982b6ef128a0861a41eed51400ea2908ba933eedf5b31a172daccec3f", func := "loop.example/g00098/laws.FnAuto", spec := "fnAuto", unfollowed := true, recurses := true, apart := false, narrowed := true }
def FnAutoUptoSaid : Prop := fnAutoUptoRow.holds Try.pinned (OpenSpec.upto fnAutoSpec)

/-- 'laws.FnLatch', WHERE WHAT IT READS IS OF BULK AT MOST 1048576: true; the input reads as it did. -/
def fnLatchUptoRow : OpenClaim := { program := "ytoieefjlblkldab", sum := "4cbce1e982b6ef128a0861a41eed51400ea2908ba933eedf5b31a172daccec3f", func := "loop.example/g00098/laws.FnLatch", spec := "fnLatch", apart := false, narrowed := true }
def FnLatchUptoSaid : Prop := fnLatchUptoRow.holds Try.pinned (OpenSpec.upto fnLatchSpec)

/-- 'laws.FnExactEventOk', WHERE WHAT IT READS IS OF BULK AT MOST 1048576: true; the input reads as it did. -/
def fnExactEventOkUptoRow : OpenClaim := { program := "ytoieefjlblkldab", sum := "4cbce1e982b6ef128a0861a41eed51400ea2908ba933eedf5b31a172daccec3f", func := "loop.example/g00098/laws.FnExactEventOk", spec := "fnExactEventOk", unfollowed := true, recurses := true, apart := false, narrowed := true }
def FnExactEventOkUptoSaid : Prop := fnExactEventOkUptoRow.holds Try.pinned (OpenSpec.upto fnExactEventOkSpec)

/-- 'laws.FnExactRaise', WHERE WHAT IT READS IS OF BULK AT MOST 1048576: true; the input reads as it did. -/
def fnExactRaiseUptoRow : OpenClaim := { program := "ytoieefjlblkldab", sum := "4cbce1e982b6ef128a0861a41eed51400ea2908ba933eedf5b31a172daccec3f", func := "loop.example/g00098/laws.FnExactRaise", spec := "fnExactRaise", unfollowed := true, recurses := true, apart := false, narrowed := true }
def FnExactRaiseUptoSaid : Prop := fnExactRaiseUptoRow.holds Try.pinned (OpenSpec.upto fnExactRaiseSpec)

end Rows
end Go.Proofs.Ytoieefjlblkldab
