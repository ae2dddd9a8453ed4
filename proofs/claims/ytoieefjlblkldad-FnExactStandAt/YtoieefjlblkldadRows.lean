/-
  No cell of these rows narrows 'for every input' (looked for: loops, veiled, ifaces, maps, wideKeys, modest, calm, conditions, laid).
  DERIVED. THE GIVEN ROWS OF THIS SEAT. 3 by the template 'for every input the law returns true; each argument reads behind the call as it read before'; 0 by the template 'total and deterministic' (their statements: YtoieefjlblkldadTotals.lean).
  GIVEN WITH THE SEED: the statements are not yours to turn. If you find one false, say at which input.
  Laid BY PROGRAM, IN A SANDBOX (cutbox-rows.mjs): the forced cells as the released guide's own fill.sh prints them over the translation ca2fc84b1a7ce3c6… (all of the seat's roots in one cut). By AI agents, Wed Nov 11 2026. No macro, syntax, notation, axiom, sorry.
-/
import Derived.Test.YtoieefjlblkldadChecked
import GoSem.Claim
import GoSem.ClaimJoined
import GoSem.ClaimMapViews
import Derived.JoinedTies
import Derived.KernelRfl
namespace Go.Proofs.Ytoieefjlblkldad
/- THE CELL 'sum', in the pinned program and in every row, IS THE sha256 OF THE DUMP (.gsa) THAT YtoieefjlblkldadProg.lean LOADS. Nothing in Lean hashes anything: it is a label: what it is worth is what the hold of that sum in a sandbox is worth. -/
noncomputable def Try.pinned : Pinned := { name := "ytoieefjlblkldad", sum := "ca2fc84b1a7ce3c6a7669d45cac58b12d039aa3aa5dbe06a692f50a751a68451", checked := Try.checked }
namespace Rows
def none {H : Type} : Left H := { results := [], args := [] }

/-- 'laws.FnExactStandAt': WHATEVER THE INPUT: true; the input reads as it did. -/
def fnExactStandAtSpec : ChangeSpec := { name := "fnExactStandAt", fn := fun _ => fun
  | [d1, d2] => { results := [.lit (.bool true)], args := [d1, d2] }
  | _ => none }
def fnExactStandAtRow : OpenClaim := { program := "ytoieefjlblkldad", sum := "ca2fc84b1a7ce3c6a7669d45cac58b12d039aa3aa5dbe06a692f50a751a68451", func := "loop.example/g00098/laws.FnExactStandAt", spec := "fnExactStandAt", apart := false }
def FnExactStandAtSaid : Prop := fnExactStandAtRow.holds Try.pinned (OpenSpec.ofChange fnExactStandAtSpec)

/-- ITS FALSE NEIGHBOUR: 'it returns false'. Refute it at one input. -/
def fnExactStandAtWrong : ChangeSpec := { name := "fnExactStandAt", fn := fun _ => fun
  | [d1, d2] => { results := [.lit (.bool false)], args := [d1, d2] }
  | _ => none }
def FnExactStandAtWrongFalsely : Prop := fnExactStandAtRow.holds Try.pinned (OpenSpec.ofChange fnExactStandAtWrong)

/-- 'laws.FnExactPassLatch': WHATEVER THE INPUT: true; the input reads as it did. -/
def fnExactPassLatchSpec : ChangeSpec := { name := "fnExactPassLatch", fn := fun _ => fun
  | [d1, d2] => { results := [.lit (.bool true)], args := [d1, d2] }
  | _ => none }
def fnExactPassLatchRow : OpenClaim := { program := "ytoieefjlblkldad", sum := "ca2fc84b1a7ce3c6a7669d45cac58b12d039aa3aa5dbe06a692f50a751a68451", func := "loop.example/g00098/laws.FnExactPassLatch", spec := "fnExactPassLatch", apart := false }
def FnExactPassLatchSaid : Prop := fnExactPassLatchRow.holds Try.pinned (OpenSpec.ofChange fnExactPassLatchSpec)

/-- ITS FALSE NEIGHBOUR: 'it returns false'. Refute it at one input. -/
def fnExactPassLatchWrong : ChangeSpec := { name := "fnExactPassLatch", fn := fun _ => fun
  | [d1, d2] => { results := [.lit (.bool false)], args := [d1, d2] }
  | _ => none }
def FnExactPassLatchWrongFalsely : Prop := fnExactPassLatchRow.holds Try.pinned (OpenSpec.ofChange fnExactPassLatchWrong)

/-- 'laws.FnExactQuitLatch': WHATEVER THE INPUT: true; the input reads as it did. -/
def fnExactQuitLatchSpec : ChangeSpec := { name := "fnExactQuitLatch", fn := fun _ => fun
  | [d1, d2] => { results := [.lit (.bool true)], args := [d1, d2] }
  | _ => none }
def fnExactQuitLatchRow : OpenClaim := { program := "ytoieefjlblkldad", sum := "ca2fc84b1a7ce3c6a7669d45cac58b12d039aa3aa5dbe06a692f50a751a68451", func := "loop.example/g00098/laws.FnExactQuitLatch", spec := "fnExactQuitLatch", apart := false }
def FnExactQuitLatchSaid : Prop := fnExactQuitLatchRow.holds Try.pinned (OpenSpec.ofChange fnExactQuitLatchSpec)

/-- ITS FALSE NEIGHBOUR: 'it returns false'. Refute it at one input. -/
def fnExactQuitLatchWrong : ChangeSpec := { name := "fnExactQuitLatch", fn := fun _ => fun
  | [d1, d2] => { results := [.lit (.bool false)], args := [d1, d2] }
  | _ => none }
def FnExactQuitLatchWrongFalsely : Prop := fnExactQuitLatchRow.holds Try.pinned (OpenSpec.ofChange fnExactQuitLatchWrong)

/- THE SECOND FORM. 'bulk': how many values and letters a reading holds, each counted each time it is reached (what is shared counts as often as it is met; a slice's spare places count too). A statement '..UptoSaid' is the law's where the arguments, and the package variables that the reading takes, are together of bulk at most 1048576: NARROWER than '..Said'. Prove '..Said' where nothing that the law and all that it calls make is longer than what came in: it says more and counts as full. Else prove '..UptoSaid'. A law counts once. -/
mutual
def uptoBulk {H : Type} : DataW H → Nat
  | .lit (.string bytes) => bytes.length + 1
  | .lit _ => 1
  | .nil => 1
  | .ptr d => uptoBulk d + 1
  | .slice elems spare => uptoBulkAll elems + uptoBulkAll spare + 1
  | .agg parts => uptoBulkAll parts + 1
  | .iface _ d => uptoBulk d + 1
  | .map entries => uptoBulkEntries entries + 1
  | .held _ => 1
def uptoBulkAll {H : Type} : List (DataW H) → Nat
  | [] => 0
  | d :: r => uptoBulk d + uptoBulkAll r
def uptoBulkEntries {H : Type} : List (Lit × DataW H) → Nat
  | [] => 0
  | x :: r => uptoBulkEntry x + uptoBulkEntries r
def uptoBulkEntry {H : Type} : Lit × DataW H → Nat
  | (.string bytes, d) => bytes.length + uptoBulk d + 1
  | (_, d) => uptoBulk d + 1
 end
def uptoSmall : (H : Type) → List (DataW H) → Bool := fun _ ds => decide (uptoBulkAll ds ≤ 1048576)
def OpenSpec.upto (s : _root_.Go.ChangeSpec) : _root_.Go.OpenSpec := { _root_.Go.OpenSpec.ofChange s with cond := some uptoSmall }

/-- 'laws.FnExactStandAt', WHERE WHAT IT READS IS OF BULK AT MOST 1048576: true; the input reads as it did. -/
def fnExactStandAtUptoRow : OpenClaim := { program := "ytoieefjlblkldad", sum := "ca2fc84b1a7ce3c6a7669d45cac58b12d039aa3aa5dbe06a692f50a751a68451", func := "loop.example/g00098/laws.FnExactStandAt", spec := "fnExactStandAt", apart := false, narrowed := true }
def FnExactStandAtUptoSaid : Prop := fnExactStandAtUptoRow.holds Try.pinned (OpenSpec.upto fnExactStandAtSpec)

/-- 'laws.FnExactPassLatch', WHERE WHAT IT READS IS OF BULK AT MOST 1048576: true; the input reads as it did. -/
def fnExactPassLatchUptoRow : OpenClaim := { program := "ytoieefjlblkldad", sum := "ca2fc84b1a7ce3c6a7669d45cac58b12d039aa3aa5dbe06a692f50a751a68451", func := "loop.example/g00098/laws.FnExactPassLatch", spec := "fnExactPassLatch", apart := false, narrowed := true }
def FnExactPassLatchUptoSaid : Prop := fnExactPassLatchUptoRow.holds Try.pinned (OpenSpec.upto fnExactPassLatchSpec)

/-- 'laws.FnExactQuitLatch', WHERE WHAT IT READS IS OF BULK AT MOST 1048576: true; the input reads as it did. -/
def fnExactQuitLatchUptoRow : OpenClaim := { program := "ytoieefjlblkldad", sum := "ca2fc84b1a7ce3c6a7669d45cac58b12d039aa3aa5dbe06a692f50a751a68451", func := "loop.example/g00098/laws.FnExactQuitLatch", spec := "fnExactQuitLatch", apart := false, narrowed := true }
def FnExactQuitLatchUptoSaid : Prop := fnExactQuitLatchUptoRow.holds Try.pinned (OpenSpec.upto fnExactQuitLatchSpec)

end Rows
end Go.Proofs.Ytoieefjlblkldad
