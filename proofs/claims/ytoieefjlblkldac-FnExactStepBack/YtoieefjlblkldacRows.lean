/-
  No cell of these rows narrows 'for every input' (looked for: loops, veiled, ifaces, maps, wideKeys, modest, calm, conditions, laid).
  DERIVED. THE GIVEN ROWS OF THIS SEAT. 6 by the template 'for every input the law returns true; each argument reads behind the call as it read before'; 0 by the template 'total and deterministic' (their statements: YtoieefjlblkldacTotals.lean).
  GIVEN WITH THE SEED: the statements are not yours to turn. If you find one false, say at which input.
  Laid BY PROGRAM, IN A SANDBOX (cutbox-rows.mjs): the forced cells as the released guide's own fill.sh prints them over the translation 19420c40eb22b3c0… (all of the seat's roots in one cut). By AI agents, Wed Nov 11 2026. No macro, syntax, notation, axiom, sorry.
-/
import Derived.Test.YtoieefjlblkldacChecked
import GoSem.Claim
import GoSem.ClaimJoined
import GoSem.ClaimMapViews
import Derived.JoinedTies
import Derived.KernelRfl
namespace Go.Proofs.Ytoieefjlblkldac
/- THE CELL 'sum', in the pinned program and in every row, IS THE sha256 OF THE DUMP (.gsa) THAT YtoieefjlblkldacProg.lean LOADS. Nothing in Lean hashes anything: it is a label: what it is worth is what the hold of that sum in a sandbox is worth. -/
noncomputable def Try.pinned : Pinned := { name := "ytoieefjlblkldac", sum := "19420c40eb22b3c0735fb31e2b63f3aceda0ee58906e526edc84198a7e7a3734", checked := Try.checked }
namespace Rows
def none {H : Type} : Left H := { results := [], args := [] }

/-- 'laws.FnExactReset': WHATEVER THE INPUT: true; the input reads as it did. -/
def fnExactResetSpec : ChangeSpec := { name := "fnExactReset", fn := fun _ => fun
  | [d] => { results := [.lit (.bool true)], args := [d] }
  | _ => none }
def fnExactResetRow : OpenClaim := { program := "ytoieefjlblkldac", sum := "19420c40eb22b3c0735fb31e2b63f3aceda0ee58906e526edc84198a7e7a3734", func := "loop.example/g00098/laws.FnExactReset", spec := "fnExactReset", unfollowed := true, recurses := true, apart := false }
def FnExactResetSaid : Prop := fnExactResetRow.holds Try.pinned (OpenSpec.ofChange fnExactResetSpec)

/-- ITS FALSE NEIGHBOUR: 'it returns false'. Refute it at one input. -/
def fnExactResetWrong : ChangeSpec := { name := "fnExactReset", fn := fun _ => fun
  | [d] => { results := [.lit (.bool false)], args := [d] }
  | _ => none }
def FnExactResetWrongFalsely : Prop := fnExactResetRow.holds Try.pinned (OpenSpec.ofChange fnExactResetWrong)

/-- 'laws.FnExactStand': WHATEVER THE INPUT: true; the input reads as it did. -/
def fnExactStandSpec : ChangeSpec := { name := "fnExactStand", fn := fun _ => fun
  | [d1, d2] => { results := [.lit (.bool true)], args := [d1, d2] }
  | _ => none }
def fnExactStandRow : OpenClaim := { program := "ytoieefjlblkldac", sum := "19420c40eb22b3c0735fb31e2b63f3aceda0ee58906e526edc84198a7e7a3734", func := "loop.example/g00098/laws.FnExactStand", spec := "fnExactStand", unfollowed := true, recurses := true, apart := false }
def FnExactStandSaid : Prop := fnExactStandRow.holds Try.pinned (OpenSpec.ofChange fnExactStandSpec)

/-- ITS FALSE NEIGHBOUR: 'it returns false'. Refute it at one input. -/
def fnExactStandWrong : ChangeSpec := { name := "fnExactStand", fn := fun _ => fun
  | [d1, d2] => { results := [.lit (.bool false)], args := [d1, d2] }
  | _ => none }
def FnExactStandWrongFalsely : Prop := fnExactStandRow.holds Try.pinned (OpenSpec.ofChange fnExactStandWrong)

/-- 'laws.FnExactGoOn': WHATEVER THE INPUT: true; the input reads as it did. -/
def fnExactGoOnSpec : ChangeSpec := { name := "fnExactGoOn", fn := fun _ => fun
  | [d1, d2] => { results := [.lit (.bool true)], args := [d1, d2] }
  | _ => none }
def fnExactGoOnRow : OpenClaim := { program := "ytoieefjlblkldac", sum := "19420c40eb22b3c0735fb31e2b63f3aceda0ee58906e526edc84198a7e7a3734", func := "loop.example/g00098/laws.FnExactGoOn", spec := "fnExactGoOn", unfollowed := true, recurses := true, apart := false }
def FnExactGoOnSaid : Prop := fnExactGoOnRow.holds Try.pinned (OpenSpec.ofChange fnExactGoOnSpec)

/-- ITS FALSE NEIGHBOUR: 'it returns false'. Refute it at one input. -/
def fnExactGoOnWrong : ChangeSpec := { name := "fnExactGoOn", fn := fun _ => fun
  | [d1, d2] => { results := [.lit (.bool false)], args := [d1, d2] }
  | _ => none }
def FnExactGoOnWrongFalsely : Prop := fnExactGoOnRow.holds Try.pinned (OpenSpec.ofChange fnExactGoOnWrong)

/-- 'laws.FnExactStepBack': WHATEVER THE INPUT: true; the input reads as it did. -/
def fnExactStepBackSpec : ChangeSpec := { name := "fnExactStepBack", fn := fun _ => fun
  | [d1, d2] => { results := [.lit (.bool true)], args := [d1, d2] }
  | _ => none }
def fnExactStepBackRow : OpenClaim := { program := "ytoieefjlblkldac", sum := "19420c40eb22b3c0735fb31e2b63f3aceda0ee58906e526edc84198a7e7a3734", func := "loop.example/g00098/laws.FnExactStepBack", spec := "fnExactStepBack", unfollowed := true, recurses := true, apart := false }
def FnExactStepBackSaid : Prop := fnExactStepBackRow.holds Try.pinned (OpenSpec.ofChange fnExactStepBackSpec)

/-- ITS FALSE NEIGHBOUR: 'it returns false'. Refute it at one input. -/
def fnExactStepBackWrong : ChangeSpec := { name := "fnExactStepBack", fn := fun _ => fun
  | [d1, d2] => { results := [.lit (.bool false)], args := [d1, d2] }
  | _ => none }
def FnExactStepBackWrongFalsely : Prop := fnExactStepBackRow.holds Try.pinned (OpenSpec.ofChange fnExactStepBackWrong)

/-- 'laws.FnExactLatchOk': WHATEVER THE INPUT: true; the input reads as it did. -/
def fnExactLatchOkSpec : ChangeSpec := { name := "fnExactLatchOk", fn := fun _ => fun
  | [d] => { results := [.lit (.bool true)], args := [d] }
  | _ => none }
def fnExactLatchOkRow : OpenClaim := { program := "ytoieefjlblkldac", sum := "19420c40eb22b3c0735fb31e2b63f3aceda0ee58906e526edc84198a7e7a3734", func := "loop.example/g00098/laws.FnExactLatchOk", spec := "fnExactLatchOk", apart := false }
def FnExactLatchOkSaid : Prop := fnExactLatchOkRow.holds Try.pinned (OpenSpec.ofChange fnExactLatchOkSpec)

/-- ITS FALSE NEIGHBOUR: 'it returns false'. Refute it at one input. -/
def fnExactLatchOkWrong : ChangeSpec := { name := "fnExactLatchOk", fn := fun _ => fun
  | [d] => { results := [.lit (.bool false)], args := [d] }
  | _ => none }
def FnExactLatchOkWrongFalsely : Prop := fnExactLatchOkRow.holds Try.pinned (OpenSpec.ofChange fnExactLatchOkWrong)

/-- 'laws.FnExactCountDown': WHATEVER THE INPUT: true; the input reads as it did. -/
def fnExactCountDownSpec : ChangeSpec := { name := "fnExactCountDown", fn := fun _ => fun
  | [d1, d2] => { results := [.lit (.bool true)], args := [d1, d2] }
  | _ => none }
def fnExactCountDownRow : OpenClaim := { program := "ytoieefjlblkldac", sum := "19420c40eb22b3c0735fb31e2b63f3aceda0ee58906e526edc84198a7e7a3734", func := "loop.example/g00098/laws.FnExactCountDown", spec := "fnExactCountDown", apart := false }
def FnExactCountDownSaid : Prop := fnExactCountDownRow.holds Try.pinned (OpenSpec.ofChange fnExactCountDownSpec)

/-- ITS FALSE NEIGHBOUR: 'it returns false'. Refute it at one input. -/
def fnExactCountDownWrong : ChangeSpec := { name := "fnExactCountDown", fn := fun _ => fun
  | [d1, d2] => { results := [.lit (.bool false)], args := [d1, d2] }
  | _ => none }
def FnExactCountDownWrongFalsely : Prop := fnExactCountDownRow.holds Try.pinned (OpenSpec.ofChange fnExactCountDownWrong)

/- THE SECOND FORM. 'bulk': how many values and letters a reading holds, each counted each time it is reached (what is shared counts as often as it is met; a slice's spare places count too). A statement '..UptoSaid' is the law's where the arguments, and the package variables that the reading takes, are together of bulk at most 1048576: NARROWER than '..Said'. Prove '..Said' where nothing that the law and all that it calls make is longer than what came in: it says more and counts as full. Else prove '..UptoSaid'. A law counts once. -/
mutual
def uptoBulk {H : Type} : DataW H → Nat
  | .lit (.string bytes) => bytes.length + 1
  | .lit _ => 1
  | .nil => 1
  | .ptr d => uptoBulk d + 1
  | .slice elems spare => uptoBulkAll elems + uptoBulkAll spare + 1
  | .agg parts => uptoBulkAll parts + 1
  | .iface _ d => uptoBulk d + 1
  | .map entries => uptoBulkEntries entries + 1
  | .held _ => 1
def uptoBulkAll {H : Type} : List (DataW H) → Nat
  | [] => 0
  | d :: r => uptoBulk d + uptoBulkAll r
def uptoBulkEntries {H : Type} : List (Lit × DataW H) → Nat
  | [] => 0
  | x :: r => uptoBulkEntry x + uptoBulkEntries r
def uptoBulkEntry {H : Type} : Lit × DataW H → Nat
  | (.string bytes, d) => bytes.length + uptoBulk d + 1
  | (_, d) => uptoBulk d + 1
 end
def uptoSmall : (H : Type) → List (DataW H) → Bool := fun _ ds => decide (uptoBulkAll ds ≤ 1048576)
def OpenSpec.upto (s : _root_.Go.ChangeSpec) : _root_.Go.OpenSpec := { _root_.Go.OpenSpec.ofChange s with cond := some uptoSmall }

/-- 'laws.FnExactReset', WHERE WHAT IT READS IS OF BULK AT MOST 1048576: true; the input reads as it did. -/
def fnExactResetUptoRow : OpenClaim := { program := "ytoieefjlblkldac", sum := "19420c40eb22b3c0735fb31e2b63f3aceda0ee58906e526edc84198a7e7a3734", func := "loop.example/g00098/laws.FnExactReset", spec := "fnExactReset", unfollowed := true, recurses := true, apart := false, narrowed := true }
def FnExactResetUptoSaid : Prop := fnExactResetUptoRow.holds Try.pinned (OpenSpec.upto fnExactResetSpec)

/-- 'laws.FnExactStand', WHERE WHAT IT READS IS OF BULK AT MOST 1048576: true; the input reads as it did. -/
def fnExactStandUptoRow : OpenClaim := { program := "ytoieefjlblkldac", sum := "19420c40eb22b3c0735fb31e2b63f3aceda0ee58906e526edc84198a7e7a3734", func := "loop.example/g00098/laws.FnExactStand", spec := "fnExactStand", unfollowed := true, recurses := true, apart := false, narrowed := true }
def FnExactStandUptoSaid : Prop := fnExactStandUptoRow.holds Try.pinned (OpenSpec.upto fnExactStandSpec)

/-- 'laws.FnExactGoOn', WHERE WHAT IT READS IS OF BULK AT MOST 1048576: true; the input reads as it did. -/
def fnExactGoOnUptoRow : OpenClaim := { program := "ytoieefjlblkldac", sum := "19420c40eb22b3c0735fb31e2b63f3aceda0ee58906e526edc84198a7e7a3734", func := "loop.example/g00098/laws.FnExactGoOn", spec := "fnExactGoOn", unfollowed := true, recurses := true, apart := false, narrowed := true }
def FnExactGoOnUptoSaid : Prop := fnExactGoOnUptoRow.holds Try.pinned (OpenSpec.upto fnExactGoOnSpec)

/-- 'laws.FnExactStepBack', WHERE WHAT IT READS IS OF BULK AT MOST 1048576: true; the input reads as it did. -/
def fnExactStepBackUptoRow : OpenClaim := { program := "ytoieefjlblkldac", sum := "19420c40eb22b3c0735fb31e2b63f3aceda0ee58906e526edc84198a7e7a3734", func := "loop.example/g00098/laws.FnExactStepBack", spec := "fnExactStepBack", unfollowed := true, recurses := true, apart := false, narrowed := true }
def FnExactStepBackUptoSaid : Prop := fnExactStepBackUptoRow.holds Try.pinned (OpenSpec.upto fnExactStepBackSpec)

/-- 'laws.FnExactLatchOk', WHERE WHAT IT READS IS OF BULK AT MOST 1048576: true; the input reads as it did. -/
def fnExactLatchOkUptoRow : OpenClaim := { program := "ytoieefjlblkldac", sum := "19420c40eb22b3c0735fb31e2b63f3aceda0ee58906e526edc84198a7e7a3734", func := "loop.example/g00098/laws.FnExactLatchOk", spec := "fnExactLatchOk", apart := false, narrowed := true }
def FnExactLatchOkUptoSaid : Prop := fnExactLatchOkUptoRow.holds Try.pinned (OpenSpec.upto fnExactLatchOkSpec)

/-- 'laws.FnExactCountDown', WHERE WHAT IT READS IS OF BULK AT MOST 1048576: true; the input reads as it did. -/
def fnExactCountDownUptoRow : OpenClaim := { program := "ytoieefjlblkldac", sum := "19420c40eb22b3c0735fb31e2b63f3aceda0ee58906e526edc84198a7e7a3734", func := "loop.example/g00098/laws.FnExactCountDown", spec := "fnExactCountDown", apart := false, narrowed := true }
def FnExactCountDownUptoSaid : Prop := fnExactCountDownUptoRow.holds Try.pinned (OpenSpec.upto fnExactCountDownSpec)

end Rows
end Go.Proofs.Ytoieefjlblkldac
