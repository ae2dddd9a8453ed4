/-
  No cell of these rows narrows 'for every input' (looked for: loops, veiled, ifaces, maps, wideKeys, modest, calm, conditions, laid).
  DERIVED. THE GIVEN ROWS OF THIS SEAT. 7 by the template 'for every input the law returns true; each argument reads behind the call as it read before'; 0 by the template 'total and deterministic' (their statements: YtllpcbdecibloaaTotals.lean).
  GIVEN WITH THE SEED: the statements are not yours to turn. If you find one false, say at which input.
  Laid BY PROGRAM, IN A SANDBOX (cutbox-rows.mjs): the forced cells as the released guide's own fill.sh prints them over the translation ab37e962d27ca916… (all of the seat's roots in one cut). By AI agents, Wed Nov 11 2026. No macro, syntax, notation, axiom, sorry.
-/
import Derived.Test.YtllpcbdecibloaaChecked
import GoSem.Claim
import GoSem.ClaimJoined
import GoSem.ClaimMapViews
import Derived.JoinedTies
import Derived.KernelRfl
namespace Go.Proofs.Ytllpcbdecibloaa
/- THE CELL 'sum', in the pinned program and in every row, IS THE sha256 OF THE DUMP (.gsa) THAT YtllpcbdecibloaaProg.lean LOADS. Nothing in Lean hashes anything: it is a label: what it is worth is what the hold of that sum in a sandbox is worth. -/
noncomputable def Try.pinned : Pinned := { name := "ytllpcbdecibloaa", sum := "ab37e962d27ca91643cdc6d9bf1f550a9e7e4381c0771438ce47cdce474da54b", checked := Try.checked }
namespace Rows
def none {H : Type} : Left H := { results := [], args := [] }

/-- 'laws.FnChanges': WHATEVER THE INPUT: true; the input reads as it did. -/
def fnChangesSpec : ChangeSpec := { name := "fnChanges", fn := fun _ => fun
  | [d] => { results := [.lit (.bool true)], args := [d] }
  | _ => none }
def fnChangesRow : OpenClaim := { program := "ytllpcbdecibloaa", sum := "ab37e962d27ca91643cdc6d9bf1f550a9e7e4381c0771438ce47cdce474da54b", func := "loop.example/g00098/laws.FnChanges", spec := "fnChanges", unfollowed := true, recurses := true, apart := false }
def FnChangesSaid : Prop := fnChangesRow.holds Try.pinned (OpenSpec.ofChange fnChangesSpec)

/-- ITS FALSE NEIGHBOUR: 'it returns false'. Refute it at one input. -/
def fnChangesWrong : ChangeSpec := { name := "fnChanges", fn := fun _ => fun
  | [d] => { results := [.lit (.bool false)], args := [d] }
  | _ => none }
def FnChangesWrongFalsely : Prop := fnChangesRow.holds Try.pinned (OpenSpec.ofChange fnChangesWrong)

/-- 'laws.FnSees': WHATEVER THE INPUT: true; the input reads as it did. -/
def fnSeesSpec : ChangeSpec := { name := "fnSees", fn := fun _ => fun
  | [d] => { results := [.lit (.bool true)], args := [d] }
  | _ => none }
def fnSeesRow : OpenClaim := { program := "ytllpcbdecibloaa", sum := "ab37e962d27ca91643cdc6d9bf1f550a9e7e4381c0771438ce47cdce474da54b", func := "loop.example/g00098/laws.FnSees", spec := "fnSees", unfollowed := true, recurses := true, apart := false }
def FnSeesSaid : Prop := fnSeesRow.holds Try.pinned (OpenSpec.ofChange fnSeesSpec)

/-- ITS FALSE NEIGHBOUR: 'it returns false'. Refute it at one input. -/
def fnSeesWrong : ChangeSpec := { name := "fnSees", fn := fun _ => fun
  | [d] => { results := [.lit (.bool false)], args := [d] }
  | _ => none }
def FnSeesWrongFalsely : Prop := fnSeesRow.holds Try.pinned (OpenSpec.ofChange fnSeesWrong)

/-- 'laws.FnExactRingOk': WHATEVER THE INPUT: true; the input reads as it did. -/
def fnExactRingOkSpec : ChangeSpec := { name := "fnExactRingOk", fn := fun _ => fun
  | [d] => { results := [.lit (.bool true)], args := [d] }
  | _ => none }
def fnExactRingOkRow : OpenClaim := { program := "ytllpcbdecibloaa", sum := "ab37e962d27ca91643cdc6d9bf1f550a9e7e4381c0771438ce47cdce474da54b", func := "loop.example/g00098/laws.FnExactRingOk", spec := "fnExactRingOk", inPlace := ["internal/bytealg.IndexByteString", "internal/bytealg.IndexString"], unfollowed := true, recurses := true, named := ["internal/bytealg.MaxLen"], apart := false }
def FnExactRingOkSaid : Prop := fnExactRingOkRow.holds Try.pinned (OpenSpec.ofChange fnExactRingOkSpec)

/-- ITS FALSE NEIGHBOUR: 'it returns false'. Refute it at one input. -/
def fnExactRingOkWrong : ChangeSpec := { name := "fnExactRingOk", fn := fun _ => fun
  | [d] => { results := [.lit (.bool false)], args := [d] }
  | _ => none }
def FnExactRingOkWrongFalsely : Prop := fnExactRingOkRow.holds Try.pinned (OpenSpec.ofChange fnExactRingOkWrong)

/-- 'laws.FnExactLag': WHATEVER THE INPUT: true; the input reads as it did. -/
def fnExactLagSpec : ChangeSpec := { name := "fnExactLag", fn := fun _ => fun
  | [d1, d2] => { results := [.lit (.bool true)], args := [d1, d2] }
  | _ => none }
def fnExactLagRow : OpenClaim := { program := "ytllpcbdecibloaa", sum := "ab37e962d27ca91643cdc6d9bf1f550a9e7e4381c0771438ce47cdce474da54b", func := "loop.example/g00098/laws.FnExactLag", spec := "fnExactLag", inPlace := ["internal/bytealg.IndexByteString", "internal/bytealg.IndexString"], unfollowed := true, recurses := true, named := ["internal/bytealg.MaxLen"], apart := false }
def FnExactLagSaid : Prop := fnExactLagRow.holds Try.pinned (OpenSpec.ofChange fnExactLagSpec)

/-- ITS FALSE NEIGHBOUR: 'it returns false'. Refute it at one input. -/
def fnExactLagWrong : ChangeSpec := { name := "fnExactLag", fn := fun _ => fun
  | [d1, d2] => { results := [.lit (.bool false)], args := [d1, d2] }
  | _ => none }
def FnExactLagWrongFalsely : Prop := fnExactLagRow.holds Try.pinned (OpenSpec.ofChange fnExactLagWrong)

/-- 'laws.FnExactBalance': WHATEVER THE INPUT: true; the input reads as it did. -/
def fnExactBalanceSpec : ChangeSpec := { name := "fnExactBalance", fn := fun _ => fun
  | [d] => { results := [.lit (.bool true)], args := [d] }
  | _ => none }
def fnExactBalanceRow : OpenClaim := { program := "ytllpcbdecibloaa", sum := "ab37e962d27ca91643cdc6d9bf1f550a9e7e4381c0771438ce47cdce474da54b", func := "loop.example/g00098/laws.FnExactBalance", spec := "fnExactBalance", inPlace := ["internal/bytealg.IndexByteString", "internal/bytealg.IndexString"], unfollowed := true, recurses := true, named := ["internal/bytealg.MaxLen"], apart := false }
def FnExactBalanceSaid : Prop := fnExactBalanceRow.holds Try.pinned (OpenSpec.ofChange fnExactBalanceSpec)

/-- ITS FALSE NEIGHBOUR: 'it returns false'. Refute it at one input. -/
def fnExactBalanceWrong : ChangeSpec := { name := "fnExactBalance", fn := fun _ => fun
  | [d] => { results := [.lit (.bool false)], args := [d] }
  | _ => none }
def FnExactBalanceWrongFalsely : Prop := fnExactBalanceRow.holds Try.pinned (OpenSpec.ofChange fnExactBalanceWrong)

/-- 'laws.FnPermit': WHATEVER THE INPUT: true; the input reads as it did. -/
def fnPermitSpec : ChangeSpec := { name := "fnPermit", fn := fun _ => fun
  | [d] => { results := [.lit (.bool true)], args := [d] }
  | _ => none }
def fnPermitRow : OpenClaim := { program := "ytllpcbdecibloaa", sum := "ab37e962d27ca91643cdc6d9bf1f550a9e7e4381c0771438ce47cdce474da54b", func := "loop.example/g00098/laws.FnPermit", spec := "fnPermit", apart := false }
def FnPermitSaid : Prop := fnPermitRow.holds Try.pinned (OpenSpec.ofChange fnPermitSpec)

/-- ITS FALSE NEIGHBOUR: 'it returns false'. Refute it at one input. -/
def fnPermitWrong : ChangeSpec := { name := "fnPermit", fn := fun _ => fun
  | [d] => { results := [.lit (.bool false)], args := [d] }
  | _ => none }
def FnPermitWrongFalsely : Prop := fnPermitRow.holds Try.pinned (OpenSpec.ofChange fnPermitWrong)

/-- 'laws.FnPassOn': WHATEVER THE INPUT: true; the input reads as it did. -/
def fnPassOnSpec : ChangeSpec := { name := "fnPassOn", fn := fun _ => fun
  | [d] => { results := [.lit (.bool true)], args := [d] }
  | _ => none }
def fnPassOnRow : OpenClaim := { program := "ytllpcbdecibloaa", sum := "ab37e962d27ca91643cdc6d9bf1f550a9e7e4381c0771438ce47cdce474da54b", func := "loop.example/g00098/laws.FnPassOn", spec := "fnPassOn", unfollowed := true, recurses := true, apart := false }
def FnPassOnSaid : Prop := fnPassOnRow.holds Try.pinned (OpenSpec.ofChange fnPassOnSpec)

/-- ITS FALSE NEIGHBOUR: 'it returns false'. Refute it at one input. -/
def fnPassOnWrong : ChangeSpec := { name := "fnPassOn", fn := fun _ => fun
  | [d] => { results := [.lit (.bool false)], args := [d] }
  | _ => none }
def FnPassOnWrongFalsely : Prop := fnPassOnRow.holds Try.pinned (OpenSpec.ofChange fnPassOnWrong)

/- THE SECOND FORM. 'bulk': how many values and letters a reading holds, each counted each time it is reached (what is shared counts as often as it is met; a slice's spare places count too). A statement '..UptoSaid' is the law's where the arguments, and the package variables that the reading takes, are together of bulk at most 1048576: NARROWER than '..Said'. Prove '..Said' where nothing that the law and all that it calls make is longer than what came in: it says more and counts as full. Else prove '..UptoSaid'. A law counts once. -/
mutual
def uptoBulk {H : Type} : DataW H → Nat
  | .lit (.string bytes) => bytes.length + 1
  | .lit _ => 1
  | .nil => 1
  | .ptr d => uptoBulk d + 1
  | .slice elems spare => uptoBulkAll elems + uptoBulkAll spare + 1
  | .agg parts => uptoBulkAll parts + 1
  | .iface _ d => uptoBulk d + 1
  | .map entries => uptoBulkEntries entries + 1
  | .held _ => 1
def uptoBulkAll {H : Type} : List (DataW H) → Nat
  | [] => 0
  | d :: r => uptoBulk d + uptoBulkAll r
def uptoBulkEntries {H : Type} : List (Lit × DataW H) → Nat
  | [] => 0
  | x :: r => uptoBulkEntry x + uptoBulkEntries r
def uptoBulkEntry {H : Type} : Lit × DataW H → Nat
  | (.string bytes, d) => bytes.length + uptoBulk d + 1
  | (_, d) => uptoBulk d + 1
 end
def uptoSmall : (H : Type) → List (DataW H) → Bool := fun _ ds => decide (uptoBulkAll ds ≤ 1048576)
def OpenSpec.upto (s : _root_.Go.ChangeSpec) : _root_.Go.OpenSpec := { _root_.Go.OpenSpec.ofChange s with cond := some uptoSmall }

/-- 'laws.FnChanges', WHERE WHAT IT READS IS OF BULK AT MOST 1048576: true; the input reads as it did. -/
def fnChangesUptoRow : OpenClaim := { program := "ytllpcbdecibloaa", sum := "ab37e962d27ca91643cdc6d9bf1f550a9e7e4381c0771438ce47cdce474da54b", func := "loop.example/g00098/laws.FnChanges", spec := "fnChanges", unfollowed := true, recurses := true, apart := false, narrowed := true }
def FnChangesUptoSaid : Prop := fnChangesUptoRow.holds Try.pinned (OpenSpec.upto fnChangesSpec)

/-- 'laws.FnSees', WHERE WHAT IT READS IS OF BULK AT MOST 1048576: true; the input reads as it did. -/
def fnSeesUptoRow : OpenClaim := { program := "ytllpcbdecibloaa", sum := "ab37e962d27ca91643cdc6d9bf1f550a9e7e4381c0771438ce47cdce474da54b", func := "loop.example/g00098/laws.FnSees", spec := "fnSees", unfollowed := true, recurses := true, apart := false, narrowed := true }
def FnSeesUptoSaid : Prop := fnSeesUptoRow.holds Try.pinned (OpenSpec.upto fnSeesSpec)

/-- 'laws.FnExactRingOk', WHERE WHAT IT READS IS OF BULK AT MOST 1048576: true; the input reads as it did. -/
def fnExactRingOkUptoRow : OpenClaim := { program := "ytllpcbdecibloaa", sum := "ab37e962d27ca91643cdc6d9bf1f550a9e7e4381c0771438ce47cdce474da54b", func := "loop.example/g00098/laws.FnExactRingOk", spec := "fnExactRingOk", inPlace := ["internal/bytealg.IndexByteString", "internal/bytealg.IndexString"], unfollowed := true, recurses := true, named := ["internal/bytealg.MaxLen"], apart := false, narrowed := true }
def FnExactRingOkUptoSaid : Prop := fnExactRingOkUptoRow.holds Try.pinned (OpenSpec.upto fnExactRingOkSpec)

/-- 'laws.FnExactLag', WHERE WHAT IT READS IS OF BULK AT MOST 1048576: true; the input reads as it did. -/
def fnExactLagUptoRow : OpenClaim := { program := "ytllpcbdecibloaa", sum := "ab37e962d27ca91643cdc6d9bf1f550a9e7e4381c0771438ce47cdce474da54b", func := "loop.example/g00098/laws.FnExactLag", spec := "fnExactLag", inPlace := ["internal/bytealg.IndexByteString", "internal/bytealg.IndexString"], unfollowed := true, recurses := true, named := ["internal/bytealg.MaxLen"], apart := false, narrowed := true }
def FnExactLagUptoSaid : Prop := fnExactLagUptoRow.holds Try.pinned (OpenSpec.upto fnExactLagSpec)

/-- 'laws.FnExactBalance', WHERE WHAT IT READS IS OF BULK AT MOST 1048576: true; the input reads as it did. -/
def fnExactBalanceUptoRow : OpenClaim := { program := "ytllpcbdecibloaa", sum := "ab37e962d27ca91643cdc6d9bf1f550a9e7e4381c0771438ce47cdce474da54b", func := "loop.example/g00098/laws.FnExactBalance", spec := "fnExactBalance", inPlace := ["internal/bytealg.IndexByteString", "internal/bytealg.IndexString"], unfollowed := true, recurses := true, named := ["internal/bytealg.MaxLen"], apart := false, narrowed := true }
def FnExactBalanceUptoSaid : Prop := fnExactBalanceUptoRow.holds Try.pinned (OpenSpec.upto fnExactBalanceSpec)

/-- 'laws.FnPermit', WHERE WHAT IT READS IS OF BULK AT MOST 1048576: true; the input reads as it did. -/
def fnPermitUptoRow : OpenClaim := { program := "ytllpcbdecibloaa", sum := "ab37e962d27ca91643cdc6d9bf1f550a9e7e4381c0771438ce47cdce474da54b", func := "loop.example/g00098/laws.FnPermit", spec := "fnPermit", apart := false, narrowed := true }
def FnPermitUptoSaid : Prop := fnPermitUptoRow.holds Try.pinned (OpenSpec.upto fnPermitSpec)

/-- 'laws.FnPassOn', WHERE WHAT IT READS IS OF BULK AT MOST 1048576: true; the input reads as it did. -/
def fnPassOnUptoRow : OpenClaim := { program := "ytllpcbdecibloaa", sum := "ab37e962d27ca91643cdc6d9bf1f550a9e7e4381c0771438ce47cdce474da54b", func := "loop.example/g00098/laws.FnPassOn", spec := "fnPassOn", unfollowed := true, recurses := true, apart := false, narrowed := true }
def FnPassOnUptoSaid : Prop := fnPassOnUptoRow.holds Try.pinned (OpenSpec.upto fnPassOnSpec)

end Rows
end Go.Proofs.Ytllpcbdecibloaa
