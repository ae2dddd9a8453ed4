/-
  No cell of these rows narrows 'for every input' (looked for: loops, veiled, ifaces, maps, wideKeys, modest, calm, conditions, laid).
  DERIVED. THE GIVEN ROWS OF THIS SEAT. 9 by the template 'for every input the law returns true; each argument reads behind the call as it read before'; 0 by the template 'total and deterministic' (their statements: YtfgknbflgmblmaaTotals.lean).
  GIVEN WITH THE SEED: the statements are not yours to turn. If you find one false, say at which input.
  Laid BY PROGRAM, IN A SANDBOX (cutbox-rows.mjs): the forced cells as the released guide's own fill.sh prints them over the translation ef8bbdd786adbbf2… (all of the seat's roots in one cut). By AI agents, Wed Nov 11 2026. No macro, syntax, notation, axiom, sorry.
-/
import Derived.Test.YtfgknbflgmblmaaChecked
import GoSem.Claim
import GoSem.ClaimJoined
import GoSem.ClaimMapViews
import Derived.JoinedTies
import Derived.KernelRfl
namespace Go.Proofs.Ytfgknbflgmblmaa
/- THE CELL 'sum', in the pinned program and in every row, IS THE sha256 OF THE DUMP (.gsa) THAT YtfgknbflgmblmaaProg.lean LOADS. Nothing in Lean hashes anything: it is a label: what it is worth is what the hold of that sum in a sandbox is worth. -/
noncomputable def Try.pinned : Pinned := { name := "ytfgknbflgmblmaa", sum := "ef8bbdd786adbbf2f2c786a297f44b999f6a4a2d2c7e8a56adbca0d143081ca8", checked := Try.checked }
namespace Rows
def none {H : Type} : Left H := { results := [], args := [] }

/-- 'laws.FnBalanced': WHATEVER THE INPUT: true; the input reads as it did. -/
def fnBalancedSpec : ChangeSpec := { name := "fnBalanced", fn := fun _ => fun
  | [d] => { results := [.lit (.bool true)], args := [d] }
  | _ => none }
def fnBalancedRow : OpenClaim := { program := "ytfgknbflgmblmaa", sum := "ef8bbdd786adbbf2f2c786a297f44b999f6a4a2d2c7e8a56adbca0d143081ca8", func := "loop.example/g00098/laws.FnBalanced", spec := "fnBalanced", unfollowed := true, recurses := true, apart := false }
def FnBalancedSaid : Prop := fnBalancedRow.holds Try.pinned (OpenSpec.ofChange fnBalancedSpec)

/-- ITS FALSE NEIGHBOUR: 'it returns false'. Refute it at one input. -/
def fnBalancedWrong : ChangeSpec := { name := "fnBalanced", fn := fun _ => fun
  | [d] => { results := [.lit (.bool false)], args := [d] }
  | _ => none }
def FnBalancedWrongFalsely : Prop := fnBalancedRow.holds Try.pinned (OpenSpec.ofChange fnBalancedWrong)

/-- 'laws.FnPermit': WHATEVER THE INPUT: true; the input reads as it did. -/
def fnPermitSpec : ChangeSpec := { name := "fnPermit", fn := fun _ => fun
  | [d] => { results := [.lit (.bool true)], args := [d] }
  | _ => none }
def fnPermitRow : OpenClaim := { program := "ytfgknbflgmblmaa", sum := "ef8bbdd786adbbf2f2c786a297f44b999f6a4a2d2c7e8a56adbca0d143081ca8", func := "loop.example/g00098/laws.FnPermit", spec := "fnPermit", apart := false }
def FnPermitSaid : Prop := fnPermitRow.holds Try.pinned (OpenSpec.ofChange fnPermitSpec)

/-- ITS FALSE NEIGHBOUR: 'it returns false'. Refute it at one input. -/
def fnPermitWrong : ChangeSpec := { name := "fnPermit", fn := fun _ => fun
  | [d] => { results := [.lit (.bool false)], args := [d] }
  | _ => none }
def FnPermitWrongFalsely : Prop := fnPermitRow.holds Try.pinned (OpenSpec.ofChange fnPermitWrong)

/-- 'laws.FnPassOn': WHATEVER THE INPUT: true; the input reads as it did. -/
def fnPassOnSpec : ChangeSpec := { name := "fnPassOn", fn := fun _ => fun
  | [d] => { results := [.lit (.bool true)], args := [d] }
  | _ => none }
def fnPassOnRow : OpenClaim := { program := "ytfgknbflgmblmaa", sum := "ef8bbdd786adbbf2f2c786a297f44b999f6a4a2d2c7e8a56adbca0d143081ca8", func := "loop.example/g00098/laws.FnPassOn", spec := "fnPassOn", unfollowed := true, recurses := true, apart := false }
def FnPassOnSaid : Prop := fnPassOnRow.holds Try.pinned (OpenSpec.ofChange fnPassOnSpec)

/-- ITS FALSE NEIGHBOUR: 'it returns false'. Refute it at one input. -/
def fnPassOnWrong : ChangeSpec := { name := "fnPassOn", fn := fun _ => fun
  | [d] => { results := [.lit (.bool false)], args := [d] }
  | _ => none }
def FnPassOnWrongFalsely : Prop := fnPassOnRow.holds Try.pinned (OpenSpec.ofChange fnPassOnWrong)

/-- 'laws.FnExactNotifyOk': WHATEVER THE INPUT: true; the input reads as it did. -/
def fnExactNotifyOkSpec : ChangeSpec := { name := "fnExactNotifyOk", fn := fun _ => fun
  | [d] => { results := [.lit (.bool true)], args := [d] }
  | _ => none }
def fnExactNotifyOkRow : OpenClaim := { program := "ytfgknbflgmblmaa", sum := "ef8bbdd786adbbf2f2c786a297f44b999f6a4a2d2c7e8a56adbca0d143081ca8", func := "loop.example/g00098/laws.FnExactNotifyOk", spec := "fnExactNotifyOk", apart := false }
def FnExactNotifyOkSaid : Prop := fnExactNotifyOkRow.holds Try.pinned (OpenSpec.ofChange fnExactNotifyOkSpec)

/-- ITS FALSE NEIGHBOUR: 'it returns false'. Refute it at one input. -/
def fnExactNotifyOkWrong : ChangeSpec := { name := "fnExactNotifyOk", fn := fun _ => fun
  | [d] => { results := [.lit (.bool false)], args := [d] }
  | _ => none }
def FnExactNotifyOkWrongFalsely : Prop := fnExactNotifyOkRow.holds Try.pinned (OpenSpec.ofChange fnExactNotifyOkWrong)

/-- 'laws.FnExactTellOne': WHATEVER THE INPUT: true; the input reads as it did. -/
def fnExactTellOneSpec : ChangeSpec := { name := "fnExactTellOne", fn := fun _ => fun
  | [d] => { results := [.lit (.bool true)], args := [d] }
  | _ => none }
def fnExactTellOneRow : OpenClaim := { program := "ytfgknbflgmblmaa", sum := "ef8bbdd786adbbf2f2c786a297f44b999f6a4a2d2c7e8a56adbca0d143081ca8", func := "loop.example/g00098/laws.FnExactTellOne", spec := "fnExactTellOne", apart := false }
def FnExactTellOneSaid : Prop := fnExactTellOneRow.holds Try.pinned (OpenSpec.ofChange fnExactTellOneSpec)

/-- ITS FALSE NEIGHBOUR: 'it returns false'. Refute it at one input. -/
def fnExactTellOneWrong : ChangeSpec := { name := "fnExactTellOne", fn := fun _ => fun
  | [d] => { results := [.lit (.bool false)], args := [d] }
  | _ => none }
def FnExactTellOneWrongFalsely : Prop := fnExactTellOneRow.holds Try.pinned (OpenSpec.ofChange fnExactTellOneWrong)

/-- 'laws.FnExactTellAll': WHATEVER THE INPUT: true; the input reads as it did. -/
def fnExactTellAllSpec : ChangeSpec := { name := "fnExactTellAll", fn := fun _ => fun
  | [d] => { results := [.lit (.bool true)], args := [d] }
  | _ => none }
def fnExactTellAllRow : OpenClaim := { program := "ytfgknbflgmblmaa", sum := "ef8bbdd786adbbf2f2c786a297f44b999f6a4a2d2c7e8a56adbca0d143081ca8", func := "loop.example/g00098/laws.FnExactTellAll", spec := "fnExactTellAll", apart := false }
def FnExactTellAllSaid : Prop := fnExactTellAllRow.holds Try.pinned (OpenSpec.ofChange fnExactTellAllSpec)

/-- ITS FALSE NEIGHBOUR: 'it returns false'. Refute it at one input. -/
def fnExactTellAllWrong : ChangeSpec := { name := "fnExactTellAll", fn := fun _ => fun
  | [d] => { results := [.lit (.bool false)], args := [d] }
  | _ => none }
def FnExactTellAllWrongFalsely : Prop := fnExactTellAllRow.holds Try.pinned (OpenSpec.ofChange fnExactTellAllWrong)

/-- 'laws.FnExactAwait': WHATEVER THE INPUT: true; the input reads as it did. -/
def fnExactAwaitSpec : ChangeSpec := { name := "fnExactAwait", fn := fun _ => fun
  | [d1, d2] => { results := [.lit (.bool true)], args := [d1, d2] }
  | _ => none }
def fnExactAwaitRow : OpenClaim := { program := "ytfgknbflgmblmaa", sum := "ef8bbdd786adbbf2f2c786a297f44b999f6a4a2d2c7e8a56adbca0d143081ca8", func := "loop.example/g00098/laws.FnExactAwait", spec := "fnExactAwait", apart := false }
def FnExactAwaitSaid : Prop := fnExactAwaitRow.holds Try.pinned (OpenSpec.ofChange fnExactAwaitSpec)

/-- ITS FALSE NEIGHBOUR: 'it returns false'. Refute it at one input. -/
def fnExactAwaitWrong : ChangeSpec := { name := "fnExactAwait", fn := fun _ => fun
  | [d1, d2] => { results := [.lit (.bool false)], args := [d1, d2] }
  | _ => none }
def FnExactAwaitWrongFalsely : Prop := fnExactAwaitRow.holds Try.pinned (OpenSpec.ofChange fnExactAwaitWrong)

/-- 'laws.FnExactResume': WHATEVER THE INPUT: true; the input reads as it did. -/
def fnExactResumeSpec : ChangeSpec := { name := "fnExactResume", fn := fun _ => fun
  | [d1, d2] => { results := [.lit (.bool true)], args := [d1, d2] }
  | _ => none }
def fnExactResumeRow : OpenClaim := { program := "ytfgknbflgmblmaa", sum := "ef8bbdd786adbbf2f2c786a297f44b999f6a4a2d2c7e8a56adbca0d143081ca8", func := "loop.example/g00098/laws.FnExactResume", spec := "fnExactResume", apart := false }
def FnExactResumeSaid : Prop := fnExactResumeRow.holds Try.pinned (OpenSpec.ofChange fnExactResumeSpec)

/-- ITS FALSE NEIGHBOUR: 'it returns false'. Refute it at one input. -/
def fnExactResumeWrong : ChangeSpec := { name := "fnExactResume", fn := fun _ => fun
  | [d1, d2] => { results := [.lit (.bool false)], args := [d1, d2] }
  | _ => none }
def FnExactResumeWrongFalsely : Prop := fnExactResumeRow.holds Try.pinned (OpenSpec.ofChange fnExactResumeWrong)

/-- 'laws.FnExactWithdraw': WHATEVER THE INPUT: true; the input reads as it did. -/
def fnExactWithdrawSpec : ChangeSpec := { name := "fnExactWithdraw", fn := fun _ => fun
  | [d1, d2] => { results := [.lit (.bool true)], args := [d1, d2] }
  | _ => none }
def fnExactWithdrawRow : OpenClaim := { program := "ytfgknbflgmblmaa", sum := "ef8bbdd786adbbf2f2c786a297f44b999f6a4a2d2c7e8a56adbca0d143081ca8", func := "loop.example/g00098/laws.FnExactWithdraw", spec := "fnExactWithdraw", unfollowed := true, recurses := true, apart := false }
def FnExactWithdrawSaid : Prop := fnExactWithdrawRow.holds Try.pinned (OpenSpec.ofChange fnExactWithdrawSpec)

/-- ITS FALSE NEIGHBOUR: 'it returns false'. Refute it at one input. -/
def fnExactWithdrawWrong : ChangeSpec := { name := "fnExactWithdraw", fn := fun _ => fun
  | [d1, d2] => { results := [.lit (.bool false)], args := [d1, d2] }
  | _ => none }
def FnExactWithdrawWrongFalsely : Prop := fnExactWithdrawRow.holds Try.pinned (OpenSpec.ofChange fnExactWithdrawWrong)

/- THE SECOND FORM. 'bulk': how many values and letters a reading holds, each counted each time it is reached (what is shared counts as often as it is met; a slice's spare places count too). A statement '..UptoSaid' is the law's where the arguments, and the package variables that the reading takes, are together of bulk at most 1048576: NARROWER than '..Said'. Prove '..Said' where nothing that the law and all that it calls make is longer than what came in: it says more and counts as full. Else prove '..UptoSaid'. A law counts once. -/
mutual
def uptoBulk {H : Type} : DataW H → Nat
  | .lit (.string bytes) => bytes.length + 1
  | .lit _ => 1
  | .nil => 1
  | .ptr d => uptoBulk d + 1
  | .slice elems spare => uptoBulkAll elems + uptoBulkAll spare + 1
  | .agg parts => uptoBulkAll parts + 1
  | .iface _ d => uptoBulk d + 1
  | .map entries => uptoBulkEntries entries + 1
  | .held _ => 1
def uptoBulkAll {H : Type} : List (DataW H) → Nat
  | [] => 0
  | d :: r => uptoBulk d + uptoBulkAll r
def uptoBulkEntries {H : Type} : List (Lit × DataW H) → Nat
  | [] => 0
  | x :: r => uptoBulkEntry x + uptoBulkEntries r
def uptoBulkEntry {H : Type} : Lit × DataW H → Nat
  | (.string bytes, d) => bytes.length + uptoBulk d + 1
  | (_, d) => uptoBulk d + 1
 end
def uptoSmall : (H : Type) → List (DataW H) → Bool := fun _ ds => decide (uptoBulkAll ds ≤ 1048576)
def OpenSpec.upto (s : _root_.Go.ChangeSpec) : _root_.Go.OpenSpec := { _root_.Go.OpenSpec.ofChange s with cond := some uptoSmall }

/-- 'laws.FnBalanced', WHERE WHAT IT READS IS OF BULK AT MOST 1048576: true; the input reads as it did. -/
def fnBalancedUptoRow : OpenClaim := { program := "ytfgknbflgmblmaa", sum := "ef8bbdd786adbbf2f2c786a297f44b999f6a4a2d2c7e8a56adbca0d143081ca8", func := "loop.example/g00098/laws.FnBalanced", spec := "fnBalanced", unfollowed := true, recurses := true, apart := false, narrowed := true }
def FnBalancedUptoSaid : Prop := fnBalancedUptoRow.holds Try.pinned (OpenSpec.upto fnBalancedSpec)

/-- 'laws.FnPermit', WHERE WHAT IT READS IS OF BULK AT MOST 1048576: true; the input reads as it did. -/
def fnPermitUptoRow : OpenClaim := { program := "ytfgknbflgmblmaa", sum := "ef8bbdd786adbbf2f2c786a297f44b999f6a4a2d2c7e8a56adbca0d143081ca8", func := "loop.example/g00098/laws.FnPermit", spec := "fnPermit", apart := false, narrowed := true }
def FnPermitUptoSaid : Prop := fnPermitUptoRow.holds Try.pinned (OpenSpec.upto fnPermitSpec)

/-- 'laws.FnPassOn', WHERE WHAT IT READS IS OF BULK AT MOST 1048576: true; the input reads as it did. -/
def fnPassOnUptoRow : OpenClaim := { program := "ytfgknbflgmblmaa", sum := "ef8bbdd786adbbf2f2c786a297f44b999f6a4a2d2c7e8a56adbca0d143081ca8", func := "loop.example/g00098/laws.FnPassOn", spec := "fnPassOn", unfollowed := true, recurses := true, apart := false, narrowed := true }
def FnPassOnUptoSaid : Prop := fnPassOnUptoRow.holds Try.pinned (OpenSpec.upto fnPassOnSpec)

/-- 'laws.FnExactNotifyOk', WHERE WHAT IT READS IS OF BULK AT MOST 1048576: true; the input reads as it did. -/
def fnExactNotifyOkUptoRow : OpenClaim := { program := "ytfgknbflgmblmaa", sum := "ef8bbdd786adbbf2f2c786a297f44b999f6a4a2d2c7e8a56adbca0d143081ca8", func := "loop.example/g00098/laws.FnExactNotifyOk", spec := "fnExactNotifyOk", apart := false, narrowed := true }
def FnExactNotifyOkUptoSaid : Prop := fnExactNotifyOkUptoRow.holds Try.pinned (OpenSpec.upto fnExactNotifyOkSpec)

/-- 'laws.FnExactTellOne', WHERE WHAT IT READS IS OF BULK AT MOST 1048576: true; the input reads as it did. -/
def fnExactTellOneUptoRow : OpenClaim := { program := "ytfgknbflgmblmaa", sum := "ef8bbdd786adbbf2f2c786a297f44b999f6a4a2d2c7e8a56adbca0d143081ca8", func := "loop.example/g00098/laws.FnExactTellOne", spec := "fnExactTellOne", apart := false, narrowed := true }
def FnExactTellOneUptoSaid : Prop := fnExactTellOneUptoRow.holds Try.pinned (OpenSpec.upto fnExactTellOneSpec)

/-- 'laws.FnExactTellAll', WHERE WHAT IT READS IS OF BULK AT MOST 1048576: true; the input reads as it did. -/
def fnExactTellAllUptoRow : OpenClaim := { program := "ytfgknbflgmblmaa", sum := "ef8bbdd786adbbf2f2c786a297f44b999f6a4a2d2c7e8a56adbca0d143081ca8", func := "loop.example/g00098/laws.FnExactTellAll", spec := "fnExactTellAll", apart := false, narrowed := true }
def FnExactTellAllUptoSaid : Prop := fnExactTellAllUptoRow.holds Try.pinned (OpenSpec.upto fnExactTellAllSpec)

/-- 'laws.FnExactAwait', WHERE WHAT IT READS IS OF BULK AT MOST 1048576: true; the input reads as it did. -/
def fnExactAwaitUptoRow : OpenClaim := { program := "ytfgknbflgmblmaa", sum := "ef8bbdd786adbbf2f2c786a297f44b999f6a4a2d2c7e8a56adbca0d143081ca8", func := "loop.example/g00098/laws.FnExactAwait", spec := "fnExactAwait", apart := false, narrowed := true }
def FnExactAwaitUptoSaid : Prop := fnExactAwaitUptoRow.holds Try.pinned (OpenSpec.upto fnExactAwaitSpec)

/-- 'laws.FnExactResume', WHERE WHAT IT READS IS OF BULK AT MOST 1048576: true; the input reads as it did. -/
def fnExactResumeUptoRow : OpenClaim := { program := "ytfgknbflgmblmaa", sum := "ef8bbdd786adbbf2f2c786a297f44b999f6a4a2d2c7e8a56adbca0d143081ca8", func := "loop.example/g00098/laws.FnExactResume", spec := "fnExactResume", apart := false, narrowed := true }
def FnExactResumeUptoSaid : Prop := fnExactResumeUptoRow.holds Try.pinned (OpenSpec.upto fnExactResumeSpec)

/-- 'laws.FnExactWithdraw', WHERE WHAT IT READS IS OF BULK AT MOST 1048576: true; the input reads as it did. -/
def fnExactWithdrawUptoRow : OpenClaim := { program := "ytfgknbflgmblmaa", sum := "ef8bbdd786adbbf2f2c786a297f44b999f6a4a2d2c7e8a56adbca0d143081ca8", func := "loop.example/g00098/laws.FnExactWithdraw", spec := "fnExactWithdraw", unfollowed := true, recurses := true, apart := false, narrowed := true }
def FnExactWithdrawUptoSaid : Prop := fnExactWithdrawUptoRow.holds Try.pinned (OpenSpec.upto fnExactWithdrawSpec)

end Rows
end Go.Proofs.Ytfgknbflgmblmaa
