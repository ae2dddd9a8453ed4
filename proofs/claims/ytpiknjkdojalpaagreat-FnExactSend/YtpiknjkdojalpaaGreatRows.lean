/-
  No cell of these rows narrows 'for every input' (looked for: loops, veiled, ifaces, maps, wideKeys, modest, calm, conditions, laid).
  DERIVED. THE GIVEN ROWS OF THIS SEAT. 7 by the template 'for every input the law returns true; each argument reads behind the call as it read before'; 0 by the template 'total and deterministic' (their statements: YtpiknjkdojalpaaGreatTotals.lean).
  GIVEN WITH THE SEED: the statements are not yours to turn. If you find one false, say at which input.
  Laid BY PROGRAM, IN A SANDBOX (cutbox-rows.mjs): the forced cells as the released guide's own fill.sh prints them over the translation 27d165e9dd2f4f75… (all of the seat's roots in one cut). By AI agents, Wed Nov 11 2026. No macro, syntax, notation, axiom, sorry.
-/
import Derived.Test.YtpiknjkdojalpaaGreatChecked
import GoSem.Claim
import GoSem.ClaimJoined
import GoSem.ClaimMapViews
import Derived.JoinedTies
import Derived.KernelRfl
namespace Go.Proofs.YtpiknjkdojalpaaGreat
/- THE CELL 'sum', in the pinned program and in every row, IS THE sha256 OF THE DUMP (.gsa) THAT YtpiknjkdojalpaaGreatProg.lean LOADS. Nothing in Lean hashes anything: it is a label: what it is worth is what the hold of that sum in a sandbox is worth. -/
noncomputable def Tryz.pinned : Pinned := { name := "ytpiknjkdojalpaagreat", sum := "27d165e9dd2f4f75f2f90e8ba0ca20922ccdac0ec437af769f8f321eb5272571", checked := Tryz.checked }
namespace Rows
def none {H : Type} : Left H := { results := [], args := [] }

/-- 'laws.FnNeverBlocks': WHATEVER THE INPUT: true; the input reads as it did. -/
def fnNeverBlocksSpec : ChangeSpec := { name := "fnNeverBlocks", fn := fun _ => fun
  | [d] => { results := [.lit (.bool true)], args := [d] }
  | _ => none }
def fnNeverBlocksRow : OpenClaim := { program := "ytpiknjkdojalpaagreat", sum := "27d165e9dd2f4f75f2f90e8ba0ca20922ccdac0ec437af769f8f321eb5272571", func := "loop.example/g00098/laws.FnNeverBlocks", spec := "fnNeverBlocks", inPlace := ["internal/bytealg.IndexByteString", "internal/bytealg.IndexString"], unfollowed := true, recurses := true, named := ["internal/bytealg.MaxLen"], apart := false }
def FnNeverBlocksSaid : Prop := fnNeverBlocksRow.holds Tryz.pinned (OpenSpec.ofChange fnNeverBlocksSpec)

/-- ITS FALSE NEIGHBOUR: 'it returns false'. Refute it at one input. -/
def fnNeverBlocksWrong : ChangeSpec := { name := "fnNeverBlocks", fn := fun _ => fun
  | [d] => { results := [.lit (.bool false)], args := [d] }
  | _ => none }
def FnNeverBlocksWrongFalsely : Prop := fnNeverBlocksRow.holds Tryz.pinned (OpenSpec.ofChange fnNeverBlocksWrong)

/-- 'laws.FnPullOn': WHATEVER THE INPUT: true; the input reads as it did. -/
def fnPullOnSpec : ChangeSpec := { name := "fnPullOn", fn := fun _ => fun
  | [d] => { results := [.lit (.bool true)], args := [d] }
  | _ => none }
def fnPullOnRow : OpenClaim := { program := "ytpiknjkdojalpaagreat", sum := "27d165e9dd2f4f75f2f90e8ba0ca20922ccdac0ec437af769f8f321eb5272571", func := "loop.example/g00098/laws.FnPullOn", spec := "fnPullOn", inPlace := ["internal/bytealg.IndexByteString", "internal/bytealg.IndexString"], unfollowed := true, recurses := true, named := ["internal/bytealg.MaxLen"], apart := false }
def FnPullOnSaid : Prop := fnPullOnRow.holds Tryz.pinned (OpenSpec.ofChange fnPullOnSpec)

/-- ITS FALSE NEIGHBOUR: 'it returns false'. Refute it at one input. -/
def fnPullOnWrong : ChangeSpec := { name := "fnPullOn", fn := fun _ => fun
  | [d] => { results := [.lit (.bool false)], args := [d] }
  | _ => none }
def FnPullOnWrongFalsely : Prop := fnPullOnRow.holds Tryz.pinned (OpenSpec.ofChange fnPullOnWrong)

/-- 'laws.FnPeek': WHATEVER THE INPUT: true; the input reads as it did. -/
def fnPeekSpec : ChangeSpec := { name := "fnPeek", fn := fun _ => fun
  | [d] => { results := [.lit (.bool true)], args := [d] }
  | _ => none }
def fnPeekRow : OpenClaim := { program := "ytpiknjkdojalpaagreat", sum := "27d165e9dd2f4f75f2f90e8ba0ca20922ccdac0ec437af769f8f321eb5272571", func := "loop.example/g00098/laws.FnPeek", spec := "fnPeek", inPlace := ["internal/bytealg.IndexByteString", "internal/bytealg.IndexString"], unfollowed := true, recurses := true, named := ["internal/bytealg.MaxLen"], apart := false }
def FnPeekSaid : Prop := fnPeekRow.holds Tryz.pinned (OpenSpec.ofChange fnPeekSpec)

/-- ITS FALSE NEIGHBOUR: 'it returns false'. Refute it at one input. -/
def fnPeekWrong : ChangeSpec := { name := "fnPeek", fn := fun _ => fun
  | [d] => { results := [.lit (.bool false)], args := [d] }
  | _ => none }
def FnPeekWrongFalsely : Prop := fnPeekRow.holds Tryz.pinned (OpenSpec.ofChange fnPeekWrong)

/-- 'laws.FnKept': WHATEVER THE INPUT: true; the input reads as it did. -/
def fnKeptSpec : ChangeSpec := { name := "fnKept", fn := fun _ => fun
  | [d] => { results := [.lit (.bool true)], args := [d] }
  | _ => none }
def fnKeptRow : OpenClaim := { program := "ytpiknjkdojalpaagreat", sum := "27d165e9dd2f4f75f2f90e8ba0ca20922ccdac0ec437af769f8f321eb5272571", func := "loop.example/g00098/laws.FnKept", spec := "fnKept", inPlace := ["internal/bytealg.IndexByteString", "internal/bytealg.IndexString"], unfollowed := true, recurses := true, named := ["internal/bytealg.MaxLen"], apart := false }
def FnKeptSaid : Prop := fnKeptRow.holds Tryz.pinned (OpenSpec.ofChange fnKeptSpec)

/-- ITS FALSE NEIGHBOUR: 'it returns false'. Refute it at one input. -/
def fnKeptWrong : ChangeSpec := { name := "fnKept", fn := fun _ => fun
  | [d] => { results := [.lit (.bool false)], args := [d] }
  | _ => none }
def FnKeptWrongFalsely : Prop := fnKeptRow.holds Tryz.pinned (OpenSpec.ofChange fnKeptWrong)

/-- 'laws.FnSkip': WHATEVER THE INPUT: true; the input reads as it did. -/
def fnSkipSpec : ChangeSpec := { name := "fnSkip", fn := fun _ => fun
  | [d] => { results := [.lit (.bool true)], args := [d] }
  | _ => none }
def fnSkipRow : OpenClaim := { program := "ytpiknjkdojalpaagreat", sum := "27d165e9dd2f4f75f2f90e8ba0ca20922ccdac0ec437af769f8f321eb5272571", func := "loop.example/g00098/laws.FnSkip", spec := "fnSkip", inPlace := ["internal/bytealg.IndexByteString", "internal/bytealg.IndexString"], unfollowed := true, recurses := true, named := ["internal/bytealg.MaxLen"], apart := false }
def FnSkipSaid : Prop := fnSkipRow.holds Tryz.pinned (OpenSpec.ofChange fnSkipSpec)

/-- ITS FALSE NEIGHBOUR: 'it returns false'. Refute it at one input. -/
def fnSkipWrong : ChangeSpec := { name := "fnSkip", fn := fun _ => fun
  | [d] => { results := [.lit (.bool false)], args := [d] }
  | _ => none }
def FnSkipWrongFalsely : Prop := fnSkipRow.holds Tryz.pinned (OpenSpec.ofChange fnSkipWrong)

/-- 'laws.FnExactSend': WHATEVER THE INPUT: true; the input reads as it did. -/
def fnExactSendSpec : ChangeSpec := { name := "fnExactSend", fn := fun _ => fun
  | [d1, d2] => { results := [.lit (.bool true)], args := [d1, d2] }
  | _ => none }
def fnExactSendRow : OpenClaim := { program := "ytpiknjkdojalpaagreat", sum := "27d165e9dd2f4f75f2f90e8ba0ca20922ccdac0ec437af769f8f321eb5272571", func := "loop.example/g00098/laws.FnExactSend", spec := "fnExactSend", inPlace := ["internal/bytealg.IndexByteString", "internal/bytealg.IndexString"], unfollowed := true, recurses := true, named := ["internal/bytealg.MaxLen"], apart := false }
def FnExactSendSaid : Prop := fnExactSendRow.holds Tryz.pinned (OpenSpec.ofChange fnExactSendSpec)

/-- ITS FALSE NEIGHBOUR: 'it returns false'. Refute it at one input. -/
def fnExactSendWrong : ChangeSpec := { name := "fnExactSend", fn := fun _ => fun
  | [d1, d2] => { results := [.lit (.bool false)], args := [d1, d2] }
  | _ => none }
def FnExactSendWrongFalsely : Prop := fnExactSendRow.holds Tryz.pinned (OpenSpec.ofChange fnExactSendWrong)

/-- 'laws.FnExactPull': WHATEVER THE INPUT: true; the input reads as it did. -/
def fnExactPullSpec : ChangeSpec := { name := "fnExactPull", fn := fun _ => fun
  | [d1, d2, d3] => { results := [.lit (.bool true)], args := [d1, d2, d3] }
  | _ => none }
def fnExactPullRow : OpenClaim := { program := "ytpiknjkdojalpaagreat", sum := "27d165e9dd2f4f75f2f90e8ba0ca20922ccdac0ec437af769f8f321eb5272571", func := "loop.example/g00098/laws.FnExactPull", spec := "fnExactPull", inPlace := ["internal/bytealg.IndexByteString", "internal/bytealg.IndexString"], unfollowed := true, recurses := true, named := ["internal/bytealg.MaxLen"], apart := false }
def FnExactPullSaid : Prop := fnExactPullRow.holds Tryz.pinned (OpenSpec.ofChange fnExactPullSpec)

/-- ITS FALSE NEIGHBOUR: 'it returns false'. Refute it at one input. -/
def fnExactPullWrong : ChangeSpec := { name := "fnExactPull", fn := fun _ => fun
  | [d1, d2, d3] => { results := [.lit (.bool false)], args := [d1, d2, d3] }
  | _ => none }
def FnExactPullWrongFalsely : Prop := fnExactPullRow.holds Tryz.pinned (OpenSpec.ofChange fnExactPullWrong)

/- THE SECOND FORM. 'bulk': how many values and letters a reading holds, each counted each time it is reached (what is shared counts as often as it is met; a slice's spare places count too). A statement '..UptoSaid' is the law's where the arguments, and the package variables that the reading takes, are together of bulk at most 1048576: NARROWER than '..Said'. Prove '..Said' where nothing that the law and all that it calls make is longer than what came in: it says more and counts as full. Else prove '..UptoSaid'. A law counts once. -/
mutual
def uptoBulk {H : Type} : DataW H → Nat
  | .lit (.string bytes) => bytes.length + 1
  | .lit _ => 1
  | .nil => 1
  | .ptr d => uptoBulk d + 1
  | .slice elems spare => uptoBulkAll elems + uptoBulkAll spare + 1
  | .agg parts => uptoBulkAll parts + 1
  | .iface _ d => uptoBulk d + 1
  | .map entries => uptoBulkEntries entries + 1
  | .held _ => 1
def uptoBulkAll {H : Type} : List (DataW H) → Nat
  | [] => 0
  | d :: r => uptoBulk d + uptoBulkAll r
def uptoBulkEntries {H : Type} : List (Lit × DataW H) → Nat
  | [] => 0
  | x :: r => uptoBulkEntry x + uptoBulkEntries r
def uptoBulkEntry {H : Type} : Lit × DataW H → Nat
  | (.string bytes, d) => bytes.length + uptoBulk d + 1
  | (_, d) => uptoBulk d + 1
 end
def uptoSmall : (H : Type) → List (DataW H) → Bool := fun _ ds => decide (uptoBulkAll ds ≤ 1048576)
def OpenSpec.upto (s : _root_.Go.ChangeSpec) : _root_.Go.OpenSpec := { _root_.Go.OpenSpec.ofChange s with cond := some uptoSmall }

/-- 'laws.FnNeverBlocks', WHERE WHAT IT READS IS OF BULK AT MOST 1048576: true; the input reads as it did. -/
def fnNeverBlocksUptoRow : OpenClaim := { program := "ytpiknjkdojalpaagreat", sum := "27d165e9dd2f4f75f2f90e8ba0ca20922ccdac0ec437af769f8f321eb5272571", func := "loop.example/g00098/laws.FnNeverBlocks", spec := "fnNeverBlocks", inPlace := ["internal/bytealg.IndexByteString", "internal/bytealg.IndexString"], unfollowed := true, recurses := true, named := ["internal/bytealg.MaxLen"], apart := false, narrowed := true }
def FnNeverBlocksUptoSaid : Prop := fnNeverBlocksUptoRow.holds Tryz.pinned (OpenSpec.upto fnNeverBlocksSpec)

/-- 'laws.FnPullOn', WHERE WHAT IT READS IS OF BULK AT MOST 1048576: true; the input reads as it did. -/
def fnPullOnUptoRow : OpenClaim := { program := "ytpiknjkdojalpaagreat", sum := "27d165e9dd2f4f75f2f90e8ba0ca20922ccdac0ec437af769f8f321eb5272571", func := "loop.example/g00098/laws.FnPullOn", spec := "fnPullOn", inPlace := ["internal/bytealg.IndexByteString", "internal/bytealg.IndexString"], unfollowed := true, recurses := true, named := ["internal/bytealg.MaxLen"], apart := false, narrowed := true }
def FnPullOnUptoSaid : Prop := fnPullOnUptoRow.holds Tryz.pinned (OpenSpec.upto fnPullOnSpec)

/-- 'laws.FnPeek', WHERE WHAT IT READS IS OF BULK AT MOST 1048576: true; the input reads as it did. -/
def fnPeekUptoRow : OpenClaim := { program := "ytpiknjkdojalpaagreat", sum := "27d165e9dd2f4f75f2f90e8ba0ca20922ccdac0ec437af769f8f321eb5272571", func := "loop.example/g00098/laws.FnPeek", spec := "fnPeek", inPlace := ["internal/bytealg.IndexByteString", "internal/bytealg.IndexString"], unfollowed := true, recurses := true, named := ["internal/bytealg.MaxLen"], apart := false, narrowed := true }
def FnPeekUptoSaid : Prop := fnPeekUptoRow.holds Tryz.pinned (OpenSpec.upto fnPeekSpec)

/-- 'laws.FnKept', WHERE WHAT IT READS IS OF BULK AT MOST 1048576: true; the input reads as it did. -/
def fnKeptUptoRow : OpenClaim := { program := "ytpiknjkdojalpaagreat", sum := "27d165e9dd2f4f75f2f90e8ba0ca20922ccdac0ec437af769f8f321eb5272571", func := "loop.example/g00098/laws.FnKept", spec := "fnKept", inPlace := ["internal/bytealg.IndexByteString", "internal/bytealg.IndexString"], unfollowed := true, recurses := true, named := ["internal/bytealg.MaxLen"], apart := false, narrowed := true }
def FnKeptUptoSaid : Prop := fnKeptUptoRow.holds Tryz.pinned (OpenSpec.upto fnKeptSpec)

/-- 'laws.FnSkip', WHERE WHAT IT READS IS OF BULK AT MOST 1048576: true; the input reads as it did. -/
def fnSkipUptoRow : OpenClaim := { program := "ytpiknjkdojalpaagreat", sum := "27d165e9dd2f4f75f2f90e8ba0ca20922ccdac0ec437af769f8f321eb5272571", func := "loop.example/g00098/laws.FnSkip", spec := "fnSkip", inPlace := ["internal/bytealg.IndexByteString", "internal/bytealg.IndexString"], unfollowed := true, recurses := true, named := ["internal/bytealg.MaxLen"], apart := false, narrowed := true }
def FnSkipUptoSaid : Prop := fnSkipUptoRow.holds Tryz.pinned (OpenSpec.upto fnSkipSpec)

/-- 'laws.FnExactSend', WHERE WHAT IT READS IS OF BULK AT MOST 1048576: true; the input reads as it did. -/
def fnExactSendUptoRow : OpenClaim := { program := "ytpiknjkdojalpaagreat", sum := "27d165e9dd2f4f75f2f90e8ba0ca20922ccdac0ec437af769f8f321eb5272571", func := "loop.example/g00098/laws.FnExactSend", spec := "fnExactSend", inPlace := ["internal/bytealg.IndexByteString", "internal/bytealg.IndexString"], unfollowed := true, recurses := true, named := ["internal/bytealg.MaxLen"], apart := false, narrowed := true }
def FnExactSendUptoSaid : Prop := fnExactSendUptoRow.holds Tryz.pinned (OpenSpec.upto fnExactSendSpec)

/-- 'laws.FnExactPull', WHERE WHAT IT READS IS OF BULK AT MOST 1048576: true; the input reads as it did. -/
def fnExactPullUptoRow : OpenClaim := { program := "ytpiknjkdojalpaagreat", sum := "27d165e9dd2f4f75f2f90e8ba0ca20922ccdac0ec437af769f8f321eb5272571", func := "loop.example/g00098/laws.FnExactPull", spec := "fnExactPull", inPlace := ["internal/bytealg.IndexByteString", "internal/bytealg.IndexString"], unfollowed := true, recurses := true, named := ["internal/bytealg.MaxLen"], apart := false, narrowed := true }
def FnExactPullUptoSaid : Prop := fnExactPullUptoRow.holds Tryz.pinned (OpenSpec.upto fnExactPullSpec)

end Rows
end Go.Proofs.YtpiknjkdojalpaaGreat
