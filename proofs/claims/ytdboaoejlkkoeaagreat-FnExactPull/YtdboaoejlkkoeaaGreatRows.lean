/-
  No cell of these rows narrows 'for every input' (looked for: loops, veiled, ifaces, maps, wideKeys, modest, calm, conditions, laid).
  DERIVED. THE GIVEN ROWS OF THIS SEAT. 15 by the template 'for every input the law returns true; each argument reads behind the call as it read before'; 0 by the template 'total and deterministic' (their statements: YtdboaoejlkkoeaaGreatTotals.lean).
  GIVEN WITH THE SEED: the statements are not yours to turn. If you find one false, say at which input.
  Laid BY PROGRAM, IN A SANDBOX (cutbox-rows.mjs): the forced cells as the released guide's own fill.sh prints them over the translation d4e0a50fca2c4ab2… (all of the seat's roots in one cut). By AI agents, Wed Nov 11 2026. No macro, syntax, notation, axiom, sorry.
-/
import Derived.Test.YtdboaoejlkkoeaaGreatChecked
import GoSem.Claim
import GoSem.ClaimJoined
import GoSem.ClaimMapViews
import Derived.JoinedTies
import Derived.KernelRfl
namespace Go.Proofs.YtdboaoejlkkoeaaGreat
/- THE CELL 'sum', in the pinned program and in every row, IS THE sha256 OF THE DUMP (.gsa) THAT YtdboaoejlkkoeaaGreatProg.lean LOADS. Nothing in Lean hashes anything: it is a label: what it is worth is what the hold of that sum in a sandbox is worth. -/
noncomputable def Tryz.pinned : Pinned := { name := "ytdboaoejlkkoeaagreat", sum := "d4e0a50fca2c4ab275eca12d0a65a506e387855f1651b3d71f05154f06e821d2", checked := Tryz.checked }
namespace Rows
def none {H : Type} : Left H := { results := [], args := [] }

/-- 'laws.FnNeverBlocks': WHATEVER THE INPUT: true; the input reads as it did. -/
def fnNeverBlocksSpec : ChangeSpec := { name := "fnNeverBlocks", fn := fun _ => fun
  | [d] => { results := [.lit (.bool true)], args := [d] }
  | _ => none }
def fnNeverBlocksRow : OpenClaim := { program := "ytdboaoejlkkoeaagreat", sum := "d4e0a50fca2c4ab275eca12d0a65a506e387855f1651b3d71f05154f06e821d2", func := "loop.example/g00098/laws.FnNeverBlocks", spec := "fnNeverBlocks", inPlace := ["internal/bytealg.IndexByteString", "internal/bytealg.IndexString"], unfollowed := true, recurses := true, named := ["internal/bytealg.MaxLen"], apart := false }
def FnNeverBlocksSaid : Prop := fnNeverBlocksRow.holds Tryz.pinned (OpenSpec.ofChange fnNeverBlocksSpec)

/-- ITS FALSE NEIGHBOUR: 'it returns false'. Refute it at one input. -/
def fnNeverBlocksWrong : ChangeSpec := { name := "fnNeverBlocks", fn := fun _ => fun
  | [d] => { results := [.lit (.bool false)], args := [d] }
  | _ => none }
def FnNeverBlocksWrongFalsely : Prop := fnNeverBlocksRow.holds Tryz.pinned (OpenSpec.ofChange fnNeverBlocksWrong)

/-- 'laws.FnPullOn': WHATEVER THE INPUT: true; the input reads as it did. -/
def fnPullOnSpec : ChangeSpec := { name := "fnPullOn", fn := fun _ => fun
  | [d] => { results := [.lit (.bool true)], args := [d] }
  | _ => none }
def fnPullOnRow : OpenClaim := { program := "ytdboaoejlkkoeaagreat", sum := "d4e0a50fca2c4ab275eca12d0a65a506e387855f1651b3d71f05154f06e821d2", func := "loop.example/g00098/laws.FnPullOn", spec := "fnPullOn", inPlace := ["internal/bytealg.IndexByteString", "internal/bytealg.IndexString"], unfollowed := true, recurses := true, named := ["internal/bytealg.MaxLen"], apart := false }
def FnPullOnSaid : Prop := fnPullOnRow.holds Tryz.pinned (OpenSpec.ofChange fnPullOnSpec)

/-- ITS FALSE NEIGHBOUR: 'it returns false'. Refute it at one input. -/
def fnPullOnWrong : ChangeSpec := { name := "fnPullOn", fn := fun _ => fun
  | [d] => { results := [.lit (.bool false)], args := [d] }
  | _ => none }
def FnPullOnWrongFalsely : Prop := fnPullOnRow.holds Tryz.pinned (OpenSpec.ofChange fnPullOnWrong)

/-- 'laws.FnPeek': WHATEVER THE INPUT: true; the input reads as it did. -/
def fnPeekSpec : ChangeSpec := { name := "fnPeek", fn := fun _ => fun
  | [d] => { results := [.lit (.bool true)], args := [d] }
  | _ => none }
def fnPeekRow : OpenClaim := { program := "ytdboaoejlkkoeaagreat", sum := "d4e0a50fca2c4ab275eca12d0a65a506e387855f1651b3d71f05154f06e821d2", func := "loop.example/g00098/laws.FnPeek", spec := "fnPeek", inPlace := ["internal/bytealg.IndexByteString", "internal/bytealg.IndexString"], unfollowed := true, recurses := true, named := ["internal/bytealg.MaxLen"], apart := false }
def FnPeekSaid : Prop := fnPeekRow.holds Tryz.pinned (OpenSpec.ofChange fnPeekSpec)

/-- ITS FALSE NEIGHBOUR: 'it returns false'. Refute it at one input. -/
def fnPeekWrong : ChangeSpec := { name := "fnPeek", fn := fun _ => fun
  | [d] => { results := [.lit (.bool false)], args := [d] }
  | _ => none }
def FnPeekWrongFalsely : Prop := fnPeekRow.holds Tryz.pinned (OpenSpec.ofChange fnPeekWrong)

/-- 'laws.FnKept': WHATEVER THE INPUT: true; the input reads as it did. -/
def fnKeptSpec : ChangeSpec := { name := "fnKept", fn := fun _ => fun
  | [d] => { results := [.lit (.bool true)], args := [d] }
  | _ => none }
def fnKeptRow : OpenClaim := { program := "ytdboaoejlkkoeaagreat", sum := "d4e0a50fca2c4ab275eca12d0a65a506e387855f1651b3d71f05154f06e821d2", func := "loop.example/g00098/laws.FnKept", spec := "fnKept", inPlace := ["internal/bytealg.IndexByteString", "internal/bytealg.IndexString"], unfollowed := true, recurses := true, named := ["internal/bytealg.MaxLen"], apart := false }
def FnKeptSaid : Prop := fnKeptRow.holds Tryz.pinned (OpenSpec.ofChange fnKeptSpec)

/-- ITS FALSE NEIGHBOUR: 'it returns false'. Refute it at one input. -/
def fnKeptWrong : ChangeSpec := { name := "fnKept", fn := fun _ => fun
  | [d] => { results := [.lit (.bool false)], args := [d] }
  | _ => none }
def FnKeptWrongFalsely : Prop := fnKeptRow.holds Tryz.pinned (OpenSpec.ofChange fnKeptWrong)

/-- 'laws.FnSkip': WHATEVER THE INPUT: true; the input reads as it did. -/
def fnSkipSpec : ChangeSpec := { name := "fnSkip", fn := fun _ => fun
  | [d] => { results := [.lit (.bool true)], args := [d] }
  | _ => none }
def fnSkipRow : OpenClaim := { program := "ytdboaoejlkkoeaagreat", sum := "d4e0a50fca2c4ab275eca12d0a65a506e387855f1651b3d71f05154f06e821d2", func := "loop.example/g00098/laws.FnSkip", spec := "fnSkip", inPlace := ["internal/bytealg.IndexByteString", "internal/bytealg.IndexString"], unfollowed := true, recurses := true, named := ["internal/bytealg.MaxLen"], apart := false }
def FnSkipSaid : Prop := fnSkipRow.holds Tryz.pinned (OpenSpec.ofChange fnSkipSpec)

/-- ITS FALSE NEIGHBOUR: 'it returns false'. Refute it at one input. -/
def fnSkipWrong : ChangeSpec := { name := "fnSkip", fn := fun _ => fun
  | [d] => { results := [.lit (.bool false)], args := [d] }
  | _ => none }
def FnSkipWrongFalsely : Prop := fnSkipRow.holds Tryz.pinned (OpenSpec.ofChange fnSkipWrong)

/-- 'laws.FnExactSend': WHATEVER THE INPUT: true; the input reads as it did. -/
def fnExactSendSpec : ChangeSpec := { name := "fnExactSend", fn := fun _ => fun
  | [d1, d2] => { results := [.lit (.bool true)], args := [d1, d2] }
  | _ => none }
def fnExactSendRow : OpenClaim := { program := "ytdboaoejlkkoeaagreat", sum := "d4e0a50fca2c4ab275eca12d0a65a506e387855f1651b3d71f05154f06e821d2", func := "loop.example/g00098/laws.FnExactSend", spec := "fnExactSend", inPlace := ["internal/bytealg.IndexByteString", "internal/bytealg.IndexString"], unfollowed := true, recurses := true, named := ["internal/bytealg.MaxLen"], apart := false }
def FnExactSendSaid : Prop := fnExactSendRow.holds Tryz.pinned (OpenSpec.ofChange fnExactSendSpec)

/-- ITS FALSE NEIGHBOUR: 'it returns false'. Refute it at one input. -/
def fnExactSendWrong : ChangeSpec := { name := "fnExactSend", fn := fun _ => fun
  | [d1, d2] => { results := [.lit (.bool false)], args := [d1, d2] }
  | _ => none }
def FnExactSendWrongFalsely : Prop := fnExactSendRow.holds Tryz.pinned (OpenSpec.ofChange fnExactSendWrong)

/-- 'laws.FnExactSubscribe': WHATEVER THE INPUT: true; the input reads as it did. -/
def fnExactSubscribeSpec : ChangeSpec := { name := "fnExactSubscribe", fn := fun _ => fun
  | [d1, d2, d3] => { results := [.lit (.bool true)], args := [d1, d2, d3] }
  | _ => none }
def fnExactSubscribeRow : OpenClaim := { program := "ytdboaoejlkkoeaagreat", sum := "d4e0a50fca2c4ab275eca12d0a65a506e387855f1651b3d71f05154f06e821d2", func := "loop.example/g00098/laws.FnExactSubscribe", spec := "fnExactSubscribe", inPlace := ["internal/bytealg.IndexByteString", "internal/bytealg.IndexString"], unfollowed := true, recurses := true, named := ["internal/bytealg.MaxLen"], apart := false }
def FnExactSubscribeSaid : Prop := fnExactSubscribeRow.holds Tryz.pinned (OpenSpec.ofChange fnExactSubscribeSpec)

/-- ITS FALSE NEIGHBOUR: 'it returns false'. Refute it at one input. -/
def fnExactSubscribeWrong : ChangeSpec := { name := "fnExactSubscribe", fn := fun _ => fun
  | [d1, d2, d3] => { results := [.lit (.bool false)], args := [d1, d2, d3] }
  | _ => none }
def FnExactSubscribeWrongFalsely : Prop := fnExactSubscribeRow.holds Tryz.pinned (OpenSpec.ofChange fnExactSubscribeWrong)

/-- 'laws.FnExactUnsubscribe': WHATEVER THE INPUT: true; the input reads as it did. -/
def fnExactUnsubscribeSpec : ChangeSpec := { name := "fnExactUnsubscribe", fn := fun _ => fun
  | [d1, d2] => { results := [.lit (.bool true)], args := [d1, d2] }
  | _ => none }
def fnExactUnsubscribeRow : OpenClaim := { program := "ytdboaoejlkkoeaagreat", sum := "d4e0a50fca2c4ab275eca12d0a65a506e387855f1651b3d71f05154f06e821d2", func := "loop.example/g00098/laws.FnExactUnsubscribe", spec := "fnExactUnsubscribe", inPlace := ["internal/bytealg.IndexByteString", "internal/bytealg.IndexString"], unfollowed := true, recurses := true, named := ["internal/bytealg.MaxLen"], apart := false }
def FnExactUnsubscribeSaid : Prop := fnExactUnsubscribeRow.holds Tryz.pinned (OpenSpec.ofChange fnExactUnsubscribeSpec)

/-- ITS FALSE NEIGHBOUR: 'it returns false'. Refute it at one input. -/
def fnExactUnsubscribeWrong : ChangeSpec := { name := "fnExactUnsubscribe", fn := fun _ => fun
  | [d1, d2] => { results := [.lit (.bool false)], args := [d1, d2] }
  | _ => none }
def FnExactUnsubscribeWrongFalsely : Prop := fnExactUnsubscribeRow.holds Tryz.pinned (OpenSpec.ofChange fnExactUnsubscribeWrong)

/-- 'laws.FnExactReceive': WHATEVER THE INPUT: true; the input reads as it did. -/
def fnExactReceiveSpec : ChangeSpec := { name := "fnExactReceive", fn := fun _ => fun
  | [d1, d2] => { results := [.lit (.bool true)], args := [d1, d2] }
  | _ => none }
def fnExactReceiveRow : OpenClaim := { program := "ytdboaoejlkkoeaagreat", sum := "d4e0a50fca2c4ab275eca12d0a65a506e387855f1651b3d71f05154f06e821d2", func := "loop.example/g00098/laws.FnExactReceive", spec := "fnExactReceive", inPlace := ["internal/bytealg.IndexByteString", "internal/bytealg.IndexString"], unfollowed := true, recurses := true, named := ["internal/bytealg.MaxLen"], apart := false }
def FnExactReceiveSaid : Prop := fnExactReceiveRow.holds Tryz.pinned (OpenSpec.ofChange fnExactReceiveSpec)

/-- ITS FALSE NEIGHBOUR: 'it returns false'. Refute it at one input. -/
def fnExactReceiveWrong : ChangeSpec := { name := "fnExactReceive", fn := fun _ => fun
  | [d1, d2] => { results := [.lit (.bool false)], args := [d1, d2] }
  | _ => none }
def FnExactReceiveWrongFalsely : Prop := fnExactReceiveRow.holds Tryz.pinned (OpenSpec.ofChange fnExactReceiveWrong)

/-- 'laws.FnExactProceed': WHATEVER THE INPUT: true; the input reads as it did. -/
def fnExactProceedSpec : ChangeSpec := { name := "fnExactProceed", fn := fun _ => fun
  | [d1, d2] => { results := [.lit (.bool true)], args := [d1, d2] }
  | _ => none }
def fnExactProceedRow : OpenClaim := { program := "ytdboaoejlkkoeaagreat", sum := "d4e0a50fca2c4ab275eca12d0a65a506e387855f1651b3d71f05154f06e821d2", func := "loop.example/g00098/laws.FnExactProceed", spec := "fnExactProceed", inPlace := ["internal/bytealg.IndexByteString", "internal/bytealg.IndexString"], unfollowed := true, recurses := true, named := ["internal/bytealg.MaxLen"], apart := false }
def FnExactProceedSaid : Prop := fnExactProceedRow.holds Tryz.pinned (OpenSpec.ofChange fnExactProceedSpec)

/-- ITS FALSE NEIGHBOUR: 'it returns false'. Refute it at one input. -/
def fnExactProceedWrong : ChangeSpec := { name := "fnExactProceed", fn := fun _ => fun
  | [d1, d2] => { results := [.lit (.bool false)], args := [d1, d2] }
  | _ => none }
def FnExactProceedWrongFalsely : Prop := fnExactProceedRow.holds Tryz.pinned (OpenSpec.ofChange fnExactProceedWrong)

/-- 'laws.FnExactUnwait': WHATEVER THE INPUT: true; the input reads as it did. -/
def fnExactUnwaitSpec : ChangeSpec := { name := "fnExactUnwait", fn := fun _ => fun
  | [d1, d2] => { results := [.lit (.bool true)], args := [d1, d2] }
  | _ => none }
def fnExactUnwaitRow : OpenClaim := { program := "ytdboaoejlkkoeaagreat", sum := "d4e0a50fca2c4ab275eca12d0a65a506e387855f1651b3d71f05154f06e821d2", func := "loop.example/g00098/laws.FnExactUnwait", spec := "fnExactUnwait", inPlace := ["internal/bytealg.IndexByteString", "internal/bytealg.IndexString"], unfollowed := true, recurses := true, named := ["internal/bytealg.MaxLen"], apart := false }
def FnExactUnwaitSaid : Prop := fnExactUnwaitRow.holds Tryz.pinned (OpenSpec.ofChange fnExactUnwaitSpec)

/-- ITS FALSE NEIGHBOUR: 'it returns false'. Refute it at one input. -/
def fnExactUnwaitWrong : ChangeSpec := { name := "fnExactUnwait", fn := fun _ => fun
  | [d1, d2] => { results := [.lit (.bool false)], args := [d1, d2] }
  | _ => none }
def FnExactUnwaitWrongFalsely : Prop := fnExactUnwaitRow.holds Tryz.pinned (OpenSpec.ofChange fnExactUnwaitWrong)

/-- 'laws.FnExactCloseRing': WHATEVER THE INPUT: true; the input reads as it did. -/
def fnExactCloseRingSpec : ChangeSpec := { name := "fnExactCloseRing", fn := fun _ => fun
  | [d] => { results := [.lit (.bool true)], args := [d] }
  | _ => none }
def fnExactCloseRingRow : OpenClaim := { program := "ytdboaoejlkkoeaagreat", sum := "d4e0a50fca2c4ab275eca12d0a65a506e387855f1651b3d71f05154f06e821d2", func := "loop.example/g00098/laws.FnExactCloseRing", spec := "fnExactCloseRing", inPlace := ["internal/bytealg.IndexByteString", "internal/bytealg.IndexString"], unfollowed := true, recurses := true, named := ["internal/bytealg.MaxLen"], apart := false }
def FnExactCloseRingSaid : Prop := fnExactCloseRingRow.holds Tryz.pinned (OpenSpec.ofChange fnExactCloseRingSpec)

/-- ITS FALSE NEIGHBOUR: 'it returns false'. Refute it at one input. -/
def fnExactCloseRingWrong : ChangeSpec := { name := "fnExactCloseRing", fn := fun _ => fun
  | [d] => { results := [.lit (.bool false)], args := [d] }
  | _ => none }
def FnExactCloseRingWrongFalsely : Prop := fnExactCloseRingRow.holds Tryz.pinned (OpenSpec.ofChange fnExactCloseRingWrong)

/-- 'laws.FnExactPull': WHATEVER THE INPUT: true; the input reads as it did. -/
def fnExactPullSpec : ChangeSpec := { name := "fnExactPull", fn := fun _ => fun
  | [d1, d2, d3] => { results := [.lit (.bool true)], args := [d1, d2, d3] }
  | _ => none }
def fnExactPullRow : OpenClaim := { program := "ytdboaoejlkkoeaagreat", sum := "d4e0a50fca2c4ab275eca12d0a65a506e387855f1651b3d71f05154f06e821d2", func := "loop.example/g00098/laws.FnExactPull", spec := "fnExactPull", inPlace := ["internal/bytealg.IndexByteString", "internal/bytealg.IndexString"], unfollowed := true, recurses := true, named := ["internal/bytealg.MaxLen"], apart := false }
def FnExactPullSaid : Prop := fnExactPullRow.holds Tryz.pinned (OpenSpec.ofChange fnExactPullSpec)

/-- ITS FALSE NEIGHBOUR: 'it returns false'. Refute it at one input. -/
def fnExactPullWrong : ChangeSpec := { name := "fnExactPull", fn := fun _ => fun
  | [d1, d2, d3] => { results := [.lit (.bool false)], args := [d1, d2, d3] }
  | _ => none }
def FnExactPullWrongFalsely : Prop := fnExactPullRow.holds Tryz.pinned (OpenSpec.ofChange fnExactPullWrong)

/-- 'laws.FnExactPeek': WHATEVER THE INPUT: true; the input reads as it did. -/
def fnExactPeekSpec : ChangeSpec := { name := "fnExactPeek", fn := fun _ => fun
  | [d1, d2] => { results := [.lit (.bool true)], args := [d1, d2] }
  | _ => none }
def fnExactPeekRow : OpenClaim := { program := "ytdboaoejlkkoeaagreat", sum := "d4e0a50fca2c4ab275eca12d0a65a506e387855f1651b3d71f05154f06e821d2", func := "loop.example/g00098/laws.FnExactPeek", spec := "fnExactPeek", inPlace := ["internal/bytealg.IndexByteString", "internal/bytealg.IndexString"], unfollowed := true, recurses := true, named := ["internal/bytealg.MaxLen"], apart := false }
def FnExactPeekSaid : Prop := fnExactPeekRow.holds Tryz.pinned (OpenSpec.ofChange fnExactPeekSpec)

/-- ITS FALSE NEIGHBOUR: 'it returns false'. Refute it at one input. -/
def fnExactPeekWrong : ChangeSpec := { name := "fnExactPeek", fn := fun _ => fun
  | [d1, d2] => { results := [.lit (.bool false)], args := [d1, d2] }
  | _ => none }
def FnExactPeekWrongFalsely : Prop := fnExactPeekRow.holds Tryz.pinned (OpenSpec.ofChange fnExactPeekWrong)

/-- 'laws.FnExactSkipTo': WHATEVER THE INPUT: true; the input reads as it did. -/
def fnExactSkipToSpec : ChangeSpec := { name := "fnExactSkipTo", fn := fun _ => fun
  | [d1, d2, d3] => { results := [.lit (.bool true)], args := [d1, d2, d3] }
  | _ => none }
def fnExactSkipToRow : OpenClaim := { program := "ytdboaoejlkkoeaagreat", sum := "d4e0a50fca2c4ab275eca12d0a65a506e387855f1651b3d71f05154f06e821d2", func := "loop.example/g00098/laws.FnExactSkipTo", spec := "fnExactSkipTo", inPlace := ["internal/bytealg.IndexByteString", "internal/bytealg.IndexString"], unfollowed := true, recurses := true, named := ["internal/bytealg.MaxLen"], apart := false }
def FnExactSkipToSaid : Prop := fnExactSkipToRow.holds Tryz.pinned (OpenSpec.ofChange fnExactSkipToSpec)

/-- ITS FALSE NEIGHBOUR: 'it returns false'. Refute it at one input. -/
def fnExactSkipToWrong : ChangeSpec := { name := "fnExactSkipTo", fn := fun _ => fun
  | [d1, d2, d3] => { results := [.lit (.bool false)], args := [d1, d2, d3] }
  | _ => none }
def FnExactSkipToWrongFalsely : Prop := fnExactSkipToRow.holds Tryz.pinned (OpenSpec.ofChange fnExactSkipToWrong)

/- THE SECOND FORM. 'bulk': how many values and letters a reading holds, each counted each time it is reached (what is shared counts as often as it is met; a slice's spare places count too). A statement '..UptoSaid' is the law's where the arguments, and the package variables that the reading takes, are together of bulk at most 1048576: NARROWER than '..Said'. Prove '..Said' where nothing that the law and all that it calls make is longer than what came in: it says more and counts as full. Else prove '..UptoSaid'. A law counts once. -/
mutual
def uptoBulk {H : Type} : DataW H → Nat
  | .lit (.string bytes) => bytes.length + 1
  | .lit _ => 1
  | .nil => 1
  | .ptr d => uptoBulk d + 1
  | .slice elems spare => uptoBulkAll elems + uptoBulkAll spare + 1
  | .agg parts => uptoBulkAll parts + 1
  | .iface _ d => uptoBulk d + 1
  | .map entries => uptoBulkEntries entries + 1
  | .held _ => 1
def uptoBulkAll {H : Type} : List (DataW H) → Nat
  | [] => 0
  | d :: r => uptoBulk d + uptoBulkAll r
def uptoBulkEntries {H : Type} : List (Lit × DataW H) → Nat
  | [] => 0
  | x :: r => uptoBulkEntry x + uptoBulkEntries r
def uptoBulkEntry {H : Type} : Lit × DataW H → Nat
  | (.string bytes, d) => bytes.length + uptoBulk d + 1
  | (_, d) => uptoBulk d + 1
 end
def uptoSmall : (H : Type) → List (DataW H) → Bool := fun _ ds => decide (uptoBulkAll ds ≤ 1048576)
def OpenSpec.upto (s : _root_.Go.ChangeSpec) : _root_.Go.OpenSpec := { _root_.Go.OpenSpec.ofChange s with cond := some uptoSmall }

/-- 'laws.FnNeverBlocks', WHERE WHAT IT READS IS OF BULK AT MOST 1048576: true; the input reads as it did. -/
def fnNeverBlocksUptoRow : OpenClaim := { program := "ytdboaoejlkkoeaagreat", sum := "d4e0a50fca2c4ab275eca12d0a65a506e387855f1651b3d71f05154f06e821d2", func := "loop.example/g00098/laws.FnNeverBlocks", spec := "fnNeverBlocks", inPlace := ["internal/bytealg.IndexByteString", "internal/bytealg.IndexString"], unfollowed := true, recurses := true, named := ["internal/bytealg.MaxLen"], apart := false, narrowed := true }
def FnNeverBlocksUptoSaid : Prop := fnNeverBlocksUptoRow.holds Tryz.pinned (OpenSpec.upto fnNeverBlocksSpec)

/-- 'laws.FnPullOn', WHERE WHAT IT READS IS OF BULK AT MOST 1048576: true; the input reads as it did. -/
def fnPullOnUptoRow : OpenClaim := { program := "ytdboaoejlkkoeaagreat", sum := "d4e0a50fca2c4ab275eca12d0a65a506e387855f1651b3d71f05154f06e821d2", func := "loop.example/g00098/laws.FnPullOn", spec := "fnPullOn", inPlace := ["internal/bytealg.IndexByteString", "internal/bytealg.IndexString"], unfollowed := true, recurses := true, named := ["internal/bytealg.MaxLen"], apart := false, narrowed := true }
def FnPullOnUptoSaid : Prop := fnPullOnUptoRow.holds Tryz.pinned (OpenSpec.upto fnPullOnSpec)

/-- 'laws.FnPeek', WHERE WHAT IT READS IS OF BULK AT MOST 1048576: true; the input reads as it did. -/
def fnPeekUptoRow : OpenClaim := { program := "ytdboaoejlkkoeaagreat", sum := "d4e0a50fca2c4ab275eca12d0a65a506e387855f1651b3d71f05154f06e821d2", func := "loop.example/g00098/laws.FnPeek", spec := "fnPeek", inPlace := ["internal/bytealg.IndexByteString", "internal/bytealg.IndexString"], unfollowed := true, recurses := true, named := ["internal/bytealg.MaxLen"], apart := false, narrowed := true }
def FnPeekUptoSaid : Prop := fnPeekUptoRow.holds Tryz.pinned (OpenSpec.upto fnPeekSpec)

/-- 'laws.FnKept', WHERE WHAT IT READS IS OF BULK AT MOST 1048576: true; the input reads as it did. -/
def fnKeptUptoRow : OpenClaim := { program := "ytdboaoejlkkoeaagreat", sum := "d4e0a50fca2c4ab275eca12d0a65a506e387855f1651b3d71f05154f06e821d2", func := "loop.example/g00098/laws.FnKept", spec := "fnKept", inPlace := ["internal/bytealg.IndexByteString", "internal/bytealg.IndexString"], unfollowed := true, recurses := true, named := ["internal/bytealg.MaxLen"], apart := false, narrowed := true }
def FnKeptUptoSaid : Prop := fnKeptUptoRow.holds Tryz.pinned (OpenSpec.upto fnKeptSpec)

/-- 'laws.FnSkip', WHERE WHAT IT READS IS OF BULK AT MOST 1048576: true; the input reads as it did. -/
def fnSkipUptoRow : OpenClaim := { program := "ytdboaoejlkkoeaagreat", sum := "d4e0a50fca2c4ab275eca12d0a65a506e387855f1651b3d71f05154f06e821d2", func := "loop.example/g00098/laws.FnSkip", spec := "fnSkip", inPlace := ["internal/bytealg.IndexByteString", "internal/bytealg.IndexString"], unfollowed := true, recurses := true, named := ["internal/bytealg.MaxLen"], apart := false, narrowed := true }
def FnSkipUptoSaid : Prop := fnSkipUptoRow.holds Tryz.pinned (OpenSpec.upto fnSkipSpec)

/-- 'laws.FnExactSend', WHERE WHAT IT READS IS OF BULK AT MOST 1048576: true; the input reads as it did. -/
def fnExactSendUptoRow : OpenClaim := { program := "ytdboaoejlkkoeaagreat", sum := "d4e0a50fca2c4ab275eca12d0a65a506e387855f1651b3d71f05154f06e821d2", func := "loop.example/g00098/laws.FnExactSend", spec := "fnExactSend", inPlace := ["internal/bytealg.IndexByteString", "internal/bytealg.IndexString"], unfollowed := true, recurses := true, named := ["internal/bytealg.MaxLen"], apart := false, narrowed := true }
def FnExactSendUptoSaid : Prop := fnExactSendUptoRow.holds Tryz.pinned (OpenSpec.upto fnExactSendSpec)

/-- 'laws.FnExactSubscribe', WHERE WHAT IT READS IS OF BULK AT MOST 1048576: true; the input reads as it did. -/
def fnExactSubscribeUptoRow : OpenClaim := { program := "ytdboaoejlkkoeaagreat", sum := "d4e0a50fca2c4ab275eca12d0a65a506e387855f1651b3d71f05154f06e821d2", func := "loop.example/g00098/laws.FnExactSubscribe", spec := "fnExactSubscribe", inPlace := ["internal/bytealg.IndexByteString", "internal/bytealg.IndexString"], unfollowed := true, recurses := true, named := ["internal/bytealg.MaxLen"], apart := false, narrowed := true }
def FnExactSubscribeUptoSaid : Prop := fnExactSubscribeUptoRow.holds Tryz.pinned (OpenSpec.upto fnExactSubscribeSpec)

/-- 'laws.FnExactUnsubscribe', WHERE WHAT IT READS IS OF BULK AT MOST 1048576: true; the input reads as it did. -/
def fnExactUnsubscribeUptoRow : OpenClaim := { program := "ytdboaoejlkkoeaagreat", sum := "d4e0a50fca2c4ab275eca12d0a65a506e387855f1651b3d71f05154f06e821d2", func := "loop.example/g00098/laws.FnExactUnsubscribe", spec := "fnExactUnsubscribe", inPlace := ["internal/bytealg.IndexByteString", "internal/bytealg.IndexString"], unfollowed := true, recurses := true, named := ["internal/bytealg.MaxLen"], apart := false, narrowed := true }
def FnExactUnsubscribeUptoSaid : Prop := fnExactUnsubscribeUptoRow.holds Tryz.pinned (OpenSpec.upto fnExactUnsubscribeSpec)

/-- 'laws.FnExactReceive', WHERE WHAT IT READS IS OF BULK AT MOST 1048576: true; the input reads as it did. -/
def fnExactReceiveUptoRow : OpenClaim := { program := "ytdboaoejlkkoeaagreat", sum := "d4e0a50fca2c4ab275eca12d0a65a506e387855f1651b3d71f05154f06e821d2", func := "loop.example/g00098/laws.FnExactReceive", spec := "fnExactReceive", inPlace := ["internal/bytealg.IndexByteString", "internal/bytealg.IndexString"], unfollowed := true, recurses := true, named := ["internal/bytealg.MaxLen"], apart := false, narrowed := true }
def FnExactReceiveUptoSaid : Prop := fnExactReceiveUptoRow.holds Tryz.pinned (OpenSpec.upto fnExactReceiveSpec)

/-- 'laws.FnExactProceed', WHERE WHAT IT READS IS OF BULK AT MOST 1048576: true; the input reads as it did. -/
def fnExactProceedUptoRow : OpenClaim := { program := "ytdboaoejlkkoeaagreat", sum := "d4e0a50fca2c4ab275eca12d0a65a506e387855f1651b3d71f05154f06e821d2", func := "loop.example/g00098/laws.FnExactProceed", spec := "fnExactProceed", inPlace := ["internal/bytealg.IndexByteString", "internal/bytealg.IndexString"], unfollowed := true, recurses := true, named := ["internal/bytealg.MaxLen"], apart := false, narrowed := true }
def FnExactProceedUptoSaid : Prop := fnExactProceedUptoRow.holds Tryz.pinned (OpenSpec.upto fnExactProceedSpec)

/-- 'laws.FnExactUnwait', WHERE WHAT IT READS IS OF BULK AT MOST 1048576: true; the input reads as it did. -/
def fnExactUnwaitUptoRow : OpenClaim := { program := "ytdboaoejlkkoeaagreat", sum := "d4e0a50fca2c4ab275eca12d0a65a506e387855f1651b3d71f05154f06e821d2", func := "loop.example/g00098/laws.FnExactUnwait", spec := "fnExactUnwait", inPlace := ["internal/bytealg.IndexByteString", "internal/bytealg.IndexString"], unfollowed := true, recurses := true, named := ["internal/bytealg.MaxLen"], apart := false, narrowed := true }
def FnExactUnwaitUptoSaid : Prop := fnExactUnwaitUptoRow.holds Tryz.pinned (OpenSpec.upto fnExactUnwaitSpec)

/-- 'laws.FnExactCloseRing', WHERE WHAT IT READS IS OF BULK AT MOST 1048576: true; the input reads as it did. -/
def fnExactCloseRingUptoRow : OpenClaim := { program := "ytdboaoejlkkoeaagreat", sum := "d4e0a50fca2c4ab275eca12d0a65a506e387855f1651b3d71f05154f06e821d2", func := "loop.example/g00098/laws.FnExactCloseRing", spec := "fnExactCloseRing", inPlace := ["internal/bytealg.IndexByteString", "internal/bytealg.IndexString"], unfollowed := true, recurses := true, named := ["internal/bytealg.MaxLen"], apart := false, narrowed := true }
def FnExactCloseRingUptoSaid : Prop := fnExactCloseRingUptoRow.holds Tryz.pinned (OpenSpec.upto fnExactCloseRingSpec)

/-- 'laws.FnExactPull', WHERE WHAT IT READS IS OF BULK AT MOST 1048576: true; the input reads as it did. -/
def fnExactPullUptoRow : OpenClaim := { program := "ytdboaoejlkkoeaagreat", sum := "d4e0a50fca2c4ab275eca12d0a65a506e387855f1651b3d71f05154f06e821d2", func := "loop.example/g00098/laws.FnExactPull", spec := "fnExactPull", inPlace := ["internal/bytealg.IndexByteString", "internal/bytealg.IndexString"], unfollowed := true, recurses := true, named := ["internal/bytealg.MaxLen"], apart := false, narrowed := true }
def FnExactPullUptoSaid : Prop := fnExactPullUptoRow.holds Tryz.pinned (OpenSpec.upto fnExactPullSpec)

/-- 'laws.FnExactPeek', WHERE WHAT IT READS IS OF BULK AT MOST 1048576: true; the input reads as it did. -/
def fnExactPeekUptoRow : OpenClaim := { program := "ytdboaoejlkkoeaagreat", sum := "d4e0a50fca2c4ab275eca12d0a65a506e387855f1651b3d71f05154f06e821d2", func := "loop.example/g00098/laws.FnExactPeek", spec := "fnExactPeek", inPlace := ["internal/bytealg.IndexByteString", "internal/bytealg.IndexString"], unfollowed := true, recurses := true, named := ["internal/bytealg.MaxLen"], apart := false, narrowed := true }
def FnExactPeekUptoSaid : Prop := fnExactPeekUptoRow.holds Tryz.pinned (OpenSpec.upto fnExactPeekSpec)

/-- 'laws.FnExactSkipTo', WHERE WHAT IT READS IS OF BULK AT MOST 1048576: true; the input reads as it did. -/
def fnExactSkipToUptoRow : OpenClaim := { program := "ytdboaoejlkkoeaagreat", sum := "d4e0a50fca2c4ab275eca12d0a65a506e387855f1651b3d71f05154f06e821d2", func := "loop.example/g00098/laws.FnExactSkipTo", spec := "fnExactSkipTo", inPlace := ["internal/bytealg.IndexByteString", "internal/bytealg.IndexString"], unfollowed := true, recurses := true, named := ["internal/bytealg.MaxLen"], apart := false, narrowed := true }
def FnExactSkipToUptoSaid : Prop := fnExactSkipToUptoRow.holds Tryz.pinned (OpenSpec.upto fnExactSkipToSpec)

end Rows
end Go.Proofs.YtdboaoejlkkoeaaGreat
