/-
  No cell of these rows narrows 'for every input' (looked for: loops, veiled, ifaces, maps, wideKeys, modest, calm, conditions, laid).
  DERIVED. THE GIVEN ROWS OF THIS SEAT. 6 by the template 'for every input the law returns true; each argument reads behind the call as it read before'; 0 by the template 'total and deterministic' (their statements: YtgklnpkeffobnaaTotals.lean).
  GIVEN WITH THE SEED: the statements are not yours to turn. If you find one false, say at which input.
  Laid BY PROGRAM, IN A SANDBOX (cutbox-rows.mjs): the forced cells as the released guide's own fill.sh prints them over the translation 9b885dba0200c6a5… (all of the seat's roots in one cut). By AI agents, Wed Nov 11 2026. No macro, syntax, notation, axiom, sorry.
-/
import Derived.Test.YtgklnpkeffobnaaChecked
import GoSem.Claim
import GoSem.ClaimJoined
import GoSem.ClaimMapViews
import Derived.JoinedTies
import Derived.KernelRfl
namespace Go.Proofs.Ytgklnpkeffobnaa
/- THE CELL 'sum', in the pinned program and in every row, IS THE sha256 OF THE DUMP (.gsa) THAT YtgklnpkeffobnaaProg.lean LOADS. Nothing in Lean hashes anything: it is a label: what it is worth is what the hold of that sum in a sandbox is worth. -/
noncomputable def Try.pinned : Pinned := { name := "ytgklnpkeffobnaa", sum := "9b885dba0200c6a5e148c2abbea8531d6161c2c9354555da00df3adfad30810f", checked := Try.checked }
namespace Rows
def none {H : Type} : Left H := { results := [], args := [] }

/-- 'laws.FnOff': WHATEVER THE INPUT: true; the input reads as it did. -/
def fnOffSpec : ChangeSpec := { name := "fnOff", fn := fun _ => fun
  | [d] => { results := [.lit (.bool true)], args := [d] }
  | _ => none }
def fnOffRow : OpenClaim := { program := "ytgklnpkeffobnaa", sum := "9b885dba0200c6a5e148c2abbea8531d6161c2c9354555da00df3adfad30810f", func := "loop.example/g00098/laws.FnOff", spec := "fnOff", unfollowed := true, recurses := true, apart := false }
def FnOffSaid : Prop := fnOffRow.holds Try.pinned (OpenSpec.ofChange fnOffSpec)

/-- ITS FALSE NEIGHBOUR: 'it returns false'. Refute it at one input. -/
def fnOffWrong : ChangeSpec := { name := "fnOff", fn := fun _ => fun
  | [d] => { results := [.lit (.bool false)], args := [d] }
  | _ => none }
def FnOffWrongFalsely : Prop := fnOffRow.holds Try.pinned (OpenSpec.ofChange fnOffWrong)

/-- 'laws.FnExactTokensOk': WHATEVER THE INPUT: true; the input reads as it did. -/
def fnExactTokensOkSpec : ChangeSpec := { name := "fnExactTokensOk", fn := fun _ => fun
  | [d] => { results := [.lit (.bool true)], args := [d] }
  | _ => none }
def fnExactTokensOkRow : OpenClaim := { program := "ytgklnpkeffobnaa", sum := "9b885dba0200c6a5e148c2abbea8531d6161c2c9354555da00df3adfad30810f", func := "loop.example/g00098/laws.FnExactTokensOk", spec := "fnExactTokensOk", apart := false }
def FnExactTokensOkSaid : Prop := fnExactTokensOkRow.holds Try.pinned (OpenSpec.ofChange fnExactTokensOkSpec)

/-- ITS FALSE NEIGHBOUR: 'it returns false'. Refute it at one input. -/
def fnExactTokensOkWrong : ChangeSpec := { name := "fnExactTokensOk", fn := fun _ => fun
  | [d] => { results := [.lit (.bool false)], args := [d] }
  | _ => none }
def FnExactTokensOkWrongFalsely : Prop := fnExactTokensOkRow.holds Try.pinned (OpenSpec.ofChange fnExactTokensOkWrong)

/-- 'laws.FnExactNewToken': WHATEVER THE INPUT: true; the input reads as it did. -/
def fnExactNewTokenSpec : ChangeSpec := { name := "fnExactNewToken", fn := fun _ => fun
  | [d1, d2] => { results := [.lit (.bool true)], args := [d1, d2] }
  | _ => none }
def fnExactNewTokenRow : OpenClaim := { program := "ytgklnpkeffobnaa", sum := "9b885dba0200c6a5e148c2abbea8531d6161c2c9354555da00df3adfad30810f", func := "loop.example/g00098/laws.FnExactNewToken", spec := "fnExactNewToken", apart := false }
def FnExactNewTokenSaid : Prop := fnExactNewTokenRow.holds Try.pinned (OpenSpec.ofChange fnExactNewTokenSpec)

/-- ITS FALSE NEIGHBOUR: 'it returns false'. Refute it at one input. -/
def fnExactNewTokenWrong : ChangeSpec := { name := "fnExactNewToken", fn := fun _ => fun
  | [d1, d2] => { results := [.lit (.bool false)], args := [d1, d2] }
  | _ => none }
def FnExactNewTokenWrongFalsely : Prop := fnExactNewTokenRow.holds Try.pinned (OpenSpec.ofChange fnExactNewTokenWrong)

/-- 'laws.FnExactCancel': WHATEVER THE INPUT: true; the input reads as it did. -/
def fnExactCancelSpec : ChangeSpec := { name := "fnExactCancel", fn := fun _ => fun
  | [d1, d2] => { results := [.lit (.bool true)], args := [d1, d2] }
  | _ => none }
def fnExactCancelRow : OpenClaim := { program := "ytgklnpkeffobnaa", sum := "9b885dba0200c6a5e148c2abbea8531d6161c2c9354555da00df3adfad30810f", func := "loop.example/g00098/laws.FnExactCancel", spec := "fnExactCancel", unfollowed := true, recurses := true, apart := false }
def FnExactCancelSaid : Prop := fnExactCancelRow.holds Try.pinned (OpenSpec.ofChange fnExactCancelSpec)

/-- ITS FALSE NEIGHBOUR: 'it returns false'. Refute it at one input. -/
def fnExactCancelWrong : ChangeSpec := { name := "fnExactCancel", fn := fun _ => fun
  | [d1, d2] => { results := [.lit (.bool false)], args := [d1, d2] }
  | _ => none }
def FnExactCancelWrongFalsely : Prop := fnExactCancelRow.holds Try.pinned (OpenSpec.ofChange fnExactCancelWrong)

/-- 'laws.FnExactIsOff': WHATEVER THE INPUT: true; the input reads as it did. -/
def fnExactIsOffSpec : ChangeSpec := { name := "fnExactIsOff", fn := fun _ => fun
  | [d1, d2] => { results := [.lit (.bool true)], args := [d1, d2] }
  | _ => none }
def fnExactIsOffRow : OpenClaim := { program := "ytgklnpkeffobnaa", sum := "9b885dba0200c6a5e148c2abbea8531d6161c2c9354555da00df3adfad30810f", func := "loop.example/g00098/laws.FnExactIsOff", spec := "fnExactIsOff", apart := false }
def FnExactIsOffSaid : Prop := fnExactIsOffRow.holds Try.pinned (OpenSpec.ofChange fnExactIsOffSpec)

/-- ITS FALSE NEIGHBOUR: 'it returns false'. Refute it at one input. -/
def fnExactIsOffWrong : ChangeSpec := { name := "fnExactIsOff", fn := fun _ => fun
  | [d1, d2] => { results := [.lit (.bool false)], args := [d1, d2] }
  | _ => none }
def FnExactIsOffWrongFalsely : Prop := fnExactIsOffRow.holds Try.pinned (OpenSpec.ofChange fnExactIsOffWrong)

/-- 'laws.FnExactUnder': WHATEVER THE INPUT: true; the input reads as it did. -/
def fnExactUnderSpec : ChangeSpec := { name := "fnExactUnder", fn := fun _ => fun
  | [d1, d2] => { results := [.lit (.bool true)], args := [d1, d2] }
  | _ => none }
def fnExactUnderRow : OpenClaim := { program := "ytgklnpkeffobnaa", sum := "9b885dba0200c6a5e148c2abbea8531d6161c2c9354555da00df3adfad30810f", func := "loop.example/g00098/laws.FnExactUnder", spec := "fnExactUnder", unfollowed := true, recurses := true, apart := false }
def FnExactUnderSaid : Prop := fnExactUnderRow.holds Try.pinned (OpenSpec.ofChange fnExactUnderSpec)

/-- ITS FALSE NEIGHBOUR: 'it returns false'. Refute it at one input. -/
def fnExactUnderWrong : ChangeSpec := { name := "fnExactUnder", fn := fun _ => fun
  | [d1, d2] => { results := [.lit (.bool false)], args := [d1, d2] }
  | _ => none }
def FnExactUnderWrongFalsely : Prop := fnExactUnderRow.holds Try.pinned (OpenSpec.ofChange fnExactUnderWrong)

/- THE SECOND FORM. 'bulk': how many values and letters a reading holds, each counted each time it is reached (what is shared counts as often as it is met; a slice's spare places count too). A statement '..UptoSaid' is the law's where the arguments, and the package variables that the reading takes, are together of bulk at most 1048576: NARROWER than '..Said'. Prove '..Said' where nothing that the law and all that it calls make is longer than what came in: it says more and counts as full. Else prove '..UptoSaid'. A law counts once. -/
mutual
def uptoBulk {H : Type} : DataW H → Nat
  | .lit (.string bytes) => bytes.length + 1
  | .lit _ => 1
  | .nil => 1
  | .ptr d => uptoBulk d + 1
  | .slice elems spare => uptoBulkAll elems + uptoBulkAll spare + 1
  | .agg parts => uptoBulkAll parts + 1
  | .iface _ d => uptoBulk d + 1
  | .map entries => uptoBulkEntries entries + 1
  | .held _ => 1
def uptoBulkAll {H : Type} : List (DataW H) → Nat
  | [] => 0
  | d :: r => uptoBulk d + uptoBulkAll r
def uptoBulkEntries {H : Type} : List (Lit × DataW H) → Nat
  | [] => 0
  | x :: r => uptoBulkEntry x + uptoBulkEntries r
def uptoBulkEntry {H : Type} : Lit × DataW H → Nat
  | (.string bytes, d) => bytes.length + uptoBulk d + 1
  | (_, d) => uptoBulk d + 1
 end
def uptoSmall : (H : Type) → List (DataW H) → Bool := fun _ ds => decide (uptoBulkAll ds ≤ 1048576)
def OpenSpec.upto (s : _root_.Go.ChangeSpec) : _root_.Go.OpenSpec := { _root_.Go.OpenSpec.ofChange s with cond := some uptoSmall }

/-- 'laws.FnOff', WHERE WHAT IT READS IS OF BULK AT MOST 1048576: true; the input reads as it did. -/
def fnOffUptoRow : OpenClaim := { program := "ytgklnpkeffobnaa", sum := "9b885dba0200c6a5e148c2abbea8531d6161c2c9354555da00df3adfad30810f", func := "loop.example/g00098/laws.FnOff", spec := "fnOff", unfollowed := true, recurses := true, apart := false, narrowed := true }
def FnOffUptoSaid : Prop := fnOffUptoRow.holds Try.pinned (OpenSpec.upto fnOffSpec)

/-- 'laws.FnExactTokensOk', WHERE WHAT IT READS IS OF BULK AT MOST 1048576: true; the input reads as it did. -/
def fnExactTokensOkUptoRow : OpenClaim := { program := "ytgklnpkeffobnaa", sum := "9b885dba0200c6a5e148c2abbea8531d6161c2c9354555da00df3adfad30810f", func := "loop.example/g00098/laws.FnExactTokensOk", spec := "fnExactTokensOk", apart := false, narrowed := true }
def FnExactTokensOkUptoSaid : Prop := fnExactTokensOkUptoRow.holds Try.pinned (OpenSpec.upto fnExactTokensOkSpec)

/-- 'laws.FnExactNewToken', WHERE WHAT IT READS IS OF BULK AT MOST 1048576: true; the input reads as it did. -/
def fnExactNewTokenUptoRow : OpenClaim := { program := "ytgklnpkeffobnaa", sum := "9b885dba0200c6a5e148c2abbea8531d6161c2c9354555da00df3adfad30810f", func := "loop.example/g00098/laws.FnExactNewToken", spec := "fnExactNewToken", apart := false, narrowed := true }
def FnExactNewTokenUptoSaid : Prop := fnExactNewTokenUptoRow.holds Try.pinned (OpenSpec.upto fnExactNewTokenSpec)

/-- 'laws.FnExactCancel', WHERE WHAT IT READS IS OF BULK AT MOST 1048576: true; the input reads as it did. -/
def fnExactCancelUptoRow : OpenClaim := { program := "ytgklnpkeffobnaa", sum := "9b885dba0200c6a5e148c2abbea8531d6161c2c9354555da00df3adfad30810f", func := "loop.example/g00098/laws.FnExactCancel", spec := "fnExactCancel", unfollowed := true, recurses := true, apart := false, narrowed := true }
def FnExactCancelUptoSaid : Prop := fnExactCancelUptoRow.holds Try.pinned (OpenSpec.upto fnExactCancelSpec)

/-- 'laws.FnExactIsOff', WHERE WHAT IT READS IS OF BULK AT MOST 1048576: true; the input reads as it did. -/
def fnExactIsOffUptoRow : OpenClaim := { program := "ytgklnpkeffobnaa", sum := "9b885dba0200c6a5e148c2abbea8531d6161c2c9354555da00df3adfad30810f", func := "loop.example/g00098/laws.FnExactIsOff", spec := "fnExactIsOff", apart := false, narrowed := true }
def FnExactIsOffUptoSaid : Prop := fnExactIsOffUptoRow.holds Try.pinned (OpenSpec.upto fnExactIsOffSpec)

/-- 'laws.FnExactUnder', WHERE WHAT IT READS IS OF BULK AT MOST 1048576: true; the input reads as it did. -/
def fnExactUnderUptoRow : OpenClaim := { program := "ytgklnpkeffobnaa", sum := "9b885dba0200c6a5e148c2abbea8531d6161c2c9354555da00df3adfad30810f", func := "loop.example/g00098/laws.FnExactUnder", spec := "fnExactUnder", unfollowed := true, recurses := true, apart := false, narrowed := true }
def FnExactUnderUptoSaid : Prop := fnExactUnderUptoRow.holds Try.pinned (OpenSpec.upto fnExactUnderSpec)

end Rows
end Go.Proofs.Ytgklnpkeffobnaa
