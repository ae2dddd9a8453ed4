/-
  Walks of the specification's draws: any message, and two messages.
-/
import Derived.Test.YtlodnmbkicmjfaaE2
namespace Go.Proofs.Ytlodnmbkicmjfaa
open Go.RowKit Pl Dr

end Go.Proofs.Ytlodnmbkicmjfaa
