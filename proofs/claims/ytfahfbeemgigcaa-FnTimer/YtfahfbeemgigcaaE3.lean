/-
  Walks of the specification's draws: any message, and two messages.
-/
import Derived.Test.YtfahfbeemgigcaaE2
namespace Go.Proofs.Ytfahfbeemgigcaa
open Go.RowKit Pl Dr

end Go.Proofs.Ytfahfbeemgigcaa
