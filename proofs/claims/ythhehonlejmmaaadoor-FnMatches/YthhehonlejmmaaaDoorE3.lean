/-
  Walks of the specification's draws: any message, and two messages.
-/
import Derived.Test.YthhehonlejmmaaaDoorE2
namespace Go.Proofs.YthhehonlejmmaaaDoor
open Go.RowKit Pl Dr

end Go.Proofs.YthhehonlejmmaaaDoor
