/-
  Walks of the specification's draws: any message, and two messages.
-/
import Derived.Test.YtgklnpkeffobnaaE2
namespace Go.Proofs.Ytgklnpkeffobnaa
open Go.RowKit Pl Dr

end Go.Proofs.Ytgklnpkeffobnaa
