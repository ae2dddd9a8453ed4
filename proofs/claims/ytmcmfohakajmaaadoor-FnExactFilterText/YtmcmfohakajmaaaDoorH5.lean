/-
  Walks of the specification's lines: a copy of a list.
-/
import Derived.Test.YtmcmfohakajmaaaDoorH4
namespace Go.Proofs.YtmcmfohakajmaaaDoor
open Go.RowKit Pl Il

end Go.Proofs.YtmcmfohakajmaaaDoor
