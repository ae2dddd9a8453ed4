/-
  Walks of the specification's lines: a copy of a list.
-/
import Derived.Test.YtoffidicnboegaaDoorH4
namespace Go.Proofs.YtoffidicnboegaaDoor
open Go.RowKit Pl Il

end Go.Proofs.YtoffidicnboegaaDoor
