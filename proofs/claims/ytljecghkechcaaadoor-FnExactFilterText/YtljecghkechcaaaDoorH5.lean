/-
  Walks of the specification's lines: a copy of a list.
-/
import Derived.Test.YtljecghkechcaaaDoorH4
namespace Go.Proofs.YtljecghkechcaaaDoor
open Go.RowKit Pl Il

end Go.Proofs.YtljecghkechcaaaDoor
