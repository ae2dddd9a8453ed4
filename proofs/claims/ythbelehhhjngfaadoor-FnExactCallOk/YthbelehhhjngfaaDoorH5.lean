/-
  Walks of the specification's lines: a copy of a list.
-/
import Derived.Test.YthbelehhhjngfaaDoorH4
namespace Go.Proofs.YthbelehhhjngfaaDoor
open Go.RowKit Pl Il

end Go.Proofs.YthbelehhhjngfaaDoor
