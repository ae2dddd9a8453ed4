/-
  Walks of the specification's lines: a copy of a list.
-/
import Derived.Test.YtfahfbeemgigcaaH4
namespace Go.Proofs.Ytfahfbeemgigcaa
open Go.RowKit Pl Il

end Go.Proofs.Ytfahfbeemgigcaa
