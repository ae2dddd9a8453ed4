/-
  Walks of the specification's lines: a copy of a list.
-/
import Derived.Test.YtigmcbgcdjofjabH4
namespace Go.Proofs.Ytigmcbgcdjofjab
open Go.RowKit Pl Il

end Go.Proofs.Ytigmcbgcdjofjab
