/-
  Walks of the specification's lines: a copy of a list.
-/
import Derived.Test.YtedaleonmcllkaaH4
namespace Go.Proofs.Ytedaleonmcllkaa
open Go.RowKit Pl Il

end Go.Proofs.Ytedaleonmcllkaa
