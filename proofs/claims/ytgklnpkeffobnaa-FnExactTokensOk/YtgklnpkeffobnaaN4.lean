/-
  The contracts of the program's TokensOk and IsOff, as the laws ask for them.
-/
import Derived.Test.YtgklnpkeffobnaaN3
import Derived.Test.YtgklnpkeffobnaaSL1
namespace Go.Proofs.Ytgklnpkeffobnaa
open Go.RowKit Pl Il
theorem implTokensOk : ImplTokensOk := fun a n c ps a' n' c' qs w hT hn hn' _ => implTokensOk_any a n c ps a' n' c' qs w hT hn hn'
theorem implIsOff : ImplIsOff := fun a n c ps a' n' c' qs x w hT hn hn' _ _ => implIsOff_any a n c ps a' n' c' qs x w hT hn hn'
end Go.Proofs.Ytgklnpkeffobnaa
