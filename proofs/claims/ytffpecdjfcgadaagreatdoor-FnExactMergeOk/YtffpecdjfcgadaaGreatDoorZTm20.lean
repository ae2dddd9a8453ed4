/-
  The specification's RingOk, as the laws ask for it.
-/
import Derived.Test.YtffpecdjfcgadaaGreatDoorZTm19
namespace Go.Proofs.YtffpecdjfcgadaaGreatDoor
open Go.RowKit Pl Il

theorem specRingOk_any : SpecRingOk (okR restR) := fun M v w hI hm _ _ => specRingOk_one M v w hI (hm.mono (by omega))
end Go.Proofs.YtffpecdjfcgadaaGreatDoor
