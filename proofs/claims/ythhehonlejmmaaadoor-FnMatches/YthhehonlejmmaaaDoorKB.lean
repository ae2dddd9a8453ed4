/-
  Walks of the laws' own helpers on lists of numbers: too long, the same, within; and of the specification's.
-/
import Derived.Test.YthhehonlejmmaaaDoorH1
namespace Go.Proofs.YthhehonlejmmaaaDoor
open Go.RowKit Pl Il

theorem big_any (a : Option Addr) (n cap : Nat) (w : World) :
    Calls Tryd.prog 7 #[.slice a n cap] w fun e w' => e = .returned (.bool (decide (1048576 < n))) ∧ w' = w := by
  go_enter Tryd.func7, Tryd.ntmps7
  go_wp2
  go_ret
  refine ⟨rbool ?_, rfl⟩
  rw [Bool.eq_iff_iff]; simp; try omega
end Go.Proofs.YthhehonlejmmaaaDoor
