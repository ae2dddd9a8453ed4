/-
  What a law on a ring handed back and a list told holds on to besides.
-/
import Derived.Test.YtihdglmiecifjaaGreatZRa19
import Derived.Test.YtihdglmiecifjaaGreatZRa31
namespace Go.Proofs.YtihdglmiecifjaaGreat
open Go.RowKit Pl Il

theorem cntR_le {M : Rm} (hm : RLe M 2097152) (hl : M.xs.length = M.s) : cntR M ≤ 1000000000000000 := by
  have h := cntS_le (xs := M.xs) (K := 2097152) hm.f M.xs.length
  rw [List.take_length] at h
  have h1 : M.xs.length * (6 + 3 * 2097152) ≤ 2097152 * (6 + 3 * 2097152) := Nat.mul_le_mul (by rw [hl]; exact hm.s) (Nat.le_refl _)
  have h2 := hm.i
  have h3 := hm.l
  have h4 := hm.g
  unfold cntR
  omega
theorem eqL_selfT (xs : List Int) : eqL xs xs = true := by simp [eqL]
end Go.Proofs.YtihdglmiecifjaaGreat
