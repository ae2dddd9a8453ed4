/-
  Events: plain mathematics of stepping back.
-/
import Derived.Test.YtbhdjcggcgddfaaEM2
namespace Go.Proofs.Ytbhdjcggcgddfaa
open Go.RowKit Pl Il

def stepM (x : Et) (who : Int) : Et × List Int × Int :=
  if okE x = false then (x, [], 1) else if hasL x.ln who = true then ({ x with ln := lessL x.ln who }, [], 0) else if hasL x.gs who = false then (x, [], 3)
  else if x.au = true ∧ x.up = true ∧ 1000000000 ≤ x.sp then (x, [], 2) else if x.au = true then ((passE { x with gs := lessL x.gs who }).1, (passE { x with gs := lessL x.gs who }).2, 0) else ({ x with gs := lessL x.gs who }, [], 0)
theorem stepE_len (x : Et) (y : Int) : (stepM x y).1.ln.length ≤ x.ln.length + x.gs.length + 1 ∧ (stepM x y).1.gs.length ≤ x.ln.length + x.gs.length + 1 ∧ (stepM x y).2.1.length ≤ x.ln.length + 1 := by
  have h := pass_lenE { x with gs := lessL x.gs y }
  have h1 := less_len x.gs y
  have h2 := less_len x.ln y
  simp only at h
  unfold stepM
  repeat' split
  all_goals (refine ⟨?_, ?_, ?_⟩ <;> dsimp only [List.length_nil] <;> omega)
/-- Who waits was not told. -/
theorem wait_apart {x : Et} {who : Int} (h : okE x = true) (hh : hasL x.ln who = true) : lessL x.gs who = x.gs := by
  simp only [okE, waitE, waitL, Bool.and_eq_true] at h
  have ha := h.1.1.1.2
  refine List.erase_of_not_mem fun hm => ?_
  simp only [apartL, List.all_eq_true] at ha
  have := ha who hm
  rw [hh] at this
  simp at this
theorem less_not {xs : List Int} {who : Int} (h : hasL xs who = false) : lessL xs who = xs := List.erase_of_not_mem (by simpa [hasL] using h)
end Go.Proofs.Ytbhdjcggcgddfaa
