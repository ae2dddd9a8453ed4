/-
  Events: plain mathematics of what is answered.
-/
import Derived.Test.YtbhdjcggcgddfaaKE
namespace Go.Proofs.Ytbhdjcggcgddfaa
open Go.RowKit Pl Il

def upI (b : Bool) : Int := if b then 1 else 0
/-- What an Auto event holds. -/
def heldE (x : Et) : Int := x.sp + x.tk + (x.gs.length : Int) + upI x.up
def tallyE (x : Et) : Bool := if x.au then decide (x.st = heldE x) else (decide (x.st = 0) && decide (x.sp = 0) && decide (x.tk = 0))
/-- Who waits at it, and who was let go. -/
def waitE (x : Et) : Bool := waitL x.ln x.gs && !(x.up && decide (0 < x.ln.length))
/-- A right event. -/
def okE (x : Et) : Bool := waitE x && (cnt x.st && cnt x.sp && cnt x.tk) && tallyE x
theorem waitE_parts {x : Et} (h : waitE x = true) : lineL x.ln = true ∧ lineL x.gs = true ∧ x.ln.length ≤ 32 ∧ x.gs.length ≤ 32 ∧ (x.up = true → x.ln = []) := by
  simp only [waitE, waitL, Bool.and_eq_true] at h
  obtain ⟨⟨⟨h1, h2⟩, _⟩, h4⟩ := h
  have h5 := h1
  have h6 := h2
  simp only [lineL, Bool.and_eq_true, decide_eq_true_eq] at h5 h6
  refine ⟨h1, h2, h5.1, h6.1, fun hu => ?_⟩
  rw [hu] at h4
  simp at h4
  exact h4
theorem okE_parts {x : Et} (h : okE x = true) : (lineL x.ln = true ∧ lineL x.gs = true ∧ x.ln.length ≤ 32 ∧ x.gs.length ≤ 32 ∧ (x.up = true → x.ln = [])) ∧ (0 ≤ x.st ∧ x.st ≤ 1000000000) ∧ (0 ≤ x.sp ∧ x.sp ≤ 1000000000) ∧ (0 ≤ x.tk ∧ x.tk ≤ 1000000000) ∧ tallyE x = true := by
  simp only [okE, Bool.and_eq_true] at h
  obtain ⟨⟨h1, ⟨h2, h3⟩, h4⟩, h5⟩ := h
  exact ⟨waitE_parts h1, cnt_bd'' h2, cnt_bd'' h3, cnt_bd'' h4, h5⟩
/-- One that is not Auto counts nothing. -/
theorem okE_man {x : Et} (h : x.au = false) : okE x = (waitE x && (decide (x.st = 0) && decide (x.sp = 0) && decide (x.tk = 0))) := by
  unfold okE tallyE
  rw [h]
  simp only [Bool.false_eq_true, if_false]
  by_cases h1 : x.st = 0
  · by_cases h2 : x.sp = 0
    · by_cases h3 : x.tk = 0
      · simp [h1, h2, h3, cnt]
      · simp [h3]
    · simp [h2]
  · simp [h1]
def resetM (x : Et) : Et × Int :=
  if okE x = false then (x, 1) else if (x.au && x.up) = true then (if 1000000000 ≤ x.sp then (x, 2) else ({ x with up := false, sp := x.sp + 1 }, 0)) else ({ x with up := false }, 0)
def standM (x : Et) (who : Int) : Et × Int :=
  if okE x = false ∨ clientL who = false then (x, 1) else if hasL x.ln who = true ∨ hasL x.gs who = true then (x, 5)
  else if (x.au = true ∧ 1000000000 ≤ x.tk) ∨ (x.up = false ∧ 32 ≤ x.ln.length) then (x, 2)
  else if x.up = true then (if x.au = true then { x with up := false, tk := x.tk + 1 } else x, 0) else ({ x with ln := x.ln ++ [who] }, 4)
def goOnM (x : Et) (who : Int) : Et × Int :=
  if okE x = false then (x, 1) else if hasL x.ln who = true then (x, 4) else if hasL x.gs who = false then (x, 3) else if x.au = true ∧ 1000000000 ≤ x.tk then (x, 2)
  else ({ x with gs := lessL x.gs who, tk := if x.au = true then x.tk + 1 else x.tk }, 0)
theorem resetE_len (x : Et) : (resetM x).1.ln.length ≤ x.ln.length + x.gs.length + 1 ∧ (resetM x).1.gs.length ≤ x.ln.length + x.gs.length + 1 := by
  unfold resetM
  repeat' split
  all_goals (constructor <;> dsimp only <;> omega)
theorem standE_len (x : Et) (y : Int) : (standM x y).1.ln.length ≤ x.ln.length + x.gs.length + 1 ∧ (standM x y).1.gs.length ≤ x.ln.length + x.gs.length + 1 := by
  unfold standM
  repeat' split
  all_goals (constructor <;> simp <;> omega)
theorem goOnE_len (x : Et) (y : Int) : (goOnM x y).1.ln.length ≤ x.ln.length + x.gs.length + 1 ∧ (goOnM x y).1.gs.length ≤ x.ln.length + x.gs.length + 1 := by
  have := less_len x.gs y
  unfold goOnM
  repeat' split
  all_goals (constructor <;> dsimp only <;> omega)
end Go.Proofs.Ytbhdjcggcgddfaa
