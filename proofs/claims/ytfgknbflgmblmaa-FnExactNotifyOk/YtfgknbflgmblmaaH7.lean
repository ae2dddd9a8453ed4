/-
  Walks of the specification's lines: who joins, who leaves, who is woken.
-/
import Derived.Test.YtfgknbflgmblmaaH6
import Derived.Deep.RegionHeld3
namespace Go.Proofs.Ytfgknbflgmblmaa
open Go.RowKit Pl Il

/-- What Join answers: the line, and the code. -/
def joinL (xs : List Int) (x : Int) : List Int × Int :=
  if !lineL xs || !clientL x then (xs, 1) else if hasL xs x then (xs, 5) else if 32 ≤ xs.length then (xs, 2) else (xs ++ [x], 0)
/-- What Leave answers: the line, and the code. -/
def leaveL (xs : List Int) (x : Int) : List Int × Int :=
  if !lineL xs then (xs, 1) else if !hasL xs x then (xs, 3) else (lessL xs x, 0)
theorem join_bad {xs : List Int} {x : Int} (h : lineL xs = false ∨ clientL x = false) : joinL xs x = (xs, 1) := by rcases h with h | h <;> simp [joinL, h]
theorem join_there {xs : List Int} {x : Int} (h1 : lineL xs = true) (h2 : clientL x = true) (h3 : hasL xs x = true) : joinL xs x = (xs, 5) := by simp [joinL, h1, h2, h3]
theorem join_full {xs : List Int} {x : Int} (h1 : lineL xs = true) (h2 : clientL x = true) (h3 : hasL xs x = false) (h4 : 32 ≤ xs.length) : joinL xs x = (xs, 2) := by simp [joinL, h1, h2, h3, h4]
theorem join_done {xs : List Int} {x : Int} (h1 : lineL xs = true) (h2 : clientL x = true) (h3 : hasL xs x = false) (h4 : ¬ 32 ≤ xs.length) : joinL xs x = (xs ++ [x], 0) := by simp only [joinL, h1, h2, h3, h4, Bool.not_true, Bool.or_self, if_false, Bool.false_eq_true]
theorem leave_bad {xs : List Int} {x : Int} (h : lineL xs = false) : leaveL xs x = (xs, 1) := by simp [leaveL, h]
theorem leave_none {xs : List Int} {x : Int} (h : lineL xs = true) (h2 : hasL xs x = false) : leaveL xs x = (xs, 3) := by simp [leaveL, h, h2]
theorem leave_done {xs : List Int} {x : Int} (h : lineL xs = true) (h2 : hasL xs x = true) : leaveL xs x = (lessL xs x, 0) := by simp [leaveL, h, h2]


end Go.Proofs.Ytfgknbflgmblmaa
