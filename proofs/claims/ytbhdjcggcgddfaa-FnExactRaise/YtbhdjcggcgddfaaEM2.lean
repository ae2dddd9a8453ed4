/-
  Events: plain mathematics of raising one, and of stepping back.
-/
import Derived.Test.YtbhdjcggcgddfaaEM
namespace Go.Proofs.Ytbhdjcggcgddfaa
open Go.RowKit Pl Il

/-- A raising of an Auto event is given on. -/
def passE (x : Et) : Et × List Int :=
  match x.ln with
  | who :: r => ({ x with ln := r, gs := x.gs ++ [who] }, [who])
  | [] => if x.up = true then ({ x with sp := x.sp + 1 }, []) else ({ x with up := true }, [])
/-- An Auto event takes no more raisings. -/
abbrev fullE (x : Et) : Prop := x.st = 1000000000 ∨ (0 < x.ln.length ∧ x.gs.length = 32)
def raiseM (x : Et) : Et × List Int × Int :=
  if okE x = false then (x, [], 1) else if x.au = true then (if fullE x then (x, [], 2) else ((passE { x with st := x.st + 1 }).1, (passE { x with st := x.st + 1 }).2, 0))
  else if 32 < x.ln.length + x.gs.length then (x, [], 2) else ({ x with up := true, ln := [], gs := x.gs ++ x.ln }, x.ln, 0)
theorem pass_lenE (x : Et) : (passE x).1.ln.length ≤ x.ln.length ∧ (passE x).1.gs.length ≤ x.gs.length + 1 ∧ (passE x).2.length ≤ 1 := by
  obtain ⟨au, up, ln, gs, st, sp, tk⟩ := x
  unfold passE
  cases ln with
  | nil => cases up <;> simp
  | cons a r => simp
theorem raiseE_len (x : Et) : (raiseM x).1.ln.length ≤ x.ln.length + x.gs.length + 1 ∧ (raiseM x).1.gs.length ≤ x.ln.length + x.gs.length + 1 ∧ (raiseM x).2.1.length ≤ x.ln.length + 1 := by
  have h := pass_lenE { x with st := x.st + 1 }
  simp only at h
  unfold raiseM
  repeat' split
  all_goals (refine ⟨?_, ?_, ?_⟩ <;> simp <;> omega)
end Go.Proofs.Ytbhdjcggcgddfaa
