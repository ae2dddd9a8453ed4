/-
  Latches: plain mathematics of what is answered.
-/
import Derived.Test.YtbhdjcggcgddfaaKL
namespace Go.Proofs.Ytbhdjcggcgddfaa
open Go.RowKit Pl Il

/-- A right latch. -/
def okLa (x : Lt) : Bool := cnt x.ct && waitL x.ln x.gs && !(decide (x.ct = 0) && decide (0 < x.ln.length))
theorem okLa_parts {x : Lt} (h : okLa x = true) : (0 ≤ x.ct ∧ x.ct ≤ 1000000000) ∧ lineL x.ln = true ∧ lineL x.gs = true := by
  simp only [okLa, Bool.and_eq_true, waitL] at h
  exact ⟨cnt_bd'' h.1.1, h.1.2.1.1, h.1.2.1.2⟩
def standAtM (x : Lt) (who : Int) : Lt × Int :=
  if okLa x = false ∨ clientL who = false then (x, 1) else if hasL x.ln who = true ∨ hasL x.gs who = true then (x, 5) else if x.ct = 0 then (x, 0) else if x.ln.length = 32 then (x, 2) else ({ x with ln := x.ln ++ [who] }, 4)
def passM (x : Lt) (who : Int) : Lt × Int :=
  if okLa x = false then (x, 1) else if hasL x.ln who = true then (x, 4) else if hasL x.gs who = true then ({ x with gs := lessL x.gs who }, 0) else (x, 3)
def quitM (x : Lt) (who : Int) : Lt × Int :=
  if okLa x = false then (x, 1) else if hasL x.ln who = false ∧ hasL x.gs who = false then (x, 3) else ({ x with ln := lessL x.ln who, gs := lessL x.gs who }, 0)
def countM (x : Lt) (n : Int) : Lt × List Int × Int :=
  if okLa x = false ∨ n < 1 then (x, [], 1) else if x.ct < n then (x, [], 6) else if n = x.ct ∧ 32 < x.ln.length + x.gs.length then (x, [], 2) else if 0 < x.ct - n then ({ x with ct := x.ct - n }, [], 0) else ({ x with ct := x.ct - n, ln := [], gs := x.gs ++ x.ln }, x.ln, 0)
theorem standAt_len (x : Lt) (y : Int) : (standAtM x y).1.ln.length ≤ x.ln.length + x.gs.length + 1 ∧ (standAtM x y).1.gs.length ≤ x.ln.length + x.gs.length + 1 := by
  unfold standAtM
  repeat' split
  all_goals first | (simp; omega) | (simp; done)
theorem pass_len (x : Lt) (y : Int) : (passM x y).1.ln.length ≤ x.ln.length + x.gs.length + 1 ∧ (passM x y).1.gs.length ≤ x.ln.length + x.gs.length + 1 := by
  have := less_len x.gs y
  unfold passM
  repeat' split
  all_goals (constructor <;> dsimp only <;> omega)
theorem quit_len (x : Lt) (y : Int) : (quitM x y).1.ln.length ≤ x.ln.length + x.gs.length + 1 ∧ (quitM x y).1.gs.length ≤ x.ln.length + x.gs.length + 1 := by
  have := less_len x.gs y
  have := less_len x.ln y
  unfold quitM
  repeat' split
  all_goals (constructor <;> dsimp only <;> omega)
theorem count_len (x : Lt) (y : Int) : (countM x y).1.ln.length ≤ x.ln.length + x.gs.length + 1 ∧ (countM x y).1.gs.length ≤ x.ln.length + x.gs.length + 1 ∧ (countM x y).2.1.length ≤ x.ln.length + 1 := by
  unfold countM
  repeat' split
  all_goals (refine ⟨?_, ?_, ?_⟩ <;> simp <;> omega)
end Go.Proofs.Ytbhdjcggcgddfaa
