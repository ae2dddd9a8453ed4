/-
  Cells: plain mathematics of what is answered.
-/
import Derived.Test.YtbbhaekmjnincaaKC
namespace Go.Proofs.Ytbbhaekmjnincaa
open Go.RowKit Pl Il

/-- A right cell. -/
def okC (x : Ct) : Bool := okB x.kd x.nu x.tx && cnt x.ve && waitL x.ln x.gs && !(x.cl && decide (0 < x.ln.length))
theorem okC_parts {x : Ct} (h : okC x = true) : okB x.kd x.nu x.tx = true ∧ (0 ≤ x.ve ∧ x.ve ≤ 1000000000) ∧ lineL x.ln = true ∧ lineL x.gs = true ∧ (x.cl = true → x.ln = []) := by
  simp only [okC, Bool.and_eq_true, waitL] at h
  obtain ⟨⟨⟨h1, h2⟩, ⟨h3, h4⟩, _⟩, h5⟩ := h
  refine ⟨h1, cnt_bd'' h2, h3, h4, fun e => ?_⟩
  rw [e] at h5
  simp at h5
  exact h5
def watchM (x : Ct) (who seen : Int) : Ct × Int :=
  if okC x = false ∨ clientL who = false then (x, 1) else if hasL x.ln who = true ∨ hasL x.gs who = true then (x, 5) else if seen < x.ve then (x, 0) else if x.cl = true then (x, 6) else if x.ln.length = 32 then (x, 2) else ({ x with ln := x.ln ++ [who] }, 4)
def unwatchM (x : Ct) (who : Int) : Ct × Int :=
  if okC x = false then (x, 1) else if hasL x.ln who = false ∧ hasL x.gs who = false then (x, 3) else ({ x with ln := lessL x.ln who, gs := lessL x.gs who }, 0)
theorem watch_len (x : Ct) (y z : Int) : (watchM x y z).1.ln.length ≤ x.ln.length + x.gs.length + 1 ∧ (watchM x y z).1.gs.length ≤ x.ln.length + x.gs.length + 1 := by
  unfold watchM
  repeat' split
  all_goals first | (simp; omega) | (simp; done)
theorem unwatch_len (x : Ct) (y : Int) : (unwatchM x y).1.ln.length ≤ x.ln.length + x.gs.length + 1 ∧ (unwatchM x y).1.gs.length ≤ x.ln.length + x.gs.length + 1 := by
  have h1 : (lessL x.gs y).length ≤ x.gs.length := by unfold lessL; exact List.length_erase_le
  have h2 : (lessL x.ln y).length ≤ x.ln.length := by unfold lessL; exact List.length_erase_le
  unfold unwatchM
  repeat' split
  all_goals (constructor <;> dsimp only <;> omega)
end Go.Proofs.Ytbbhaekmjnincaa
