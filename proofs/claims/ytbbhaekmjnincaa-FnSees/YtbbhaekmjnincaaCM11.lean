/-
  What an update of a cell answers: plain mathematics.
-/
import Derived.Test.YtbbhaekmjnincaaCM10
namespace Go.Proofs.Ytbbhaekmjnincaa
open Go.RowKit Pl Il

/-- What is answered once the change is known. -/
def upTo (x : Ct) : Int × Int × ByteArray × Bool → Ct × List Int × Int
  | (a, b, c, ok) => if ok = false then (x, [], 1) else if x.ve = 1000000000 ∨ 32 < x.ln.length + x.gs.length then (x, [], 2) else ({ x with kd := a, nu := b, tx := c, ve := x.ve + 1, ln := [], gs := x.gs ++ x.ln }, x.ln, 0)
def updateM (x : Ct) (kind k n : Int) (s : ByteArray) : Ct × List Int × Int :=
  if okC x = false then (x, [], 1) else if x.cl = true then (x, [], 6) else upTo x (changedM x.kd x.nu x.tx kind k n s)
section
variable {x : Ct} {kind k n : Int} {s : ByteArray} {a b : Int} {c : ByteArray}
theorem up_bad (h : okC x = false) : updateM x kind k n s = (x, [], 1) := by unfold updateM; rw [if_pos h]
theorem up_over (h : okC x = true) (hc : x.cl = true) : updateM x kind k n s = (x, [], 6) := by unfold updateM; rw [if_neg (by rw [h]; simp), if_pos hc]
theorem up_to (h : okC x = true) (hc : x.cl = false) : updateM x kind k n s = upTo x (changedM x.kd x.nu x.tx kind k n s) := by unfold updateM; rw [if_neg (by rw [h]; simp), if_neg (by rw [hc]; simp)]
theorem up_no (h : okC x = true) (hc : x.cl = false) (hm : changedM x.kd x.nu x.tx kind k n s = (a, b, c, false)) : updateM x kind k n s = (x, [], 1) := by rw [up_to h hc, hm]; unfold upTo; simp
theorem up_full (h : okC x = true) (hc : x.cl = false) (hm : changedM x.kd x.nu x.tx kind k n s = (a, b, c, true)) (hf : x.ve = 1000000000 ∨ 32 < x.ln.length + x.gs.length) : updateM x kind k n s = (x, [], 2) := by rw [up_to h hc, hm]; unfold upTo; simp [hf]
theorem up_ok (h : okC x = true) (hc : x.cl = false) (hm : changedM x.kd x.nu x.tx kind k n s = (a, b, c, true)) (hf : ¬ (x.ve = 1000000000 ∨ 32 < x.ln.length + x.gs.length)) : updateM x kind k n s = ({ x with kd := a, nu := b, tx := c, ve := x.ve + 1, ln := [], gs := x.gs ++ x.ln }, x.ln, 0) := by rw [up_to h hc, hm]; unfold upTo; simp only [if_neg hf]; simp
end
theorem update_len (x : Ct) (kind k n : Int) (s : ByteArray) : (updateM x kind k n s).1.ln.length ≤ x.ln.length + x.gs.length + 1 ∧ (updateM x kind k n s).1.gs.length ≤ x.ln.length + x.gs.length + 1 ∧ (updateM x kind k n s).2.1.length ≤ x.ln.length + 1 := by
  unfold updateM upTo
  repeat' split
  all_goals (refine ⟨?_, ?_, ?_⟩ <;> simp <;> omega)
theorem ch_right {k n : Int} {s : ByteArray} {kind k' n' : Int} {s' : ByteArray} {a b : Int} {c : ByteArray} (h : changedM k n s kind k' n' s' = (a, b, c, true)) : okB a b c = true := by
  unfold changedM at h
  split at h
  · cases h
  · split at h
    · cases h
    · split at h
      · cases h
      · rename_i h0 _
        split at h
        · rename_i ho
          cases h
          exact ho
        · cases h
end Go.Proofs.Ytbbhaekmjnincaa
