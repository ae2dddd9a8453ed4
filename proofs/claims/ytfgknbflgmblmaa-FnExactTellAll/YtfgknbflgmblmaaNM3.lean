/-
  The plain mathematics of notifications: how long their lists are behind a call.
-/
import Derived.Test.YtfgknbflgmblmaaNM2
namespace Go.Proofs.Ytfgknbflgmblmaa
open Go.RowKit Pl Il

theorem one_len (x : Nt) : (oneM x).1.ln.length ≤ x.ln.length ∧ (oneM x).1.gs.length ≤ x.gs.length + 1 := by
  unfold oneM
  split
  · rename_i h; rw [h]; simp
  · rename_i h
    rw [h]
    split <;> simp
theorem tellOne_len (x : Nt) : (tellOneM x).1.ln.length ≤ x.ln.length + x.gs.length + 1 ∧ (tellOneM x).1.gs.length ≤ x.ln.length + x.gs.length + 1 := by
  have h := one_len { x with on := x.on + 1 }
  simp only at h
  unfold tellOneM
  split
  · simp only; omega
  · split
    · simp only; omega
    · simp only; omega
theorem tellAll_len (x : Nt) : (tellAllM x).1.ln.length ≤ x.ln.length + x.gs.length + 1 ∧ (tellAllM x).1.gs.length ≤ x.ln.length + x.gs.length + 1 ∧ (tellAllM x).2.1.length ≤ x.ln.length + 1 := by
  unfold tellAllM
  split
  · simp only [List.length_nil]; omega
  · split
    · simp only [List.length_nil]; omega
    · simp only [allM, List.length_nil, List.length_append, List.length_map]; omega
theorem await_len (x : Nt) (who : Int) : (awaitM x who).1.ln.length ≤ x.ln.length + x.gs.length + 1 ∧ (awaitM x who).1.gs.length ≤ x.ln.length + x.gs.length + 1 := by
  unfold awaitM
  repeat' split
  all_goals simp only [List.length_append, List.length_cons, List.length_nil]
  all_goals omega
theorem resume_len (x : Nt) (who : Int) : (resumeM x who).1.ln.length ≤ x.ln.length + x.gs.length + 1 ∧ (resumeM x who).1.gs.length ≤ x.ln.length + x.gs.length + 1 := by
  have h := lessG_len x.gs who
  unfold resumeM
  repeat' split
  all_goals simp only
  all_goals omega
theorem withdraw_len (x : Nt) (who : Int) : (withdrawM x who).1.ln.length ≤ x.ln.length + x.gs.length + 1 ∧ (withdrawM x who).1.gs.length ≤ x.ln.length + x.gs.length + 1 := by
  have h := lessG_len x.gs who
  have h1 := one_len { x with gs := lessG x.gs who }
  have h2 : (lessL x.ln who).length ≤ x.ln.length := by unfold lessL; exact List.length_erase_le
  simp only at h1
  unfold withdrawM
  repeat' split
  all_goals simp only
  all_goals omega
end Go.Proofs.Ytfgknbflgmblmaa
