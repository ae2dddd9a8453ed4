/-
  The program's waiters behind a pointer: who goes on, who quits, who is let go.
-/
import Derived.Test.YtoieefjlblkldadBW
namespace Go.Proofs.Ytoieefjlblkldad
open Go.RowKit Go.Maps Pl Il

/-- Who is in neither list. -/
theorem turn_cases (ln gs : List Int) (who : Int) : (turnL ln gs who = 4 ∧ hasL ln who = true) ∨ (turnL ln gs who = 0 ∧ hasL ln who = false ∧ hasL gs who = true) ∨ (turnL ln gs who = 3 ∧ hasL ln who = false ∧ hasL gs who = false) := by
  unfold turnL
  cases h1 : hasL ln who <;> cases h2 : hasL gs who <;> simp
/-- A number is answered, and the lists are others. -/
def WOut (B b : Nat) (w : World) (v : Value) (ln gs : List Int) (e : Ending) (w' : World) : Prop := ∃ A', e = .returned v ∧ WSt B b A' ln gs w' ∧ WTo B b w w'
theorem pass_any (B b : Nat) (A : Na) (ln gs : List Int) (who : Int) (w : World) (hS : WSt B b A ln gs w) (hn : A.n ≤ 2097152) (hn' : A.n' ≤ 2097152) (hw : wfL ln) (hw' : wfL gs) (hx : (Lit.int .i64 who).wf = true) (hl : lineL ln = true) (hl' : lineL gs = true) :
    Calls Try.prog 32 #[.pointer (some ⟨b, 0, none⟩), .int .i64 who] w fun e w' => WOut B b w (.int .i64 (turnL ln gs who)) ln (if turnL ln gs who = 0 then lessL gs who else gs) e w' := by
  have HS := hidOf hS
  clear hS
  go_enter Try.func32, Try.ntmps32
  go_wp2_with fail
  refine (turnOf_any B b A ln gs who w HS.out hn hn' hw hw' hx).mono ?_
  rintro e w1 ⟨rfl, hb1⟩
  have hS1 := HS.out.keep hb1
  have hT1 := HS.out.to hb1
  have HS1 := hidOf hS1
  have HT1 := hidOf hT1
  clear hS1 hT1 HS
  rcases turn_cases ln gs who with ⟨h0, h1⟩ | ⟨h0, h1, h2⟩ | ⟨h0, h1, h2⟩
  · rw [h0]
    go_wp2
    go_ret
    first | exact ⟨A, rfl, HS1.out, HT1.out⟩ | (rw [h0]; exact ⟨A, rfl, HS1.out, HT1.out⟩) | (rw [if_neg (by omega)]; exact ⟨A, rfl, HS1.out, HT1.out⟩) | (rw [if_pos h0]; exact ⟨A, rfl, HS1.out, HT1.out⟩) | exact ⟨A, by rw [h0], by rw [if_pos h0]; exact HS1.out, HT1.out⟩ | exact ⟨A, by rw [h0], by rw [if_neg (by omega)]; exact HS1.out, HT1.out⟩ | exact ⟨A, by rw [if_neg (by omega)], HS1.out, HT1.out⟩ | exact ⟨A, by rw [if_pos h0], HS1.out, HT1.out⟩
  · rw [h0]
    go_wp2_with fail
    refine (remove_any B b A ln gs who w1 HS1.out hn hn' hw hw' hx hl hl').mono ?_
    rintro e w2 ⟨A', rfl, hS2, hT2⟩
    have e1 : lessL ln who = ln := List.erase_of_not_mem (by simpa [hasL] using h1)
    rw [e1] at hS2
    have HS2 := hidOf hS2
    have HT2 := hidOf (HT1.out.trans hT2)
    clear hS2 hT2
    go_wp2
    go_ret
    first | exact ⟨A', rfl, HS2.out, HT2.out⟩ | (rw [h0]; exact ⟨A', rfl, HS2.out, HT2.out⟩) | (rw [if_neg (by omega)]; exact ⟨A', rfl, HS2.out, HT2.out⟩) | (rw [if_pos h0]; exact ⟨A', rfl, HS2.out, HT2.out⟩) | exact ⟨A', by rw [h0], by rw [if_pos h0]; exact HS2.out, HT2.out⟩ | exact ⟨A', by rw [h0], by rw [if_neg (by omega)]; exact HS2.out, HT2.out⟩ | exact ⟨A', by rw [if_neg (by omega)], HS2.out, HT2.out⟩ | exact ⟨A', by rw [if_pos h0], HS2.out, HT2.out⟩
  · rw [h0]
    go_wp2
    go_ret
    first | exact ⟨A, rfl, HS1.out, HT1.out⟩ | (rw [h0]; exact ⟨A, rfl, HS1.out, HT1.out⟩) | (rw [if_neg (by omega)]; exact ⟨A, rfl, HS1.out, HT1.out⟩) | (rw [if_pos h0]; exact ⟨A, rfl, HS1.out, HT1.out⟩) | exact ⟨A, by rw [h0], by rw [if_pos h0]; exact HS1.out, HT1.out⟩ | exact ⟨A, by rw [h0], by rw [if_neg (by omega)]; exact HS1.out, HT1.out⟩ | exact ⟨A, by rw [if_neg (by omega)], HS1.out, HT1.out⟩ | exact ⟨A, by rw [if_pos h0], HS1.out, HT1.out⟩
theorem quit_any (B b : Nat) (A : Na) (ln gs : List Int) (who : Int) (w : World) (hS : WSt B b A ln gs w) (hn : A.n ≤ 2097152) (hn' : A.n' ≤ 2097152) (hw : wfL ln) (hw' : wfL gs) (hx : (Lit.int .i64 who).wf = true) (hl : lineL ln = true) (hl' : lineL gs = true) :
    Calls Try.prog 33 #[.pointer (some ⟨b, 0, none⟩), .int .i64 who] w fun e w' => WOut B b w (.int .i64 (if turnL ln gs who = 3 then 3 else 0)) (lessL ln who) (lessL gs who) e w' := by
  have HS := hidOf hS
  clear hS
  go_enter Try.func33, Try.ntmps33
  go_wp2_with fail
  refine (turnOf_any B b A ln gs who w HS.out hn hn' hw hw' hx).mono ?_
  rintro e w1 ⟨rfl, hb1⟩
  have hS1 := HS.out.keep hb1
  have hT1 := HS.out.to hb1
  have HS1 := hidOf hS1
  have HT1 := hidOf hT1
  clear hS1 hT1 HS
  have hrm := remove_any B b A ln gs who w1 HS1.out hn hn' hw hw' hx hl hl'
  have HRm := hidOf hrm
  clear hrm
  rcases turn_cases ln gs who with ⟨h0, h1⟩ | ⟨h0, h1, h2⟩ | ⟨h0, h1, h2⟩
  · rw [h0]
    go_wp2_with fail
    refine HRm.out.mono ?_
    rintro e w2 ⟨A', rfl, hS2, hT2⟩
    have HS2 := hidOf hS2
    have HT2 := hidOf (HT1.out.trans hT2)
    clear hS2 hT2 HRm
    go_wp2
    go_ret
    first | exact ⟨A', rfl, HS2.out, HT2.out⟩ | (rw [h0]; exact ⟨A', rfl, HS2.out, HT2.out⟩) | (rw [if_neg (by omega)]; exact ⟨A', rfl, HS2.out, HT2.out⟩) | (rw [if_pos h0]; exact ⟨A', rfl, HS2.out, HT2.out⟩) | exact ⟨A', by rw [h0], by rw [if_pos h0]; exact HS2.out, HT2.out⟩ | exact ⟨A', by rw [h0], by rw [if_neg (by omega)]; exact HS2.out, HT2.out⟩ | exact ⟨A', by rw [if_neg (by omega)], HS2.out, HT2.out⟩ | exact ⟨A', by rw [if_pos h0], HS2.out, HT2.out⟩
  · rw [h0]
    go_wp2_with fail
    refine HRm.out.mono ?_
    rintro e w2 ⟨A', rfl, hS2, hT2⟩
    have HS2 := hidOf hS2
    have HT2 := hidOf (HT1.out.trans hT2)
    clear hS2 hT2 HRm
    go_wp2
    go_ret
    first | exact ⟨A', rfl, HS2.out, HT2.out⟩ | (rw [h0]; exact ⟨A', rfl, HS2.out, HT2.out⟩) | (rw [if_neg (by omega)]; exact ⟨A', rfl, HS2.out, HT2.out⟩) | (rw [if_pos h0]; exact ⟨A', rfl, HS2.out, HT2.out⟩) | exact ⟨A', by rw [h0], by rw [if_pos h0]; exact HS2.out, HT2.out⟩ | exact ⟨A', by rw [h0], by rw [if_neg (by omega)]; exact HS2.out, HT2.out⟩ | exact ⟨A', by rw [if_neg (by omega)], HS2.out, HT2.out⟩ | exact ⟨A', by rw [if_pos h0], HS2.out, HT2.out⟩
  · rw [h0]
    have e1 : lessL ln who = ln := List.erase_of_not_mem (by simpa [hasL] using h1)
    have e2 : lessL gs who = gs := List.erase_of_not_mem (by simpa [hasL] using h2)
    have HS1 := hidOf (show WSt B b A (lessL ln who) (lessL gs who) w1 by rw [e1, e2]; exact HS1.out)
    clear HRm e1 e2
    go_wp2
    go_ret
    first | exact ⟨A, rfl, HS1.out, HT1.out⟩ | (rw [h0]; exact ⟨A, rfl, HS1.out, HT1.out⟩) | (rw [if_neg (by omega)]; exact ⟨A, rfl, HS1.out, HT1.out⟩) | (rw [if_pos h0]; exact ⟨A, rfl, HS1.out, HT1.out⟩) | exact ⟨A, by rw [h0], by rw [if_pos h0]; exact HS1.out, HT1.out⟩ | exact ⟨A, by rw [h0], by rw [if_neg (by omega)]; exact HS1.out, HT1.out⟩ | exact ⟨A, by rw [if_neg (by omega)], HS1.out, HT1.out⟩ | exact ⟨A, by rw [if_pos h0], HS1.out, HT1.out⟩
end Go.Proofs.Ytoieefjlblkldad
