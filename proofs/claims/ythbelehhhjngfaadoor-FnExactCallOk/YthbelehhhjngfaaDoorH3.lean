/-
  Walks of the specification's lines.
-/
import Derived.Test.YthbelehhhjngfaaDoorH2
namespace Go.Proofs.YthbelehhhjngfaaDoor
open Go.RowKit Pl Il

/-- The first k clients of a line: each a client, none twice. -/
def lineTo (xs : List Int) (k : Nat) : Bool := (List.range k).all fun i => clientL (xs.getD i 0) && !hasL (xs.take i) (xs.getD i 0)
/-- A right line. -/
def lineL (xs : List Int) : Bool := decide (xs.length ≤ 32) && lineTo xs xs.length
theorem lineTo_zero (xs : List Int) : lineTo xs 0 = true := by simp [lineTo]
theorem lineTo_step {xs : List Int} {k : Nat} {y : Int} (h : lineTo xs k = true) (hy : xs.getD k 0 = y) (hc : clientL y = true) (hh : hasL (xs.take k) y = false) : lineTo xs (k + 1) = true := by
  simp only [lineTo, List.range_succ, List.all_append, List.all_cons, List.all_nil, Bool.and_true, Bool.and_eq_true] at h ⊢
  exact ⟨h, by rw [hy]; exact hc, by rw [hy, hh]; rfl⟩
theorem line_bad {xs : List Int} {k : Nat} {y : Int} (hk : k < xs.length) (hy : xs.getD k 0 = y) (h : clientL y = false ∨ hasL (xs.take k) y = true) : lineL xs = false := by
  have : lineTo xs xs.length = false := by
    unfold lineTo
    rw [List.all_eq_false]
    refine ⟨k, List.mem_range.2 hk, ?_⟩
    rw [hy]
    rcases h with h | h <;> simp [h]
  simp [lineL, this]
theorem line_long {xs : List Int} (h : ¬ xs.length ≤ 32) : lineL xs = false := by simp [lineL, h]
theorem line_end {xs : List Int} (h : xs.length ≤ 32) (ht : lineTo xs xs.length = true) : lineL xs = true := by simp [lineL, h, ht]

theorem in_any (n a b : Int) (w : World) :
    Calls Tryd.prog 12 #[.int .i64 n, .int .i64 a, .int .i64 b] w fun e w' => e = .returned (.bool (decide (a ≤ n) && decide (n ≤ b))) ∧ w' = w := by
  go_enter Tryd.func12, Tryd.ntmps12
  go_wp2
  all_goals go_ret
  all_goals (refine ⟨rbool ?_, rfl⟩; simp; try omega)

end Go.Proofs.YthbelehhhjngfaaDoor
