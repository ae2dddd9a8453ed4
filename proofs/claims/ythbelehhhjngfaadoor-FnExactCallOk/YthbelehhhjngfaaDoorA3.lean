/-
  The walk of the function that makes a message's body: texts, and what is neither.
-/
import Derived.Test.YthbelehhhjngfaaDoorA2
namespace Go.Proofs.YthbelehhhjngfaaDoor
open Go.RowKit Pl

theorem body_text_yes (s : ByteArray) (w : World) (hm : s.size ≤ maxLen) (hn : plainB s = true) :
    Calls Tryd.prog 35 #[.agg #[.int .i64 2, .int .i64 0, .string s]] w fun e w' => e = yes 71 (.string s) ∧ Below w.heap.size w w' := by
  have m1 := meth_msg_text s
  have m2 := meth_right_text s
  go_enter Tryd.func35, Tryd.ntmps35
  go_wp2_with fail
  first | (go_region_with (first | (go_at_call 98; refine (msg_text _ _).mono ?_; rintro e w' ⟨rfl, rfl⟩) | (go_at_call 99; refine (right_text _ _ hm).mono ?_; rintro e w' ⟨rfl, rfl⟩))) | fail
  all_goals
    go_wp2
    go_ret2
    exact ⟨rfl, by repeat (first | exact Below.refl _ _ | apply Below.drew | apply bl_alloc)⟩

theorem body_text_no (s : ByteArray) (w : World) (hm : s.size ≤ maxLen) (hn : plainB s = false) :
    Calls Tryd.prog 35 #[.agg #[.int .i64 2, .int .i64 0, .string s]] w fun e w' => e = no ∧ Below w.heap.size w w' := by
  have m1 := meth_msg_text s
  have m2 := meth_right_text s
  go_enter Tryd.func35, Tryd.ntmps35
  go_wp2_with fail
  first | (go_region_with (first | (go_at_call 98; refine (msg_text _ _).mono ?_; rintro e w' ⟨rfl, rfl⟩) | (go_at_call 99; refine (right_text _ _ hm).mono ?_; rintro e w' ⟨rfl, rfl⟩))) | fail
  all_goals
    go_wp2
    go_ret2
    exact ⟨rfl, by repeat (first | exact Below.refl _ _ | apply Below.drew | apply bl_alloc)⟩

theorem body_text_not (n : Int) (s : ByteArray) (w : World) (hn : ¬ n = 0) :
    Calls Tryd.prog 35 #[.agg #[.int .i64 2, .int .i64 n, .string s]] w fun e w' => e = no ∧ Below w.heap.size w w' := by
  have m1 := meth_msg_text s
  have m2 := meth_right_text s
  have hb : ((0 : Int) == n) = false := by simp; omega
  go_enter Tryd.func35, Tryd.ntmps35
  go_wp2_with fail
  first | (go_region_with (first | (go_at_call 98; refine (msg_text _ _).mono ?_; rintro e w' ⟨rfl, rfl⟩))) | fail
  all_goals
    go_wp2
    go_ret2
    exact ⟨rfl, by repeat (first | exact Below.refl _ _ | apply Below.drew | apply bl_alloc)⟩

theorem body_none (k n : Int) (s : ByteArray) (w : World) (h1 : (k == 1) = false) (h2 : (k == 2) = false) :
    Calls Tryd.prog 35 #[.agg #[.int .i64 k, .int .i64 n, .string s]] w fun e w' => e = no ∧ Below w.heap.size w w' := by
  go_enter Tryd.func35, Tryd.ntmps35
  go_wp2
  go_ret2
  exact ⟨rfl, bl_alloc (Below.refl _ _) _⟩
end Go.Proofs.YthbelehhhjngfaaDoor
