/-
  The walk of the function that makes a message's body.
-/
import Derived.Test.YtedaleonmcllkaaA1
namespace Go.Proofs.Ytedaleonmcllkaa
open Go.RowKit Pl

theorem meth_msg_num (n : Int) (w : World) : (method 228 88 (.int .i64 n) "loop.example/g00098/impl.msg").run Try.prog w = .ok (102, .int .i64 n) w := by kernel_rfl
theorem meth_right_num (n : Int) (w : World) : (method 228 88 (.int .i64 n) "loop.example/g00098/impl.right").run Try.prog w = .ok (103, .int .i64 n) w := by kernel_rfl
theorem meth_msg_text (s : ByteArray) (w : World) : (method 228 89 (.string s) "loop.example/g00098/impl.msg").run Try.prog w = .ok (105, .string s) w := by kernel_rfl
theorem meth_right_text (s : ByteArray) (w : World) : (method 228 89 (.string s) "loop.example/g00098/impl.right").run Try.prog w = .ok (106, .string s) w := by kernel_rfl

def yes (t : TypeId) (v : Value) : Ending := .returned (.tuple #[.iface t v, .bool true])
def no : Ending := .returned (.tuple #[.nilIface, .bool false])

theorem body_num_yes (n : Int) (s : ByteArray) (w : World) (hs : s.toList = []) (hn : okNum n = true) :
    Calls Try.prog 37 #[.agg #[.int .i64 1, .int .i64 n, .string s]] w fun e w' => e = yes 88 (.int .i64 n) ∧ Below w.heap.size w w' := by
  have m1 := meth_msg_num n
  have m2 := meth_right_num n
  go_enter Try.func37, Try.ntmps37
  go_wp2_with fail
  first | (go_region_with (first | (go_at_call 102; refine (msg_num _ _).mono ?_; rintro e w' ⟨rfl, rfl⟩) | (go_at_call 103; refine (right_num _ _).mono ?_; rintro e w' ⟨rfl, rfl⟩))) | fail
  all_goals
    go_wp2
    go_ret2
    exact ⟨rfl, by repeat (first | exact Below.refl _ _ | apply Below.drew | apply bl_alloc)⟩

theorem body_num_no (n : Int) (s : ByteArray) (w : World) (hs : s.toList = []) (hn : okNum n = false) :
    Calls Try.prog 37 #[.agg #[.int .i64 1, .int .i64 n, .string s]] w fun e w' => e = no ∧ Below w.heap.size w w' := by
  have m1 := meth_msg_num n
  have m2 := meth_right_num n
  go_enter Try.func37, Try.ntmps37
  go_wp2_with fail
  first | (go_region_with (first | (go_at_call 102; refine (msg_num _ _).mono ?_; rintro e w' ⟨rfl, rfl⟩) | (go_at_call 103; refine (right_num _ _).mono ?_; rintro e w' ⟨rfl, rfl⟩))) | fail
  all_goals
    go_wp2
    go_ret2
    exact ⟨rfl, by repeat (first | exact Below.refl _ _ | apply Below.drew | apply bl_alloc)⟩

theorem body_num_not (n : Int) (s : ByteArray) (w : World) (hs : ¬ s.toList = []) :
    Calls Try.prog 37 #[.agg #[.int .i64 1, .int .i64 n, .string s]] w fun e w' => e = no ∧ Below w.heap.size w w' := by
  have m1 := meth_msg_num n
  have m2 := meth_right_num n
  go_enter Try.func37, Try.ntmps37
  go_wp2_with fail
  first | (go_region_with (first | (go_at_call 102; refine (msg_num _ _).mono ?_; rintro e w' ⟨rfl, rfl⟩) | (go_at_call 103; refine (right_num _ _).mono ?_; rintro e w' ⟨rfl, rfl⟩))) | fail
  all_goals
    go_wp2
    go_ret2
    exact ⟨rfl, by repeat (first | exact Below.refl _ _ | apply Below.drew | apply bl_alloc)⟩
end Go.Proofs.Ytedaleonmcllkaa
