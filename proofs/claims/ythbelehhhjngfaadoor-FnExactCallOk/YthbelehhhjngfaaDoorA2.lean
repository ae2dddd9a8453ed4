/-
  The walk of the function that makes a message's body.
-/
import Derived.Test.YthbelehhhjngfaaDoorA1
namespace Go.Proofs.YthbelehhhjngfaaDoor
open Go.RowKit Pl

theorem meth_msg_num (n : Int) (w : World) : (method 221 70 (.int .i64 n) "loop.example/g00098/impl.msg").run Tryd.prog w = .ok (95, .int .i64 n) w := by kernel_rfl
theorem meth_right_num (n : Int) (w : World) : (method 221 70 (.int .i64 n) "loop.example/g00098/impl.right").run Tryd.prog w = .ok (96, .int .i64 n) w := by kernel_rfl
theorem meth_msg_text (s : ByteArray) (w : World) : (method 221 71 (.string s) "loop.example/g00098/impl.msg").run Tryd.prog w = .ok (98, .string s) w := by kernel_rfl
theorem meth_right_text (s : ByteArray) (w : World) : (method 221 71 (.string s) "loop.example/g00098/impl.right").run Tryd.prog w = .ok (99, .string s) w := by kernel_rfl

def yes (t : TypeId) (v : Value) : Ending := .returned (.tuple #[.iface t v, .bool true])
def no : Ending := .returned (.tuple #[.nilIface, .bool false])

theorem body_num_yes (n : Int) (s : ByteArray) (w : World) (hs : s.toList = []) (hn : okNum n = true) :
    Calls Tryd.prog 35 #[.agg #[.int .i64 1, .int .i64 n, .string s]] w fun e w' => e = yes 70 (.int .i64 n) ∧ Below w.heap.size w w' := by
  have m1 := meth_msg_num n
  have m2 := meth_right_num n
  go_enter Tryd.func35, Tryd.ntmps35
  go_wp2_with fail
  first | (go_region_with (first | (go_at_call 95; refine (msg_num _ _).mono ?_; rintro e w' ⟨rfl, rfl⟩) | (go_at_call 96; refine (right_num _ _).mono ?_; rintro e w' ⟨rfl, rfl⟩))) | fail
  all_goals
    go_wp2
    go_ret2
    exact ⟨rfl, by repeat (first | exact Below.refl _ _ | apply Below.drew | apply bl_alloc)⟩

theorem body_num_no (n : Int) (s : ByteArray) (w : World) (hs : s.toList = []) (hn : okNum n = false) :
    Calls Tryd.prog 35 #[.agg #[.int .i64 1, .int .i64 n, .string s]] w fun e w' => e = no ∧ Below w.heap.size w w' := by
  have m1 := meth_msg_num n
  have m2 := meth_right_num n
  go_enter Tryd.func35, Tryd.ntmps35
  go_wp2_with fail
  first | (go_region_with (first | (go_at_call 95; refine (msg_num _ _).mono ?_; rintro e w' ⟨rfl, rfl⟩) | (go_at_call 96; refine (right_num _ _).mono ?_; rintro e w' ⟨rfl, rfl⟩))) | fail
  all_goals
    go_wp2
    go_ret2
    exact ⟨rfl, by repeat (first | exact Below.refl _ _ | apply Below.drew | apply bl_alloc)⟩

theorem body_num_not (n : Int) (s : ByteArray) (w : World) (hs : ¬ s.toList = []) :
    Calls Tryd.prog 35 #[.agg #[.int .i64 1, .int .i64 n, .string s]] w fun e w' => e = no ∧ Below w.heap.size w w' := by
  have m1 := meth_msg_num n
  have m2 := meth_right_num n
  go_enter Tryd.func35, Tryd.ntmps35
  go_wp2_with fail
  first | (go_region_with (first | (go_at_call 95; refine (msg_num _ _).mono ?_; rintro e w' ⟨rfl, rfl⟩) | (go_at_call 96; refine (right_num _ _).mono ?_; rintro e w' ⟨rfl, rfl⟩))) | fail
  all_goals
    go_wp2
    go_ret2
    exact ⟨rfl, by repeat (first | exact Below.refl _ _ | apply Below.drew | apply bl_alloc)⟩
end Go.Proofs.YthbelehhhjngfaaDoor
