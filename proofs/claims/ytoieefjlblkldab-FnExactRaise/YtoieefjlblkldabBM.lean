/-
  Which method an event of either kind has behind its interface.
-/
import Derived.Test.YtoieefjlblkldabBE
namespace Go.Proofs.Ytoieefjlblkldab
open Go.RowKit Go.Maps Pl Il

theorem meth_man_right (b : Nat) (w : World) : (method 258 129 (.pointer (some ⟨b, 0, none⟩)) "loop.example/g00098/impl.right").run Try.prog w = .ok (119, .pointer (some ⟨b, 0, none⟩)) w := by kernel_rfl
theorem meth_man_event (b : Nat) (w : World) : (method 258 129 (.pointer (some ⟨b, 0, none⟩)) "loop.example/g00098/impl.event").run Try.prog w = .ok (115, .pointer (some ⟨b, 0, none⟩)) w := by kernel_rfl
theorem meth_man_reset (b : Nat) (w : World) : (method 258 129 (.pointer (some ⟨b, 0, none⟩)) "loop.example/g00098/impl.reset").run Try.prog w = .ok (118, .pointer (some ⟨b, 0, none⟩)) w := by kernel_rfl
theorem meth_man_stand (b : Nat) (w : World) : (method 258 129 (.pointer (some ⟨b, 0, none⟩)) "loop.example/g00098/impl.stand").run Try.prog w = .ok (120, .pointer (some ⟨b, 0, none⟩)) w := by kernel_rfl
theorem meth_man_goOn (b : Nat) (w : World) : (method 258 129 (.pointer (some ⟨b, 0, none⟩)) "loop.example/g00098/impl.goOn").run Try.prog w = .ok (116, .pointer (some ⟨b, 0, none⟩)) w := by kernel_rfl
theorem meth_man_raise (b : Nat) (w : World) : (method 258 129 (.pointer (some ⟨b, 0, none⟩)) "loop.example/g00098/impl.raise").run Try.prog w = .ok (117, .pointer (some ⟨b, 0, none⟩)) w := by kernel_rfl
theorem meth_man_stepBack (b : Nat) (w : World) : (method 258 129 (.pointer (some ⟨b, 0, none⟩)) "loop.example/g00098/impl.stepBack").run Try.prog w = .ok (121, .pointer (some ⟨b, 0, none⟩)) w := by kernel_rfl
theorem meth_auto_right (b : Nat) (w : World) : (method 258 132 (.pointer (some ⟨b, 0, none⟩)) "loop.example/g00098/impl.right").run Try.prog w = .ok (128, .pointer (some ⟨b, 0, none⟩)) w := by kernel_rfl
theorem meth_auto_event (b : Nat) (w : World) : (method 258 132 (.pointer (some ⟨b, 0, none⟩)) "loop.example/g00098/impl.event").run Try.prog w = .ok (124, .pointer (some ⟨b, 0, none⟩)) w := by kernel_rfl
theorem meth_auto_reset (b : Nat) (w : World) : (method 258 132 (.pointer (some ⟨b, 0, none⟩)) "loop.example/g00098/impl.reset").run Try.prog w = .ok (127, .pointer (some ⟨b, 0, none⟩)) w := by kernel_rfl
theorem meth_auto_stand (b : Nat) (w : World) : (method 258 132 (.pointer (some ⟨b, 0, none⟩)) "loop.example/g00098/impl.stand").run Try.prog w = .ok (129, .pointer (some ⟨b, 0, none⟩)) w := by kernel_rfl
theorem meth_auto_goOn (b : Nat) (w : World) : (method 258 132 (.pointer (some ⟨b, 0, none⟩)) "loop.example/g00098/impl.goOn").run Try.prog w = .ok (125, .pointer (some ⟨b, 0, none⟩)) w := by kernel_rfl
theorem meth_auto_raise (b : Nat) (w : World) : (method 258 132 (.pointer (some ⟨b, 0, none⟩)) "loop.example/g00098/impl.raise").run Try.prog w = .ok (126, .pointer (some ⟨b, 0, none⟩)) w := by kernel_rfl
theorem meth_auto_stepBack (b : Nat) (w : World) : (method 258 132 (.pointer (some ⟨b, 0, none⟩)) "loop.example/g00098/impl.stepBack").run Try.prog w = .ok (130, .pointer (some ⟨b, 0, none⟩)) w := by kernel_rfl
end Go.Proofs.Ytoieefjlblkldab
