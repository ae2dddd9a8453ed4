/-
  Which method an event of either kind has behind its interface.
-/
import Derived.Test.YtbhdjcggcgddfaaBE
namespace Go.Proofs.Ytbhdjcggcgddfaa
open Go.RowKit Go.Maps Pl Il

theorem meth_man_right (b : Nat) (w : World) : (method 338 192 (.pointer (some ⟨b, 0, none⟩)) "loop.example/g00098/impl.right").run Try.prog w = .ok (191, .pointer (some ⟨b, 0, none⟩)) w := by kernel_rfl
theorem meth_man_event (b : Nat) (w : World) : (method 338 192 (.pointer (some ⟨b, 0, none⟩)) "loop.example/g00098/impl.event").run Try.prog w = .ok (187, .pointer (some ⟨b, 0, none⟩)) w := by kernel_rfl
theorem meth_man_reset (b : Nat) (w : World) : (method 338 192 (.pointer (some ⟨b, 0, none⟩)) "loop.example/g00098/impl.reset").run Try.prog w = .ok (190, .pointer (some ⟨b, 0, none⟩)) w := by kernel_rfl
theorem meth_man_stand (b : Nat) (w : World) : (method 338 192 (.pointer (some ⟨b, 0, none⟩)) "loop.example/g00098/impl.stand").run Try.prog w = .ok (192, .pointer (some ⟨b, 0, none⟩)) w := by kernel_rfl
theorem meth_man_goOn (b : Nat) (w : World) : (method 338 192 (.pointer (some ⟨b, 0, none⟩)) "loop.example/g00098/impl.goOn").run Try.prog w = .ok (188, .pointer (some ⟨b, 0, none⟩)) w := by kernel_rfl
theorem meth_man_raise (b : Nat) (w : World) : (method 338 192 (.pointer (some ⟨b, 0, none⟩)) "loop.example/g00098/impl.raise").run Try.prog w = .ok (189, .pointer (some ⟨b, 0, none⟩)) w := by kernel_rfl
theorem meth_man_stepBack (b : Nat) (w : World) : (method 338 192 (.pointer (some ⟨b, 0, none⟩)) "loop.example/g00098/impl.stepBack").run Try.prog w = .ok (193, .pointer (some ⟨b, 0, none⟩)) w := by kernel_rfl
theorem meth_auto_right (b : Nat) (w : World) : (method 338 195 (.pointer (some ⟨b, 0, none⟩)) "loop.example/g00098/impl.right").run Try.prog w = .ok (199, .pointer (some ⟨b, 0, none⟩)) w := by kernel_rfl
theorem meth_auto_event (b : Nat) (w : World) : (method 338 195 (.pointer (some ⟨b, 0, none⟩)) "loop.example/g00098/impl.event").run Try.prog w = .ok (195, .pointer (some ⟨b, 0, none⟩)) w := by kernel_rfl
theorem meth_auto_reset (b : Nat) (w : World) : (method 338 195 (.pointer (some ⟨b, 0, none⟩)) "loop.example/g00098/impl.reset").run Try.prog w = .ok (198, .pointer (some ⟨b, 0, none⟩)) w := by kernel_rfl
theorem meth_auto_stand (b : Nat) (w : World) : (method 338 195 (.pointer (some ⟨b, 0, none⟩)) "loop.example/g00098/impl.stand").run Try.prog w = .ok (200, .pointer (some ⟨b, 0, none⟩)) w := by kernel_rfl
theorem meth_auto_goOn (b : Nat) (w : World) : (method 338 195 (.pointer (some ⟨b, 0, none⟩)) "loop.example/g00098/impl.goOn").run Try.prog w = .ok (196, .pointer (some ⟨b, 0, none⟩)) w := by kernel_rfl
theorem meth_auto_raise (b : Nat) (w : World) : (method 338 195 (.pointer (some ⟨b, 0, none⟩)) "loop.example/g00098/impl.raise").run Try.prog w = .ok (197, .pointer (some ⟨b, 0, none⟩)) w := by kernel_rfl
theorem meth_auto_stepBack (b : Nat) (w : World) : (method 338 195 (.pointer (some ⟨b, 0, none⟩)) "loop.example/g00098/impl.stepBack").run Try.prog w = .ok (201, .pointer (some ⟨b, 0, none⟩)) w := by kernel_rfl
end Go.Proofs.Ytbhdjcggcgddfaa
