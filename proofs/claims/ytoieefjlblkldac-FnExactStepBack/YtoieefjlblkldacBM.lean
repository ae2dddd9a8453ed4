/-
  Which method an event of either kind has behind its interface.
-/
import Derived.Test.YtoieefjlblkldacBE
namespace Go.Proofs.Ytoieefjlblkldac
open Go.RowKit Go.Maps Pl Il

theorem meth_man_right (b : Nat) (w : World) : (method 224 85 (.pointer (some ⟨b, 0, none⟩)) "loop.example/g00098/impl.right").run Try.prog w = .ok (85, .pointer (some ⟨b, 0, none⟩)) w := by kernel_rfl
theorem meth_man_event (b : Nat) (w : World) : (method 224 85 (.pointer (some ⟨b, 0, none⟩)) "loop.example/g00098/impl.event").run Try.prog w = .ok (81, .pointer (some ⟨b, 0, none⟩)) w := by kernel_rfl
theorem meth_man_reset (b : Nat) (w : World) : (method 224 85 (.pointer (some ⟨b, 0, none⟩)) "loop.example/g00098/impl.reset").run Try.prog w = .ok (84, .pointer (some ⟨b, 0, none⟩)) w := by kernel_rfl
theorem meth_man_stand (b : Nat) (w : World) : (method 224 85 (.pointer (some ⟨b, 0, none⟩)) "loop.example/g00098/impl.stand").run Try.prog w = .ok (86, .pointer (some ⟨b, 0, none⟩)) w := by kernel_rfl
theorem meth_man_goOn (b : Nat) (w : World) : (method 224 85 (.pointer (some ⟨b, 0, none⟩)) "loop.example/g00098/impl.goOn").run Try.prog w = .ok (82, .pointer (some ⟨b, 0, none⟩)) w := by kernel_rfl
theorem meth_man_raise (b : Nat) (w : World) : (method 224 85 (.pointer (some ⟨b, 0, none⟩)) "loop.example/g00098/impl.raise").run Try.prog w = .ok (83, .pointer (some ⟨b, 0, none⟩)) w := by kernel_rfl
theorem meth_man_stepBack (b : Nat) (w : World) : (method 224 85 (.pointer (some ⟨b, 0, none⟩)) "loop.example/g00098/impl.stepBack").run Try.prog w = .ok (87, .pointer (some ⟨b, 0, none⟩)) w := by kernel_rfl
theorem meth_auto_right (b : Nat) (w : World) : (method 224 88 (.pointer (some ⟨b, 0, none⟩)) "loop.example/g00098/impl.right").run Try.prog w = .ok (100, .pointer (some ⟨b, 0, none⟩)) w := by kernel_rfl
theorem meth_auto_event (b : Nat) (w : World) : (method 224 88 (.pointer (some ⟨b, 0, none⟩)) "loop.example/g00098/impl.event").run Try.prog w = .ok (96, .pointer (some ⟨b, 0, none⟩)) w := by kernel_rfl
theorem meth_auto_reset (b : Nat) (w : World) : (method 224 88 (.pointer (some ⟨b, 0, none⟩)) "loop.example/g00098/impl.reset").run Try.prog w = .ok (99, .pointer (some ⟨b, 0, none⟩)) w := by kernel_rfl
theorem meth_auto_stand (b : Nat) (w : World) : (method 224 88 (.pointer (some ⟨b, 0, none⟩)) "loop.example/g00098/impl.stand").run Try.prog w = .ok (101, .pointer (some ⟨b, 0, none⟩)) w := by kernel_rfl
theorem meth_auto_goOn (b : Nat) (w : World) : (method 224 88 (.pointer (some ⟨b, 0, none⟩)) "loop.example/g00098/impl.goOn").run Try.prog w = .ok (97, .pointer (some ⟨b, 0, none⟩)) w := by kernel_rfl
theorem meth_auto_raise (b : Nat) (w : World) : (method 224 88 (.pointer (some ⟨b, 0, none⟩)) "loop.example/g00098/impl.raise").run Try.prog w = .ok (98, .pointer (some ⟨b, 0, none⟩)) w := by kernel_rfl
theorem meth_auto_stepBack (b : Nat) (w : World) : (method 224 88 (.pointer (some ⟨b, 0, none⟩)) "loop.example/g00098/impl.stepBack").run Try.prog w = .ok (102, .pointer (some ⟨b, 0, none⟩)) w := by kernel_rfl
end Go.Proofs.Ytoieefjlblkldac
