/-
  The program's tests: what a function value stands for.
-/
import Derived.Test.YtedaleonmcllkaaBF5
import Derived.Test.YtedaleonmcllkaaShelfC
namespace Go.Proofs.Ytedaleonmcllkaa
open Go.RowKit Pl Il

def bdV : Bd → Value
  | .inl n => .iface 88 (.int .i64 n)
  | .inr s => .iface 89 (.string s)
def BdOk : Bd → Prop
  | .inl _ => True
  | .inr s => s.size ≤ 40
/-- The library's own variable holds some number. -/
def GOk (W : World) : Prop := ∃ m, W.cell? ⟨0, 0, none⟩ = some (.int .i64 m)
theorem GOk.keep {W W' : World} (h : GOk W) (hb : Below W.heap.size W W') : GOk W' := by
  obtain ⟨m, h⟩ := h
  exact ⟨m, by rw [hb.cell (World.block_lt_of_cell? W _ h)]; exact h⟩
/-- What a call of the function value does, wherever the blocks F lie as they lie in u. -/
def Does (F : List Nat) (u : World) (k : Nat) (caps : Array Value) (p : Pd) : Prop :=
  ∀ (W : World) (b : Bd), BdOk b → GOk W → (∀ j, j ∈ F → W.heap[j]? = u.heap[j]?) → Calls Try.prog k (#[bdV b] ++ caps) W fun e W' => e = .returned (.bool (p b)) ∧ Below W.heap.size W W'
def RepP (F : List Nat) (u : World) (v : Value) (p : Pd) : Prop :=
  (∀ j, j ∈ F → j < u.heap.size) ∧ ∃ (k : Nat) (caps : Array Value), v = .func (.func k) #[] caps ∧ (∀ args W, (callFunc k args).run Try.prog W = .ok (.enter k args) W) ∧ Does F u k caps p
theorem as_nn (n : Int) (u : World) : (Instr.typeAssert (.iface 88 (.int .i64 n)) 65 88 true).run Try.prog u = .ok (.tuple #[.int .i64 n, .bool true]) u := by kernel_rfl
theorem as_nt (s : ByteArray) (u : World) : (Instr.typeAssert (.iface 89 (.string s)) 65 88 true).run Try.prog u = .ok (.tuple #[.int .i64 0, .bool false]) u := by kernel_rfl
theorem as_tn (n : Int) (u : World) : (Instr.typeAssert (.iface 88 (.int .i64 n)) 65 89 true).run Try.prog u = .ok (.tuple #[.string ⟨#[]⟩, .bool false]) u := by kernel_rfl
theorem as_tt (s : ByteArray) (u : World) : (Instr.typeAssert (.iface 89 (.string s)) 65 89 true).run Try.prog u = .ok (.tuple #[.string s, .bool true]) u := by kernel_rfl
theorem passAll_does (u : World) : Does [] u 50 #[] (fun _ => true) := by
  intro W b _ _ _
  cases b <;>
  · unfold bdV
    go_enter Try.func50, Try.ntmps50
    go_wp2
    go_ret
    exact ⟨rfl, Below.refl _ _⟩
theorem num_txt (c : Nat) (s : ByteArray) (W : World) : Calls Try.prog 76 #[bdV (.inr s), .pointer (some ⟨c, 0, none⟩)] W fun e W' => e = .returned (.bool false) ∧ Below W.heap.size W W' := by
  have a1 := as_nt s
  unfold bdV
  go_enter Try.func76, Try.ntmps76
  go_wp2
  go_ret
  exact ⟨rfl, Below.refl _ _⟩
theorem txt_num (c : Nat) (n : Int) (W : World) : Calls Try.prog 77 #[bdV (.inl n), .pointer (some ⟨c, 0, none⟩)] W fun e W' => e = .returned (.bool false) ∧ Below W.heap.size W W' := by
  have a1 := as_tn n
  unfold bdV
  go_enter Try.func77, Try.ntmps77
  go_wp2
  go_ret
  exact ⟨rfl, Below.refl _ _⟩
end Go.Proofs.Ytedaleonmcllkaa
