/-
  Walks: which of two messages is ahead.
  Walks: which of two messages is ahead, by the specification's own text.
-/
import Derived.Test.YtbbhaekmjnincaaZFnSees23
namespace Go.Proofs.Ytbbhaekmjnincaa
open Go.RowKit Pl

def ltB (k n : Int) (s : ByteArray) (k' n' : Int) (s' : ByteArray) : Bool :=
  if okB k n s = true ∧ okB k' n' s' = true then (if k = k' then (if k = 1 then decide (n < n') else Op.bytesLess s.toList s'.toList) else decide (k < k')) else false

theorem as_nn (a : Int) (w : World) : (Instr.typeAssert (.iface 86 (.int .i64 a)) 62 86 true).run Try.prog w = .ok (.tuple #[.int .i64 a, .bool true]) w := by kernel_rfl
theorem as_nt (s : ByteArray) (w : World) : (Instr.typeAssert (.iface 87 (.string s)) 62 86 true).run Try.prog w = .ok (.tuple #[.int .i64 0, .bool false]) w := by kernel_rfl
theorem as_tn (a : Int) (w : World) : (Instr.typeAssert (.iface 86 (.int .i64 a)) 62 87 true).run Try.prog w = .ok (.tuple #[.string ⟨#[]⟩, .bool false]) w := by kernel_rfl
theorem as_tt (s : ByteArray) (w : World) : (Instr.typeAssert (.iface 87 (.string s)) 62 87 true).run Try.prog w = .ok (.tuple #[.string s, .bool true]) w := by kernel_rfl

theorem less_nn (a b : Int) (w : World) :
    Calls Try.prog 52 #[.iface 86 (.int .i64 a), .iface 86 (.int .i64 b)] w fun e w' => e = .returned (.bool (decide (a < b))) ∧ w' = w := by
  have m1 := as_nn
  go_enter Try.func52, Try.ntmps52
  go_wp2
  go_ret
  exact ⟨rfl, rfl⟩
theorem less_nt (a : Int) (s : ByteArray) (w : World) :
    Calls Try.prog 52 #[.iface 86 (.int .i64 a), .iface 87 (.string s)] w fun e w' => e = .returned (.bool true) ∧ w' = w := by
  have m1 := as_nn
  have m2 := as_nt
  go_enter Try.func52, Try.ntmps52
  go_wp2
  go_ret
  exact ⟨rfl, rfl⟩
theorem less_tn (a : Int) (s : ByteArray) (w : World) :
    Calls Try.prog 52 #[.iface 87 (.string s), .iface 86 (.int .i64 a)] w fun e w' => e = .returned (.bool false) ∧ w' = w := by
  have m1 := as_nt
  have m2 := as_tt
  have m3 := as_tn
  go_enter Try.func52, Try.ntmps52
  go_wp2
  go_ret
  exact ⟨rfl, rfl⟩
theorem less_tt (s t : ByteArray) (w : World) :
    Calls Try.prog 52 #[.iface 87 (.string s), .iface 87 (.string t)] w fun e w' => e = .returned (.bool (Op.bytesLess s.toList t.toList)) ∧ w' = w := by
  have m1 := as_nt
  have m2 := as_tt
  go_enter Try.func52, Try.ntmps52
  go_wp2
  go_ret
  exact ⟨rfl, rfl⟩

theorem ok_kind {k n : Int} {s : ByteArray} (h : okB k n s = true) : k = 1 ∨ k = 2 := by
  unfold okB at h
  by_cases h1 : k = 1
  · exact .inl h1
  · by_cases h2 : k = 2
    · exact .inr h2
    · simp [h1, h2] at h

/-- Two bodies, whichever they are: which is ahead. -/
theorem less_any (k n : Int) (s : ByteArray) (k' n' : Int) (s' : ByteArray) (w : World) (h : okB k n s = true) (h' : okB k' n' s' = true) :
    Calls Try.prog 52 #[.iface (tyOf k) (valOf k n s), .iface (tyOf k') (valOf k' n' s')] w fun e w' => e = .returned (.bool (ltB k n s k' n' s')) ∧ w' = w := by
  rcases ok_kind h with rfl | rfl <;> rcases ok_kind h' with rfl | rfl
  · refine (less_nn n n' w).mono fun e w' ⟨he, hw⟩ => ⟨?_, hw⟩
    rw [he]; simp [ltB, h, h']
  · refine (less_nt n s' w).mono fun e w' ⟨he, hw⟩ => ⟨?_, hw⟩
    rw [he]; simp [ltB, h, h']
  · refine (less_tn n' s w).mono fun e w' ⟨he, hw⟩ => ⟨?_, hw⟩
    rw [he]; simp [ltB, h, h']
  · refine (less_tt s s' w).mono fun e w' ⟨he, hw⟩ => ⟨?_, hw⟩
    rw [he]; simp [ltB, h, h']

theorem lt_no1 {k n : Int} {s : ByteArray} {k' n' : Int} {s' : ByteArray} (h : okB k n s = false) : ltB k n s k' n' s' = false := by simp [ltB, h]
theorem lt_no2 {k n : Int} {s : ByteArray} {k' n' : Int} {s' : ByteArray} (h : okB k' n' s' = false) : ltB k n s k' n' s' = false := by simp [ltB, h]

end Go.Proofs.Ytbbhaekmjnincaa
namespace Go.Proofs.Ytbbhaekmjnincaa
open Go.RowKit Pl

theorem lt_kinds {k n : Int} {s : ByteArray} {k' n' : Int} {s' : ByteArray} (h : okB k n s = true) (h' : okB k' n' s' = true) (hk : ¬ k = k') : ltB k n s k' n' s' = decide (k < k') := by simp [ltB, h, h', hk]
theorem lt_nums {n : Int} {s : ByteArray} {n' : Int} {s' : ByteArray} (h : okB 1 n s = true) (h' : okB 1 n' s' = true) : ltB 1 n s 1 n' s' = decide (n < n') := by simp [ltB, h, h']
theorem lt_texts {k n : Int} {s : ByteArray} {n' : Int} {s' : ByteArray} (h : okB k n s = true) (h' : okB k n' s' = true) (hk : ¬ k = 1) : ltB k n s k n' s' = Op.bytesLess s.toList s'.toList := by simp [ltB, h, h', hk]

end Go.Proofs.Ytbbhaekmjnincaa
