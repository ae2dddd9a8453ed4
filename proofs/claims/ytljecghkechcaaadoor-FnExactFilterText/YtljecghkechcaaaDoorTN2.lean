/-
  Names and patterns: the walks of what is a plain part.
-/
import Derived.Test.YtljecghkechcaaaDoorTN1
import Derived.Test.YtljecghkechcaaaDoorPlain
import Derived.Test.YtljecghkechcaaaDoorProg
namespace Go.Proofs.YtljecghkechcaaaDoor
open Go.RowKit Pl Tn

theorem rboolT {a b : Bool} (h : a = b) : Ending.returned (.bool a) = .returned (.bool b) := by rw [h]
theorem ba_empty {s : ByteArray} (h : s.size = 0) : s = ⟨#[]⟩ := dat_inj (by rw [show dat ⟨#[]⟩ = [] from rfl]; exact List.length_eq_zero_iff.1 (by rw [dat_len]; exact h))
theorem tl_len (s : ByteArray) : s.toList.length = s.size := by rw [ByteArray.toList_eq]; rfl
theorem tl_ne {s : ByteArray} (h : s.size ≠ 0) : s.toList.isEmpty = false := by
  cases he : s.toList.isEmpty with
  | false => rfl
  | true =>
    exfalso
    have e : s.toList = [] := by simpa using he
    exact h (by have := tl_len s; rw [e] at this; simpa using this.symm)
theorem ranges (c : Int) : (c < 48) ∨ (48 ≤ c ∧ c ≤ 57) ∨ (57 < c ∧ c < 97) ∨ (97 ≤ c ∧ c ≤ 122) ∨ 122 < c := by omega
theorem dle {a b : Int} (h : a ≤ b) : decide (a ≤ b) = true := by simpa using h
theorem dgt {a b : Int} (h : b < a) : decide (a ≤ b) = false := by simp; omega
end Go.Proofs.YtljecghkechcaaaDoor
