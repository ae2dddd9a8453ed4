/-
  A text in quotation marks, as the walks meet it; what is read of a text.
-/
import Derived.Test.YtpfnbnlipfobiafDoorNum2
namespace Go.Proofs.YtpfnbnlipfobiafDoor.Nu
open Pl

def quotedB (s : ByteArray) : Bool := decide (2 ≤ s.size) && decide (s.data.toList[0]? = some 34) && decide (s.data.toList[s.size - 1]? = some 34)
def mid (s : ByteArray) : ByteArray := s.extract 1 (s.size - 1)
/-- The message whose text s is, if any: its kind, its number, its text. -/
def readM (s : ByteArray) : Option (Int × Int × ByteArray) :=
  match numL s.data.toList with
  | some n => some (1, n, ⟨#[]⟩)
  | none => if quotedB s = true ∧ plainB (mid s) = true then some (2, 0, mid s) else none
def msgV : Option (Int × Int × ByteArray) → Value
  | some (k, n, t) => .tuple #[.agg #[.int .i64 k, .int .i64 n, .string t], .bool true]
  | none => .tuple #[.agg #[.int .i64 0, .int .i64 0, .string ⟨#[]⟩], .bool false]

theorem at_eq (s : ByteArray) (i : Nat) (h : i < s.size) : s.data.toList[i]? = some s[i] := by
  rw [List.getElem?_eq_getElem (by rw [len_eq]; exact h)]; rfl
theorem b34 {c : UInt8} (h : (c.toNat : Int) = 34) : c = 34 := UInt8.toNat_inj.1 (by have e : (34 : UInt8).toNat = 34 := rfl; omega)
theorem n34 {c : UInt8} (h : c = 34) : (c.toNat : Int) = 34 := by rw [h]; rfl
theorem q_short {s : ByteArray} (h : (s.size : Int) < 2) : quotedB s = false := by
  have : ¬ 2 ≤ s.size := by omega
  simp [quotedB, this]
theorem q_first {s : ByteArray} (h0 : 0 < s.size) (h : ¬ (s[0].toNat : Int) = 34) : quotedB s = false := by
  have : ¬ s.data.toList[0]? = some 34 := by
    rw [at_eq s 0 h0]; intro e; exact h (n34 (Option.some.inj e))
  simp only [quotedB, this, decide_false, Bool.and_false, Bool.false_and]
theorem q_last {s : ByteArray} (h0 : s.size - 1 < s.size) (h : (s.size : Int) < 2 ∨ ((s[s.size - 1].toNat : Int) != 34) = true) : quotedB s = false := by
  rcases h with h | h
  · exact q_short h
  · have : ¬ s.data.toList[s.size - 1]? = some 34 := by
      rw [at_eq s _ h0]; intro e
      have := n34 (Option.some.inj e)
      rw [this] at h; cases h
    simp only [quotedB, this, decide_false, Bool.and_false]
theorem q_yes {s : ByteArray} (h2 : 2 ≤ (s.size : Int)) (h0 : 0 < s.size) (h1 : s.size - 1 < s.size) (hf : (s[0].toNat : Int) = 34) (hl : ((s[s.size - 1].toNat : Int) != 34) = false) : quotedB s = true := by
  have a : 2 ≤ s.size := by omega
  have b : s.data.toList[0]? = some 34 := by rw [at_eq s 0 h0, b34 hf]
  have c : s.data.toList[s.size - 1]? = some 34 := by
    rw [at_eq s _ h1]
    have : (s[s.size - 1].toNat : Int) = 34 := by simpa using hl
    rw [b34 this]
  simp only [quotedB, a, b, c, decide_true, Bool.and_self]
theorem q_last' {s : ByteArray} (h0 : s.size - 1 < s.size) (h : ¬ (s[s.size - 1].toNat : Int) = 34) : quotedB s = false :=
  q_last h0 (.inr (by simpa using h))
theorem q_yes' {s : ByteArray} (h2 : 2 ≤ (s.size : Int)) (h0 : 0 < s.size) (h1 : s.size - 1 < s.size) (hf : (s[0].toNat : Int) = 34) (hl : (s[s.size - 1].toNat : Int) = 34) : quotedB s = true :=
  q_yes h2 h0 h1 hf (by rw [hl]; rfl)
theorem mid_size (s : ByteArray) : (mid s).size ≤ s.size := by unfold mid; rw [ByteArray.size_extract]; omega
theorem read_num {s : ByteArray} {n : Int} (h : numL s.data.toList = some n) : readM s = some (1, n, ⟨#[]⟩) := by simp [readM, h]
theorem read_no {s : ByteArray} (h : numL s.data.toList = none) (hq : quotedB s = false) : readM s = none := by simp [readM, h, hq]
theorem read_bad {s : ByteArray} (h : numL s.data.toList = none) (hp : plainB (mid s) = false) : readM s = none := by simp [readM, h, hp]
theorem read_text {s : ByteArray} (h : numL s.data.toList = none) (hq : quotedB s = true) (hp : plainB (mid s) = true) : readM s = some (2, 0, mid s) := by simp [readM, h, hq, hp]
end Go.Proofs.YtpfnbnlipfobiafDoor.Nu
