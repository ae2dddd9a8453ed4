/-
  The plain mathematics of what matches: which names of a list match, told by their numbers.
-/
import Derived.Test.YthhehonlejmmaaaDoorTN1
namespace Go.Proofs.YthhehonlejmmaaaDoor.Tn
open Go.RowKit Go.Lib

theorem match_end (ys : List ByteArray) : matchL [] ys = ys.isEmpty := by cases ys <;> rfl
theorem match_none (x : ByteArray) (xs : List ByteArray) : matchL (x :: xs) [] = false := rfl
theorem match_rest {x y : ByteArray} {xs ys : List ByteArray} (h : x = rest) : matchL (x :: xs) (y :: ys) = true := by simp [matchL, h]
theorem match_step {x y : ByteArray} {xs ys : List ByteArray} (h : ¬ x = rest) (h2 : x = star ∨ x = y) : matchL (x :: xs) (y :: ys) = matchL xs ys := by
  rcases h2 with h2 | h2
  · simp only [matchL, h2, decide_true, Bool.true_or, Bool.true_and]; rw [show decide (star = rest) = false by decide, Bool.false_or]
  · simp only [matchL, h, decide_false, Bool.false_or]; rw [show decide (x = y) = true by simpa using h2, Bool.or_true, Bool.true_and]
theorem match_not {x y : ByteArray} {xs ys : List ByteArray} (h : ¬ x = rest) (h2 : ¬ x = star) (h3 : ¬ x = y) : matchL (x :: xs) (y :: ys) = false := by simp [matchL, h, h2, h3]
theorem drop_cons {xs : List ByteArray} {q : Nat} (hq : q < xs.length) : xs.drop q = xs.getD q ⟨#[]⟩ :: xs.drop (q + 1) := by
  rw [List.drop_eq_getElem_cons hq]
  have e : xs.getD q ⟨#[]⟩ = xs[q] := by simp [List.getD, List.getElem?_eq_getElem hq]
  rw [e]
theorem parts_at {f : Bool → ByteArray → Bool} {n : Nat} {xs : List ByteArray} (h : partsF f n 0 xs = true) : ∀ q, q < xs.length → f (decide (q + 1 = n)) (xs.getD q ⟨#[]⟩) = true := by
  have key : ∀ (ys : List ByteArray) (i : Nat), partsF f n i ys = true → ∀ q, q < ys.length → f (decide (i + q + 1 = n)) (ys.getD q ⟨#[]⟩) = true := by
    intro ys
    induction ys with
    | nil => intro i _ q hq; simp at hq
    | cons y ys ih =>
      intro i hp q hq
      simp only [partsF, Bool.and_eq_true] at hp
      cases q with
      | zero => exact hp.1
      | succ q =>
        have := ih (i + 1) hp.2 q (by simpa using hq)
        rw [show i + (q + 1) + 1 = i + 1 + q + 1 by omega]
        exact this
  intro q hq
  have := key xs 0 h q hq
  rwa [Nat.zero_add] at this
theorem plain_rest : plainP rest = false := by decide
/-- What stands for all the rest is a right pattern's last part. -/
theorem rest_last {pat : ByteArray} (h : rightN true pat = true) {q : Nat} (hq : q < (partsB pat).length) (he : (partsB pat).getD q ⟨#[]⟩ = rest) : q + 1 = (partsB pat).length := by
  unfold rightN rightF at h
  rw [Bool.and_eq_true] at h
  have := parts_at h.2 q hq
  rw [he] at this
  simp only [okPart, plain_rest, Bool.true_and, Bool.or_false, decide_true] at this
  rw [show decide (rest = star) = false by decide, Bool.false_or] at this
  simpa using this
theorem right_size {st : Bool} {s : ByteArray} (h : rightN st s = true) : s.size ≤ 24 := by
  unfold rightN rightF at h
  rw [Bool.and_eq_true] at h
  simpa using h.1
theorem match_len {xs ys : List ByteArray} (h : xs.length ≤ ys.length) : matchL (xs.drop xs.length) (ys.drop xs.length) = decide (ys.length = xs.length) := by
  rw [List.drop_length, match_end, Bool.eq_iff_iff, List.isEmpty_iff, decide_eq_true_eq, List.drop_eq_nil_iff]
  omega
/-- The numbers of the names that match. -/
def matchIx (xs : List ByteArray) : Nat → List ByteArray → List Int
  | _, [] => []
  | i, y :: ys => (if matchL xs (partsB y) then [(i : Int)] else []) ++ matchIx xs (i + 1) ys
theorem ix_step {xs ns : List ByteArray} {k : Nat} (hk : k < ns.length) : matchIx xs k (ns.drop k) = (if matchL xs (partsB (ns.getD k ⟨#[]⟩)) then [(k : Int)] else []) ++ matchIx xs (k + 1) (ns.drop (k + 1)) := by
  rw [drop_cons hk]; rfl
theorem ix_end {xs ns : List ByteArray} : matchIx xs ns.length (ns.drop ns.length) = [] := by rw [List.drop_length]; rfl
theorem ix_le (xs : List ByteArray) : ∀ (ys : List ByteArray) (i : Nat), (matchIx xs i ys).length ≤ ys.length := by
  intro ys
  induction ys with
  | nil => intro i; simp [matchIx]
  | cons y ys ih =>
    intro i
    have := ih (i + 1)
    simp only [matchIx, List.length_append, List.length_cons]
    split <;> simp <;> omega
theorem ix_one (xs : List ByteArray) (y : ByteArray) : decide (((matchIx xs 0 [y]).length : Int) = 1) = matchL xs (partsB y) := by
  simp only [matchIx, List.append_nil]
  split <;> simp_all
end Go.Proofs.YthhehonlejmmaaaDoor.Tn
