/-
  What a change makes of a message: plain mathematics.
-/
import Derived.Test.YtbbhaekmjnincaaCM9
import Derived.Test.YtbbhaekmjnincaaZFnSees24
namespace Go.Proofs.Ytbbhaekmjnincaa
open Go.RowKit Pl Il

/-- What comes of it, whether it is right or not. -/
def chRaw (k n : Int) (s : ByteArray) (kind k' n' : Int) (s' : ByteArray) : Option (Int × Int × ByteArray) :=
  if kind = 1 then some (k', n', s')
  else if kind = 2 then (if k = 1 ∧ k' = 1 then some (k', n + n', s') else none)
  else if kind = 3 then (if k = 2 ∧ k' = 2 then some (k', n', s ++ s') else none)
  else if kind = 4 then (if ltB k' n' s' k n s = true then some (k, n, s) else some (k', n', s'))
  else none
def noCh : Int × Int × ByteArray × Bool := (0, 0, ⟨#[]⟩, false)
def changedM (k n : Int) (s : ByteArray) (kind k' n' : Int) (s' : ByteArray) : Int × Int × ByteArray × Bool :=
  if okB k n s = false then noCh else if okB k' n' s' = false then noCh else
  match chRaw k n s kind k' n' s' with
  | none => noCh
  | some (a, b, c) => if okB a b c = true then (a, b, c, true) else noCh
/-- The answer. -/
def ChP (r : Int × Int × ByteArray × Bool) (e : Ending) : Prop := e = .returned (.tuple #[.agg #[.int .i64 r.1, .int .i64 r.2.1, .string r.2.2.1], .bool r.2.2.2])
theorem ch_no1 {k n : Int} {s : ByteArray} {kind k' n' : Int} {s' : ByteArray} (h : okB k n s = false) : changedM k n s kind k' n' s' = noCh := by unfold changedM; rw [if_pos h]
theorem ch_no2 {k n : Int} {s : ByteArray} {kind k' n' : Int} {s' : ByteArray} (h0 : okB k n s = true) (h : okB k' n' s' = false) : changedM k n s kind k' n' s' = noCh := by unfold changedM; rw [if_neg (by rw [h0]; simp), if_pos h]
theorem ch_none {k n : Int} {s : ByteArray} {kind k' n' : Int} {s' : ByteArray} (h0 : okB k n s = true) (h1 : okB k' n' s' = true) (h : chRaw k n s kind k' n' s' = none) : changedM k n s kind k' n' s' = noCh := by unfold changedM; rw [if_neg (by rw [h0]; simp), if_neg (by rw [h1]; simp), h]
theorem ch_some {k n : Int} {s : ByteArray} {kind k' n' : Int} {s' : ByteArray} {a b : Int} {c : ByteArray} (h0 : okB k n s = true) (h1 : okB k' n' s' = true) (h : chRaw k n s kind k' n' s' = some (a, b, c)) : changedM k n s kind k' n' s' = if okB a b c = true then (a, b, c, true) else noCh := by unfold changedM; rw [if_neg (by rw [h0]; simp), if_neg (by rw [h1]; simp), h]
theorem raw1 (k n : Int) (s : ByteArray) (k' n' : Int) (s' : ByteArray) : chRaw k n s 1 k' n' s' = some (k', n', s') := rfl
theorem raw2 {k n : Int} {s : ByteArray} {k' n' : Int} {s' : ByteArray} (h : k = 1 ∧ k' = 1) : chRaw k n s 2 k' n' s' = some (k', n + n', s') := by unfold chRaw; rw [if_neg (by omega), if_pos rfl, if_pos h]
theorem raw2n {k n : Int} {s : ByteArray} {k' n' : Int} {s' : ByteArray} (h : ¬ (k = 1 ∧ k' = 1)) : chRaw k n s 2 k' n' s' = none := by unfold chRaw; rw [if_neg (by omega), if_pos rfl, if_neg h]
theorem raw3 {k n : Int} {s : ByteArray} {k' n' : Int} {s' : ByteArray} (h : k = 2 ∧ k' = 2) : chRaw k n s 3 k' n' s' = some (k', n', s ++ s') := by unfold chRaw; rw [if_neg (by omega), if_neg (by omega), if_pos rfl, if_pos h]
theorem raw3n {k n : Int} {s : ByteArray} {k' n' : Int} {s' : ByteArray} (h : ¬ (k = 2 ∧ k' = 2)) : chRaw k n s 3 k' n' s' = none := by unfold chRaw; rw [if_neg (by omega), if_neg (by omega), if_pos rfl, if_neg h]
theorem raw4y {k n : Int} {s : ByteArray} {k' n' : Int} {s' : ByteArray} (h : ltB k' n' s' k n s = true) : chRaw k n s 4 k' n' s' = some (k, n, s) := by unfold chRaw; rw [if_neg (by omega), if_neg (by omega), if_neg (by omega), if_pos rfl, if_pos h]
theorem raw4n {k n : Int} {s : ByteArray} {k' n' : Int} {s' : ByteArray} (h : ltB k' n' s' k n s = false) : chRaw k n s 4 k' n' s' = some (k', n', s') := by unfold chRaw; rw [if_neg (by omega), if_neg (by omega), if_neg (by omega), if_pos rfl, if_neg (by rw [h]; simp)]
theorem raw0 {k n : Int} {s : ByteArray} {kind k' n' : Int} {s' : ByteArray} (h1 : ¬ kind = 1) (h2 : ¬ kind = 2) (h3 : ¬ kind = 3) (h4 : ¬ kind = 4) : chRaw k n s kind k' n' s' = none := by unfold chRaw; rw [if_neg h1, if_neg h2, if_neg h3, if_neg h4]
end Go.Proofs.Ytbbhaekmjnincaa
