/-
  Walks of Wake, the specification's and the program's.
-/
import Derived.Test.YtbbhaekmjnincaaQ6
namespace Go.Proofs.Ytbbhaekmjnincaa
open Go.RowKit Go.Maps Pl Il

/-- What Wake leaves of the line. -/
def wakeRest (xs : List Int) (k : Int) : List Int := if lineL xs && decide (0 ≤ k) then xs.drop (wakeN xs k) else xs
/-- Whom Wake wakes. -/
def wakeOut (xs : List Int) (k : Int) : List Int := if lineL xs && decide (0 ≤ k) then xs.take (wakeN xs k) else []
theorem wake_bad {xs : List Int} {k : Int} (h : lineL xs = false ∨ k < 0) : wakeRest xs k = xs ∧ wakeOut xs k = [] := by
  rcases h with h | h
  · simp [wakeRest, wakeOut, h]
  · have : ¬ 0 ≤ k := by omega
    simp [wakeRest, wakeOut, this]
theorem wake_good {xs : List Int} {k : Int} (h : lineL xs = true) (hk : 0 ≤ k) : wakeRest xs k = xs.drop (wakeN xs k) ∧ wakeOut xs k = xs.take (wakeN xs k) := by
  simp [wakeRest, wakeOut, h, hk]

/-- Two lists that the call has made, apart from one another. -/
structure Apart (w : World) (a1 : Option Addr) (m1 : Nat) (ys : List Int) (a2 : Option Addr) (m2 : Nat) (zs : List Int) (w' : World) : Prop where
  one : Il.OwnAt w.heap.size w' a1 m1 ys
  two : Il.OwnAt w.heap.size w' a2 m2 zs
  apart : m1 = 0 ∨ m2 = 0 ∨ ∀ b off b' off', a1 = some ⟨b, off, none⟩ → a2 = some ⟨b', off', none⟩ → b ≠ b'
  below : Below w.heap.size w w'
end Go.Proofs.Ytbbhaekmjnincaa
