/-
  Walks of the program's lines: LineOk, PlaceOf, Join, Leave, Wake.
-/
import Derived.Test.YtbbhaekmjnincaaQ5
namespace Go.Proofs.Ytbbhaekmjnincaa
open Go.RowKit Go.Maps Pl Il

theorem implLineOk_any (a : Option Addr) (n cap : Nat) (xs : List Int) (w : World) (hI : IntsAt w a n xs) (hn : n ≤ 2097152) (hw : wfL xs) :
    Calls Try.prog 42 #[.slice a n cap] w fun e w' => e = .returned (.bool (lineL xs)) ∧ Below w.heap.size w w' := by
  go_enter Try.func42, Try.ntmps42
  go_wp2_with fail
  refine (lineQueue_any a n cap xs _ hI hn hw).mono ?_
  rintro e w1 ⟨p, rfl, _, hb⟩
  go_wp2
  go_ret
  exact ⟨rfl, hb⟩
theorem implPlaceOf_any (a : Option Addr) (n cap : Nat) (xs : List Int) (x : Int) (w : World) (hI : IntsAt w a n xs) (hn : n ≤ 2097152) (hw : wfL xs) (hx : (Lit.int .i64 x).wf = true) :
    Calls Try.prog 36 #[.slice a n cap, .int .i64 x] w fun e w' => e = .returned (.int .i64 (placeL xs x)) ∧ Below w.heap.size w w' := by
  go_enter Try.func36, Try.ntmps36
  go_wp2_with fail
  refine (queueOf_any a n cap xs _ hI hn hw).mono ?_
  rintro e w1 ⟨qb, rfl, hq, hb⟩
  go_wp2_with fail
  refine (placeOf_any _ qb xs [] x _ hq hx).mono ?_
  rintro e w2 ⟨rfl, rfl⟩
  have hp := place_placeL xs x
  have HP := hidOf hp
  clear hp hq hI
  cases hc : placeG xs [] x with
  | none =>
    go_wp2
    go_ret
    refine ⟨rint ?_, hb⟩
    rw [HP.out, hc]
  | some i =>
    go_wp2
    go_ret
    refine ⟨rint ?_, hb⟩
    rw [HP.out, hc]
/-- A list handed back: in new memory. -/
structure Back (w : World) (a : Option Addr) (n : Nat) (ys : List Int) (w' : World) : Prop where
  own : Il.OwnAt w.heap.size w' a n ys
  below : Below w.heap.size w w'
theorem Back.of {w w1 w2 : World} {a : Option Addr} {n : Nat} {ys : List Int} (h1 : Below w.heap.size w w1) (ho : Il.OwnAt w1.heap.size w2 a n ys) (h2 : Below w1.heap.size w1 w2) : Back w a n ys w2 := ⟨ho.mono h1.size, bl_trans h1 h2⟩

end Go.Proofs.Ytbbhaekmjnincaa
