/-
  Walks of the program's lines: LineOk, PlaceOf, Join, Leave, Wake.
-/
import Derived.Test.YtfgknbflgmblmaaQ5
namespace Go.Proofs.Ytfgknbflgmblmaa
open Go.RowKit Go.Maps Pl Il

theorem implLineOk_any (a : Option Addr) (n cap : Nat) (xs : List Int) (w : World) (hI : IntsAt w a n xs) (hn : n ≤ 2097152) (hw : wfL xs) :
    Calls Try.prog 89 #[.slice a n cap] w fun e w' => e = .returned (.bool (lineL xs)) ∧ Below w.heap.size w w' := by
  go_enter Try.func89, Try.ntmps89
  go_wp2_with fail
  refine (lineQueue_any a n cap xs _ hI hn hw).mono ?_
  rintro e w1 ⟨p, rfl, _, hb⟩
  go_wp2
  go_ret
  exact ⟨rfl, hb⟩
theorem implPlaceOf_any (a : Option Addr) (n cap : Nat) (xs : List Int) (x : Int) (w : World) (hI : IntsAt w a n xs) (hn : n ≤ 2097152) (hw : wfL xs) (hx : (Lit.int .i64 x).wf = true) :
    Calls Try.prog 43 #[.slice a n cap, .int .i64 x] w fun e w' => e = .returned (.int .i64 (placeL xs x)) ∧ Below w.heap.size w w' := by
  go_enter Try.func43, Try.ntmps43
  go_wp2_with fail
  refine (queueOf_any a n cap xs _ hI hn hw).mono ?_
  rintro e w1 ⟨qb, rfl, hq, hb⟩
  go_wp2_with fail
  refine (placeOf_any _ qb xs [] x _ hq hx).mono ?_
  rintro e w2 ⟨rfl, rfl⟩
  have hp := place_placeL xs x
  have HP := hidOf hp
  clear hp hq hI
  cases hc : placeG xs [] x with
  | none =>
    go_wp2
    go_ret
    refine ⟨rint ?_, hb⟩
    rw [HP.out, hc]
  | some i =>
    go_wp2
    go_ret
    refine ⟨rint ?_, hb⟩
    rw [HP.out, hc]
/-- A list handed back: in new memory. -/
structure Back (w : World) (a : Option Addr) (n : Nat) (ys : List Int) (w' : World) : Prop where
  own : Il.OwnAt w.heap.size w' a n ys
  below : Below w.heap.size w w'
theorem Back.of {w w1 w2 : World} {a : Option Addr} {n : Nat} {ys : List Int} (h1 : Below w.heap.size w w1) (ho : Il.OwnAt w1.heap.size w2 a n ys) (h2 : Below w1.heap.size w1 w2) : Back w a n ys w2 := ⟨ho.mono h1.size, bl_trans h1 h2⟩

theorem implLeave_any2 (a : Option Addr) (n cap : Nat) (xs : List Int) (x : Int) (w : World) (hI : IntsAt w a n xs) (hn : n ≤ 2097152) (hw : wfL xs) (hx : (Lit.int .i64 x).wf = true) :
    Calls Try.prog 50 #[.slice a n cap, .int .i64 x] w fun e w' => ∃ a' m c', e = .returned (.tuple #[.slice a' m c', .int .i64 (leaveL xs x).2]) ∧ Back w a' m (leaveL xs x).1 w' ∧ m ≤ c' := by
  have hlen := hI.len
  go_enter Try.func50, Try.ntmps50
  go_wp2_with fail
  refine (lineQueue_any a n cap xs _ hI hn hw).mono ?_
  rintro e w1 ⟨p, rfl, hq, hb⟩
  have HI := hidOf (hI.keep hb)
  clear hI
  cases hl : lineL xs
  · clear hq
    go_wp2_with fail
    refine (copied_any2 a n cap xs _ HI.out hn).mono ?_
    rintro e w2 ⟨a', c', rfl, ho, hb2, hcp⟩
    have HB := hidOf (Back.of hb ho hb2)
    clear ho hb2
    go_wp2
    go_ret2
    rw [leave_bad hl]
    exact ⟨_, _, _, rfl, HB.out, hcp⟩
  · obtain ⟨qb, rfl, hQ⟩ := hq hl
    have hnd := nodup_line hl
    have h32 := line_len hl
    go_wp2_with fail
    refine (placeOf_any _ qb xs [] x _ hQ hx).mono ?_
    rintro e w3 ⟨rfl, rfl⟩
    have hs := place_isSome xs x
    generalize hgp : placeG xs [] x = pp at hs
    cases hh : hasL xs x
    · rw [hh] at hs
      go_wp2_with fail
      refine (copied_any2 a n cap xs _ HI.out hn).mono ?_
      rintro e w4 ⟨a', c', rfl, ho, hb2, hcp⟩
      have HB := hidOf (Back.of hb ho hb2)
      clear ho hb2 hQ
      go_wp2
      go_ret2
      rw [leave_none hl hh]
      exact ⟨_, _, _, rfl, HB.out, hcp⟩
    · rw [hh] at hs
      go_wp2_with fail
      refine (leave_any _ qb xs [] x _ hQ hx).mono ?_
      rintro e w4 ⟨rfl, hQ4, hb4⟩
      have hS := standing_any _ qb xs [x] w4 hQ4 hw (by omega)
      rw [stand_less hnd x] at hS
      have HS := hidOf hS
      clear hS hQ4 hQ
      go_wp2_with fail
      refine HS.out.mono ?_
      rintro e w5 ⟨v, rfl, ho, hb5⟩
      obtain ⟨a', c', rfl, hO⟩ := own_of ho _ rfl
      have hcp := own_cap ho
      have HB := hidOf (Back.of (hb.trans hb4) hO hb5)
      clear ho hO
      go_wp2
      go_ret2
      rw [leave_done hl hh]
      exact ⟨_, _, _, rfl, HB.out, hcp⟩
theorem implLeave_any (a : Option Addr) (n cap : Nat) (xs : List Int) (x : Int) (w : World) (hI : IntsAt w a n xs) (hn : n ≤ 2097152) (hw : wfL xs) (hx : (Lit.int .i64 x).wf = true) :
    Calls Try.prog 50 #[.slice a n cap, .int .i64 x] w fun e w' => ∃ a' m c', e = .returned (.tuple #[.slice a' m c', .int .i64 (leaveL xs x).2]) ∧ Back w a' m (leaveL xs x).1 w' :=
  (implLeave_any2 a n cap xs x w hI hn hw hx).mono fun _ _ ⟨a', m, c', h1, h2, _⟩ => ⟨a', m, c', h1, h2⟩
end Go.Proofs.Ytfgknbflgmblmaa
