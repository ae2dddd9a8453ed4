/-
  The program's lists once more: a copy, Leave and Wake, each list that is handed back a row of its own.
-/
import Derived.Test.YtoieefjlblkldadRW
namespace Go.Proofs.Ytoieefjlblkldad
open Go.RowKit Go.Maps Pl Il

theorem copied_row (a : Option Addr) (n cap : Nat) (xs : List Int) (w : World) (hI : IntsAt w a n xs) (hn : n ≤ 2097152) :
    Calls Try.prog 43 #[.slice a n cap] w fun e w' => ∃ a' c', e = .returned (.slice a' n c') ∧ w'.ownsRow w.heap.size 3 1 (.slice a' n c') n (intsV xs) ∧ Below w.heap.size w w' := by
  obtain ⟨v, w', hr, ho, hb⟩ := copied_run a n cap xs w hI hn
  obtain ⟨a', c', rfl, hO⟩ := own_of ho xs rfl
  have Hr := hidOf hr
  have HO := hidOf ho
  clear hr ho hI
  go_enter Try.func43, Try.ntmps43
  go_wp2_with (at_builtin; refine wpList_append_run rfl _ _ 22 rfl _ _ _ rfl rfl Hr.out ?_)
  go_ret
  exact ⟨a', c', rfl, HO.out, hb⟩
theorem implLeave_row (a : Option Addr) (n cap : Nat) (xs : List Int) (x : Int) (w : World) (hI : IntsAt w a n xs) (hn : n ≤ 2097152) (hw : wfL xs) (hx : (Lit.int .i64 x).wf = true) :
    Calls Try.prog 48 #[.slice a n cap, .int .i64 x] w fun e w' => ∃ a' m c', e = .returned (.tuple #[.slice a' m c', .int .i64 (leaveL xs x).2]) ∧ w'.ownsRow w.heap.size 3 1 (.slice a' m c') m (intsV (leaveL xs x).1) ∧ Below w.heap.size w w' := by
  have hlen := hI.len
  go_enter Try.func48, Try.ntmps48
  go_wp2_with fail
  refine (lineQueue_any a n cap xs _ hI hn hw).mono ?_
  rintro e w1 ⟨p, rfl, hq, hb⟩
  have HI := hidOf (hI.keep hb)
  clear hI
  cases hl : lineL xs
  · clear hq
    go_wp2_with fail
    refine (copied_row a n cap xs _ HI.out hn).mono ?_
    rintro e w2 ⟨a', c', rfl, ho, hb2⟩
    have HB := hidOf (And.intro (row_mono ho hb.size) (bl_trans hb hb2))
    clear ho hb2
    go_wp2
    go_ret2
    rw [leave_bad hl]
    exact ⟨_, _, _, rfl, HB.out.1, HB.out.2⟩
  · obtain ⟨qb, rfl, hQ⟩ := hq hl
    have hnd := nodup_line hl
    have h32 := line_len hl
    go_wp2_with fail
    refine (placeOf_any _ qb xs [] x _ hQ hx).mono ?_
    rintro e w3 ⟨rfl, rfl⟩
    have hs := place_isSome xs x
    generalize hgp : placeG xs [] x = pp at hs
    cases hh : hasL xs x
    · rw [hh] at hs
      go_wp2_with fail
      refine (copied_row a n cap xs _ HI.out hn).mono ?_
      rintro e w4 ⟨a', c', rfl, ho, hb2⟩
      have HB := hidOf (And.intro (row_mono ho hb.size) (bl_trans hb hb2))
      clear ho hb2 hQ
      go_wp2
      go_ret2
      rw [leave_none hl hh]
      exact ⟨_, _, _, rfl, HB.out.1, HB.out.2⟩
    · rw [hh] at hs
      go_wp2_with fail
      refine (leave_any _ qb xs [] x _ hQ hx).mono ?_
      rintro e w4 ⟨rfl, hQ4, hb4⟩
      have hS := standing_any _ qb xs [x] w4 hQ4 hw (by omega)
      rw [stand_less hnd x] at hS
      have HS := hidOf hS
      clear hS hQ4 hQ
      go_wp2_with fail
      refine HS.out.mono ?_
      rintro e w5 ⟨v, rfl, ho, hb5⟩
      obtain ⟨a', c', rfl, _⟩ := own_of ho _ rfl
      have HB := hidOf (And.intro (row_mono ho (hb.trans hb4).size) (bl_trans (hb.trans hb4) hb5))
      clear ho
      go_wp2
      go_ret2
      rw [leave_done hl hh]
      exact ⟨_, _, _, rfl, HB.out.1, HB.out.2⟩
end Go.Proofs.Ytoieefjlblkldad
