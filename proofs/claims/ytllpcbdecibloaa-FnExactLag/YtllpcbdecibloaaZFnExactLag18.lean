/-
  The program's lists once more: a copy, Leave and Wake, each list that is handed back a row of its own.
-/
import Derived.Test.YtllpcbdecibloaaZFnExactLag17
namespace Go.Proofs.Ytllpcbdecibloaa
open Go.RowKit Go.Maps Pl Il

theorem copied_row (a : Option Addr) (n cap : Nat) (xs : List Int) (w : World) (hI : IntsAt w a n xs) (hn : n ≤ 2097152) :
    Calls Try.prog 122 #[.slice a n cap] w fun e w' => ∃ a' c', e = .returned (.slice a' n c') ∧ w'.ownsRow w.heap.size 3 1 (.slice a' n c') n (intsV xs) ∧ Below w.heap.size w w' := by
  obtain ⟨v, w', hr, ho, hb⟩ := copied_run a n cap xs w hI hn
  obtain ⟨a', c', rfl, hO⟩ := own_of ho xs rfl
  have Hr := hidOf hr
  have HO := hidOf ho
  clear hr ho hI
  go_enter Try.func122, Try.ntmps122
  go_wp2_with (at_builtin; refine wpList_append_run rfl _ _ 35 rfl _ _ _ rfl rfl Hr.out ?_)
  go_ret
  exact ⟨a', c', rfl, HO.out, hb⟩
theorem implLeave_row (a : Option Addr) (n cap : Nat) (xs : List Int) (x : Int) (w : World) (hI : IntsAt w a n xs) (hn : n ≤ 2097152) (hw : wfL xs) (hx : (Lit.int .i64 x).wf = true) :
    Calls Try.prog 95 #[.slice a n cap, .int .i64 x] w fun e w' => ∃ a' m c', e = .returned (.tuple #[.slice a' m c', .int .i64 (leaveL xs x).2]) ∧ w'.ownsRow w.heap.size 3 1 (.slice a' m c') m (intsV (leaveL xs x).1) ∧ Below w.heap.size w w' := by
  have hlen := hI.len
  go_enter Try.func95, Try.ntmps95
  go_wp2_with fail
  refine (lineQueue_any a n cap xs _ hI hn hw).mono ?_
  rintro e w1 ⟨p, rfl, hq, hb⟩
  have HI := hidOf (hI.keep hb)
  clear hI
  cases hl : lineL xs
  · clear hq
    go_wp2_with fail
    refine (copied_row a n cap xs _ HI.out hn).mono ?_
    rintro e w2 ⟨a', c', rfl, ho, hb2⟩
    have HB := hidOf (And.intro (row_mono ho hb.size) (bl_trans hb hb2))
    clear ho hb2
    go_wp2
    go_ret2
    rw [leave_bad hl]
    exact ⟨_, _, _, rfl, HB.out.1, HB.out.2⟩
  · obtain ⟨qb, rfl, hQ⟩ := hq hl
    have hnd := nodup_line hl
    have h32 := line_len hl
    go_wp2_with fail
    refine (placeOf_any _ qb xs [] x _ hQ hx).mono ?_
    rintro e w3 ⟨rfl, rfl⟩
    have hs := place_isSome xs x
    generalize hgp : placeG xs [] x = pp at hs
    cases hh : hasL xs x
    · rw [hh] at hs
      go_wp2_with fail
      refine (copied_row a n cap xs _ HI.out hn).mono ?_
      rintro e w4 ⟨a', c', rfl, ho, hb2⟩
      have HB := hidOf (And.intro (row_mono ho hb.size) (bl_trans hb hb2))
      clear ho hb2 hQ
      go_wp2
      go_ret2
      rw [leave_none hl hh]
      exact ⟨_, _, _, rfl, HB.out.1, HB.out.2⟩
    · rw [hh] at hs
      go_wp2_with fail
      refine (leave_any _ qb xs [] x _ hQ hx).mono ?_
      rintro e w4 ⟨rfl, hQ4, hb4⟩
      have hS := standing_any _ qb xs [x] w4 hQ4 hw (by omega)
      rw [stand_less hnd x] at hS
      have HS := hidOf hS
      clear hS hQ4 hQ
      go_wp2_with fail
      refine HS.out.mono ?_
      rintro e w5 ⟨v, rfl, ho, hb5⟩
      obtain ⟨a', c', rfl, _⟩ := own_of ho _ rfl
      have HB := hidOf (And.intro (row_mono ho (hb.trans hb4).size) (bl_trans (hb.trans hb4) hb5))
      clear ho
      go_wp2
      go_ret2
      rw [leave_done hl hh]
      exact ⟨_, _, _, rfl, HB.out.1, HB.out.2⟩
theorem implWake_row (a : Option Addr) (n cap : Nat) (xs : List Int) (k : Int) (w : World) (hI : IntsAt w a n xs) (hn : n ≤ 2097152) (hw : wfL xs) :
    Calls Try.prog 152 #[.slice a n cap, .int .i64 k] w fun e w' => ∃ a1 m1 c1 a2 m2 c2, e = .returned (.tuple #[.slice a1 m1 c1, .slice a2 m2 c2]) ∧ Apart w a1 m1 (wakeRest xs k) a2 m2 (wakeOut xs k) w' ∧ w'.ownsRow w.heap.size 3 1 (.slice a1 m1 c1) m1 (intsV (wakeRest xs k)) ∧ (∀ q, (Value.slice a1 m1 c1).ownBlock = some q → m2 = 0 ∨ ∀ b off, a2 = some ⟨b, off, none⟩ → b ≠ q) := by
  have hlen := hI.len
  go_enter Try.func152, Try.ntmps152
  go_wp2_with fail
  refine (lineQueue_any a n cap xs _ hI hn hw).mono ?_
  rintro e w1 ⟨p, rfl, hq, hb⟩
  have HI := hidOf (hI.keep hb)
  clear hI
  cases hl : lineL xs
  · clear hq
    go_wp2_with fail
    refine (copied_row a n cap xs _ HI.out hn).mono ?_
    rintro e w2 ⟨a', c', rfl, ho, hb2⟩
    have HB := hidOf (And.intro (Back.of hb (row_own ho).1 hb2) (row_mono ho hb.size))
    have HW := hidOf (wake_bad (k := k) (.inl hl))
    clear ho hb2
    go_wp2
    go_ret2
    rw [HW.out.1, HW.out.2]
    exact ⟨_, _, _, _, _, _, rfl, ⟨HB.out.1.own, ⟨⟨rfl, .inl rfl⟩, .inl rfl⟩, .inr (.inl rfl), HB.out.1.below⟩, HB.out.2, fun q e => .inl rfl⟩
  · obtain ⟨qb, rfl, hQ⟩ := hq hl
    have hnd := nodup_line hl
    have h32 := line_len hl
    by_cases hk : k < 0
    · have HW := hidOf (wake_bad (xs := xs) (.inr hk))
      clear hQ hq
      go_wp2_with fail
      refine (copied_row a n cap xs _ HI.out hn).mono ?_
      rintro e w2 ⟨a', c', rfl, ho, hb2⟩
      have HB := hidOf (And.intro (Back.of hb (row_own ho).1 hb2) (row_mono ho hb.size))
      clear ho hb2
      go_wp2
      go_ret2
      rw [HW.out.1, HW.out.2]
      exact ⟨_, _, _, _, _, _, rfl, ⟨HB.out.1.own, ⟨⟨rfl, .inl rfl⟩, .inl rfl⟩, .inr (.inl rfl), HB.out.1.below⟩, HB.out.2, fun q e => .inl rfl⟩
    · have hk0 : 0 ≤ k := by omega
      have HW := hidOf (wake_good hl hk0)
      have hwk := wake_any _ qb xs (wakeN xs k) w1 hQ hw hnd h32 (wakeN_le xs k hk0) k (by
        by_cases h : k > (xs.length : Int)
        · right; rw [wakeN_over h]; omega
        · left; rw [wakeN_in h]; omega)
      have HWk := hidOf hwk
      clear hwk hQ hq
      go_wp2_with fail
      refine HWk.out.mono ?_
      rintro e w2 ⟨a2, c2, rfl, ho2, hQ2, hb2⟩
      have hS := standing_any _ qb xs (xs.take (wakeN xs k)) w2 hQ2 hw (by omega)
      rw [stand_rest hnd] at hS
      have HS := hidOf hS
      have HO2 := hidOf ho2
      clear hS hQ2 HWk ho2
      generalize wakeN xs k = m at *
      go_wp2_with fail
      refine HS.out.mono ?_
      rintro e w3 ⟨v, rfl, ho, hb3⟩
      generalize (xs.drop m).length = ml at ho
      obtain ⟨a1, c1, rfl, hO⟩ := own_of ho _ rfl
      have hb12 : Below w.heap.size w w2 := hb.trans hb2
      have hAp : Apart w a1 ml (xs.drop m) a2 m (xs.take m) w3 := by
        refine ⟨hO.mono hb12.size, (HO2.out.keep hb3).mono hb.size, ?_, bl_trans hb12 hb3⟩
        rcases hO.own with h0 | ⟨b, off, rfl, hB, _⟩
        · exact .inl h0
        · rcases HO2.out.ints.row with h0 | ⟨b', off', rfl, hlt, _⟩
          · exact .inr (.inl h0)
          · refine .inr (.inr fun x ox y oy e e' => ?_)
            cases e; cases e'
            omega
      have hrow := row_mono ho hb12.size
      have hneq : ∀ q, (Value.slice a1 ml c1).ownBlock = some q → m = 0 ∨ ∀ b off, a2 = some ⟨b, off, none⟩ → b ≠ q := fun q e => by
        have hq := (ho.lt q e).1
        rcases HO2.out.ints.row with h0 | ⟨b', off', rfl, hlt, _⟩
        · exact .inl h0
        · exact .inr fun b off e' => by cases e'; omega
      have HB := hidOf (And.intro hAp (And.intro hrow hneq))
      clear ho hO hAp hrow hneq
      go_wp2
      go_ret2
      rw [HW.out.1, HW.out.2]
      exact ⟨_, _, _, _, _, _, rfl, HB.out.1, HB.out.2.1, HB.out.2.2⟩
end Go.Proofs.Ytllpcbdecibloaa
