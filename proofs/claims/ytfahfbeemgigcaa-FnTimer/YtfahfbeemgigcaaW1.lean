/-
  Walks of the law on ClockOk, out of the contracts.
-/
import Derived.Test.YtfahfbeemgigcaaSC1
import Derived.Test.YtfahfbeemgigcaaLC2
namespace Go.Proofs.Ytfahfbeemgigcaa
open Go.RowKit Pl Il Th

theorem eqTL_self (xs : List (Int × Int)) : eqTL xs xs = true := by simp [eqTL]
/-- What a law on clocks holds on to: its two variables, and all that was there ahead. -/
abbrev LawS (w : World) (M : Nat) (v0 v1 u0 u1 : Value) (w' : World) : Prop :=
  w'.cell? ⟨w.heap.size, 0, none⟩ = some v0 ∧ w'.cell? ⟨w.heap.size, 1, none⟩ = some v1 ∧ w'.cell? ⟨M, 0, none⟩ = some u0 ∧ w'.cell? ⟨M, 1, none⟩ = some u1 ∧ w.heap.size < w'.heap.size ∧ M < w'.heap.size ∧ Below w.heap.size w w'
theorem LawS.keep {w : World} {M : Nat} {v0 v1 u0 u1 : Value} {u u' : World} (h : LawS w M v0 v1 u0 u1 u) (hb : Below u.heap.size u u') : LawS w M v0 v1 u0 u1 u' := by
  obtain ⟨h0, h1, h2, h3, h4, h5, h6⟩ := h
  exact ⟨by rw [hb.cell (p := ⟨w.heap.size, 0, none⟩) h4]; exact h0, by rw [hb.cell (p := ⟨w.heap.size, 1, none⟩) h4]; exact h1, by rw [hb.cell (p := ⟨M, 0, none⟩) h5]; exact h2, by rw [hb.cell (p := ⟨M, 1, none⟩) h5]; exact h3,
    Nat.lt_of_lt_of_le h4 hb.size, Nat.lt_of_lt_of_le h5 hb.size, bl_trans h6 hb⟩
theorem LawS.drew {w : World} {M : Nat} {v0 v1 u0 u1 : Value} {u : World} (h : LawS w M v0 v1 u0 u1 u) : LawS w M v0 v1 u0 u1 u.drew := h.keep (Below.refl _ _).drew
/-- What is asked of the program's ClockOk. -/
def ImplClockOk : Prop := ∀ (now : Int) (a : Option Addr) (n cap : Nat) (ts : List (Int × Int)) (w : World), TimAt w a n ts → n ≤ 9223372036854775807 →
  Calls Try.prog 24 #[.agg #[.int .i64 now, .slice a n cap]] w fun e w' => e = .returned (.bool (okClock now ts)) ∧ Below w.heap.size w w'

set_option maxHeartbeats 1000000 in
theorem exactClockOk_of (hI : ImplClockOk) (now : Int) (a : Option Addr) (n c : Nat) (w : World) (hn : n ≤ 9223372036854775807) (hA : ∃ ts, TimAt w a n ts) :
    Calls Try.prog 5 #[.agg #[.int .i64 now, .slice a n c]] w fun e w' => e = .returned (.bool true) ∧ Below w.heap.size w w' := by
  obtain ⟨ts, hT⟩ := hA
  generalize hW0 : w.alloc (.cells #[.int .i64 now, .slice a n c] 44) = W0
  have B0 : Below w.heap.size w W0 := by subst hW0; exact bl_alloc (Below.refl _ _) _
  have x0 : Box2 w.heap.size (.int .i64 now) (.slice a n c) W0 := by subst hW0; exact Box2.new w _ _ _
  have HT := hidOf hT
  obtain ⟨_, p0, p1, _⟩ := id x0
  clear hT
  go_enter Try.func5, Try.ntmps5
  go_wp2_with fail
  refine (szClock_any now a n c _ hn).mono ?_
  rintro e w1 ⟨⟨k, rfl, hk⟩, hb1⟩
  have x1 := x0.keep hb1
  have B1 := bl_trans B0 hb1
  obtain ⟨_, q0, q1, _⟩ := id x1
  clear p0 p1 x0 hb1 B0 hW0
  rcases hk with hk | ⟨hk, hnn⟩
  · go_wp2
    go_ret
    exact ⟨rfl, B1⟩
  · have hk' : ¬ k < 0 := by omega
    clear hk
    go_wp2_with fail
    refine (toClock_any now a n c ts _ (HT.out.keep B1) (by omega)).mono ?_
    rintro e w2 ⟨g2, rfl, ho2, hb2⟩
    have x2 := x1.keep hb2
    have B2 := bl_trans B1 hb2
    clear x1 q0 q1 hb2 B1
    go_wp2_with fail
    refine (specClockOk_any now _ n n ts _ ho2.tim (by omega)).mono ?_
    rintro e w3 ⟨rfl, hb3⟩
    have x3 := x2.keep hb3
    have B3 := bl_trans B2 hb3
    obtain ⟨_, q0, q1, _⟩ := id x3
    clear x2 hb3 B2 ho2
    go_wp2_with fail
    refine (toClock_any now a n c ts _ (HT.out.keep B3) (by omega)).mono ?_
    rintro e w4 ⟨g, rfl, ho4, hb4⟩
    have x4 := x3.keep hb4
    have B4 := bl_trans B3 hb4
    have hlt4 := x4.lt
    generalize hW5 : w4.alloc (.cells #[.int .i64 now, .slice (some ⟨g, 0, none⟩) n n] 26) = W5
    have b5 : Below w4.heap.size w4 W5 := by subst hW5; exact bl_alloc (Below.refl _ _) _
    have y5 : Box2 w4.heap.size (.int .i64 now) (.slice (some ⟨g, 0, none⟩) n n) W5 := by subst hW5; exact Box2.new w4 _ _ _
    have x5 := x4.keep b5
    have B5 := bl_trans B4 b5
    have ho5 := ho4.keep b5
    obtain ⟨_, r0, r1, _⟩ := id y5
    clear x3 x4 hb4 B3 B4 q0 q1 ho4 b5
    go_wp2_with fail
    refine (hI now _ n n ts _ ho5.tim (by omega)).mono ?_
    rintro e w6 ⟨rfl, hb6⟩
    have ho6 := ho5.keep hb6
    have x6 := x5.keep hb6
    have y6 := y5.keep hb6
    have B6 := bl_trans B5 hb6
    have hS : LawS w w4.heap.size (.int .i64 now) (.slice a n c) (.int .i64 now) (.slice (some ⟨g, 0, none⟩) n n) w6 := ⟨x6.c0, x6.c1, y6.c0, y6.c1, x6.lt, y6.lt, B6⟩
    have HO := hidOf ho6
    clear x5 y5 r0 r1 hb6 B5 ho5 hW5 x6 y6 B6 ho6
    generalize okClock now ts = l
    go_wp2_with fail
    go_region_held3 (fun w' => LawS w w4.heap.size (.int .i64 now) (.slice a n c) (.int .i64 now) (.slice (some ⟨g, 0, none⟩) n n) w') (first | (exact hS.drew) | (exact LawS.keep (by assumption) (by assumption)))
      (first
        | (go_at_call 23; refine (toClock_any now a n c ts _ (HT.out.keep (by simp_all)) (by omega)).mono ?_; rintro e w7 ⟨g7, rfl, ho7, hb7⟩; have ho6' := HO.out.keep (bl_trans (Below.refl _ w6).drew hb7))
        | (go_at_call 25; refine (eqClock_any now now _ _ n n n n ts ts _ ho6'.tim ho7.tim (by omega) (by omega)).mono ?_; rintro e w8 ⟨rfl, hb8⟩))
    all_goals simp only [eqTL_self, Bool.not_true]
    all_goals go_wp2
    all_goals go_ret
    all_goals (rename_i hHeld; exact ⟨rfl, hHeld.2.2.2.2.2.2⟩)
end Go.Proofs.Ytfahfbeemgigcaa
