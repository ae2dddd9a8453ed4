/-
  Walk of the law on LatchOk, out of the contracts.
-/
import Derived.Test.YtoieefjlblkldacSpL
import Derived.Test.YtoieefjlblkldacHL
import Derived.Deep.RegionHeld3
namespace Go.Proofs.Ytoieefjlblkldac
open Go.RowKit Pl Il

/-- What a law on latchs holds on to: its two variables, and all that was there ahead. -/
abbrev LawSL (w : World) (M : Nat) (A A2 : Na) (x : Lt) (w' : World) : Prop :=
  w'.cell? ⟨w.heap.size, 0, none⟩ = some (.int .i64 x.ct) ∧ w'.cell? ⟨w.heap.size, 1, none⟩ = some (.slice A.a A.n A.c) ∧ w'.cell? ⟨w.heap.size, 2, none⟩ = some (.slice A.a' A.n' A.c') ∧ w'.cell? ⟨M, 0, none⟩ = some (.int .i64 x.ct) ∧ w'.cell? ⟨M, 1, none⟩ = some (.slice A2.a A2.n A2.c) ∧ w'.cell? ⟨M, 2, none⟩ = some (.slice A2.a' A2.n' A2.c') ∧ LBox w.heap.size A x w' ∧ LBox M A2 x w' ∧ Below w.heap.size w w'
theorem LawSL.mk' {w : World} {M : Nat} {A A2 : Na} {x : Lt} {w' : World} (h1 : LBox w.heap.size A x w') (h2 : LBox M A2 x w') (h3 : Below w.heap.size w w') : LawSL w M A A2 x w' :=
  ⟨h1.c0, h1.c1, h1.c2, h2.c0, h2.c1, h2.c2, h1, h2, h3⟩
theorem LawSL.bel {w : World} {M : Nat} {A A2 : Na} {x : Lt} {w' : World} (h : LawSL w M A A2 x w') : Below w.heap.size w w' := h.2.2.2.2.2.2.2.2
theorem LawSL.b1 {w : World} {M : Nat} {A A2 : Na} {x : Lt} {w' : World} (h : LawSL w M A A2 x w') : LBox w.heap.size A x w' := h.2.2.2.2.2.2.1
theorem LawSL.b2 {w : World} {M : Nat} {A A2 : Na} {x : Lt} {w' : World} (h : LawSL w M A A2 x w') : LBox M A2 x w' := h.2.2.2.2.2.2.2.1
theorem LawSL.keep {w : World} {M : Nat} {A A2 : Na} {x : Lt} {u u' : World} (h : LawSL w M A A2 x u) (hb : Below u.heap.size u u') : LawSL w M A A2 x u' := LawSL.mk' (h.b1.keep hb) (h.b2.keep hb) (bl_trans h.bel hb)
theorem LawSL.drew {w : World} {M : Nat} {A A2 : Na} {x : Lt} {u : World} (h : LawSL w M A A2 x u) : LawSL w M A A2 x u.drew := h.keep (Below.refl _ _).drew
/-- What is asked of the program's LatchOk. -/
def ImplLatchOk : Prop := ∀ (A : Na) (x : Lt) (w : World), LIn w A x → A.n ≤ 2097152 → A.n' ≤ 2097152 → LWf x →
  Calls Try.prog 28 #[.agg #[.int .i64 x.ct, .slice A.a A.n A.c, .slice A.a' A.n' A.c']] w fun e w' => e = .returned (.bool (okLa x)) ∧ Below w.heap.size w w'

set_option maxHeartbeats 2000000 in
theorem exactLatchOk_of (hI : ImplLatchOk) (A : Na) (x : Lt) (w : World) (hn : A.n ≤ 9223372036854775807) (hn' : A.n' ≤ 9223372036854775807) (hT : LIn w A x) (hw : LWf x) :
    Calls Try.prog 7 #[.agg #[.int .i64 x.ct, .slice A.a A.n A.c, .slice A.a' A.n' A.c']] w fun e w' => e = .returned (.bool true) ∧ Below w.heap.size w w' := by
  generalize hW0 : w.alloc (.cells #[.int .i64 x.ct, .slice A.a A.n A.c, .slice A.a' A.n' A.c'] 40) = W0
  have B0 : Below w.heap.size w W0 := by subst hW0; exact bl_alloc (Below.refl _ _) _
  have x0 : LBox w.heap.size A x W0 := by subst hW0; exact LBox.new w A x _
  have HT := hidOf hT
  obtain ⟨_, p0, p1, p2, _⟩ := id x0
  clear hT
  go_enter Try.func7, Try.ntmps7
  go_wp2_with fail
  refine (szLatch_any A x _ hn hn').mono ?_
  rintro e w1 ⟨⟨k, rfl, hk⟩, hb1⟩
  have x1 := x0.keep hb1
  have B1 := bl_trans B0 hb1
  clear p0 p1 p2
  obtain ⟨_, p0, p1, p2, _⟩ := id x1
  clear x0 hb1 B0 hW0
  rcases hk with hk | ⟨hk, hnn⟩
  · go_wp2
    go_ret
    exact ⟨rfl, B1⟩
  · have hk' : ¬ k < 0 := by omega
    clear hk
    go_wp2_with fail
    refine (toLatch_any A x _ (HT.out.keep B1) (by omega) (by omega)).mono ?_
    rintro e w2 ⟨g2, g2', rfl, ho2, hb2⟩
    have x2 := x1.keep hb2
    have B2 := bl_trans B1 hb2
    clear x1 p0 p1 p2 hb2 B1
    go_wp2_with fail
    refine (specLatchOk_any ⟨some ⟨g2, 0, none⟩, A.n, A.n, some ⟨g2', 0, none⟩, A.n', A.n'⟩ x _ ho2.nin (by simp only; omega) (by simp only; omega) ⟨Nat.le_refl _, Nat.le_refl _⟩).mono ?_
    rintro e w3 ⟨rfl, hb3⟩
    have x3 := x2.keep hb3
    have B3 := bl_trans B2 hb3
    obtain ⟨_, p0, p1, p2, _⟩ := id x3
    clear x2 hb3 B2 ho2
    go_wp2_with fail
    refine (toLatch_any A x _ (HT.out.keep B3) (by omega) (by omega)).mono ?_
    rintro e w4 ⟨g, g', rfl, ho4, hb4⟩
    have x4 := x3.keep hb4
    have B4 := bl_trans B3 hb4
    have hlt4 := x4.lt
    obtain ⟨A2, hA2⟩ : ∃ A2 : Na, A2 = ⟨some ⟨g, 0, none⟩, A.n, A.n, some ⟨g', 0, none⟩, A.n', A.n'⟩ := ⟨_, rfl⟩
    generalize hW5 : w4.alloc (.cells #[.int .i64 x.ct, .slice (some ⟨g, 0, none⟩) A.n A.n, .slice (some ⟨g', 0, none⟩) A.n' A.n'] 43) = W5
    have b5 : Below w4.heap.size w4 W5 := by subst hW5; exact bl_alloc (Below.refl _ _) _
    have y5 : LBox w4.heap.size A2 x W5 := by subst hW5 hA2; exact LBox.new w4 ⟨some ⟨g, 0, none⟩, A.n, A.n, some ⟨g', 0, none⟩, A.n', A.n'⟩ x _
    have x5 := x4.keep b5
    have B5 := bl_trans B4 b5
    have ho5 : LOwn w3.heap.size W5 A2 x := by subst hA2; exact ho4.keep b5
    subst hA2
    obtain ⟨_, r0, r1, r2, _⟩ := id y5
    clear x3 x4 hb4 B3 B4 p0 p1 p2 ho4 b5
    go_wp2_with fail
    refine (hI ⟨some ⟨g, 0, none⟩, A.n, A.n, some ⟨g', 0, none⟩, A.n', A.n'⟩ x _ ho5.nin (by simp only; omega) (by simp only; omega) hw).mono ?_
    rintro e w6 ⟨rfl, hb6⟩
    have ho6 := ho5.keep hb6
    have hS : LawSL w w4.heap.size A ⟨some ⟨g, 0, none⟩, A.n, A.n, some ⟨g', 0, none⟩, A.n', A.n'⟩ x w6 := LawSL.mk' (x5.keep hb6) (y5.keep hb6) (bl_trans B5 hb6)
    have HO := hidOf ho6
    have HT6 := hidOf (HT.out.keep (bl_trans B5 hb6))
    clear x5 y5 r0 r1 r2 hb6 B5 ho5 hW5 ho6 HT
    generalize okLa x = l
    go_wp2_with fail
    go_region_held3 (fun w' => LawSL w w4.heap.size A ⟨some ⟨g, 0, none⟩, A.n, A.n, some ⟨g', 0, none⟩, A.n', A.n'⟩ x w') (first | (exact hS.drew) | (exact LawSL.keep (by assumption) (by assumption)))
      (first
        | (go_at_call 27; refine (toLatch_any A x _ (HT6.out.keep (Below.refl _ w6).drew) (by omega) (by omega)).mono ?_; rintro e w7 ⟨g7, g7', rfl, ho7, hb7⟩; have ho6' := HO.out.keep (bl_trans (Below.refl _ w6).drew hb7))
        | (go_at_call 29; refine (eqLatch_any ⟨some ⟨g, 0, none⟩, A.n, A.n, some ⟨g', 0, none⟩, A.n', A.n'⟩ ⟨some ⟨g7, 0, none⟩, A.n, A.n, some ⟨g7', 0, none⟩, A.n', A.n'⟩ x x _ ho6'.nin ho7.nin (by simp only; omega) (by simp only; omega) (by simp only; omega) (by simp only; omega)).mono ?_; rintro e w8 ⟨rfl, hb8⟩))
    all_goals simp only [sameL_self, Bool.not_true]
    all_goals go_wp2
    all_goals go_ret
    all_goals (rename_i hHeld; exact ⟨rfl, hHeld.bel⟩)
end Go.Proofs.Ytoieefjlblkldac
