/-
  Walk of the law on NotifyOk, out of the contracts.
-/
import Derived.Test.YtfgknbflgmblmaaSN1
import Derived.Test.YtfgknbflgmblmaaLN4
import Derived.Deep.RegionHeld3
namespace Go.Proofs.Ytfgknbflgmblmaa
open Go.RowKit Pl Il

/-- What a law on notifications holds on to: its two variables, and all that was there ahead. -/
abbrev LawS (w : World) (M : Nat) (A A2 : Na) (x : Nt) (w' : World) : Prop :=
  w'.cell? ⟨w.heap.size, 0, none⟩ = some (.bool x.pm) ∧ w'.cell? ⟨w.heap.size, 1, none⟩ = some (.slice A.a A.n A.c) ∧ w'.cell? ⟨w.heap.size, 2, none⟩ = some (.slice A.a' A.n' A.c') ∧ w'.cell? ⟨w.heap.size, 3, none⟩ = some (.int .i64 x.on) ∧ w'.cell? ⟨w.heap.size, 4, none⟩ = some (.int .i64 x.sp) ∧ w'.cell? ⟨w.heap.size, 5, none⟩ = some (.int .i64 x.tk) ∧ w'.cell? ⟨M, 0, none⟩ = some (.bool x.pm) ∧ w'.cell? ⟨M, 1, none⟩ = some (.slice A2.a A2.n A2.c) ∧ w'.cell? ⟨M, 2, none⟩ = some (.slice A2.a' A2.n' A2.c') ∧ w'.cell? ⟨M, 3, none⟩ = some (.int .i64 x.on) ∧ w'.cell? ⟨M, 4, none⟩ = some (.int .i64 x.sp) ∧ w'.cell? ⟨M, 5, none⟩ = some (.int .i64 x.tk) ∧ NBox w.heap.size A x w' ∧ NBox M A2 x w' ∧ Below w.heap.size w w'
theorem LawS.mk' {w : World} {M : Nat} {A A2 : Na} {x : Nt} {w' : World} (h1 : NBox w.heap.size A x w') (h2 : NBox M A2 x w') (h3 : Below w.heap.size w w') : LawS w M A A2 x w' :=
  ⟨h1.c0, h1.c1, h1.c2, h1.c3, h1.c4, h1.c5, h2.c0, h2.c1, h2.c2, h2.c3, h2.c4, h2.c5, h1, h2, h3⟩
theorem LawS.bel {w : World} {M : Nat} {A A2 : Na} {x : Nt} {w' : World} (h : LawS w M A A2 x w') : Below w.heap.size w w' := h.2.2.2.2.2.2.2.2.2.2.2.2.2.2
theorem LawS.b1 {w : World} {M : Nat} {A A2 : Na} {x : Nt} {w' : World} (h : LawS w M A A2 x w') : NBox w.heap.size A x w' := h.2.2.2.2.2.2.2.2.2.2.2.2.1
theorem LawS.b2 {w : World} {M : Nat} {A A2 : Na} {x : Nt} {w' : World} (h : LawS w M A A2 x w') : NBox M A2 x w' := h.2.2.2.2.2.2.2.2.2.2.2.2.2.1
theorem LawS.keep {w : World} {M : Nat} {A A2 : Na} {x : Nt} {u u' : World} (h : LawS w M A A2 x u) (hb : Below u.heap.size u u') : LawS w M A A2 x u' := LawS.mk' (h.b1.keep hb) (h.b2.keep hb) (bl_trans h.bel hb)
theorem LawS.drew {w : World} {M : Nat} {A A2 : Na} {x : Nt} {u : World} (h : LawS w M A A2 x u) : LawS w M A A2 x u.drew := h.keep (Below.refl _ _).drew
/-- What is asked of the program's NotifyOk. -/
def ImplNotifyOk : Prop := ∀ (A : Na) (x : Nt) (w : World), NIn w A x → A.n ≤ 2097152 → A.n' ≤ 2097152 → NWf x →
  Calls Try.prog 31 #[.agg #[.bool x.pm, .slice A.a A.n A.c, .slice A.a' A.n' A.c', .int .i64 x.on, .int .i64 x.sp, .int .i64 x.tk]] w fun e w' => e = .returned (.bool (okN x)) ∧ Below w.heap.size w w'

set_option maxHeartbeats 2000000 in
theorem exactNotifyOk_of (hI : ImplNotifyOk) (A : Na) (x : Nt) (w : World) (hn : A.n ≤ 9223372036854775807) (hn' : A.n' ≤ 9223372036854775807) (hT : NIn w A x) (hw : NWf x) :
    Calls Try.prog 6 #[.agg #[.bool x.pm, .slice A.a A.n A.c, .slice A.a' A.n' A.c', .int .i64 x.on, .int .i64 x.sp, .int .i64 x.tk]] w fun e w' => e = .returned (.bool true) ∧ Below w.heap.size w w' := by
  generalize hW0 : w.alloc (.cells #[.bool x.pm, .slice A.a A.n A.c, .slice A.a' A.n' A.c', .int .i64 x.on, .int .i64 x.sp, .int .i64 x.tk] 47) = W0
  have B0 : Below w.heap.size w W0 := by subst hW0; exact bl_alloc (Below.refl _ _) _
  have x0 : NBox w.heap.size A x W0 := by subst hW0; exact NBox.new w A x _
  have HT := hidOf hT
  obtain ⟨_, p0, p1, p2, p3, p4, p5, _⟩ := id x0
  clear hT
  go_enter Try.func6, Try.ntmps6
  go_wp2_with fail
  refine (szNotify_any A x _ hn hn').mono ?_
  rintro e w1 ⟨⟨k, rfl, hk⟩, hb1⟩
  have x1 := x0.keep hb1
  have B1 := bl_trans B0 hb1
  clear p0 p1 p2 p3 p4 p5
  obtain ⟨_, p0, p1, p2, p3, p4, p5, _⟩ := id x1
  clear x0 hb1 B0 hW0
  rcases hk with hk | ⟨hk, hnn⟩
  · go_wp2
    go_ret
    exact ⟨rfl, B1⟩
  · have hk' : ¬ k < 0 := by omega
    clear hk
    go_wp2_with fail
    refine (toNotify_any A x _ (HT.out.keep B1) (by omega) (by omega)).mono ?_
    rintro e w2 ⟨g2, g2', rfl, ho2, hb2⟩
    have x2 := x1.keep hb2
    have B2 := bl_trans B1 hb2
    clear x1 p0 p1 p2 p3 p4 p5 hb2 B1
    go_wp2_with fail
    refine (specNotifyOk_any ⟨some ⟨g2, 0, none⟩, A.n, A.n, some ⟨g2', 0, none⟩, A.n', A.n'⟩ x _ ho2.nin (by simp only; omega) (by simp only; omega) (Nat.le_refl _)).mono ?_
    rintro e w3 ⟨rfl, hb3⟩
    have x3 := x2.keep hb3
    have B3 := bl_trans B2 hb3
    obtain ⟨_, p0, p1, p2, p3, p4, p5, _⟩ := id x3
    clear x2 hb3 B2 ho2
    go_wp2_with fail
    refine (toNotify_any A x _ (HT.out.keep B3) (by omega) (by omega)).mono ?_
    rintro e w4 ⟨g, g', rfl, ho4, hb4⟩
    have x4 := x3.keep hb4
    have B4 := bl_trans B3 hb4
    have hlt4 := x4.lt
    obtain ⟨A2, hA2⟩ : ∃ A2 : Na, A2 = ⟨some ⟨g, 0, none⟩, A.n, A.n, some ⟨g', 0, none⟩, A.n', A.n'⟩ := ⟨_, rfl⟩
    generalize hW5 : w4.alloc (.cells #[.bool x.pm, .slice (some ⟨g, 0, none⟩) A.n A.n, .slice (some ⟨g', 0, none⟩) A.n' A.n', .int .i64 x.on, .int .i64 x.sp, .int .i64 x.tk] 27) = W5
    have b5 : Below w4.heap.size w4 W5 := by subst hW5; exact bl_alloc (Below.refl _ _) _
    have y5 : NBox w4.heap.size A2 x W5 := by subst hW5 hA2; exact NBox.new w4 ⟨some ⟨g, 0, none⟩, A.n, A.n, some ⟨g', 0, none⟩, A.n', A.n'⟩ x _
    have x5 := x4.keep b5
    have B5 := bl_trans B4 b5
    have ho5 : NOwn w3.heap.size W5 A2 x := by subst hA2; exact ho4.keep b5
    subst hA2
    obtain ⟨_, r0, r1, r2, r3, r4, r5, _⟩ := id y5
    clear x3 x4 hb4 B3 B4 p0 p1 p2 p3 p4 p5 ho4 b5
    go_wp2_with fail
    refine (hI ⟨some ⟨g, 0, none⟩, A.n, A.n, some ⟨g', 0, none⟩, A.n', A.n'⟩ x _ ho5.nin (by simp only; omega) (by simp only; omega) hw).mono ?_
    rintro e w6 ⟨rfl, hb6⟩
    have ho6 := ho5.keep hb6
    have hS : LawS w w4.heap.size A ⟨some ⟨g, 0, none⟩, A.n, A.n, some ⟨g', 0, none⟩, A.n', A.n'⟩ x w6 := LawS.mk' (x5.keep hb6) (y5.keep hb6) (bl_trans B5 hb6)
    have HO := hidOf ho6
    have HT6 := hidOf (HT.out.keep (bl_trans B5 hb6))
    clear x5 y5 r0 r1 r2 r3 r4 r5 hb6 B5 ho5 hW5 ho6 HT
    generalize okN x = l
    go_wp2_with fail
    go_region_held3 (fun w' => LawS w w4.heap.size A ⟨some ⟨g, 0, none⟩, A.n, A.n, some ⟨g', 0, none⟩, A.n', A.n'⟩ x w') (first | (exact hS.drew) | (exact LawS.keep (by assumption) (by assumption)))
      (first
        | (go_at_call 30; refine (toNotify_any A x _ (HT6.out.keep (Below.refl _ w6).drew) (by omega) (by omega)).mono ?_; rintro e w7 ⟨g7, g7', rfl, ho7, hb7⟩; have ho6' := HO.out.keep (bl_trans (Below.refl _ w6).drew hb7))
        | (go_at_call 32; refine (eqNotify_any ⟨some ⟨g, 0, none⟩, A.n, A.n, some ⟨g', 0, none⟩, A.n', A.n'⟩ ⟨some ⟨g7, 0, none⟩, A.n, A.n, some ⟨g7', 0, none⟩, A.n', A.n'⟩ x x _ ho6'.nin ho7.nin (by simp only; omega) (by simp only; omega) (by simp only; omega) (by simp only; omega)).mono ?_; rintro e w8 ⟨rfl, hb8⟩))
    all_goals simp only [sameN_self, Bool.not_true]
    all_goals go_wp2
    all_goals go_ret
    all_goals (rename_i hHeld; exact ⟨rfl, hHeld.bel⟩)
end Go.Proofs.Ytfgknbflgmblmaa
