/-
  Walk of the law on CellOk, out of the contracts.
-/
import Derived.Test.YtejakmbpmnobiabSpC
import Derived.Test.YtejakmbpmnobiabHC
import Derived.Deep.RegionHeld3
namespace Go.Proofs.Ytejakmbpmnobiab
open Go.RowKit Pl Il

/-- What a law on cells holds on to: its two variables, and all that was there ahead. -/
abbrev LawSC (w : World) (M : Nat) (A A2 : Na) (x : Ct) (w' : World) : Prop :=
  w'.cell? ⟨w.heap.size, 0, none⟩ = some (.int .i64 x.kd) ∧ w'.cell? ⟨w.heap.size, 1, none⟩ = some (.int .i64 x.nu) ∧ w'.cell? ⟨w.heap.size, 2, none⟩ = some (.string x.tx) ∧ w'.cell? ⟨w.heap.size, 3, none⟩ = some (.int .i64 x.ve) ∧ w'.cell? ⟨w.heap.size, 4, none⟩ = some (.bool x.cl) ∧ w'.cell? ⟨w.heap.size, 5, none⟩ = some (.slice A.a A.n A.c) ∧ w'.cell? ⟨w.heap.size, 6, none⟩ = some (.slice A.a' A.n' A.c') ∧ w'.cell? ⟨M, 0, none⟩ = some (.int .i64 x.kd) ∧ w'.cell? ⟨M, 1, none⟩ = some (.int .i64 x.nu) ∧ w'.cell? ⟨M, 2, none⟩ = some (.string x.tx) ∧ w'.cell? ⟨M, 3, none⟩ = some (.int .i64 x.ve) ∧ w'.cell? ⟨M, 4, none⟩ = some (.bool x.cl) ∧ w'.cell? ⟨M, 5, none⟩ = some (.slice A2.a A2.n A2.c) ∧ w'.cell? ⟨M, 6, none⟩ = some (.slice A2.a' A2.n' A2.c') ∧ CBox w.heap.size A x w' ∧ CBox M A2 x w' ∧ Below w.heap.size w w'
theorem LawSC.mk' {w : World} {M : Nat} {A A2 : Na} {x : Ct} {w' : World} (h1 : CBox w.heap.size A x w') (h2 : CBox M A2 x w') (h3 : Below w.heap.size w w') : LawSC w M A A2 x w' :=
  ⟨h1.c0, h1.c1, h1.c2, h1.c3, h1.c4, h1.c5, h1.c6, h2.c0, h2.c1, h2.c2, h2.c3, h2.c4, h2.c5, h2.c6, h1, h2, h3⟩
theorem LawSC.bel {w : World} {M : Nat} {A A2 : Na} {x : Ct} {w' : World} (h : LawSC w M A A2 x w') : Below w.heap.size w w' := h.2.2.2.2.2.2.2.2.2.2.2.2.2.2.2.2
theorem LawSC.b1 {w : World} {M : Nat} {A A2 : Na} {x : Ct} {w' : World} (h : LawSC w M A A2 x w') : CBox w.heap.size A x w' := h.2.2.2.2.2.2.2.2.2.2.2.2.2.2.1
theorem LawSC.b2 {w : World} {M : Nat} {A A2 : Na} {x : Ct} {w' : World} (h : LawSC w M A A2 x w') : CBox M A2 x w' := h.2.2.2.2.2.2.2.2.2.2.2.2.2.2.2.1
theorem LawSC.keep {w : World} {M : Nat} {A A2 : Na} {x : Ct} {u u' : World} (h : LawSC w M A A2 x u) (hb : Below u.heap.size u u') : LawSC w M A A2 x u' := LawSC.mk' (h.b1.keep hb) (h.b2.keep hb) (bl_trans h.bel hb)
theorem LawSC.drew {w : World} {M : Nat} {A A2 : Na} {x : Ct} {u : World} (h : LawSC w M A A2 x u) : LawSC w M A A2 x u.drew := h.keep (Below.refl _ _).drew
/-- What is asked of the program's CellOk. -/
def ImplCellOk : Prop := ∀ (A : Na) (x : Ct) (w : World), CIn w A x → A.n ≤ 2097152 → A.n' ≤ 2097152 → CWf x →
  Calls Try.prog 15 #[.agg #[.int .i64 x.kd, .int .i64 x.nu, .string x.tx, .int .i64 x.ve, .bool x.cl, .slice A.a A.n A.c, .slice A.a' A.n' A.c']] w fun e w' => e = .returned (.bool (okC x)) ∧ Below w.heap.size w w'

set_option maxHeartbeats 2000000 in
theorem exactCellOk_of (hI : ImplCellOk) (A : Na) (x : Ct) (w : World) (hn : A.n ≤ 9223372036854775807) (hn' : A.n' ≤ 9223372036854775807) (hT : CIn w A x) (hw : CWf x) :
    Calls Try.prog 3 #[.agg #[.int .i64 x.kd, .int .i64 x.nu, .string x.tx, .int .i64 x.ve, .bool x.cl, .slice A.a A.n A.c, .slice A.a' A.n' A.c']] w fun e w' => e = .returned (.bool true) ∧ Below w.heap.size w w' := by
  generalize hW0 : w.alloc (.cells #[.int .i64 x.kd, .int .i64 x.nu, .string x.tx, .int .i64 x.ve, .bool x.cl, .slice A.a A.n A.c, .slice A.a' A.n' A.c'] 26) = W0
  have B0 : Below w.heap.size w W0 := by subst hW0; exact bl_alloc (Below.refl _ _) _
  have x0 : CBox w.heap.size A x W0 := by subst hW0; exact CBox.new w A x _
  have HT := hidOf hT
  obtain ⟨_, p0, p1, p2, p3, p4, p5, p6, _⟩ := id x0
  clear hT
  go_enter Try.func3, Try.ntmps3
  go_wp2_with fail
  refine (szCell_any A x _ hn hn' HT.out.tx).mono ?_
  rintro e w1 ⟨⟨k, rfl, hk⟩, hb1⟩
  have x1 := x0.keep hb1
  have B1 := bl_trans B0 hb1
  clear p0 p1 p2 p3 p4 p5 p6
  obtain ⟨_, p0, p1, p2, p3, p4, p5, p6, _⟩ := id x1
  clear x0 hb1 B0 hW0
  rcases hk with hk | ⟨hk, _, hnn⟩
  · go_wp2
    go_ret
    exact ⟨rfl, B1⟩
  · have hk' : ¬ k < 0 := by omega
    clear hk
    go_wp2_with fail
    refine (toCell_any A x _ (HT.out.keep B1) (by omega) (by omega)).mono ?_
    rintro e w2 ⟨g2, g2', rfl, ho2, hb2⟩
    have x2 := x1.keep hb2
    have B2 := bl_trans B1 hb2
    clear x1 p0 p1 p2 p3 p4 p5 p6 hb2 B1
    go_wp2_with fail
    refine (specCellOk_any ⟨some ⟨g2, 0, none⟩, A.n, A.n, some ⟨g2', 0, none⟩, A.n', A.n'⟩ x _ ho2.nin (by simp only; omega) (by simp only; omega) ⟨Nat.le_refl _, Nat.le_refl _⟩).mono ?_
    rintro e w3 ⟨rfl, hb3⟩
    have x3 := x2.keep hb3
    have B3 := bl_trans B2 hb3
    obtain ⟨_, p0, p1, p2, p3, p4, p5, p6, _⟩ := id x3
    clear x2 hb3 B2 ho2
    go_wp2_with fail
    refine (toCell_any A x _ (HT.out.keep B3) (by omega) (by omega)).mono ?_
    rintro e w4 ⟨g, g', rfl, ho4, hb4⟩
    have x4 := x3.keep hb4
    have B4 := bl_trans B3 hb4
    have hlt4 := x4.lt
    obtain ⟨A2, hA2⟩ : ∃ A2 : Na, A2 = ⟨some ⟨g, 0, none⟩, A.n, A.n, some ⟨g', 0, none⟩, A.n', A.n'⟩ := ⟨_, rfl⟩
    generalize hW5 : w4.alloc (.cells #[.int .i64 x.kd, .int .i64 x.nu, .string x.tx, .int .i64 x.ve, .bool x.cl, .slice (some ⟨g, 0, none⟩) A.n A.n, .slice (some ⟨g', 0, none⟩) A.n' A.n'] 31) = W5
    have b5 : Below w4.heap.size w4 W5 := by subst hW5; exact bl_alloc (Below.refl _ _) _
    have y5 : CBox w4.heap.size A2 x W5 := by subst hW5 hA2; exact CBox.new w4 ⟨some ⟨g, 0, none⟩, A.n, A.n, some ⟨g', 0, none⟩, A.n', A.n'⟩ x _
    have x5 := x4.keep b5
    have B5 := bl_trans B4 b5
    have ho5 : COwn w3.heap.size W5 A2 x := by subst hA2; exact ho4.keep b5
    subst hA2
    obtain ⟨_, r0, r1, r2, r3, r4, r5, r6, _⟩ := id y5
    clear x3 x4 hb4 B3 B4 p0 p1 p2 p3 p4 p5 p6 ho4 b5
    go_wp2_with fail
    refine (hI ⟨some ⟨g, 0, none⟩, A.n, A.n, some ⟨g', 0, none⟩, A.n', A.n'⟩ x _ ho5.nin (by simp only; omega) (by simp only; omega) hw).mono ?_
    rintro e w6 ⟨rfl, hb6⟩
    have ho6 := ho5.keep hb6
    have hS : LawSC w w4.heap.size A ⟨some ⟨g, 0, none⟩, A.n, A.n, some ⟨g', 0, none⟩, A.n', A.n'⟩ x w6 := LawSC.mk' (x5.keep hb6) (y5.keep hb6) (bl_trans B5 hb6)
    have HO := hidOf ho6
    have HT6 := hidOf (HT.out.keep (bl_trans B5 hb6))
    clear x5 y5 r0 r1 r2 r3 r4 r5 r6 hb6 B5 ho5 hW5 ho6 HT
    generalize okC x = l
    go_wp2_with fail
    go_region_held3 (fun w' => LawSC w w4.heap.size A ⟨some ⟨g, 0, none⟩, A.n, A.n, some ⟨g', 0, none⟩, A.n', A.n'⟩ x w') (first | (exact hS.drew) | (exact LawSC.keep (by assumption) (by assumption)))
      (first
        | (go_at_call 14; refine (toCell_any A x _ (HT6.out.keep (Below.refl _ w6).drew) (by omega) (by omega)).mono ?_; rintro e w7 ⟨g7, g7', rfl, ho7, hb7⟩; have ho6' := HO.out.keep (bl_trans (Below.refl _ w6).drew hb7))
        | (go_at_call 16; refine (eqCell_same ⟨some ⟨g, 0, none⟩, A.n, A.n, some ⟨g', 0, none⟩, A.n', A.n'⟩ ⟨some ⟨g7, 0, none⟩, A.n, A.n, some ⟨g7', 0, none⟩, A.n', A.n'⟩ x _ ho6'.nin ho7.nin (by simp only; omega) (by simp only; omega) (by simp only; omega) (by simp only; omega)).mono ?_; rintro e w8 ⟨rfl, hb8⟩))
    all_goals (try simp only [Bool.not_true])
    all_goals go_wp2
    all_goals go_ret
    all_goals (rename_i hHeld; exact ⟨rfl, hHeld.bel⟩)
end Go.Proofs.Ytejakmbpmnobiab
