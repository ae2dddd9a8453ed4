/-
  Walk of the law on Look, out of the contracts.
-/
import Derived.Test.YtejakmbpmnobiabWC1
import Derived.Test.YtejakmbpmnobiabCM8
namespace Go.Proofs.Ytejakmbpmnobiab
open Go.RowKit Pl Il

def SpecLook : Prop := ∀ (A : Na) (x : Ct) (w : World), CIn w A x → A.n ≤ 2097152 → A.n' ≤ 2097152 → A.ok →
  Calls Try.prog 33 #[.agg #[.int .i64 x.kd, .int .i64 x.nu, .string x.tx, .int .i64 x.ve, .bool x.cl, .slice A.a A.n A.c, .slice A.a' A.n' A.c']] w fun e w' => LookP x e ∧ Below w.heap.size w w'
/-- What is asked of the program's Look. -/
def ImplLook : Prop := ∀ (A : Na) (x : Ct) (w : World), CIn w A x → A.n ≤ 2097152 → A.n' ≤ 2097152 → CWf x →
  Calls Try.prog 34 #[.agg #[.int .i64 x.kd, .int .i64 x.nu, .string x.tx, .int .i64 x.ve, .bool x.cl, .slice A.a A.n A.c, .slice A.a' A.n' A.c']] w fun e w' => LookP x e ∧ Below w.heap.size w w'

set_option maxHeartbeats 2000000 in
theorem exactLook_of (specLook_any : SpecLook) (hI : ImplLook) (A : Na) (x : Ct) (w : World) (hn : A.n ≤ 9223372036854775807) (hn' : A.n' ≤ 9223372036854775807) (hT : CIn w A x) (hw : CWf x) :
    Calls Try.prog 7 #[.agg #[.int .i64 x.kd, .int .i64 x.nu, .string x.tx, .int .i64 x.ve, .bool x.cl, .slice A.a A.n A.c, .slice A.a' A.n' A.c']] w fun e w' => e = .returned (.bool true) ∧ Below w.heap.size w w' := by
  generalize hW0 : w.alloc (.cells #[.int .i64 x.kd, .int .i64 x.nu, .string x.tx, .int .i64 x.ve, .bool x.cl, .slice A.a A.n A.c, .slice A.a' A.n' A.c'] 26) = W0
  have B0 : Below w.heap.size w W0 := by subst hW0; exact bl_alloc (Below.refl _ _) _
  have x0 : CBox w.heap.size A x W0 := by subst hW0; exact CBox.new w A x _
  have HT := hidOf hT
  obtain ⟨_, p0, p1, p2, p3, p4, p5, p6, _⟩ := id x0
  clear hT
  go_enter Try.func7, Try.ntmps7
  go_wp2_with fail
  refine (szCell_any A x _ hn hn' HT.out.tx).mono ?_
  rintro e w1 ⟨⟨k, rfl, hk⟩, hb1⟩
  have x1 := x0.keep hb1
  have B1 := bl_trans B0 hb1
  clear p0 p1 p2 p3 p4 p5 p6
  obtain ⟨_, p0, p1, p2, p3, p4, p5, p6, _⟩ := id x1
  clear x0 hb1 B0 hW0
  rcases hk with hk | ⟨hk, _, hnn⟩
  · go_wp2
    go_ret
    exact ⟨rfl, B1⟩
  · have hk' : ¬ k < 0 := by omega
    clear hk
    go_wp2_with fail
    refine (toCell_any A x _ (HT.out.keep B1) (by omega) (by omega)).mono ?_
    rintro e w2 ⟨g2, g2', rfl, ho2, hb2⟩
    have x2 := x1.keep hb2
    have B2 := bl_trans B1 hb2
    clear x1 p0 p1 p2 p3 p4 p5 p6 hb2 B1
    go_wp2_with fail
    refine (specLook_any ⟨some ⟨g2, 0, none⟩, A.n, A.n, some ⟨g2', 0, none⟩, A.n', A.n'⟩ x _ ho2.nin (by simp only; omega) (by simp only; omega) ⟨Nat.le_refl _, Nat.le_refl _⟩).mono ?_
    rintro e w3' ⟨hP, hb3⟩
    obtain ⟨rk, rn, rs, rv, rc, hm⟩ : ∃ (rk rn : Int) (rs : ByteArray) (rv rc : Int), lookM x = (rk, rn, rs, rv, rc) := ⟨_, _, _, _, _, rfl⟩
    have HM := hidOf hm
    unfold LookP at hP
    rw [hm] at hP
    subst hP
    clear hm
    simp only
    generalize hW3 : w3'.alloc (.cells #[.int .i64 rk, .int .i64 rn, .string rs] 29) = w3
    have b3 : Below w3'.heap.size w3' w3 := by subst hW3; exact bl_alloc (Below.refl _ _) _
    have m3 : Box3 w3'.heap.size (.int .i64 rk) (.int .i64 rn) (.string rs) w3 := by subst hW3; exact Box3.new w3' _ _ _ _
    replace hb3 := bl_trans hb3 b3
    have x3 := x2.keep hb3
    have B3 := bl_trans B2 hb3
    have hs33 := m3.lt
    obtain ⟨_, p0, p1, p2, p3, p4, p5, p6, _⟩ := id x3
    clear x2 hb3 B2 ho2 b3
    go_wp2_with fail
    refine (toCell_any A x _ (HT.out.keep B3) (by omega) (by omega)).mono ?_
    rintro e w4 ⟨g, g', rfl, ho4, hb4⟩
    have x4 := x3.keep hb4
    have B4 := bl_trans B3 hb4
    have hlt4 := x4.lt
    obtain ⟨A2, hA2⟩ : ∃ A2 : Na, A2 = ⟨some ⟨g, 0, none⟩, A.n, A.n, some ⟨g', 0, none⟩, A.n', A.n'⟩ := ⟨_, rfl⟩
    generalize hW5 : w4.alloc (.cells #[.int .i64 x.kd, .int .i64 x.nu, .string x.tx, .int .i64 x.ve, .bool x.cl, .slice (some ⟨g, 0, none⟩) A.n A.n, .slice (some ⟨g', 0, none⟩) A.n' A.n'] 31) = W5
    have b5 : Below w4.heap.size w4 W5 := by subst hW5; exact bl_alloc (Below.refl _ _) _
    have y5 : CBox w4.heap.size A2 x W5 := by subst hW5 hA2; exact CBox.new w4 ⟨some ⟨g, 0, none⟩, A.n, A.n, some ⟨g', 0, none⟩, A.n', A.n'⟩ x _
    have x5 := x4.keep b5
    have m5 := (m3.keep hb4).keep b5
    have B5 := bl_trans B4 b5
    have ho5 : COwn w3.heap.size W5 A2 x := by subst hA2; exact ho4.keep b5
    subst hA2
    obtain ⟨_, r0, r1, r2, r3, r4, r5, r6, _⟩ := id y5
    clear x3 x4 hb4 B3 B4 p0 p1 p2 p3 p4 p5 p6 ho4 b5
    go_wp2_with fail
    refine (hI ⟨some ⟨g, 0, none⟩, A.n, A.n, some ⟨g', 0, none⟩, A.n', A.n'⟩ x _ ho5.nin (by simp only; omega) (by simp only; omega) hw).mono ?_
    rintro e w6' ⟨hP, hb6⟩
    unfold LookP at hP
    rw [HM.out] at hP
    subst hP
    simp only
    generalize hW6 : w6'.alloc (.cells #[.int .i64 rk, .int .i64 rn, .string rs] 29) = W6
    have b6 : Below w6'.heap.size w6' W6 := by subst hW6; exact bl_alloc (Below.refl _ _) _
    have n6 : Box3 w6'.heap.size (.int .i64 rk) (.int .i64 rn) (.string rs) W6 := by subst hW6; exact Box3.new w6' _ _ _ _
    have m6 := (m5.keep hb6).keep b6
    obtain ⟨_, u0, u1, u2, _⟩ := id n6
    obtain ⟨_, v0, v1, v2, _⟩ := id m6
    replace hb6 := bl_trans hb6 b6
    clear r0 r1 r2 r3 r4 r5 r6 m5 m3 m6 n6 b6 hW3
    go_wp2_with fail
    refine (eqMsg_same rk rn rs _).mono ?_
    rintro e w6 ⟨rfl, hb6x⟩
    replace hb6 := bl_trans hb6 hb6x
    clear hb6x u0 u1 u2 v0 v1 v2 hW6
    have ho6 := ho5.keep hb6
    have hS : LawSC w w4.heap.size A ⟨some ⟨g, 0, none⟩, A.n, A.n, some ⟨g', 0, none⟩, A.n', A.n'⟩ x w6 := LawSC.mk' (x5.keep hb6) (y5.keep hb6) (bl_trans B5 hb6)
    have HO := hidOf ho6
    have HT6 := hidOf (HT.out.keep (bl_trans B5 hb6))
    clear x5 y5 hb6 B5 ho5 hW5 ho6 HT
    go_wp2_with fail
    go_region_held3 (fun w' => LawSC w w4.heap.size A ⟨some ⟨g, 0, none⟩, A.n, A.n, some ⟨g', 0, none⟩, A.n', A.n'⟩ x w') (first | (exact hS.drew) | (exact LawSC.keep (by assumption) (by assumption)))
      (first
        | (go_at_call 14; refine (toCell_any A x _ (HT6.out.keep (Below.refl _ w6).drew) (by omega) (by omega)).mono ?_; rintro e w7 ⟨g7, g7', rfl, ho7, hb7⟩; have ho6' := HO.out.keep (bl_trans (Below.refl _ w6).drew hb7))
        | (go_at_call 16; refine (eqCell_same ⟨some ⟨g, 0, none⟩, A.n, A.n, some ⟨g', 0, none⟩, A.n', A.n'⟩ ⟨some ⟨g7, 0, none⟩, A.n, A.n, some ⟨g7', 0, none⟩, A.n', A.n'⟩ x _ ho6'.nin ho7.nin (by simp only; omega) (by simp only; omega) (by simp only; omega) (by simp only; omega)).mono ?_; rintro e w8 ⟨rfl, hb8⟩))
    all_goals (try simp only [Bool.not_true])
    all_goals go_wp2
    all_goals go_ret
    all_goals (rename_i hHeld; exact ⟨rfl, hHeld.bel⟩)
end Go.Proofs.Ytejakmbpmnobiab
