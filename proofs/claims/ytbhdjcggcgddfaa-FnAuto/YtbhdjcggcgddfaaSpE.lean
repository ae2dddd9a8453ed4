/-
  Walks of the specification's events: is one right? A copy of one.
-/
import Derived.Test.YtbhdjcggcgddfaaS6
import Derived.Test.YtbhdjcggcgddfaaMrg4
import Derived.Test.YtbhdjcggcgddfaaCE
namespace Go.Proofs.Ytbhdjcggcgddfaa
open Go.RowKit Pl Il

set_option maxHeartbeats 2000000 in
theorem specEventOk_any (A : Na) (x : Et) (w : World) (hI : EIn w A x) (hn : A.n ≤ 2097152) (hn' : A.n' ≤ 2097152) (hok : A.ok) :
    Calls Try.prog 41 #[.agg #[.bool x.au, .bool x.up, .slice A.a A.n A.c, .slice A.a' A.n' A.c', .int .i64 x.st, .int .i64 x.sp, .int .i64 x.tk]] w fun e w' => e = .returned (.bool (okE x)) ∧ Below w.heap.size w w' := by
  generalize hW0 : w.alloc (.cells #[.bool x.au, .bool x.up, .slice A.a A.n A.c, .slice A.a' A.n' A.c', .int .i64 x.st, .int .i64 x.sp, .int .i64 x.tk] 46) = W0
  have B0 : Below w.heap.size w W0 := by subst hW0; exact bl_alloc (Below.refl _ _) _
  have x0 : EBox w.heap.size A x W0 := by subst hW0; exact EBox.new w A x _
  have HI0 := hidOf (hI.keep B0)
  have HL := hidOf hI.ints.len
  have HL2 := hidOf hI.grs.len
  obtain ⟨_, p0, p1, p2, p3, p4, p5, p6, _⟩ := id x0
  have X0 := hidOf x0
  clear hI x0
  obtain ⟨au, up, ln, gs, st, sp, tk⟩ := x
  simp only at *
  go_enter Try.func41, Try.ntmps41
  go_wp2_with fail
  refine (l6Waits_any A.a A.n A.c ln A.a' A.n' A.c' gs _ HI0.out.ints HI0.out.grs hn hn' hok.1 hok.2).mono ?_
  rintro e w2 ⟨rfl, hb2⟩
  have hB2 := bl_trans B0 hb2
  obtain ⟨_, q0, q1, q2, q3, q4, q5, q6, _⟩ := X0.out.keep hb2
  simp only at q0 q1 q2 q3 q4 q5 q6
  clear p0 p1 p2 p3 p4 p5 p6 X0 hW0
  cases h2 : waitL ln gs
  · go_wp2
    go_ret
    exact ⟨rbool (by simp [okE, waitE, h2]), hB2⟩
  · cases up
    · have hz : waitE ⟨au, false, ln, gs, st, sp, tk⟩ = true := by simp [waitE, h2]
      have HZ := hidOf hz
      clear hz
      go_wp2_with fail
      refine (l1In_any st _).mono ?_
      rintro e w5 ⟨rfl, rfl⟩
      cases c1 : cnt st
      · have hk := hidOf (show okE ⟨au, false, ln, gs, st, sp, tk⟩ = false by simp [okE, c1])
        go_wp2
        go_ret
        exact ⟨rbool hk.out.symm, hB2⟩
      · go_wp2_with fail
        refine (l1In_any sp _).mono ?_
        rintro e w6 ⟨rfl, rfl⟩
        cases c2 : cnt sp
        · have hk := hidOf (show okE ⟨au, false, ln, gs, st, sp, tk⟩ = false by simp [okE, c2])
          go_wp2
          go_ret
          exact ⟨rbool hk.out.symm, hB2⟩
        · go_wp2_with fail
          refine (l1In_any tk _).mono ?_
          rintro e w7 ⟨rfl, rfl⟩
          cases c3 : cnt tk
          · have hk := hidOf (show okE ⟨au, false, ln, gs, st, sp, tk⟩ = false by simp [okE, c3])
            go_wp2
            go_ret
            exact ⟨rbool hk.out.symm, hB2⟩
          · have b1 := cnt_bd'' c1
            have b2 := cnt_bd'' c2
            have b3 := cnt_bd'' c3
            have hgl : A.n' ≤ 32 := by have h := h2; simp only [waitL, lineL, Bool.and_eq_true, decide_eq_true_eq] at h; have := h.1.2.1; have := HL2.out; omega
            cases au
            · have HK := hidOf (okE_man (x := ⟨false, false, ln, gs, st, sp, tk⟩) rfl)
              by_cases e1 : st = 0
              · have e1' : (st == 0) = true := by simp [e1]
                by_cases e2 : sp = 0
                · have e2' : (sp == 0) = true := by simp [e2]
                  by_cases e3 : tk = 0
                  · have e3' : (tk == 0) = true := by simp [e3]
                    have hk := hidOf (show okE ⟨false, false, ln, gs, st, sp, tk⟩ = true by rw [HK.out, HZ.out]; simp [e1, e2, e3])
                    clear e1 e2 e3
                    go_wp2
                    go_ret
                    exact ⟨rbool hk.out.symm, hB2⟩
                  · have e3' : (tk == 0) = false := by simp [e3]
                    have hk := hidOf (show okE ⟨false, false, ln, gs, st, sp, tk⟩ = false by rw [HK.out]; simp [e3])
                    clear e1 e2 e3
                    go_wp2
                    go_ret
                    exact ⟨rbool hk.out.symm, hB2⟩
                · have e2' : (sp == 0) = false := by simp [e2]
                  have hk := hidOf (show okE ⟨false, false, ln, gs, st, sp, tk⟩ = false by rw [HK.out]; simp [e2])
                  clear e1 e2
                  go_wp2
                  go_ret
                  exact ⟨rbool hk.out.symm, hB2⟩
              · have e1' : (st == 0) = false := by simp [e1]
                have hk := hidOf (show okE ⟨false, false, ln, gs, st, sp, tk⟩ = false by rw [HK.out]; simp [e1])
                clear e1
                go_wp2
                go_ret
                exact ⟨rbool hk.out.symm, hB2⟩
            · have hs : heldE ⟨true, false, ln, gs, st, sp, tk⟩ = sp + tk + (A.n' : Int) := by simp [heldE, upI, HL2.out]
              have HK := hidOf (show okE ⟨true, false, ln, gs, st, sp, tk⟩ = decide (st = sp + tk + (A.n' : Int)) by rw [← hs]; simp [okE, tallyE, HZ.out, c1, c2, c3])
              clear hs
              go_wp2
              go_ret
              exact ⟨rbool (by rw [HK.out, Bool.eq_iff_iff]; simp), hB2⟩
    · by_cases hl : (0 : Int) < (A.n : Int)
      · have hk := hidOf (show okE ⟨au, true, ln, gs, st, sp, tk⟩ = false by simp [okE, waitE, List.ne_nil_of_length_pos (show 0 < ln.length by rw [HL.out]; omega)])
        go_wp2
        go_ret
        exact ⟨rbool hk.out.symm, hB2⟩
      · have hl' : ln = [] := List.length_eq_zero_iff.1 (by rw [HL.out]; omega)
        have hz : waitE ⟨au, true, ln, gs, st, sp, tk⟩ = true := by simp only [waitE]; rw [h2]; simp [hl']
        have HZ := hidOf hz
        clear hz hl'
        go_wp2_with fail
        refine (l1In_any st _).mono ?_
        rintro e w5 ⟨rfl, rfl⟩
        cases c1 : cnt st
        · have hk := hidOf (show okE ⟨au, true, ln, gs, st, sp, tk⟩ = false by simp [okE, c1])
          go_wp2
          go_ret
          exact ⟨rbool hk.out.symm, hB2⟩
        · go_wp2_with fail
          refine (l1In_any sp _).mono ?_
          rintro e w6 ⟨rfl, rfl⟩
          cases c2 : cnt sp
          · have hk := hidOf (show okE ⟨au, true, ln, gs, st, sp, tk⟩ = false by simp [okE, c2])
            go_wp2
            go_ret
            exact ⟨rbool hk.out.symm, hB2⟩
          · go_wp2_with fail
            refine (l1In_any tk _).mono ?_
            rintro e w7 ⟨rfl, rfl⟩
            cases c3 : cnt tk
            · have hk := hidOf (show okE ⟨au, true, ln, gs, st, sp, tk⟩ = false by simp [okE, c3])
              go_wp2
              go_ret
              exact ⟨rbool hk.out.symm, hB2⟩
            · have b1 := cnt_bd'' c1
              have b2 := cnt_bd'' c2
              have b3 := cnt_bd'' c3
              have hgl : A.n' ≤ 32 := by have h := h2; simp only [waitL, lineL, Bool.and_eq_true, decide_eq_true_eq] at h; have := h.1.2.1; have := HL2.out; omega
              cases au
              · have HK := hidOf (okE_man (x := ⟨false, true, ln, gs, st, sp, tk⟩) rfl)
                by_cases e1 : st = 0
                · have e1' : (st == 0) = true := by simp [e1]
                  by_cases e2 : sp = 0
                  · have e2' : (sp == 0) = true := by simp [e2]
                    by_cases e3 : tk = 0
                    · have e3' : (tk == 0) = true := by simp [e3]
                      have hk := hidOf (show okE ⟨false, true, ln, gs, st, sp, tk⟩ = true by rw [HK.out, HZ.out]; simp [e1, e2, e3])
                      clear e1 e2 e3
                      go_wp2
                      go_ret
                      exact ⟨rbool hk.out.symm, hB2⟩
                    · have e3' : (tk == 0) = false := by simp [e3]
                      have hk := hidOf (show okE ⟨false, true, ln, gs, st, sp, tk⟩ = false by rw [HK.out]; simp [e3])
                      clear e1 e2 e3
                      go_wp2
                      go_ret
                      exact ⟨rbool hk.out.symm, hB2⟩
                  · have e2' : (sp == 0) = false := by simp [e2]
                    have hk := hidOf (show okE ⟨false, true, ln, gs, st, sp, tk⟩ = false by rw [HK.out]; simp [e2])
                    clear e1 e2
                    go_wp2
                    go_ret
                    exact ⟨rbool hk.out.symm, hB2⟩
                · have e1' : (st == 0) = false := by simp [e1]
                  have hk := hidOf (show okE ⟨false, true, ln, gs, st, sp, tk⟩ = false by rw [HK.out]; simp [e1])
                  clear e1
                  go_wp2
                  go_ret
                  exact ⟨rbool hk.out.symm, hB2⟩
              · have hs : heldE ⟨true, true, ln, gs, st, sp, tk⟩ = sp + tk + (A.n' : Int) + 1 := by simp [heldE, upI, HL2.out]
                have HK := hidOf (show okE ⟨true, true, ln, gs, st, sp, tk⟩ = decide (st = sp + tk + (A.n' : Int) + 1) by rw [← hs]; simp [okE, tallyE, HZ.out, c1, c2, c3])
                clear hs
                go_wp2
                go_ret
                exact ⟨rbool (by rw [HK.out, Bool.eq_iff_iff]; simp), hB2⟩

set_option maxHeartbeats 1000000 in
theorem l6Copy_any (A : Na) (x : Et) (w : World) (hI : EIn w A x) (hn : A.n ≤ 2097152) (hn' : A.n' ≤ 2097152) :
    Calls Try.prog 106 #[.agg #[.bool x.au, .bool x.up, .slice A.a A.n A.c, .slice A.a' A.n' A.c', .int .i64 x.st, .int .i64 x.sp, .int .i64 x.tk]] w fun e w' => ∃ A', e = .returned (.agg #[.bool x.au, .bool x.up, .slice A'.a A'.n A'.c, .slice A'.a' A'.n' A'.c', .int .i64 x.st, .int .i64 x.sp, .int .i64 x.tk]) ∧ Rows2 w.heap.size w' A' x.ln x.gs ∧ Below w.heap.size w w' := by
  generalize hW0 : w.alloc (.cells #[.bool x.au, .bool x.up, .slice A.a A.n A.c, .slice A.a' A.n' A.c', .int .i64 x.st, .int .i64 x.sp, .int .i64 x.tk] 46) = W0
  generalize hW1 : W0.alloc (.cells #[.bool false, .bool false, .slice none 0 0, .slice none 0 0, .int .i64 0, .int .i64 0, .int .i64 0] 46) = W1
  have b0 : Below w.heap.size w W0 := by subst hW0; exact bl_alloc (Below.refl _ _) _
  have b1 : Below w.heap.size w W1 := by subst hW1; exact bl_alloc b0 _
  have s0 : W0.heap.size = w.heap.size + 1 := by subst hW0; simp
  have s1 : W1.heap.size = w.heap.size + 2 := by subst hW1; simp [s0]
  have x0 : EBox w.heap.size A x W1 := by subst hW1 hW0; exact (EBox.new w A x _).alloc _
  have x1 : EBox (w.heap.size + 1) Na.zero Et.zero W1 := by subst hW1; rw [← s0]; exact EBox.newZ W0 _
  have hI1 := hidOf (hI.keep b1)
  have HI := hidOf hI
  have X0 := hidOf x0
  have X1 := hidOf x1
  have HB := hidOf b1
  have S1 := hidOf s1
  clear hI x0 x1 b0 b1 s0 s1
  subst hW1 hW0
  go_enter Try.func106, Try.ntmps106
  go_wp2_with fail
  refine (l2Copy_any A.a A.n A.c x.ln _ hI1.out.ints hn).mono ?_
  rintro e w1 ⟨g1, c1, rfl, ho1, hb1⟩
  rw [S1.out] at ho1
  have x0 := X0.out.keep hb1
  have x1 := X1.out.keep hb1
  have hB1 := bl_trans HB.out hb1
  have y0 := x0.set2 (a := some ⟨g1, 0, none⟩) (n := A.n) (c := c1)
  have y1 := x1.far w.heap.size 2 (by omega) (.slice (some ⟨g1, 0, none⟩) A.n c1)
  have hg1 := (owns_parts ho1).2.1
  have ho2 := row_set ho1 w.heap.size 2 (fun e => by have e' : g1 = w.heap.size := by simpa [Value.ownBlock] using e
                                                     omega) (.slice (some ⟨g1, 0, none⟩) A.n c1)
  have hB2 := bl_set1 hB1 w.heap.size 2 (Nat.le_refl _) (.slice (some ⟨g1, 0, none⟩) A.n c1)
  generalize hU : w1.setCell ⟨w.heap.size, 2, none⟩ (.slice (some ⟨g1, 0, none⟩) A.n c1) = U at y0 y1 ho2 hB2
  have hIU := HI.out.grs.keep hB2
  obtain ⟨_, p0, p1, p2, p3, p4, p5, p6, pf⟩ := id x0
  obtain ⟨_, q0, q1, q2, q3, q4, q5, q6, qf⟩ := id y0
  have hz := y1.lt
  have Y0 := hidOf y0
  have Y1 := hidOf y1
  have HO2 := hidOf ho2
  have HB2 := hidOf hB2
  clear ho1 hB1 hb1 x0 x1 HI X0 X1 HB hI1 y0 y1 ho2 hB2
  subst hU
  go_wp2_with fail
  refine (l2Copy_any A.a' A.n' A.c' x.gs _ hIU hn').mono ?_
  rintro e w2 ⟨g2, c2, rfl, ho3, hb3⟩
  have z0 := Y0.out.keep hb3
  have z1 := Y1.out.keep hb3
  have hg2 := (owns_parts ho3).2.1
  have hlt1 : g1 < (w1.setCell ⟨w.heap.size, 2, none⟩ (.slice (some ⟨g1, 0, none⟩) A.n c1)).heap.size := (HO2.out.lt g1 rfl).2
  have hN : Rows2 (w.heap.size + 2) w2 ⟨some ⟨g1, 0, none⟩, A.n, c1, some ⟨g2, 0, none⟩, A.n', c2⟩ x.ln x.gs := by
    refine ⟨row_below HO2.out hb3, row_mono ho3 (by omega), fun q e e' => ?_⟩
    have h1 : g1 = q := by simpa [Value.ownBlock] using e
    have h2 : g2 = q := by simpa [Value.ownBlock] using e'
    omega
  have hN2 := (((((((hN.far w.heap.size 3 (by omega) (.slice (some ⟨g2, 0, none⟩) A.n' c2)).far (w.heap.size + 1) 0 (by omega) (.bool x.au)).far (w.heap.size + 1) 1 (by omega) (.bool x.up)).far (w.heap.size + 1) 2 (by omega) (.slice (some ⟨g1, 0, none⟩) A.n c1)).far (w.heap.size + 1) 3 (by omega) (.slice (some ⟨g2, 0, none⟩) A.n' c2)).far (w.heap.size + 1) 4 (by omega) (.int .i64 x.st)).far (w.heap.size + 1) 5 (by omega) (.int .i64 x.sp)).far (w.heap.size + 1) 6 (by omega) (.int .i64 x.tk)
  have hB3 := bl_sE (bl_set1 (bl_trans HB2.out hb3) w.heap.size 3 (Nat.le_refl _) (.slice (some ⟨g2, 0, none⟩) A.n' c2)) (w.heap.size + 1) (by omega) (.bool x.au) (.bool x.up) (.slice (some ⟨g1, 0, none⟩) A.n c1) (.slice (some ⟨g2, 0, none⟩) A.n' c2) (.int .i64 x.st) (.int .i64 x.sp) (.int .i64 x.tk)
  obtain ⟨_, r0, r1, r2, r3, r4, r5, r6, rf⟩ := id z0
  obtain ⟨_, t0, t1, t2, t3, t4, t5, t6, tf⟩ := id z1
  have HN := hidOf hN2
  have HB3 := hidOf hB3
  clear hN hN2 hB3 ho3 hb3 z0 z1 Y0 Y1 HO2 HB2 p0 p1 p2 p3 p4 p5 p6 pf q0 q1 q2 q3 q4 q5 q6 qf hIU S1
  go_wp2
  exact bodyPost_ret (v := .agg #[.bool x.au, .bool x.up, .slice (some ⟨g1, 0, none⟩) A.n c1, .slice (some ⟨g2, 0, none⟩) A.n' c2, .int .i64 x.st, .int .i64 x.sp, .int .i64 x.tk]) (by simp [results, Try.results106, go_sem, t0, t1, t2, t3, t4, t5, t6]) rfl ⟨⟨some ⟨g1, 0, none⟩, A.n, c1, some ⟨g2, 0, none⟩, A.n', c2⟩, rfl, HN.out.mono (by omega), HB3.out⟩
end Go.Proofs.Ytbhdjcggcgddfaa
