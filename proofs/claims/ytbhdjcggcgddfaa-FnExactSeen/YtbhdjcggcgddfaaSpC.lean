/-
  Walks of the specification's cells: is one right? A copy of one.
-/
import Derived.Test.YtbhdjcggcgddfaaS6c
import Derived.Test.YtbhdjcggcgddfaaCM7
import Derived.Test.YtbhdjcggcgddfaaCCe
import Derived.Test.YtbhdjcggcgddfaaA1
namespace Go.Proofs.Ytbhdjcggcgddfaa
open Go.RowKit Pl Il

theorem specCellOk_any (A : Na) (x : Ct) (w : World) (hI : CIn w A x) (hn : A.n ≤ 2097152) (hn' : A.n' ≤ 2097152) (hok : A.ok) :
    Calls Try.prog 47 #[.agg #[.int .i64 x.kd, .int .i64 x.nu, .string x.tx, .int .i64 x.ve, .bool x.cl, .slice A.a A.n A.c, .slice A.a' A.n' A.c']] w fun e w' => e = .returned (.bool (okC x)) ∧ Below w.heap.size w w' := by
  generalize hW0 : w.alloc (.cells #[.int .i64 x.kd, .int .i64 x.nu, .string x.tx, .int .i64 x.ve, .bool x.cl, .slice A.a A.n A.c, .slice A.a' A.n' A.c'] 58) = W0
  have B0 : Below w.heap.size w W0 := by subst hW0; exact bl_alloc (Below.refl _ _) _
  have x0 : CBox w.heap.size A x W0 := by subst hW0; exact CBox.new w A x _
  have HI0 := hidOf (hI.keep B0)
  have HL := hidOf hI.ints.len
  have htx := hI.tx
  obtain ⟨_, p0, p1, p2, p3, p4, p5, p6, _⟩ := id x0
  have X0 := hidOf x0
  clear hI x0
  have hun : (undef : Value) = .tuple #[] := rfl
  go_enter Try.func47, Try.ntmps47
  go_wp2_with fail
  refine (specMsgOk_any x.kd x.nu x.tx _ htx).mono ?_
  rintro e w1 ⟨rfl, hb1⟩
  have X0 := hidOf (X0.out.keep hb1)
  have HI0 := hidOf (HI0.out.keep hb1)
  have B1 := bl_trans B0 hb1
  clear B0 hb1 hW0 p0 p1 p2 p3 p4 p5 p6
  obtain ⟨_, p0, p1, p2, p3, p4, p5, p6, _⟩ := X0.out
  cases h0 : okB x.kd x.nu x.tx
  · go_wp2
    go_ret
    exact ⟨rbool (by simp [okC, h0]), B1⟩
  · go_wp2_with fail
    refine (inCnt_any x.ve _).mono ?_
    rintro e w2 ⟨rfl, rfl⟩
    cases h1 : cnt x.ve
    · go_wp2
      go_ret
      exact ⟨rbool (by simp [okC, h1]), B1⟩
    · go_wp2_with fail
      refine (l6Waits_any A.a A.n A.c x.ln A.a' A.n' A.c' x.gs _ HI0.out.ints HI0.out.grs hn hn' hok.1 hok.2).mono ?_
      rintro e w3 ⟨rfl, hb3⟩
      have B3 := bl_trans B1 hb3
      clear p0 p1 p2 p3 p4 p5 p6 B1
      obtain ⟨_, p0, p1, p2, p3, p4, p5, p6, _⟩ := X0.out.keep hb3
      clear X0 HI0 hb3
      cases h2 : waitL x.ln x.gs
      · go_wp2
        go_ret
        exact ⟨rbool (by simp [okC, h2]), B3⟩
      · obtain ⟨b, hb⟩ : ∃ b, b = x.cl := ⟨_, rfl⟩
        rw [← hb] at p4
        have HCl := hidOf hb
        clear hb
        cases b
        · go_wp2
          go_ret
          exact ⟨rbool (by simp [okC, h0, h1, h2, ← HCl.out]), B3⟩
        · by_cases h4 : (0 : Int) < (A.n : Int)
          · go_wp2
            go_ret
            exact ⟨rbool (by have := HL.out; first | (simp [okC, ← HCl.out, HL.out]; done) | (simp [okC, ← HCl.out, HL.out]; omega)), B3⟩
          · go_wp2
            go_ret
            exact ⟨rbool (by have := HL.out; first | (simp [okC, h0, h1, h2, ← HCl.out, HL.out]; done) | (simp [okC, h0, h1, h2, ← HCl.out, HL.out]; omega)), B3⟩
set_option maxHeartbeats 1000000 in
theorem l7Copy_any (A : Na) (x : Ct) (w : World) (hI : CIn w A x) (hn : A.n ≤ 2097152) (hn' : A.n' ≤ 2097152) :
    Calls Try.prog 129 #[.agg #[.int .i64 x.kd, .int .i64 x.nu, .string x.tx, .int .i64 x.ve, .bool x.cl, .slice A.a A.n A.c, .slice A.a' A.n' A.c']] w fun e w' => ∃ A', e = .returned (.agg #[.int .i64 x.kd, .int .i64 x.nu, .string x.tx, .int .i64 x.ve, .bool x.cl, .slice A'.a A'.n A'.c, .slice A'.a' A'.n' A'.c']) ∧ Rows2 w.heap.size w' A' x.ln x.gs ∧ Below w.heap.size w w' := by
  generalize hW0 : w.alloc (.cells #[.int .i64 x.kd, .int .i64 x.nu, .string x.tx, .int .i64 x.ve, .bool x.cl, .slice A.a A.n A.c, .slice A.a' A.n' A.c'] 58) = W0
  generalize hW1 : W0.alloc (.cells #[.int .i64 0, .int .i64 0, .string ⟨#[]⟩, .int .i64 0, .bool false, .slice none 0 0, .slice none 0 0] 58) = W1
  have b0 : Below w.heap.size w W0 := by subst hW0; exact bl_alloc (Below.refl _ _) _
  have b1 : Below w.heap.size w W1 := by subst hW1; exact bl_alloc b0 _
  have s0 : W0.heap.size = w.heap.size + 1 := by subst hW0; simp
  have s1 : W1.heap.size = w.heap.size + 2 := by subst hW1; simp [s0]
  have x0 : CBox w.heap.size A x W1 := by subst hW1 hW0; exact (CBox.new w A x _).alloc _
  have x1 : CBox (w.heap.size + 1) Na.zero Ct.zero W1 := by subst hW1; rw [← s0]; exact CBox.newZ W0 _
  have hI1 := hidOf (hI.keep b1)
  have HI := hidOf hI
  have X0 := hidOf x0
  have X1 := hidOf x1
  have HB := hidOf b1
  have S1 := hidOf s1
  clear hI x0 x1 b0 b1 s0 s1
  subst hW1 hW0
  go_enter Try.func129, Try.ntmps129
  go_wp2_with fail
  refine (l2Copy_any A.a A.n A.c x.ln _ hI1.out.ints hn).mono ?_
  rintro e w1 ⟨g1, c1, rfl, ho1, hb1⟩
  rw [S1.out] at ho1
  have x0 := X0.out.keep hb1
  have x1 := X1.out.keep hb1
  have hB1 := bl_trans HB.out hb1
  have y0 := x0.set5 (a := some ⟨g1, 0, none⟩) (n := A.n) (c := c1)
  have y1 := x1.far w.heap.size 5 (by omega) (.slice (some ⟨g1, 0, none⟩) A.n c1)
  have hg1 := (owns_parts ho1).2.1
  have ho2 := row_set ho1 w.heap.size 5 (fun e => by have e' : g1 = w.heap.size := by simpa [Value.ownBlock] using e
                                                     omega) (.slice (some ⟨g1, 0, none⟩) A.n c1)
  have hB2 := bl_set1 hB1 w.heap.size 5 (Nat.le_refl _) (.slice (some ⟨g1, 0, none⟩) A.n c1)
  generalize hU : w1.setCell ⟨w.heap.size, 5, none⟩ (.slice (some ⟨g1, 0, none⟩) A.n c1) = U at y0 y1 ho2 hB2
  have hIU := HI.out.grs.keep hB2
  obtain ⟨_, p0, p1, p2, p3, p4, p5, p6, pf⟩ := id x0
  obtain ⟨_, q0, q1, q2, q3, q4, q5, q6, qf⟩ := id y0
  have hz := y1.lt
  have Y0 := hidOf y0
  have Y1 := hidOf y1
  have HO2 := hidOf ho2
  have HB2 := hidOf hB2
  clear ho1 hB1 hb1 x0 x1 HI X0 X1 HB hI1 y0 y1 ho2 hB2
  subst hU
  go_wp2_with fail
  refine (l2Copy_any A.a' A.n' A.c' x.gs _ hIU hn').mono ?_
  rintro e w2 ⟨g2, c2, rfl, ho3, hb3⟩
  have z0 := Y0.out.keep hb3
  have z1 := Y1.out.keep hb3
  have hg2 := (owns_parts ho3).2.1
  have hlt1 : g1 < (w1.setCell ⟨w.heap.size, 5, none⟩ (.slice (some ⟨g1, 0, none⟩) A.n c1)).heap.size := (HO2.out.lt g1 rfl).2
  have hN : Rows2 (w.heap.size + 2) w2 ⟨some ⟨g1, 0, none⟩, A.n, c1, some ⟨g2, 0, none⟩, A.n', c2⟩ x.ln x.gs := by
    refine ⟨row_below HO2.out hb3, row_mono ho3 (by omega), fun q e e' => ?_⟩
    have h1 : g1 = q := by simpa [Value.ownBlock] using e
    have h2 : g2 = q := by simpa [Value.ownBlock] using e'
    omega
  have hN2 := ((((((((hN.far w.heap.size 6 (by omega) (.slice (some ⟨g2, 0, none⟩) A.n' c2)).far (w.heap.size + 1) 0 (by omega) (.int .i64 x.kd)).far (w.heap.size + 1) 1 (by omega) (.int .i64 x.nu)).far (w.heap.size + 1) 2 (by omega) (.string x.tx)).far (w.heap.size + 1) 3 (by omega) (.int .i64 x.ve)).far (w.heap.size + 1) 4 (by omega) (.bool x.cl)).far (w.heap.size + 1) 5 (by omega) (.slice (some ⟨g1, 0, none⟩) A.n c1)).far (w.heap.size + 1) 6 (by omega) (.slice (some ⟨g2, 0, none⟩) A.n' c2))
  have hB3 := bl_sC (bl_set1 (bl_trans HB2.out hb3) w.heap.size 6 (Nat.le_refl _) (.slice (some ⟨g2, 0, none⟩) A.n' c2)) (w.heap.size + 1) (by omega) (.int .i64 x.kd) (.int .i64 x.nu) (.string x.tx) (.int .i64 x.ve) (.bool x.cl) (.slice (some ⟨g1, 0, none⟩) A.n c1) (.slice (some ⟨g2, 0, none⟩) A.n' c2)
  obtain ⟨_, r0, r1, r2, r3, r4, r5, r6, rf⟩ := id z0
  obtain ⟨_, t0, t1, t2, t3, t4, t5, t6, tf⟩ := id z1
  have HN := hidOf hN2
  have HB3 := hidOf hB3
  clear hN hN2 hB3 ho3 hb3 z0 z1 Y0 Y1 HO2 HB2 p0 p1 p2 p3 p4 p5 p6 pf q0 q1 q2 q3 q4 q5 q6 qf hIU S1
  go_wp2
  exact bodyPost_ret (v := .agg #[.int .i64 x.kd, .int .i64 x.nu, .string x.tx, .int .i64 x.ve, .bool x.cl, .slice (some ⟨g1, 0, none⟩) A.n c1, .slice (some ⟨g2, 0, none⟩) A.n' c2]) (by simp [results, Try.results129, go_sem, t0, t1, t2, t3, t4, t5, t6]) rfl ⟨⟨some ⟨g1, 0, none⟩, A.n, c1, some ⟨g2, 0, none⟩, A.n', c2⟩, rfl, HN.out.mono (by omega), HB3.out⟩
end Go.Proofs.Ytbhdjcggcgddfaa
