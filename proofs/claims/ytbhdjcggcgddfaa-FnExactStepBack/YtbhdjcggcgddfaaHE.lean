/-
  Walks of the laws' own helpers on a event: weighed, made anew, compared, marked, looked at again.
-/
import Derived.Test.YtbhdjcggcgddfaaKE
namespace Go.Proofs.Ytbhdjcggcgddfaa
open Go.RowKit Pl Il

/-- Too great together, or not. -/
theorem szEvent_any (A : Na) (x : Et) (w : World) (hn : A.n ≤ 9223372036854775807) (hn' : A.n' ≤ 9223372036854775807) :
    Calls Try.prog 48 #[.agg #[.bool x.au, .bool x.up, .slice A.a A.n A.c, .slice A.a' A.n' A.c', .int .i64 x.st, .int .i64 x.sp, .int .i64 x.tk], .int .i64 1048576] w fun e w' => (∃ k : Int, e = .returned (.int .i64 k) ∧ (k < 0 ∨ 0 ≤ k ∧ A.n + A.n' ≤ 1048576)) ∧ Below w.heap.size w w' := by
  have hb : Below w.heap.size w (w.alloc (.cells #[.bool x.au, .bool x.up, .slice A.a A.n A.c, .slice A.a' A.n' A.c', .int .i64 x.st, .int .i64 x.sp, .int .i64 x.tk] 70)) := bl_alloc (Below.refl _ _) _
  go_enter Try.func48, Try.ntmps48
  go_wp2_with fail
  refine (szIntS_any A.a A.n A.c _ _ hn (by omega) (by omega)).mono ?_
  rintro e w1 ⟨rfl, rfl⟩
  by_cases h : (1048576 : Int) < (A.n : Int)
  · rw [if_pos h]
    go_wp2
    go_ret
    exact ⟨⟨_, rfl, .inl (by omega)⟩, hb⟩
  · rw [if_neg h]
    have h' : ¬ (1048576 : Int) - (A.n : Int) < 0 := by omega
    go_wp2_with fail
    refine (szIntS_any A.a' A.n' A.c' _ _ hn' (by omega) (by omega)).mono ?_
    rintro e w2 ⟨rfl, rfl⟩
    by_cases h2 : (1048576 : Int) - (A.n : Int) < (A.n' : Int)
    · rw [if_pos h2]
      go_wp2
      go_ret
      exact ⟨⟨_, rfl, .inl (by omega)⟩, hb⟩
    · rw [if_neg h2]
      have h2' : ¬ (1048576 : Int) - (A.n : Int) - (A.n' : Int) < 0 := by omega
      go_wp2
      go_ret
      exact ⟨⟨_, rfl, .inr ⟨by omega, by omega⟩⟩, hb⟩
set_option maxHeartbeats 1000000 in
theorem toEvent_any (A : Na) (x : Et) (w : World) (hT : EIn w A x) (hn : A.n ≤ 2097152) (hn' : A.n' ≤ 2097152) :
    Calls Try.prog 50 #[.agg #[.bool x.au, .bool x.up, .slice A.a A.n A.c, .slice A.a' A.n' A.c', .int .i64 x.st, .int .i64 x.sp, .int .i64 x.tk]] w fun e w' => ∃ g g', e = .returned (.agg #[.bool x.au, .bool x.up, .slice (some ⟨g, 0, none⟩) A.n A.n, .slice (some ⟨g', 0, none⟩) A.n' A.n', .int .i64 x.st, .int .i64 x.sp, .int .i64 x.tk]) ∧ EOwn w.heap.size w' ⟨some ⟨g, 0, none⟩, A.n, A.n, some ⟨g', 0, none⟩, A.n', A.n'⟩ x ∧ Below w.heap.size w w' := by
  generalize hW0 : w.alloc (.cells #[.bool x.au, .bool x.up, .slice A.a A.n A.c, .slice A.a' A.n' A.c', .int .i64 x.st, .int .i64 x.sp, .int .i64 x.tk] 70) = W0
  generalize hW1 : W0.alloc (.cells #[.bool false, .bool false, .slice none 0 0, .slice none 0 0, .int .i64 0, .int .i64 0, .int .i64 0] 46) = W1
  generalize hW2 : W1.alloc (.cells #[.bool x.au, .bool x.up, .slice none 0 0, .slice none 0 0, .int .i64 0, .int .i64 0, .int .i64 0] 46) = W2
  have b0 : Below w.heap.size w W0 := by subst hW0; exact bl_alloc (Below.refl _ _) _
  have b1 : Below w.heap.size w W1 := by subst hW1; exact bl_alloc b0 _
  have b2 : Below w.heap.size w W2 := by subst hW2; exact bl_alloc b1 _
  have s0 : W0.heap.size = w.heap.size + 1 := by subst hW0; simp
  have s1 : W1.heap.size = w.heap.size + 2 := by subst hW1; simp [s0]
  have s2 : W2.heap.size = w.heap.size + 3 := by subst hW2; simp [s1]
  have x0 : EBox w.heap.size A x W2 := by subst hW2 hW1 hW0; exact ((EBox.new w A x _).alloc _).alloc _
  have x1 : EBox (w.heap.size + 1) Na.zero Et.zero W2 := by subst hW2 hW1; rw [← s0]; exact (EBox.newZ W0 _).alloc _
  have x2 : EBox (w.heap.size + 2) Na.zero { Et.zero with au := x.au, up := x.up } W2 := by subst hW2; rw [← s1]; exact EBox.new W1 Na.zero { Et.zero with au := x.au, up := x.up } _
  have hT2 := hT.keep b2
  obtain ⟨_, p0, p1, p2, p3, p4, p5, p6, _⟩ := id x0
  have X0 := hidOf x0
  have X1 := hidOf x1
  have X2 := hidOf x2
  have HT := hidOf hT
  have S2 := hidOf s2
  have HB2 := hidOf b2
  have HT2 := hidOf hT2
  clear hT x0 x1 x2 p0 p1 p2 p3 p4 p5 p6 b0 b1 b2 s0 s1 s2 hT2
  subst hW2 hW1 hW0
  go_enter Try.func50, Try.ntmps50
  go_wp2_with fail
  refine (toIntS_any A.a A.n A.c x.ln _ HT2.out.ints hn).mono ?_
  rintro e w1 ⟨rfl, ho1, hb1⟩
  have x0 := X0.out.keep hb1
  have x1 := X1.out.keep hb1
  have x2 := X2.out.keep hb1
  have hbA := bl_trans HB2.out hb1
  clear HT2 X0 X1 X2 hb1 HB2
  rw [S2.out] at ho1 ⊢
  have y0 := x0.far (w.heap.size + 2) 2 (by omega) (.slice (some ⟨w.heap.size + 3, 0, none⟩) A.n A.n)
  have y1 := x1.far (w.heap.size + 2) 2 (by omega) (.slice (some ⟨w.heap.size + 3, 0, none⟩) A.n A.n)
  have y2 := x2.set2 (a := some ⟨w.heap.size + 3, 0, none⟩) (n := A.n) (c := A.n)
  have hbB := hbA.setCell (p := ⟨w.heap.size + 2, 2, none⟩) (by simp) (.slice (some ⟨w.heap.size + 3, 0, none⟩) A.n A.n)
  have ho2 := ho1.far (w.heap.size + 2) 2 (by omega) (.slice (some ⟨w.heap.size + 3, 0, none⟩) A.n A.n)
  obtain ⟨_, p0, p1, p2, p3, p4, p5, p6, _⟩ := id x0
  obtain ⟨_, q0, q1, q2, q3, q4, q5, q6, qf⟩ := id x2
  obtain ⟨_, r0, r1, r2, r3, r4, r5, r6, _⟩ := id y0
  have HI := hidOf (HT.out.grs.keep hbB)
  have Y0 := hidOf y0
  have Y1 := hidOf y1
  have Y2 := hidOf y2
  have hz := hbB.size
  have hz2 := y2.lt
  clear x1 x0 x2 y0 y1 y2 ho1 HT
  go_wp2_with fail
  refine (toIntS_any A.a' A.n' A.c' x.gs _ HI.out hn').mono ?_
  rintro e w2 ⟨rfl, ho3, hb3⟩
  have z0 := Y0.out.keep hb3
  have z1 := Y1.out.keep hb3
  have z2 := Y2.out.keep hb3
  have ho4 := ho2.keep hb3
  have hbC := bl_trans hbB hb3
  have hne3 : A.n = 0 ∨ w.heap.size + 3 < (w1.setCell ⟨w.heap.size + 2, 2, none⟩ (.slice (some ⟨w.heap.size + 3, 0, none⟩) A.n A.n)).heap.size := by
    rcases ho2.ints.row with h0 | ⟨b, off, e, hb, _⟩
    · exact .inl h0
    · cases e; exact .inr hb
  generalize hN : (w1.setCell ⟨w.heap.size + 2, 2, none⟩ (.slice (some ⟨w.heap.size + 3, 0, none⟩) A.n A.n)).heap.size = N at *
  have hO : EOwn (w.heap.size + 3) w2 ⟨some ⟨w.heap.size + 3, 0, none⟩, A.n, A.n, some ⟨N, 0, none⟩, A.n', A.n'⟩ x := by
    refine ⟨ho4, ho3.mono (by omega), ?_⟩
    rcases hne3 with h0 | h0
    · exact .inl h0
    · exact .inr (.inr fun b off b' off' e e' => by cases e; cases e'; omega)
  have hO2 := (((hO.far (w.heap.size + 2) 3 (by omega) (.slice (some ⟨N, 0, none⟩) A.n' A.n')).far (w.heap.size + 2) 4 (by omega) (.int .i64 x.st)).far (w.heap.size + 2) 5 (by omega) (.int .i64 x.sp)).far (w.heap.size + 2) 6 (by omega) (.int .i64 x.tk)
  have hO3 := hO2.farA (w.heap.size + 1) (by omega) (.bool x.au) (.bool x.up) (.slice (some ⟨w.heap.size + 3, 0, none⟩) A.n A.n) (.slice (some ⟨N, 0, none⟩) A.n' A.n') (.int .i64 x.st) (.int .i64 x.sp) (.int .i64 x.tk)
  have hbD := bl_set1 (bl_set1 (bl_set1 (bl_set1 hbC (w.heap.size + 2) 3 (by omega) (.slice (some ⟨N, 0, none⟩) A.n' A.n')) (w.heap.size + 2) 4 (by omega) (.int .i64 x.st)) (w.heap.size + 2) 5 (by omega) (.int .i64 x.sp)) (w.heap.size + 2) 6 (by omega) (.int .i64 x.tk)
  have hbE := bl_sE hbD (w.heap.size + 1) (by omega) (.bool x.au) (.bool x.up) (.slice (some ⟨w.heap.size + 3, 0, none⟩) A.n A.n) (.slice (some ⟨N, 0, none⟩) A.n' A.n') (.int .i64 x.st) (.int .i64 x.sp) (.int .i64 x.tk)
  clear p0 p1 p2 p3 p4 p5 p6 q0 q1 q2 q3 q4 q5 q6 qf r0 r1 r2 r3 r4 r5 r6
  obtain ⟨_, p0, p1, p2, p3, p4, p5, p6, _⟩ := id z0
  obtain ⟨_, t0, t1, t2, t3, t4, t5, t6, tf⟩ := id z1
  obtain ⟨_, u0, u1, u2, u3, u4, u5, u6, uf⟩ := id z2
  clear z0 z1 z2 ho2 ho3 ho4 hO hO2 hbA hbB hbC hbD hb3 HI Y0 Y1 Y2 hN
  have H6 := hidOf hO3
  have HE := hidOf hbE
  clear hO3 hbE
  go_wp2
  refine bodyPost_ret (v := .agg #[.bool x.au, .bool x.up, .slice (some ⟨w.heap.size + 3, 0, none⟩) A.n A.n, .slice (some ⟨N, 0, none⟩) A.n' A.n', .int .i64 x.st, .int .i64 x.sp, .int .i64 x.tk]) (by simp [results, Try.results50, go_sem, t0, t1, t2, t3, t4, t5, t6]) rfl ⟨_, _, rfl, H6.out.mono (by omega), HE.out⟩
set_option maxHeartbeats 1000000 in
theorem eqEvent_any (A A' : Na) (x y : Et) (w : World) (h1 : EIn w A x) (h2 : EIn w A' y) (hn1 : A.n ≤ 2097152) (hm1 : A.n' ≤ 2097152) (hn2 : A'.n ≤ 2097152) (hm2 : A'.n' ≤ 2097152) :
    Calls Try.prog 51 #[.agg #[.bool x.au, .bool x.up, .slice A.a A.n A.c, .slice A.a' A.n' A.c', .int .i64 x.st, .int .i64 x.sp, .int .i64 x.tk], .agg #[.bool y.au, .bool y.up, .slice A'.a A'.n A'.c, .slice A'.a' A'.n' A'.c', .int .i64 y.st, .int .i64 y.sp, .int .i64 y.tk]] w fun e w' => e = .returned (.bool (sameE x y)) ∧ Below w.heap.size w w' := by
  generalize hW0 : w.alloc (.cells #[.bool x.au, .bool x.up, .slice A.a A.n A.c, .slice A.a' A.n' A.c', .int .i64 x.st, .int .i64 x.sp, .int .i64 x.tk] 46) = W0
  generalize hW1 : W0.alloc (.cells #[.bool y.au, .bool y.up, .slice A'.a A'.n A'.c, .slice A'.a' A'.n' A'.c', .int .i64 y.st, .int .i64 y.sp, .int .i64 y.tk] 46) = W1
  have B0 : Below w.heap.size w W0 := by subst hW0; exact bl_alloc (Below.refl _ _) _
  have B1 : Below w.heap.size w W1 := by subst hW1; exact bl_alloc B0 _
  have s0 : W0.heap.size = w.heap.size + 1 := by subst hW0; simp
  have x0 : EBox w.heap.size A x W1 := by subst hW1 hW0; exact (EBox.new w A x _).alloc _
  have x1 : EBox (w.heap.size + 1) A' y W1 := by subst hW1; rw [← s0]; exact EBox.new W0 A' y _
  have k1 := h1.keep B1
  have k2 := h2.keep B1
  obtain ⟨_, p0, p1, p2, p3, p4, p5, p6, _⟩ := id x0
  obtain ⟨_, q0, q1, q2, q3, q4, q5, q6, _⟩ := id x1
  have X0 := hidOf x0
  have X1 := hidOf x1
  clear h1 h2 x0 x1
  by_cases e0 : x.au = y.au
  · have e0' : (!(x.au == y.au)) = false := by simp [e0]
    have E0 := hidOf e0
    clear e0
    by_cases e1 : x.up = y.up
    · have e1' : (!(x.up == y.up)) = false := by simp [e1]
      have E1 := hidOf e1
      clear e1
      go_enter Try.func51, Try.ntmps51
      go_wp2_with fail
      refine (eqIntS_any A.a A'.a A.n A'.n A.c A'.c x.ln y.ln _ k1.ints k2.ints hn1 hn2).mono ?_
      rintro e w1 ⟨rfl, hb1⟩
      have hB := bl_trans B1 hb1
      have X0' := hidOf (X0.out.keep hb1)
      have X1' := hidOf (X1.out.keep hb1)
      obtain ⟨_, r0, r1, r2, r3, r4, r5, r6, _⟩ := X0'.out
      obtain ⟨_, t0, t1, t2, t3, t4, t5, t6, _⟩ := X1'.out
      have g1 := k1.grs.keep hb1
      have g2 := k2.grs.keep hb1
      clear k1 k2 X0 X1 hb1 p0 p1 p2 p3 p4 p5 p6 q0 q1 q2 q3 q4 q5 q6 hW0 hW1 B0 B1
      cases he : eqL x.ln y.ln
      · go_wp2
        go_ret
        exact ⟨rbool (by simp [sameE, he]), hB⟩
      · go_wp2_with fail
        refine (eqIntS_any A.a' A'.a' A.n' A'.n' A.c' A'.c' x.gs y.gs _ g1 g2 hm1 hm2).mono ?_
        rintro e w2 ⟨rfl, hb2⟩
        have hB2 := bl_trans hB hb2
        obtain ⟨_, r0', r1', r2', r3', r4', r5', r6', _⟩ := X0'.out.keep hb2
        obtain ⟨_, t0', t1', t2', t3', t4', t5', t6', _⟩ := X1'.out.keep hb2
        clear X0' X1' r0 r1 r2 r3 r4 r5 r6 t0 t1 t2 t3 t4 t5 t6 hb2 g1 g2
        cases hf : eqL x.gs y.gs
        · go_wp2
          go_ret
          exact ⟨rbool (by simp [sameE, hf]), hB2⟩
        · by_cases e4 : x.st = y.st
          · have e4' : (x.st != y.st) = false := by simp [e4]
            have E4 := hidOf e4
            clear e4
            by_cases e5 : x.sp = y.sp
            · have e5' : (x.sp != y.sp) = false := by simp [e5]
              have E5 := hidOf e5
              clear e5
              by_cases e6 : x.tk = y.tk
              · have e6' : (x.tk != y.tk) = false := by simp [e6]
                have E6 := hidOf e6
                clear e6
                go_wp2
                go_ret
                exact ⟨rbool (by simp [sameE, he, hf, E0.out, E1.out, E4.out, E5.out, E6.out]), hB2⟩
              · have e6' : (x.tk != y.tk) = true := by simp [e6]
                have hr := hidOf (show sameE x y = false by simp [sameE, e6])
                clear e6
                go_wp2
                go_ret
                exact ⟨rbool hr.out.symm, hB2⟩
            · have e5' : (x.sp != y.sp) = true := by simp [e5]
              have hr := hidOf (show sameE x y = false by simp [sameE, e5])
              clear e5
              go_wp2
              go_ret
              exact ⟨rbool hr.out.symm, hB2⟩
          · have e4' : (x.st != y.st) = true := by simp [e4]
            have hr := hidOf (show sameE x y = false by simp [sameE, e4])
            clear e4
            go_wp2
            go_ret
            exact ⟨rbool hr.out.symm, hB2⟩
    · have e1' : (!(x.up == y.up)) = true := by simp [e1]
      have hr := hidOf (show sameE x y = false by simp [sameE, e1])
      clear e1 k1 k2 X0 X1
      go_enter Try.func51, Try.ntmps51
      go_wp2
      go_ret
      exact ⟨rbool hr.out.symm, B1⟩
  · have e0' : (!(x.au == y.au)) = true := by simp [e0]
    have hr := hidOf (show sameE x y = false by simp [sameE, e0])
    clear e0 k1 k2 X0 X1
    go_enter Try.func51, Try.ntmps51
    go_wp2
    go_ret
    exact ⟨rbool hr.out.symm, B1⟩
theorem markEvent_any (B : Nat) (A : Na) (x : Et) (k : Int) (w : World) (hO : EOwn B w A x) (hn : A.n ≤ 2097152) (hn' : A.n' ≤ 2097152) (k0 : 0 ≤ k) (k1 : k ≤ 100000000) :
    Calls Try.prog 53 #[.agg #[.bool x.au, .bool x.up, .slice A.a A.n A.c, .slice A.a' A.n' A.c', .int .i64 x.st, .int .i64 x.sp, .int .i64 x.tk], .int .i64 k] w fun e w' => e = .returned (.int .i64 (k + (A.n : Int) + (A.n' : Int))) ∧ EOwn B w' A (markE k A) ∧ Turned A.a A.n A.a' A.n' w w' := by
  obtain ⟨a, n, c, a', n', c'⟩ := A
  simp only [markE] at *
  generalize hW0 : w.alloc (.cells #[.bool x.au, .bool x.up, .slice a n c, .slice a' n' c', .int .i64 x.st, .int .i64 x.sp, .int .i64 x.tk] 46) = W0
  have B0 : Below w.heap.size w W0 := by subst hW0; exact bl_alloc (Below.refl _ _) _
  have x0 : EBox w.heap.size ⟨a, n, c, a', n', c'⟩ x W0 := by subst hW0; exact EBox.new w ⟨a, n, c, a', n', c'⟩ x _
  have hO0 := hO.keep B0
  obtain ⟨_, p0, p1, p2, p3, p4, p5, p6, _⟩ := id x0
  have X0 := hidOf x0
  have HO := hidOf hO
  clear hO x0
  go_enter Try.func53, Try.ntmps53
  go_wp2_with fail
  refine (markIntS_any B a n c x.ln k _ hO0.one hn k0 (by omega)).mono ?_
  rintro e w1 ⟨rfl, ho1, ht1⟩
  have hlt : ∀ b off, a = some ⟨b, off, none⟩ → 0 < n → b < w.heap.size := fun b off e hp => by
    rcases HO.out.one.ints.row with h0 | ⟨b1, o1, e1, hb, _⟩
    · dsimp only at h0; omega
    · rw [e] at e1; cases e1; exact hb
  have hbl : W0.heap.size ≤ w1.heap.size ∧ w1.os = W0.os ∧ w1.tape = W0.tape ∧ w1.output = W0.output ∧ ∀ j, j < W0.heap.size → (∀ off, 0 < n → a ≠ some ⟨j, off, none⟩) → w1.heap[j]? = W0.heap[j]? := by
    rcases ht1 with ⟨_, rfl⟩ | ⟨hp, b, off, rfl, hg⟩
    · exact ⟨Nat.le_refl _, rfl, rfl, rfl, fun _ _ _ => rfl⟩
    · exact ⟨hg.size, hg.os, hg.tape, hg.output, fun j hj hne => hg.block j hj (by intro e; cases e; exact hne off hp rfl)⟩
  have r1 : w1.cell? ⟨w.heap.size, 3, none⟩ = some (.slice a' n' c') := by
    rw [← X0.out.c3]
    exact World.cell?_of_block (hbl.2.2.2.2 _ X0.out.lt (fun off hp e => Nat.lt_irrefl _ (hlt w.heap.size off e hp)))
  have hq1 : Il.OwnAt B w1 a' n' x.gs := by
    rcases ht1 with ⟨_, rfl⟩ | ⟨hp, b, off, rfl, hg⟩
    · exact hO0.two
    · refine hO0.two.other hg ?_
      rcases HO.out.apart with h0 | h0 | h0
      · dsimp only at h0; omega
      · exact .inl h0
      · exact .inr fun b' off' e => h0 b off b' off' rfl e
  have hs0 : W0.heap.size = w.heap.size + 1 := by subst hW0; simp
  have HBL := hidOf hbl
  have H1 := hidOf ho1
  clear ht1 hO0 hbl ho1 X0 p0 p1 p2 p3 p4 p5 p6 hW0
  go_wp2_with fail
  refine (markIntS_any B a' n' c' x.gs (k + (n : Int)) _ hq1 hn' (by omega) (by omega)).mono ?_
  rintro e w2 ⟨rfl, ho2, ht2⟩
  have ho1' : Il.OwnAt B w2 a n (marks k n) := by
    rcases ht2 with ⟨_, rfl⟩ | ⟨hp, b, off, rfl, hg⟩
    · exact H1.out
    · refine H1.out.other hg ?_
      rcases HO.out.apart with h0 | h0 | h0
      · exact .inl h0
      · dsimp only at h0; omega
      · exact .inr fun b' off' e => (h0 b' off' b off e rfl).symm
  have hT : Turned a n a' n' w w2 := by
    obtain ⟨z1, z2, z3, z4, z5⟩ := HBL.out
    have hb2 : w1.heap.size ≤ w2.heap.size ∧ w2.os = w1.os ∧ w2.tape = w1.tape ∧ w2.output = w1.output ∧ ∀ j, j < w1.heap.size → (∀ off, 0 < n' → a' ≠ some ⟨j, off, none⟩) → w2.heap[j]? = w1.heap[j]? := by
      rcases ht2 with ⟨_, rfl⟩ | ⟨hp, b, off, rfl, hg⟩
      · exact ⟨Nat.le_refl _, rfl, rfl, rfl, fun _ _ _ => rfl⟩
      · exact ⟨hg.size, hg.os, hg.tape, hg.output, fun j hj hne => hg.block j hj (by intro e; cases e; exact hne off hp rfl)⟩
    obtain ⟨y1, y2, y3, y4, y5⟩ := hb2
    exact ⟨y2.trans (z2.trans B0.os), y3.trans (z3.trans B0.tape), y4.trans (z4.trans B0.output), by omega, fun j hj h1 h2 => (y5 j (by omega) h2).trans ((z5 j (by omega) h1).trans (B0.block j hj))⟩
  have hF : EOwn B w2 ⟨a, n, c, a', n', c'⟩ { Et.zero with ln := marks k n, gs := marks (k + (n : Int)) n' } := ⟨ho1', ho2, HO.out.apart⟩
  have HF := hidOf hF
  clear hF
  clear ho1' ho2 ht2 HO H1 HBL hq1 r1
  go_wp2
  go_ret
  exact ⟨rfl, HF.out, hT⟩
theorem heldEvent_marks (A : Na) (x : Et) (k : Int) (w : World) (hO : EIn w A (markE k A)) (hn : A.n ≤ 2097152) (hn' : A.n' ≤ 2097152) (k0 : 0 ≤ k) (k1 : k ≤ 100000000) :
    Calls Try.prog 55 #[.agg #[.bool x.au, .bool x.up, .slice A.a A.n A.c, .slice A.a' A.n' A.c', .int .i64 x.st, .int .i64 x.sp, .int .i64 x.tk], .int .i64 k] w fun e w' => e = .returned (.int .i64 (k + (A.n : Int) + (A.n' : Int))) ∧ Below w.heap.size w w' := by
  obtain ⟨a, n, c, a', n', c'⟩ := A
  simp only [markE] at *
  generalize hW0 : w.alloc (.cells #[.bool x.au, .bool x.up, .slice a n c, .slice a' n' c', .int .i64 x.st, .int .i64 x.sp, .int .i64 x.tk] 46) = W0
  have B0 : Below w.heap.size w W0 := by subst hW0; exact bl_alloc (Below.refl _ _) _
  have x0 : EBox w.heap.size ⟨a, n, c, a', n', c'⟩ x W0 := by subst hW0; exact EBox.new w ⟨a, n, c, a', n', c'⟩ x _
  have hO0 := hO.keep B0
  obtain ⟨_, p0, p1, p2, p3, p4, p5, p6, _⟩ := id x0
  have g1 : ¬ k + (n : Int) < 0 := by omega
  have g2 : ¬ k + (n : Int) + (n' : Int) < 0 := by omega
  clear hO x0
  go_enter Try.func55, Try.ntmps55
  go_wp2_with fail
  refine (heldIntS_marks a n c k _ hO0.ints hn k0 (by omega)).mono ?_
  rintro e w1 ⟨rfl, rfl⟩
  go_wp2_with fail
  refine (heldIntS_marks a' n' c' (k + (n : Int)) _ hO0.grs hn' (by omega) (by omega)).mono ?_
  rintro e w2 ⟨rfl, rfl⟩
  go_wp2
  go_ret
  exact ⟨rfl, B0⟩
end Go.Proofs.Ytbhdjcggcgddfaa
