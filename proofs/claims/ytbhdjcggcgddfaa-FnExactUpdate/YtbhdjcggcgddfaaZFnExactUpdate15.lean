/-
  Walks of the laws' own helpers on a cell: weighed, made anew, compared, marked, looked at again.
-/
import Derived.Test.YtbhdjcggcgddfaaZFnExactUpdate7
import Derived.Test.YtbhdjcggcgddfaaZFnExactUpdate8
namespace Go.Proofs.Ytbhdjcggcgddfaa
open Go.RowKit Pl Il

/-- Too great together, or not. -/
theorem szCell_any (A : Na) (x : Ct) (w : World) (hn : A.n ≤ 9223372036854775807) (hn' : A.n' ≤ 9223372036854775807) (hm : x.tx.size ≤ maxLen) :
    Calls Try.prog 70 #[.agg #[.int .i64 x.kd, .int .i64 x.nu, .string x.tx, .int .i64 x.ve, .bool x.cl, .slice A.a A.n A.c, .slice A.a' A.n' A.c'], .int .i64 1048576] w fun e w' => (∃ k : Int, e = .returned (.int .i64 k) ∧ (k < 0 ∨ 0 ≤ k ∧ k ≤ 1048576 ∧ A.n + A.n' ≤ 1048576)) ∧ Below w.heap.size w w' := by
  have hb : Below w.heap.size w (w.alloc (.cells #[.int .i64 x.kd, .int .i64 x.nu, .string x.tx, .int .i64 x.ve, .bool x.cl, .slice A.a A.n A.c, .slice A.a' A.n' A.c'] 91)) := bl_alloc (Below.refl _ _) _
  generalize hW : w.alloc (.cells #[.int .i64 x.kd, .int .i64 x.nu, .string x.tx, .int .i64 x.ve, .bool x.cl, .slice A.a A.n A.c, .slice A.a' A.n' A.c'] 91) = W at hb
  have x0 : CBox w.heap.size A x W := by subst hW; exact CBox.new w A x _
  obtain ⟨_, p0, p1, p2, p3, p4, p5, p6, _⟩ := id x0
  go_enter Try.func70, Try.ntmps70
  go_wp2_with fail
  refine (szMsg_any x.kd x.nu 1048576 x.tx _ hm (by omega) (by omega)).mono ?_
  rintro e w0 ⟨hk, hb0⟩
  have x1 := x0.keep hb0
  have hB := bl_trans hb hb0
  clear p0 p1 p2 p3 p4 p5 p6
  obtain ⟨_, p0, p1, p2, p3, p4, p5, p6, _⟩ := id x1
  clear x0 x1 hb hb0 hW
  rcases hk with ⟨_, rfl⟩ | ⟨hle, rfl⟩
  · go_wp2
    go_ret
    exact ⟨⟨_, rfl, .inl (by omega)⟩, hB⟩
  · obtain ⟨l, hl⟩ : ∃ l : Int, l = 1048576 - (x.tx.size : Int) := ⟨_, rfl⟩
    rw [← hl]
    have hl0 : 0 ≤ l ∧ l ≤ 1048576 := by omega
    have hl1 : ¬ l < 0 := by omega
    clear hl hle
    go_wp2_with fail
    refine (szIntS_any A.a A.n A.c _ _ hn (by omega) (by omega)).mono ?_
    rintro e w1 ⟨rfl, rfl⟩
    by_cases h : l < (A.n : Int)
    · rw [if_pos h]
      go_wp2
      go_ret
      exact ⟨⟨_, rfl, .inl (by omega)⟩, hB⟩
    · rw [if_neg h]
      have h' : ¬ l - (A.n : Int) < 0 := by omega
      go_wp2_with fail
      refine (szIntS_any A.a' A.n' A.c' _ _ hn' (by omega) (by omega)).mono ?_
      rintro e w2 ⟨rfl, rfl⟩
      by_cases h2 : l - (A.n : Int) < (A.n' : Int)
      · rw [if_pos h2]
        go_wp2
        go_ret
        exact ⟨⟨_, rfl, .inl (by omega)⟩, hB⟩
      · rw [if_neg h2]
        have h2' : ¬ l - (A.n : Int) - (A.n' : Int) < 0 := by omega
        go_wp2
        go_ret
        exact ⟨⟨_, rfl, .inr ⟨by omega, by omega, by omega⟩⟩, hB⟩
theorem eqMsg_same (k n : Int) (s : ByteArray) (w : World) :
    Calls Try.prog 79 #[.agg #[.int .i64 k, .int .i64 n, .string s], .agg #[.int .i64 k, .int .i64 n, .string s]] w fun e w' => e = .returned (.bool true) ∧ Below w.heap.size w w' := by
  go_enter Try.func79, Try.ntmps79
  go_wp2
  go_ret
  exact ⟨rfl, bl_alloc (bl_alloc (Below.refl _ _) _) _⟩

set_option maxHeartbeats 1000000 in
theorem eqCell_same (A A' : Na) (x : Ct) (w : World) (h1 : CIn w A x) (h2 : CIn w A' x) (hn1 : A.n ≤ 2097152) (hm1 : A.n' ≤ 2097152) (hn2 : A'.n ≤ 2097152) (hm2 : A'.n' ≤ 2097152) :
    Calls Try.prog 75 #[.agg #[.int .i64 x.kd, .int .i64 x.nu, .string x.tx, .int .i64 x.ve, .bool x.cl, .slice A.a A.n A.c, .slice A.a' A.n' A.c'], .agg #[.int .i64 x.kd, .int .i64 x.nu, .string x.tx, .int .i64 x.ve, .bool x.cl, .slice A'.a A'.n A'.c, .slice A'.a' A'.n' A'.c']] w fun e w' => e = .returned (.bool true) ∧ Below w.heap.size w w' := by
  generalize hW0 : w.alloc (.cells #[.int .i64 x.kd, .int .i64 x.nu, .string x.tx, .int .i64 x.ve, .bool x.cl, .slice A.a A.n A.c, .slice A.a' A.n' A.c'] 58) = W0
  generalize hW1 : W0.alloc (.cells #[.int .i64 x.kd, .int .i64 x.nu, .string x.tx, .int .i64 x.ve, .bool x.cl, .slice A'.a A'.n A'.c, .slice A'.a' A'.n' A'.c'] 58) = W1
  have B0 : Below w.heap.size w W0 := by subst hW0; exact bl_alloc (Below.refl _ _) _
  have B1 : Below w.heap.size w W1 := by subst hW1; exact bl_alloc B0 _
  have s0 : W0.heap.size = w.heap.size + 1 := by subst hW0; simp
  have x0 : CBox w.heap.size A x W1 := by subst hW1 hW0; exact (CBox.new w A x _).alloc _
  have x1 : CBox (w.heap.size + 1) A' x W1 := by subst hW1; rw [← s0]; exact CBox.new W0 A' x _
  have k1 := h1.keep B1
  have k2 := h2.keep B1
  obtain ⟨_, p0, p1, p2, p3, p4, p5, p6, _⟩ := id x0
  obtain ⟨_, q0, q1, q2, q3, q4, q5, q6, _⟩ := id x1
  have X0 := hidOf x0
  have X1 := hidOf x1
  clear h1 h2 x0 x1
  go_enter Try.func75, Try.ntmps75
  go_wp2_with fail
  refine (eqMsg_same x.kd x.nu x.tx _).mono ?_
  rintro e w0 ⟨rfl, hb0⟩
  have hB0 := bl_trans B1 hb0
  have k1 := k1.keep hb0
  have k2 := k2.keep hb0
  have X0 := hidOf (X0.out.keep hb0)
  have X1 := hidOf (X1.out.keep hb0)
  clear p0 p1 p2 p3 p4 p5 p6 q0 q1 q2 q3 q4 q5 q6 hW0 hW1 B0 B1 hb0
  obtain ⟨_, p0, p1, p2, p3, p4, p5, p6, _⟩ := X0.out
  obtain ⟨_, q0, q1, q2, q3, q4, q5, q6, _⟩ := X1.out
  have e3 : (x.ve != x.ve) = false := by simp
  have e4 : (!(x.cl == x.cl)) = false := by simp
  go_wp2_with fail
  refine (eqIntS_any A.a A'.a A.n A'.n A.c A'.c x.ln x.ln _ k1.ints k2.ints hn1 hn2).mono ?_
  rintro e w1 ⟨rfl, hb1⟩
  rw [eqIL_self]
  have hB := bl_trans hB0 hb1
  have g1 := k1.grs.keep hb1
  have g2 := k2.grs.keep hb1
  clear p0 p1 p2 p3 p4 p5 p6 q0 q1 q2 q3 q4 q5 q6
  obtain ⟨_, p0, p1, p2, p3, p4, p5, p6, _⟩ := X0.out.keep hb1
  obtain ⟨_, q0, q1, q2, q3, q4, q5, q6, _⟩ := X1.out.keep hb1
  clear k1 k2 X0 X1 hb1 hB0
  go_wp2_with fail
  refine (eqIntS_any A.a' A'.a' A.n' A'.n' A.c' A'.c' x.gs x.gs _ g1 g2 hm1 hm2).mono ?_
  rintro e w2 ⟨rfl, hb2⟩
  rw [eqIL_self]
  have hB2 := bl_trans hB hb2
  clear p0 p1 p2 p3 p4 p5 p6 q0 q1 q2 q3 q4 q5 q6 hb2 g1 g2
  go_wp2
  go_ret
  exact ⟨rfl, hB2⟩
set_option maxHeartbeats 1000000 in
theorem toCell_any (A : Na) (x : Ct) (w : World) (hT : CIn w A x) (hn : A.n ≤ 2097152) (hn' : A.n' ≤ 2097152) :
    Calls Try.prog 73 #[.agg #[.int .i64 x.kd, .int .i64 x.nu, .string x.tx, .int .i64 x.ve, .bool x.cl, .slice A.a A.n A.c, .slice A.a' A.n' A.c']] w fun e w' => ∃ g g', e = .returned (.agg #[.int .i64 x.kd, .int .i64 x.nu, .string x.tx, .int .i64 x.ve, .bool x.cl, .slice (some ⟨g, 0, none⟩) A.n A.n, .slice (some ⟨g', 0, none⟩) A.n' A.n']) ∧ COwn w.heap.size w' ⟨some ⟨g, 0, none⟩, A.n, A.n, some ⟨g', 0, none⟩, A.n', A.n'⟩ x ∧ Below w.heap.size w w' := by
  generalize hW0 : w.alloc (.cells #[.int .i64 x.kd, .int .i64 x.nu, .string x.tx, .int .i64 x.ve, .bool x.cl, .slice A.a A.n A.c, .slice A.a' A.n' A.c'] 91) = W0
  generalize hW1 : W0.alloc (.cells #[.int .i64 0, .int .i64 0, .string ⟨#[]⟩, .int .i64 0, .bool false, .slice none 0 0, .slice none 0 0] 58) = W1
  generalize hW2 : W1.alloc (.cells #[.int .i64 0, .int .i64 0, .string ⟨#[]⟩, .int .i64 0, .bool false, .slice none 0 0, .slice none 0 0] 58) = W2
  have b0 : Below w.heap.size w W0 := by subst hW0; exact bl_alloc (Below.refl _ _) _
  have b1 : Below w.heap.size w W1 := by subst hW1; exact bl_alloc b0 _
  have b2 : Below w.heap.size w W2 := by subst hW2; exact bl_alloc b1 _
  have s0 : W0.heap.size = w.heap.size + 1 := by subst hW0; simp
  have s1 : W1.heap.size = w.heap.size + 1 + 1 := by subst hW1; simp [s0]
  have s2 : W2.heap.size = w.heap.size + 3 := by subst hW2; simp [s1]
  have x0 : CBox w.heap.size A x W2 := by subst hW2 hW1 hW0; exact ((CBox.new w A x _).alloc _).alloc _
  have x1 : CBox (w.heap.size + 1) Na.zero Ct.zero W2 := by subst hW2 hW1; rw [← s0]; exact (CBox.newZ W0 _).alloc _
  have x2 : CBox (w.heap.size + 1 + 1) Na.zero Ct.zero W2 := by subst hW2; rw [← s1]; exact CBox.newZ W1 _
  obtain ⟨_, p0, p1, p2, p3, p4, p5, p6, _⟩ := id x0
  have X0 := hidOf x0
  have X1 := hidOf x1
  have X2 := hidOf x2
  have HT := hidOf hT
  have S2 := hidOf s2
  have HB2 := hidOf b2
  clear hT x0 x1 x2 b0 b1 b2 s0 s1 s2
  subst hW2 hW1 hW0
  go_enter Try.func73, Try.ntmps73
  go_wp2_with fail
  refine (toMsg_any x.kd x.nu x.tx _).mono ?_
  rintro e w0 ⟨rfl, hb0⟩
  have x0 := X0.out.keep hb0
  have x1 := X1.out.keep hb0
  have x2 := X2.out.keep hb0
  have hbA := bl_trans HB2.out hb0
  have hs0 := hb0.size
  rw [S2.out] at hs0
  clear X0 X1 X2 HB2 hb0 S2 p0 p1 p2 p3 p4 p5 p6
  have y2 := ((((x2.set0 (v := x.kd)).set1 (v := x.nu)).set2 (v := x.tx)).set3 (v := x.ve)).set4 (v := x.cl)
  have y0 := ((((x0.far (w.heap.size + 1 + 1) 0 (by omega) (.int .i64 x.kd)).far (w.heap.size + 1 + 1) 1 (by omega) (.int .i64 x.nu)).far (w.heap.size + 1 + 1) 2 (by omega) (.string x.tx)).far (w.heap.size + 1 + 1) 3 (by omega) (.int .i64 x.ve)).far (w.heap.size + 1 + 1) 4 (by omega) (.bool x.cl)
  have y1 := ((((x1.far (w.heap.size + 1 + 1) 0 (by omega) (.int .i64 x.kd)).far (w.heap.size + 1 + 1) 1 (by omega) (.int .i64 x.nu)).far (w.heap.size + 1 + 1) 2 (by omega) (.string x.tx)).far (w.heap.size + 1 + 1) 3 (by omega) (.int .i64 x.ve)).far (w.heap.size + 1 + 1) 4 (by omega) (.bool x.cl)
  have hbB := bl_set1 (bl_set1 (bl_set1 (bl_set1 (bl_set1 hbA (w.heap.size + 1 + 1) 0 (by omega) (.int .i64 x.kd)) (w.heap.size + 1 + 1) 1 (by omega) (.int .i64 x.nu)) (w.heap.size + 1 + 1) 2 (by omega) (.string x.tx)) (w.heap.size + 1 + 1) 3 (by omega) (.int .i64 x.ve)) (w.heap.size + 1 + 1) 4 (by omega) (.bool x.cl)
  obtain ⟨_, p0, p1, p2, p3, p4, p5, p6, _⟩ := id x0
  obtain ⟨_, q0, q1, q2, q3, q4, q5, q6, qf⟩ := id x2
  go_wp2_with fail
  obtain ⟨U, hU⟩ : ∃ U, U = ((((w0.setCell ⟨w.heap.size + 1 + 1, 0, none⟩ (.int .i64 x.kd)).setCell ⟨w.heap.size + 1 + 1, 1, none⟩ (.int .i64 x.nu)).setCell ⟨w.heap.size + 1 + 1, 2, none⟩ (.string x.tx)).setCell ⟨w.heap.size + 1 + 1, 3, none⟩ (.int .i64 x.ve)).setCell ⟨w.heap.size + 1 + 1, 4, none⟩ (.bool x.cl) := ⟨_, rfl⟩
  have hUs : w.heap.size + 3 ≤ U.heap.size := by rw [hU]; simpa using hs0
  rw [← hU] at y0 y1 y2 hbB ⊢
  clear hU x0 x1 x2 hbA hs0 p0 p1 p2 p3 p4 p5 p6 q0 q1 q2 q3 q4 q5 q6 qf
  refine (toIntS_any A.a A.n A.c x.ln _ (HT.out.ints.keep hbB) hn).mono ?_
  rintro e w1 ⟨rfl, ho1, hb1⟩
  have z0 := y0.keep hb1
  have z1 := y1.keep hb1
  have z2 := y2.keep hb1
  have hbC := bl_trans hbB hb1
  have hs1 := hb1.size
  generalize hNU : U.heap.size = N0 at *
  have v0 := z0.far (w.heap.size + 1 + 1) 5 (by omega) (.slice (some ⟨N0, 0, none⟩) A.n A.n)
  have v1 := z1.far (w.heap.size + 1 + 1) 5 (by omega) (.slice (some ⟨N0, 0, none⟩) A.n A.n)
  have v2 := z2.set5 (a := some ⟨N0, 0, none⟩) (n := A.n) (c := A.n)
  have hbD := bl_set1 hbC (w.heap.size + 1 + 1) 5 (by omega) (.slice (some ⟨N0, 0, none⟩) A.n A.n)
  have ho2 := ho1.far (w.heap.size + 1 + 1) 5 (by omega) (.slice (some ⟨N0, 0, none⟩) A.n A.n)
  have hlt1 : A.n = 0 ∨ N0 < w1.heap.size := by
    rcases ho1.ints.row with h0 | ⟨b, off, e, hb, _⟩
    · exact .inl h0
    · cases e; exact .inr hb
  obtain ⟨_, p0, p1, p2, p3, p4, p5, p6, _⟩ := id z0
  obtain ⟨_, q0, q1, q2, q3, q4, q5, q6, qf⟩ := id z2
  obtain ⟨_, r0, r1, r2, r3, r4, r5, r6, _⟩ := id v0
  have HI2 := hidOf (HT.out.grs.keep hbD)
  have V0 := hidOf v0
  have V1 := hidOf v1
  have V2 := hidOf v2
  have HbD := hidOf hbD
  have HO2 := hidOf ho2
  clear y0 y1 y2 z0 z1 z2 v0 v1 v2 ho1 ho2 hbB hbC hbD hb1 hs1 hNU
  go_wp2_with fail
  refine (toIntS_any A.a' A.n' A.c' x.gs _ HI2.out hn').mono ?_
  rintro e w2 ⟨rfl, ho3, hb3⟩
  have a0 := V0.out.keep hb3
  have a1 := V1.out.keep hb3
  have a2 := V2.out.keep hb3
  have hbE := bl_trans HbD.out hb3
  have ho4 := HO2.out.keep hb3
  have hsz : (w1.setCell ⟨w.heap.size + 1 + 1, 5, none⟩ (.slice (some ⟨N0, 0, none⟩) A.n A.n)).heap.size = w1.heap.size := by simp
  rw [hsz] at ho3 hb3 ⊢
  generalize hN1 : w1.heap.size = N1 at *
  have hO : COwn (w.heap.size + 1 + 1 + 1) w2 ⟨some ⟨N0, 0, none⟩, A.n, A.n, some ⟨N1, 0, none⟩, A.n', A.n'⟩ x := by
    refine ⟨ho4.mono (by omega), ho3.mono (by have := V2.out.lt; rw [hsz] at this; omega), ?_, HT.out.tx⟩
    rcases hlt1 with h0 | h0
    · exact .inl h0
    · exact .inr (.inr fun b off b' off' e e' => by cases e; cases e'; omega)
  have hO2 := (hO.far (w.heap.size + 1 + 1) 6 (by omega) (.slice (some ⟨N1, 0, none⟩) A.n' A.n')).farA (w.heap.size + 1) (by omega) (.int .i64 x.kd) (.int .i64 x.nu) (.string x.tx) (.int .i64 x.ve) (.bool x.cl) (.slice (some ⟨N0, 0, none⟩) A.n A.n) (.slice (some ⟨N1, 0, none⟩) A.n' A.n')
  have hbF := bl_sC (bl_set1 hbE (w.heap.size + 1 + 1) 6 (by omega) (.slice (some ⟨N1, 0, none⟩) A.n' A.n')) (w.heap.size + 1) (by omega) (.int .i64 x.kd) (.int .i64 x.nu) (.string x.tx) (.int .i64 x.ve) (.bool x.cl) (.slice (some ⟨N0, 0, none⟩) A.n A.n) (.slice (some ⟨N1, 0, none⟩) A.n' A.n')
  have c2 := a2.set6 (a := some ⟨N1, 0, none⟩) (n := A.n') (c := A.n')
  have c1 := a1.far (w.heap.size + 1 + 1) 6 (by omega) (.slice (some ⟨N1, 0, none⟩) A.n' A.n')
  clear p0 p1 p2 p3 p4 p5 p6 q0 q1 q2 q3 q4 q5 q6 r0 r1 r2 r3 r4 r5 r6 qf
  obtain ⟨_, p0, p1, p2, p3, p4, p5, p6, pf⟩ := id a2
  obtain ⟨_, t0, t1, t2, t3, t4, t5, t6, tf⟩ := id c2
  obtain ⟨_, u0, u1, u2, u3, u4, u5, u6, uf⟩ := id c1
  simp only at p0 p1 p2 p3 p4 p5 p6 t0 t1 t2 t3 t4 t5 t6
  have HF := hidOf (And.intro hO2 hbF)
  clear a0 a1 a2 c1 c2 hO hO2 hbE hbF ho3 ho4 hb3 HI2 V0 V1 V2 HbD HO2 hN1
  go_wp2
  exact bodyPost_ret (v := .agg #[.int .i64 x.kd, .int .i64 x.nu, .string x.tx, .int .i64 x.ve, .bool x.cl, .slice (some ⟨N0, 0, none⟩) A.n A.n, .slice (some ⟨N1, 0, none⟩) A.n' A.n']) (by simp [results, Try.results73, go_sem, u0, u1, u2, u3, u4, u5, u6]) rfl ⟨_, _, rfl, HF.out.1.mono (by omega), HF.out.2⟩
theorem markCell_any (B : Nat) (A : Na) (x : Ct) (k : Int) (w : World) (hO : COwn B w A x) (hn : A.n ≤ 2097152) (hn' : A.n' ≤ 2097152) (k0 : 0 ≤ k) (k1 : k ≤ 100000000) :
    Calls Try.prog 76 #[.agg #[.int .i64 x.kd, .int .i64 x.nu, .string x.tx, .int .i64 x.ve, .bool x.cl, .slice A.a A.n A.c, .slice A.a' A.n' A.c'], .int .i64 k] w fun e w' => e = .returned (.int .i64 (k + (A.n : Int) + (A.n' : Int))) ∧ COwn B w' A (markC k A) ∧ Turned A.a A.n A.a' A.n' w w' := by
  obtain ⟨a, n, c, a', n', c'⟩ := A
  simp only [markC] at *
  generalize hW0 : w.alloc (.cells #[.int .i64 x.kd, .int .i64 x.nu, .string x.tx, .int .i64 x.ve, .bool x.cl, .slice a n c, .slice a' n' c'] 58) = W0
  have B0 : Below w.heap.size w W0 := by subst hW0; exact bl_alloc (Below.refl _ _) _
  have x0 : CBox w.heap.size ⟨a, n, c, a', n', c'⟩ x W0 := by subst hW0; exact CBox.new w ⟨a, n, c, a', n', c'⟩ x _
  have hO0 := hO.keep B0
  obtain ⟨_, p0, p1, p2, p3, p4, p5, p6, _⟩ := id x0
  have X0 := hidOf x0
  have HO := hidOf hO
  clear hO x0
  go_enter Try.func76, Try.ntmps76
  go_wp2_with fail
  refine (markIntS_any B a n c x.ln k _ hO0.one hn k0 (by omega)).mono ?_
  rintro e w1 ⟨rfl, ho1, ht1⟩
  have hlt : ∀ b off, a = some ⟨b, off, none⟩ → 0 < n → b < w.heap.size := fun b off e hp => by
    rcases HO.out.one.ints.row with h0 | ⟨b1, o1, e1, hb, _⟩
    · dsimp only at h0; omega
    · rw [e] at e1; cases e1; exact hb
  have hbl : W0.heap.size ≤ w1.heap.size ∧ w1.os = W0.os ∧ w1.tape = W0.tape ∧ w1.output = W0.output ∧ ∀ j, j < W0.heap.size → (∀ off, 0 < n → a ≠ some ⟨j, off, none⟩) → w1.heap[j]? = W0.heap[j]? := by
    rcases ht1 with ⟨_, rfl⟩ | ⟨hp, b, off, rfl, hg⟩
    · exact ⟨Nat.le_refl _, rfl, rfl, rfl, fun _ _ _ => rfl⟩
    · exact ⟨hg.size, hg.os, hg.tape, hg.output, fun j hj hne => hg.block j hj (by intro e; cases e; exact hne off hp rfl)⟩
  have r1 : w1.cell? ⟨w.heap.size, 6, none⟩ = some (.slice a' n' c') := by
    rw [← X0.out.c6]
    exact World.cell?_of_block (hbl.2.2.2.2 _ X0.out.lt (fun off hp e => Nat.lt_irrefl _ (hlt w.heap.size off e hp)))
  have hq1 : Il.OwnAt B w1 a' n' x.gs := by
    rcases ht1 with ⟨_, rfl⟩ | ⟨hp, b, off, rfl, hg⟩
    · exact hO0.two
    · refine hO0.two.other hg ?_
      rcases HO.out.apart with h0 | h0 | h0
      · dsimp only at h0; omega
      · exact .inl h0
      · exact .inr fun b' off' e => h0 b off b' off' rfl e
  have hs0 : W0.heap.size = w.heap.size + 1 := by subst hW0; simp
  have HBL := hidOf hbl
  have H1 := hidOf ho1
  clear ht1 hO0 hbl ho1 X0 p0 p1 p2 p3 p4 p5 p6 hW0
  go_wp2_with fail
  refine (markIntS_any B a' n' c' x.gs (k + (n : Int)) _ hq1 hn' (by omega) (by omega)).mono ?_
  rintro e w2 ⟨rfl, ho2, ht2⟩
  have ho1' : Il.OwnAt B w2 a n (marks k n) := by
    rcases ht2 with ⟨_, rfl⟩ | ⟨hp, b, off, rfl, hg⟩
    · exact H1.out
    · refine H1.out.other hg ?_
      rcases HO.out.apart with h0 | h0 | h0
      · exact .inl h0
      · dsimp only at h0; omega
      · exact .inr fun b' off' e => (h0 b' off' b off e rfl).symm
  have hT : Turned a n a' n' w w2 := by
    obtain ⟨z1, z2, z3, z4, z5⟩ := HBL.out
    have hb2 : w1.heap.size ≤ w2.heap.size ∧ w2.os = w1.os ∧ w2.tape = w1.tape ∧ w2.output = w1.output ∧ ∀ j, j < w1.heap.size → (∀ off, 0 < n' → a' ≠ some ⟨j, off, none⟩) → w2.heap[j]? = w1.heap[j]? := by
      rcases ht2 with ⟨_, rfl⟩ | ⟨hp, b, off, rfl, hg⟩
      · exact ⟨Nat.le_refl _, rfl, rfl, rfl, fun _ _ _ => rfl⟩
      · exact ⟨hg.size, hg.os, hg.tape, hg.output, fun j hj hne => hg.block j hj (by intro e; cases e; exact hne off hp rfl)⟩
    obtain ⟨y1, y2, y3, y4, y5⟩ := hb2
    exact ⟨y2.trans (z2.trans B0.os), y3.trans (z3.trans B0.tape), y4.trans (z4.trans B0.output), by omega, fun j hj h1 h2 => (y5 j (by omega) h2).trans ((z5 j (by omega) h1).trans (B0.block j hj))⟩
  have hF : COwn B w2 ⟨a, n, c, a', n', c'⟩ { Ct.zero with ln := marks k n, gs := marks (k + (n : Int)) n' } := ⟨ho1', ho2, HO.out.apart, Nat.zero_le _⟩
  have HF := hidOf hF
  clear hF
  clear ho1' ho2 ht2 HO H1 HBL hq1 r1
  go_wp2
  go_ret
  exact ⟨rfl, HF.out, hT⟩
theorem heldCell_marks (A : Na) (x : Ct) (k : Int) (w : World) (hO : CIn w A (markC k A)) (hn : A.n ≤ 2097152) (hn' : A.n' ≤ 2097152) (k0 : 0 ≤ k) (k1 : k ≤ 100000000) :
    Calls Try.prog 77 #[.agg #[.int .i64 x.kd, .int .i64 x.nu, .string x.tx, .int .i64 x.ve, .bool x.cl, .slice A.a A.n A.c, .slice A.a' A.n' A.c'], .int .i64 k] w fun e w' => e = .returned (.int .i64 (k + (A.n : Int) + (A.n' : Int))) ∧ Below w.heap.size w w' := by
  obtain ⟨a, n, c, a', n', c'⟩ := A
  simp only [markC] at *
  generalize hW0 : w.alloc (.cells #[.int .i64 x.kd, .int .i64 x.nu, .string x.tx, .int .i64 x.ve, .bool x.cl, .slice a n c, .slice a' n' c'] 58) = W0
  have B0 : Below w.heap.size w W0 := by subst hW0; exact bl_alloc (Below.refl _ _) _
  have x0 : CBox w.heap.size ⟨a, n, c, a', n', c'⟩ x W0 := by subst hW0; exact CBox.new w ⟨a, n, c, a', n', c'⟩ x _
  have hO0 := hO.keep B0
  obtain ⟨_, p0, p1, p2, p3, p4, p5, p6, _⟩ := id x0
  have g1 : ¬ k + (n : Int) < 0 := by omega
  have g2 : ¬ k + (n : Int) + (n' : Int) < 0 := by omega
  clear hO x0
  go_enter Try.func77, Try.ntmps77
  go_wp2_with fail
  refine (heldIntS_marks a n c k _ hO0.ints hn k0 (by omega)).mono ?_
  rintro e w1 ⟨rfl, rfl⟩
  go_wp2_with fail
  refine (heldIntS_marks a' n' c' (k + (n : Int)) _ hO0.grs hn' (by omega) (by omega)).mono ?_
  rintro e w2 ⟨rfl, rfl⟩
  go_wp2
  go_ret
  exact ⟨rfl, B0⟩
end Go.Proofs.Ytbhdjcggcgddfaa
