/-
  Walks of the laws' own helpers on notifications: weighed, made anew, compared.
-/
import Derived.Test.YtfgknbflgmblmaaLN1
import Derived.Test.YtfgknbflgmblmaaLS
namespace Go.Proofs.Ytfgknbflgmblmaa
open Go.RowKit Pl Il

theorem szGrantS_any (a : Option Addr) (n cap : Nat) (k : Int) (w : World) (hn : n ≤ 9223372036854775807) (k0 : 0 ≤ k) (k1 : k ≤ 1048576) :
    Calls Try.prog 63 #[.slice a n cap, .int .i64 k] w fun e w' => e = .returned (.int .i64 (if k < (n : Int) then -1 else k - (n : Int))) ∧ w' = w := by
  by_cases h : k < (n : Int)
  · have h' : k - (n : Int) < 0 := by omega
    go_enter Try.func63, Try.ntmps63
    go_wp2
    go_ret
    refine ⟨rint ?_, rfl⟩
    simp
  · have h' : ¬ k - (n : Int) < 0 := by omega
    go_enter Try.func63, Try.ntmps63
    go_wp2
    go_ret
    refine ⟨rint ?_, rfl⟩
    simp
/-- Too great together, or not. -/
theorem szNotify_any (A : Na) (x : Nt) (w : World) (hn : A.n ≤ 9223372036854775807) (hn' : A.n' ≤ 9223372036854775807) :
    Calls Try.prog 29 #[.agg #[.bool x.pm, .slice A.a A.n A.c, .slice A.a' A.n' A.c', .int .i64 x.on, .int .i64 x.sp, .int .i64 x.tk], .int .i64 1048576] w fun e w' => (∃ k : Int, e = .returned (.int .i64 k) ∧ (k < 0 ∨ 0 ≤ k ∧ A.n + A.n' ≤ 1048576)) ∧ Below w.heap.size w w' := by
  have hb : Below w.heap.size w (w.alloc (.cells #[.bool x.pm, .slice A.a A.n A.c, .slice A.a' A.n' A.c', .int .i64 x.on, .int .i64 x.sp, .int .i64 x.tk] 47)) := bl_alloc (Below.refl _ _) _
  go_enter Try.func29, Try.ntmps29
  go_wp2_with fail
  refine (szIntS_any A.a A.n A.c _ _ hn (by omega) (by omega)).mono ?_
  rintro e w1 ⟨rfl, rfl⟩
  by_cases h : (1048576 : Int) < (A.n : Int)
  · rw [if_pos h]
    go_wp2
    go_ret
    exact ⟨⟨_, rfl, .inl (by omega)⟩, hb⟩
  · rw [if_neg h]
    have h' : ¬ (1048576 : Int) - (A.n : Int) < 0 := by omega
    go_wp2_with fail
    refine (szGrantS_any A.a' A.n' A.c' _ _ hn' (by omega) (by omega)).mono ?_
    rintro e w2 ⟨rfl, rfl⟩
    by_cases h2 : (1048576 : Int) - (A.n : Int) < (A.n' : Int)
    · rw [if_pos h2]
      go_wp2
      go_ret
      exact ⟨⟨_, rfl, .inl (by omega)⟩, hb⟩
    · rw [if_neg h2]
      have h2' : ¬ (1048576 : Int) - (A.n : Int) - (A.n' : Int) < 0 := by omega
      go_wp2
      go_ret
      exact ⟨⟨_, rfl, .inr ⟨by omega, by omega⟩⟩, hb⟩
theorem bl_set6 {B : Nat} {w u : World} (h : Below B w u) (N : Nat) (hN : B ≤ N) (y0 y1 y2 y3 y4 y5 : Value) :
    Below B w ((((((u.setCell ⟨N, 0, none⟩ y0).setCell ⟨N, 1, none⟩ y1).setCell ⟨N, 2, none⟩ y2).setCell ⟨N, 3, none⟩ y3).setCell ⟨N, 4, none⟩ y4).setCell ⟨N, 5, none⟩ y5) :=
  bl_set1 (bl_set1 (bl_set1 (bl_set1 (bl_set1 (bl_set1 h N 0 hN y0) N 1 hN y1) N 2 hN y2) N 3 hN y3) N 4 hN y4) N 5 hN y5
theorem NOwn.far6 {B : Nat} {w : World} {A : Na} {x : Nt} (h : NOwn B w A x) (N : Nat) (hN : N < B) (y0 y1 y2 y3 y4 y5 : Value) :
    NOwn B ((((((w.setCell ⟨N, 0, none⟩ y0).setCell ⟨N, 1, none⟩ y1).setCell ⟨N, 2, none⟩ y2).setCell ⟨N, 3, none⟩ y3).setCell ⟨N, 4, none⟩ y4).setCell ⟨N, 5, none⟩ y5) A x :=
  (((((h.far N 0 hN y0).far N 1 hN y1).far N 2 hN y2).far N 3 hN y3).far N 4 hN y4).far N 5 hN y5

set_option maxHeartbeats 1000000 in
theorem toNotify_any (A : Na) (x : Nt) (w : World) (hT : NIn w A x) (hn : A.n ≤ 2097152) (hn' : A.n' ≤ 2097152) :
    Calls Try.prog 30 #[.agg #[.bool x.pm, .slice A.a A.n A.c, .slice A.a' A.n' A.c', .int .i64 x.on, .int .i64 x.sp, .int .i64 x.tk]] w fun e w' => ∃ g g', e = .returned (.agg #[.bool x.pm, .slice (some ⟨g, 0, none⟩) A.n A.n, .slice (some ⟨g', 0, none⟩) A.n' A.n', .int .i64 x.on, .int .i64 x.sp, .int .i64 x.tk]) ∧ NOwn w.heap.size w' ⟨some ⟨g, 0, none⟩, A.n, A.n, some ⟨g', 0, none⟩, A.n', A.n'⟩ x ∧ Below w.heap.size w w' := by
  generalize hW0 : w.alloc (.cells #[.bool x.pm, .slice A.a A.n A.c, .slice A.a' A.n' A.c', .int .i64 x.on, .int .i64 x.sp, .int .i64 x.tk] 47) = W0
  generalize hW1 : W0.alloc (.cells #[.bool false, .slice none 0 0, .slice none 0 0, .int .i64 0, .int .i64 0, .int .i64 0] 27) = W1
  generalize hW2 : W1.alloc (.cells #[.bool x.pm, .slice none 0 0, .slice none 0 0, .int .i64 0, .int .i64 0, .int .i64 0] 27) = W2
  have b0 : Below w.heap.size w W0 := by subst hW0; exact bl_alloc (Below.refl _ _) _
  have b1 : Below w.heap.size w W1 := by subst hW1; exact bl_alloc b0 _
  have b2 : Below w.heap.size w W2 := by subst hW2; exact bl_alloc b1 _
  have s0 : W0.heap.size = w.heap.size + 1 := by subst hW0; simp
  have s1 : W1.heap.size = w.heap.size + 2 := by subst hW1; simp [s0]
  have s2 : W2.heap.size = w.heap.size + 3 := by subst hW2; simp [s1]
  have x0 : NBox w.heap.size A x W2 := by subst hW2 hW1 hW0; exact ((NBox.new w A x _).alloc _).alloc _
  have x1 : NBox (w.heap.size + 1) Na.zero Nt.zero W2 := by subst hW2 hW1; rw [← s0]; exact (NBox.newZ W0 _).alloc _
  have x2 : NBox (w.heap.size + 2) Na.zero { Nt.zero with pm := x.pm } W2 := by subst hW2; rw [← s1]; exact NBox.new W1 Na.zero { Nt.zero with pm := x.pm } _
  have hT2 := hT.keep b2
  obtain ⟨_, p0, p1, p2, p3, p4, p5, _⟩ := id x0
  have X0 := hidOf x0
  have X1 := hidOf x1
  have X2 := hidOf x2
  have HT := hidOf hT
  have S2 := hidOf s2
  have HB2 := hidOf b2
  have HT2 := hidOf hT2
  clear hT x0 x1 x2 p0 p1 p2 p3 p4 p5 b0 b1 b2 s0 s1 s2 hT2
  subst hW2 hW1 hW0
  go_enter Try.func30, Try.ntmps30
  go_wp2_with fail
  refine (toIntS_any A.a A.n A.c x.ln _ HT2.out.ints hn).mono ?_
  rintro e w1 ⟨rfl, ho1, hb1⟩
  have x0 := X0.out.keep hb1
  have x1 := X1.out.keep hb1
  have x2 := X2.out.keep hb1
  have hbA := bl_trans HB2.out hb1
  clear HT2 X0 X1 X2 hb1 HB2
  rw [S2.out] at ho1 ⊢
  have y0 := x0.far (w.heap.size + 2) 1 (by omega) (.slice (some ⟨w.heap.size + 3, 0, none⟩) A.n A.n)
  have y1 := x1.far (w.heap.size + 2) 1 (by omega) (.slice (some ⟨w.heap.size + 3, 0, none⟩) A.n A.n)
  have y2 := x2.set1 (a := some ⟨w.heap.size + 3, 0, none⟩) (n := A.n) (c := A.n)
  have hbB := hbA.setCell (p := ⟨w.heap.size + 2, 1, none⟩) (by simp) (.slice (some ⟨w.heap.size + 3, 0, none⟩) A.n A.n)
  have ho2 := ho1.far (w.heap.size + 2) 1 (by omega) (.slice (some ⟨w.heap.size + 3, 0, none⟩) A.n A.n)
  obtain ⟨_, p0, p1, p2, p3, p4, p5, _⟩ := id x0
  obtain ⟨_, q0, q1, q2, q3, q4, q5, qf⟩ := id x2
  obtain ⟨_, r0, r1, r2, r3, r4, r5, _⟩ := id y0
  have HI := hidOf (HT.out.grs.keep hbB)
  have Y0 := hidOf y0
  have Y1 := hidOf y1
  have Y2 := hidOf y2
  have hz := hbB.size
  have hz2 := y2.lt
  clear x1 x0 x2 y0 y1 y2 ho1 HT
  go_wp2_with fail
  refine (toGrantS_any A.a' A.n' A.c' x.gs _ HI.out hn').mono ?_
  rintro e w2 ⟨rfl, ho3, hb3⟩
  have z0 := Y0.out.keep hb3
  have z1 := Y1.out.keep hb3
  have z2 := Y2.out.keep hb3
  have ho4 := ho2.keep hb3
  have hbC := bl_trans hbB hb3
  have hne3 : A.n = 0 ∨ w.heap.size + 3 < (w1.setCell ⟨w.heap.size + 2, 1, none⟩ (.slice (some ⟨w.heap.size + 3, 0, none⟩) A.n A.n)).heap.size := by
    rcases ho2.ints.row with h0 | ⟨b, off, e, hb, _⟩
    · exact .inl h0
    · cases e; exact .inr hb
  generalize hN : (w1.setCell ⟨w.heap.size + 2, 1, none⟩ (.slice (some ⟨w.heap.size + 3, 0, none⟩) A.n A.n)).heap.size = N at *
  have hO : NOwn (w.heap.size + 3) w2 ⟨some ⟨w.heap.size + 3, 0, none⟩, A.n, A.n, some ⟨N, 0, none⟩, A.n', A.n'⟩ x := by
    refine ⟨ho4, ho3.mono (by omega), ?_⟩
    rcases hne3 with h0 | h0
    · exact .inl h0
    · exact .inr (.inr fun b off b' off' e e' => by cases e; cases e'; omega)
  have hO2 := (((hO.far (w.heap.size + 2) 2 (by omega) (.slice (some ⟨N, 0, none⟩) A.n' A.n')).far (w.heap.size + 2) 3 (by omega) (.int .i64 x.on)).far (w.heap.size + 2) 4 (by omega) (.int .i64 x.sp)).far (w.heap.size + 2) 5 (by omega) (.int .i64 x.tk)
  have hO3 := hO2.far6 (w.heap.size + 1) (by omega) (.bool x.pm) (.slice (some ⟨w.heap.size + 3, 0, none⟩) A.n A.n) (.slice (some ⟨N, 0, none⟩) A.n' A.n') (.int .i64 x.on) (.int .i64 x.sp) (.int .i64 x.tk)
  have hbD := bl_set1 (bl_set1 (bl_set1 (bl_set1 hbC (w.heap.size + 2) 2 (by omega) (.slice (some ⟨N, 0, none⟩) A.n' A.n')) (w.heap.size + 2) 3 (by omega) (.int .i64 x.on)) (w.heap.size + 2) 4 (by omega) (.int .i64 x.sp)) (w.heap.size + 2) 5 (by omega) (.int .i64 x.tk)
  have hbE := bl_set6 hbD (w.heap.size + 1) (by omega) (.bool x.pm) (.slice (some ⟨w.heap.size + 3, 0, none⟩) A.n A.n) (.slice (some ⟨N, 0, none⟩) A.n' A.n') (.int .i64 x.on) (.int .i64 x.sp) (.int .i64 x.tk)
  clear p0 p1 p2 p3 p4 p5 q0 q1 q2 q3 q4 q5 qf r0 r1 r2 r3 r4 r5
  obtain ⟨_, p0, p1, p2, p3, p4, p5, _⟩ := id z0
  obtain ⟨_, t0, t1, t2, t3, t4, t5, tf⟩ := id z1
  obtain ⟨_, u0, u1, u2, u3, u4, u5, uf⟩ := id z2
  clear z0 z1 z2 ho2 ho3 ho4 hO hO2 hbA hbB hbC hbD hb3 HI Y0 Y1 Y2 hN
  have H6 := hidOf hO3
  have HE := hidOf hbE
  clear hO3 hbE
  go_wp2
  refine bodyPost_ret (v := .agg #[.bool x.pm, .slice (some ⟨w.heap.size + 3, 0, none⟩) A.n A.n, .slice (some ⟨N, 0, none⟩) A.n' A.n', .int .i64 x.on, .int .i64 x.sp, .int .i64 x.tk]) (by simp [results, Try.results30, go_sem, t0, t1, t2, t3, t4, t5]) rfl ⟨_, _, rfl, H6.out.mono (by omega), HE.out⟩

theorem eqGL_self (xs : List (Int × Bool)) : eqGL xs xs = true := by simp [eqGL]
/-- Are the two the same? -/
def sameN (x y : Nt) : Bool := decide (x.pm = y.pm) && eqL x.ln y.ln && eqGL x.gs y.gs && decide (x.on = y.on) && decide (x.sp = y.sp) && decide (x.tk = y.tk)
theorem sameN_self (x : Nt) : sameN x x = true := by simp [sameN, eqIL_self, eqGL_self]
end Go.Proofs.Ytfgknbflgmblmaa
