/-
  Walks of the specification's notifications: a copy, a telling of one.
-/
import Derived.Test.YtfgknbflgmblmaaSN1
import Derived.Test.YtfgknbflgmblmaaV7
namespace Go.Proofs.Ytfgknbflgmblmaa
open Go.RowKit Pl Il

theorem ownsG_empty (w : World) : (w.alloc (.cells #[] 44)).ownsRow w.heap.size 44 2 (.slice (some ⟨w.heap.size, 0, none⟩) 0 0) 0 (gflat []) :=
  ⟨rfl, .inr ⟨w.heap.size, 0, #[], rfl, Nat.le_refl _, heap_alloc_new w _, Nat.le_refl _, Nat.zero_le _, rfl, rfl⟩⟩
set_option maxHeartbeats 2000000 in
theorem l5Copy_any (A : Na) (x : Nt) (w : World) (hI : NIn w A x) (hn : A.n ≤ 2097152) (hn' : A.n' ≤ 2097152) :
    Calls Try.prog 46 #[.agg #[.bool x.pm, .slice A.a A.n A.c, .slice A.a' A.n' A.c', .int .i64 x.on, .int .i64 x.sp, .int .i64 x.tk]] w fun e w' => ∃ a c a' c', e = .returned (.agg #[.bool x.pm, .slice a A.n c, .slice a' A.n' c', .int .i64 x.on, .int .i64 x.sp, .int .i64 x.tk]) ∧ NRow w.heap.size w' ⟨a, A.n, c, a', A.n', c'⟩ x ∧ Below w.heap.size w w' := by
  generalize hW0 : w.alloc (.cells #[.bool x.pm, .slice A.a A.n A.c, .slice A.a' A.n' A.c', .int .i64 x.on, .int .i64 x.sp, .int .i64 x.tk] 27) = W0
  generalize hW1 : W0.alloc (.cells #[.bool false, .slice none 0 0, .slice none 0 0, .int .i64 0, .int .i64 0, .int .i64 0] 27) = W1
  have b0 : Below w.heap.size w W0 := by subst hW0; exact bl_alloc (Below.refl _ _) _
  have b1 : Below w.heap.size w W1 := by subst hW1; exact bl_alloc b0 _
  have s0 : W0.heap.size = w.heap.size + 1 := by subst hW0; simp
  have s1 : W1.heap.size = w.heap.size + 2 := by subst hW1; simp [s0]
  have x0 : NBox w.heap.size A x W1 := by subst hW1 hW0; exact (NBox.new w A x _).alloc _
  have x1 : NBox (w.heap.size + 1) Na.zero Nt.zero W1 := by subst hW1; rw [← s0]; exact NBox.newZ W0 _
  have hI1 := hidOf (hI.keep b1)
  have HI := hidOf hI
  have X0 := hidOf x0
  have X1 := hidOf x1
  have HB := hidOf b1
  have S1 := hidOf s1
  clear hI x0 x1 b0 b1 s0 s1
  subst hW1 hW0
  go_enter Try.func46, Try.ntmps46
  go_wp2_with fail
  refine (l2Copy_any A.a A.n A.c x.ln _ hI1.out.ints hn).mono ?_
  rintro e w1 ⟨g1, c1, rfl, ho1, hb1⟩
  rw [S1.out] at ho1
  have x0 := X0.out.keep hb1
  have x1 := X1.out.keep hb1
  have hB1 := bl_trans HB.out hb1
  have y0 := x0.set1 (a := some ⟨g1, 0, none⟩) (n := A.n) (c := c1)
  have y1 := x1.far w.heap.size 1 (by omega) (.slice (some ⟨g1, 0, none⟩) A.n c1)
  have ho2 := own_far1 ho1 w.heap.size 1 (by omega) (.slice (some ⟨g1, 0, none⟩) A.n c1)
  have hB2 := bl_set1' hB1 w.heap.size 1 (Nat.le_refl _) (.slice (some ⟨g1, 0, none⟩) A.n c1)
  generalize hU : w1.setCell ⟨w.heap.size, 1, none⟩ (.slice (some ⟨g1, 0, none⟩) A.n c1) = U at y0 y1 ho2 hB2
  have hz := y1.lt
  have bE : Below U.heap.size U (U.alloc (.cells #[] 44)) := bl_alloc (Below.refl _ _) _
  obtain ⟨v, w2, hr, ho3, hg⟩ := append_grs U.heap.size _ 0 [] A.a' A.n' A.c' x.gs _ (ownsG_empty U) (by simp) ((HI.out.grs.keep hB2).keep bE) (by omega)
  rw [Nat.zero_add, List.nil_append] at ho3
  obtain ⟨a2, c2, rfl, _, _⟩ := ownG_of ho3 x.gs rfl
  have hb3 : Below U.heap.size U w2 := bE.grown hg (by simp) (fun k hk => by simp [Value.ownBlock] at hk; omega)
  have z0 := y0.keep hb3
  have z1 := y1.keep hb3
  have hN : NRow (w.heap.size + 2) w2 ⟨some ⟨g1, 0, none⟩, A.n, c1, a2, A.n', c2⟩ x := ⟨ownsRow_keep ho2 hb3, own_mono1 ho3 (by omega)⟩
  have hN2 := (hN.far w.heap.size 2 (by omega) (.slice a2 A.n' c2)).far6 (w.heap.size + 1) (by omega) (.bool x.pm) (.slice (some ⟨g1, 0, none⟩) A.n c1) (.slice a2 A.n' c2) (.int .i64 x.on) (.int .i64 x.sp) (.int .i64 x.tk)
  have hB3 := bl_set6' (bl_set1' (bl_trans hB2 hb3) w.heap.size 2 (Nat.le_refl _) (.slice a2 A.n' c2)) (w.heap.size + 1) (by omega) (.bool x.pm) (.slice (some ⟨g1, 0, none⟩) A.n c1) (.slice a2 A.n' c2) (.int .i64 x.on) (.int .i64 x.sp) (.int .i64 x.tk)
  obtain ⟨_, p0, p1, p2, p3, p4, p5, pf⟩ := id x0
  obtain ⟨_, q0, q1, q2, q3, q4, q5, qf⟩ := id y0
  obtain ⟨_, r0, r1, r2, r3, r4, r5, rf⟩ := id z0
  obtain ⟨_, t0, t1, t2, t3, t4, t5, tf⟩ := id z1
  have dq : ∀ o, (U.alloc o).cell? ⟨w.heap.size, 2, none⟩ = some (.slice A.a' A.n' A.c') := fun o => by rw [World.cell?_alloc_old _ _ _ (Nat.ne_of_lt (World.block_lt_of_cell? U _ q2))]; exact q2
  have HN := hidOf hN2
  have HB3 := hidOf hB3
  have Hr := hidOf hr
  clear hN hN2 hB3 ho3 hb3 z0 z1 y0 y1 ho1 ho2 hB1 hB2 hb1 x0 x1 hr hg bE hz S1 HI X0 X1 HB hI1
  go_wp2_with (at_builtin; refine wpList_append_run rfl _ _ 25 rfl _ _ _ rfl rfl Hr.out ?_)
  exact bodyPost_ret (v := .agg #[.bool x.pm, .slice (some ⟨g1, 0, none⟩) A.n c1, .slice a2 A.n' c2, .int .i64 x.on, .int .i64 x.sp, .int .i64 x.tk]) (by simp [results, Try.results46, go_sem, t0, t1, t2, t3, t4, t5]) rfl ⟨_, _, _, _, rfl, HN.out.mono (by omega), HB3.out⟩
end Go.Proofs.Ytfgknbflgmblmaa
