/-
  Walks of the specification's cells: a look.
-/
import Derived.Test.YtbhdjcggcgddfaaSpC
import Derived.Test.YtbhdjcggcgddfaaCM8
namespace Go.Proofs.Ytbhdjcggcgddfaa
open Go.RowKit Pl Il

set_option maxHeartbeats 1000000 in
theorem specLook_any (A : Na) (x : Ct) (w : World) (hI : CIn w A x) (hn : A.n ≤ 2097152) (hn' : A.n' ≤ 2097152) (hok : A.ok) :
    Calls Try.prog 133 #[.agg #[.int .i64 x.kd, .int .i64 x.nu, .string x.tx, .int .i64 x.ve, .bool x.cl, .slice A.a A.n A.c, .slice A.a' A.n' A.c']] w fun e w' => LookP x e ∧ Below w.heap.size w w' := by
  generalize hW0 : w.alloc (.cells #[.int .i64 x.kd, .int .i64 x.nu, .string x.tx, .int .i64 x.ve, .bool x.cl, .slice A.a A.n A.c, .slice A.a' A.n' A.c'] 58) = W0
  generalize hW1 : W0.alloc (.cells #[.int .i64 0, .int .i64 0, .string ⟨#[]⟩] 55) = W1
  have B0 : Below w.heap.size w W0 := by subst hW0; exact bl_alloc (Below.refl _ _) _
  have B1 : Below w.heap.size w W1 := by subst hW1; exact bl_alloc B0 _
  have s0 : W0.heap.size = w.heap.size + 1 := by subst hW0; simp
  have x0 : CBox w.heap.size A x W1 := by subst hW1 hW0; exact (CBox.new w A x _).alloc _
  have m1 : Box3 (w.heap.size + 1) (.int .i64 0) (.int .i64 0) (.string ⟨#[]⟩) W1 := by subst hW1; rw [← s0]; exact Box3.new W0 _ _ _ _
  obtain ⟨_, p0, p1, p2, p3, p4, p5, p6, _⟩ := id x0
  have HI := hidOf (hI.keep B1)
  have X0 := hidOf x0
  have M1 := hidOf m1
  clear hI x0 m1 s0 B0
  subst hW1 hW0
  go_enter Try.func133, Try.ntmps133
  go_wp2_with fail
  refine (specCellOk_any A x _ HI.out hn hn' hok).mono ?_
  rintro e w1 ⟨rfl, hb1⟩
  have B2 := bl_trans B1 hb1
  have x1 := X0.out.keep hb1
  have m1 := M1.out.keep hb1
  clear p0 p1 p2 p3 p4 p5 p6 X0 M1 HI hb1 B1
  obtain ⟨_, p0, p1, p2, p3, p4, p5, p6, _⟩ := id x1
  obtain ⟨_, q0, q1, q2, qf⟩ := id m1
  have hF : ∀ y0 y1 y2, Below w.heap.size w (((w1.setCell ⟨w.heap.size + 1, 0, none⟩ y0).setCell ⟨w.heap.size + 1, 1, none⟩ y1).setCell ⟨w.heap.size + 1, 2, none⟩ y2) := fun y0 y1 y2 => bl_set1 (bl_set1 (bl_set1 B2 (w.heap.size + 1) 0 (by omega) y0) (w.heap.size + 1) 1 (by omega) y1) (w.heap.size + 1) 2 (by omega) y2
  have HF := hidOf hF
  clear hF x1 m1
  cases hok' : okC x
  · have HR := hidOf (show lookM x = (0, 0, ⟨#[]⟩, 0, 1) by unfold lookM; rw [if_pos hok'])
    clear hok'
    go_wp2
    refine bodyPost_ret (v := .tuple #[.agg #[.int .i64 0, .int .i64 0, .string ⟨#[]⟩], .int .i64 0, .int .i64 1]) (by simp [results, Try.results133, go_sem, q0, q1, q2]) rfl ?_
    exact ⟨by unfold LookP; rw [HR.out], HF.out _ _ _⟩
  · obtain ⟨bc, hbc⟩ : ∃ bc, bc = x.cl := ⟨_, rfl⟩
    rw [← hbc] at p4
    have HCl := hidOf hbc
    clear hbc
    cases bc
    · have HR := hidOf (show lookM x = (x.kd, x.nu, x.tx, x.ve, 0) by unfold lookM; rw [if_neg (by rw [hok']; simp), lookC_no HCl.out])
      clear hok'
      go_wp2_with fail
      go_region
      all_goals (try go_wp2)
      all_goals refine bodyPost_ret (v := .tuple #[.agg #[.int .i64 x.kd, .int .i64 x.nu, .string x.tx], .int .i64 x.ve, .int .i64 0]) (by simp [results, Try.results133, go_sem, q0, q1, q2]) rfl ?_
      all_goals exact ⟨by unfold LookP; rw [HR.out], (HF.out _ _ _).drew⟩
    · have HR := hidOf (show lookM x = (x.kd, x.nu, x.tx, x.ve, 6) by unfold lookM; rw [if_neg (by rw [hok']; simp), lookC_yes HCl.out])
      clear hok'
      go_wp2_with fail
      go_region
      all_goals (try go_wp2)
      all_goals refine bodyPost_ret (v := .tuple #[.agg #[.int .i64 x.kd, .int .i64 x.nu, .string x.tx], .int .i64 x.ve, .int .i64 6]) (by simp [results, Try.results133, go_sem, q0, q1, q2]) rfl ?_
      all_goals exact ⟨by unfold LookP; rw [HR.out], (HF.out _ _ _).drew⟩
end Go.Proofs.Ytbhdjcggcgddfaa
