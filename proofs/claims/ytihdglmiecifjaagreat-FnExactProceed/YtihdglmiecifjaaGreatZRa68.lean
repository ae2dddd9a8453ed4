/-
  What a reading tells: the laws' own helper that compares it.
-/
import Derived.Test.YtihdglmiecifjaaGreatZRa67
namespace Go.Proofs.YtihdglmiecifjaaGreat
open Go.RowKit Pl Il

theorem boxT (w : World) (o : Obj) (td : Td) : BoxL (w.heap.size + 1) (tdC td) ((w.alloc o).alloc (.cells #[.int .i64 td.kd, .int .i64 td.ms.1, .int .i64 td.ms.2.1, .string td.ms.2.2, .int .i64 td.ix, .int .i64 td.n] 53)) := by
  have h := BoxL.new (w.alloc o) (tdC td) 53
  simpa using h
theorem eqMsgT (k n : Int) (s : ByteArray) (w : World) :
    Calls Tryz.prog 132 #[.agg #[.int .i64 k, .int .i64 n, .string s], .agg #[.int .i64 k, .int .i64 n, .string s]] w fun e w' => e = .returned (.bool true) ∧ Below w.heap.size w w' := by
  go_enter Tryz.func132, Tryz.ntmps132
  go_wp2
  go_ret
  exact ⟨rfl, bl_alloc (bl_alloc (Below.refl _ _) _) _⟩
set_option maxHeartbeats 2000000 in
theorem eqTold_same (td : Td) (w : World) :
    Calls Tryz.prog 62 #[.agg #[.int .i64 td.kd, .int .i64 td.ms.1, .int .i64 td.ms.2.1, .string td.ms.2.2, .int .i64 td.ix, .int .i64 td.n], .agg #[.int .i64 td.kd, .int .i64 td.ms.1, .int .i64 td.ms.2.1, .string td.ms.2.2, .int .i64 td.ix, .int .i64 td.n]] w fun e w' => e = .returned (.bool true) ∧ Below w.heap.size w w' := by
  obtain ⟨W0, hW0⟩ : ∃ W, W = (w.alloc (.cells #[.int .i64 td.kd, .int .i64 td.ms.1, .int .i64 td.ms.2.1, .string td.ms.2.2, .int .i64 td.ix, .int .i64 td.n] 53)).alloc (.cells #[.int .i64 td.kd, .int .i64 td.ms.1, .int .i64 td.ms.2.1, .string td.ms.2.2, .int .i64 td.ix, .int .i64 td.n] 53) := ⟨_, rfl⟩
  have b0 : Below w.heap.size w W0 := by rw [hW0]; exact bl_alloc (bl_alloc (Below.refl _ _) _) _
  have X0 : BoxL w.heap.size (tdC td) W0 := by rw [hW0]; exact (BoxL.new w (tdC td) _).alloc _
  have Y0 : BoxL (w.heap.size + 1) (tdC td) W0 := by rw [hW0]; exact boxT w _ td
  have p0 := X0.cs 0 (by simp)
  have p1 := X0.cs 1 (by simp)
  have p2 := X0.cs 2 (by simp)
  have p3 := X0.cs 3 (by simp)
  have p4 := X0.cs 4 (by simp)
  have p5 := X0.cs 5 (by simp)
  simp at p0 p1 p2 p3 p4 p5
  have q0 := Y0.cs 0 (by simp)
  have q1 := Y0.cs 1 (by simp)
  have q2 := Y0.cs 2 (by simp)
  have q3 := Y0.cs 3 (by simp)
  have q4 := Y0.cs 4 (by simp)
  have q5 := Y0.cs 5 (by simp)
  simp at q0 q1 q2 q3 q4 q5
  go_enter Tryz.func62, Tryz.ntmps62
  go_upto_region 1 with fail
  rw [← hW0]
  clear hW0
  go_wp2_with fail
  refine (eqMsgT td.ms.1 td.ms.2.1 td.ms.2.2 _).mono ?_
  rintro e w1 ⟨rfl, hb1⟩
  have X1 := X0.keep hb1
  have Y1 := Y0.keep hb1
  clear p0 p1 p2 p3 p4 p5 q0 q1 q2 q3 q4 q5 X0 Y0
  have p0 := X1.cs 0 (by simp)
  have p1 := X1.cs 1 (by simp)
  have p2 := X1.cs 2 (by simp)
  have p3 := X1.cs 3 (by simp)
  have p4 := X1.cs 4 (by simp)
  have p5 := X1.cs 5 (by simp)
  simp at p0 p1 p2 p3 p4 p5
  have q0 := Y1.cs 0 (by simp)
  have q1 := Y1.cs 1 (by simp)
  have q2 := Y1.cs 2 (by simp)
  have q3 := Y1.cs 3 (by simp)
  have q4 := Y1.cs 4 (by simp)
  have q5 := Y1.cs 5 (by simp)
  simp at q0 q1 q2 q3 q4 q5
  go_wp2
  go_ret
  exact ⟨rfl, bl_trans b0 hb1⟩
end Go.Proofs.YtihdglmiecifjaaGreat
