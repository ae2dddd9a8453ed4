/-
  The program's cells: a look.
-/
import Derived.Test.YtbbhaekmjnincaaBC1
import Derived.Test.YtbbhaekmjnincaaCM8
namespace Go.Proofs.Ytbbhaekmjnincaa
open Go.RowKit Go.Maps Pl Il

set_option maxHeartbeats 1000000 in
theorem bodyLook_any (B b : Nat) (A : Na) (x : Ct) (w : World) (hM : CMem B b A x w) :
    Calls Try.prog 18 #[.pointer (some ⟨b, 0, none⟩)] w fun e w' => e = .returned (.tuple #[.agg #[.int .i64 x.kd, .int .i64 x.nu, .string x.tx], .int .i64 x.ve, .int .i64 (lookC x)]) ∧ Below w.heap.size w w' := by
  have hlt := hM.st.lt
  have b0 : Below w.heap.size w (w.alloc (.cells #[.int .i64 0, .int .i64 0, .string ⟨#[]⟩] 25)) := bl_alloc (Below.refl _ _) _
  obtain ⟨_, q0, q1, q2, qf⟩ := Box3.new w (.int .i64 0) (.int .i64 0) (.string ⟨#[]⟩) 25
  have c2 : (w.alloc (.cells #[.int .i64 0, .int .i64 0, .string ⟨#[]⟩] 25)).cell? ⟨b, 2, none⟩ = some (.int .i64 x.kd) := by rw [b0.cell (p := ⟨b, 2, none⟩) hlt]; exact hM.kd
  have c3 : (w.alloc (.cells #[.int .i64 0, .int .i64 0, .string ⟨#[]⟩] 25)).cell? ⟨b, 3, none⟩ = some (.int .i64 x.nu) := by rw [b0.cell (p := ⟨b, 3, none⟩) hlt]; exact hM.nu
  have c4 : (w.alloc (.cells #[.int .i64 0, .int .i64 0, .string ⟨#[]⟩] 25)).cell? ⟨b, 4, none⟩ = some (.string x.tx) := by rw [b0.cell (p := ⟨b, 4, none⟩) hlt]; exact hM.tx
  have c5 : (w.alloc (.cells #[.int .i64 0, .int .i64 0, .string ⟨#[]⟩] 25)).cell? ⟨b, 5, none⟩ = some (.int .i64 x.ve) := by rw [b0.cell (p := ⟨b, 5, none⟩) hlt]; exact hM.ve
  have c6 : (w.alloc (.cells #[.int .i64 0, .int .i64 0, .string ⟨#[]⟩] 25)).cell? ⟨b, 6, none⟩ = some (.bool x.cl) := by rw [b0.cell (p := ⟨b, 6, none⟩) hlt]; exact hM.cl
  generalize hW : (w.alloc (.cells #[.int .i64 0, .int .i64 0, .string ⟨#[]⟩] 25)) = W at *
  have hF : ∀ y0 y1 y2, Below w.heap.size w (((W.setCell ⟨w.heap.size, 0, none⟩ y0).setCell ⟨w.heap.size, 1, none⟩ y1).setCell ⟨w.heap.size, 2, none⟩ y2) := fun y0 y1 y2 => bl_set1 (bl_set1 (bl_set1 b0 w.heap.size 0 (Nat.le_refl _) y0) w.heap.size 1 (Nat.le_refl _) y1) w.heap.size 2 (Nat.le_refl _) y2
  have HF := hidOf hF
  obtain ⟨bc, hbc⟩ : ∃ bc, bc = x.cl := ⟨_, rfl⟩
  rw [← hbc] at c6
  have HCl := hidOf hbc
  have hne : ¬ b = w.heap.size := by omega
  clear hbc hM b0 hF hlt
  cases bc
  · have hr := hidOf (lookC_no HCl.out)
    go_enter Try.func18, Try.ntmps18
    go_wp2_with fail
    go_region
    all_goals (try go_wp2)
    all_goals refine bodyPost_ret (v := .tuple #[.agg #[.int .i64 x.kd, .int .i64 x.nu, .string x.tx], .int .i64 x.ve, .int .i64 0]) (by simp [results, Try.results18, go_sem, q0, q1, q2]) rfl ?_
    all_goals exact ⟨by rw [hr.out], (HF.out _ _ _).drew⟩
  · have hr := hidOf (lookC_yes HCl.out)
    go_enter Try.func18, Try.ntmps18
    go_wp2_with fail
    go_region
    all_goals (try go_wp2)
    all_goals refine bodyPost_ret (v := .tuple #[.agg #[.int .i64 x.kd, .int .i64 x.nu, .string x.tx], .int .i64 x.ve, .int .i64 6]) (by simp [results, Try.results18, go_sem, q0, q1, q2]) rfl ?_
    all_goals exact ⟨by rw [hr.out], (HF.out _ _ _).drew⟩
set_option maxHeartbeats 1000000 in
theorem implLook_any (A : Na) (x : Ct) (w : World) (hI : CIn w A x) (hn : A.n ≤ 2097152) (hn' : A.n' ≤ 2097152) (hw : CWf x) :
    Calls Try.prog 10 #[.agg #[.int .i64 x.kd, .int .i64 x.nu, .string x.tx, .int .i64 x.ve, .bool x.cl, .slice A.a A.n A.c, .slice A.a' A.n' A.c']] w fun e w' => LookP x e ∧ Below w.heap.size w w' := by
  generalize hW0 : w.alloc (.cells #[.int .i64 x.kd, .int .i64 x.nu, .string x.tx, .int .i64 x.ve, .bool x.cl, .slice A.a A.n A.c, .slice A.a' A.n' A.c'] 29) = W0
  generalize hW1 : W0.alloc (.cells #[.int .i64 0, .int .i64 0, .string ⟨#[]⟩] 25) = W1
  have B0 : Below w.heap.size w W0 := by subst hW0; exact bl_alloc (Below.refl _ _) _
  have B1 : Below w.heap.size w W1 := by subst hW1; exact bl_alloc B0 _
  have s0 : W0.heap.size = w.heap.size + 1 := by subst hW0; simp
  have s1 : W1.heap.size = w.heap.size + 2 := by subst hW1; simp [s0]
  have x0 : CBox w.heap.size A x W1 := by subst hW1 hW0; exact (CBox.new w A x _).alloc _
  have m1 : Box3 (w.heap.size + 1) (.int .i64 0) (.int .i64 0) (.string ⟨#[]⟩) W1 := by subst hW1; rw [← s0]; exact Box3.new W0 _ _ _ _
  obtain ⟨_, p0, p1, p2, p3, p4, p5, p6, _⟩ := id x0
  have HI := hidOf (hI.keep B1)
  have M1 := hidOf m1
  clear hI x0 m1 s0 B0 s1
  subst hW1 hW0
  go_enter Try.func10, Try.ntmps10
  go_wp2_with fail
  refine (cellBodyOf_any A x _ HI.out hn hn' hw).mono ?_
  rintro e w1 ⟨b, A1, rfl, _, hM, hb1⟩
  have B2 := bl_trans B1 hb1
  have m1 := M1.out.keep hb1
  clear p0 p1 p2 p3 p4 p5 p6 M1 HI hb1 B1
  cases hok' : okC x
  · have HR := hidOf (show lookM x = (0, 0, ⟨#[]⟩, 0, 1) by unfold lookM; rw [if_pos hok'])
    obtain ⟨_, q0, q1, q2, qf⟩ := id m1
    have HF := hidOf (bl_set1 (bl_set1 (bl_set1 B2 (w.heap.size + 1) 0 (by omega) (.int .i64 0)) (w.heap.size + 1) 1 (by omega) (.int .i64 0)) (w.heap.size + 1) 2 (by omega) (.string ⟨#[]⟩))
    clear hok' m1 hM
    go_wp2
    refine bodyPost_ret (v := .tuple #[.agg #[.int .i64 0, .int .i64 0, .string ⟨#[]⟩], .int .i64 0, .int .i64 1]) (by simp [results, Try.results10, go_sem, q0, q1, q2]) rfl ?_
    exact ⟨by unfold LookP; rw [HR.out], HF.out⟩
  · have HR := hidOf (show lookM x = (x.kd, x.nu, x.tx, x.ve, lookC x) by unfold lookM; rw [if_neg (by rw [hok']; simp)])
    go_wp2_with fail
    refine (bodyLook_any _ b A1 x _ hM).mono ?_
    rintro e w2 ⟨rfl, hb2⟩
    have B3 := bl_trans B2 hb2
    have m2 := m1.keep hb2
    obtain ⟨_, q0, q1, q2, qf⟩ := id m2
    generalize lookC x = rc at HR ⊢
    have HF := hidOf (bl_set1 (bl_set1 (bl_set1 B3 (w.heap.size + 1) 0 (by omega) (.int .i64 x.kd)) (w.heap.size + 1) 1 (by omega) (.int .i64 x.nu)) (w.heap.size + 1) 2 (by omega) (.string x.tx))
    clear hok' m1 m2 hM hb2
    go_wp2
    refine bodyPost_ret (v := .tuple #[.agg #[.int .i64 x.kd, .int .i64 x.nu, .string x.tx], .int .i64 x.ve, .int .i64 rc]) (by simp [results, Try.results10, go_sem, q0, q1, q2]) rfl ?_
    exact ⟨by unfold LookP; rw [HR.out], HF.out⟩
end Go.Proofs.Ytbbhaekmjnincaa
