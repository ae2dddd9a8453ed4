/-
  Walks of the specification's notifications: a telling of one.
-/
import Derived.Test.YtfgknbflgmblmaaSN4
namespace Go.Proofs.Ytfgknbflgmblmaa
open Go.RowKit Pl Il

set_option maxRecDepth 100000 in
set_option maxHeartbeats 2000000 in
theorem specTellOne_any (A : Na) (x : Nt) (w : World) (hI : NIn w A x) (hn : A.n ≤ 2097152) (hn' : A.n' ≤ 2097152) (hok : A.n ≤ A.c) :
    Calls Try.prog 24 #[.agg #[.bool x.pm, .slice A.a A.n A.c, .slice A.a' A.n' A.c', .int .i64 x.on, .int .i64 x.sp, .int .i64 x.tk]] w fun e w' => NOutP w (tellOneM x).1 [.int .i64 (tellOneM x).2.1, .int .i64 (tellOneM x).2.2] e w' := by
  have hC := nctx_new hI
  have s1 : ((w.alloc (.cells #[.bool x.pm, .slice A.a A.n A.c, .slice A.a' A.n' A.c', .int .i64 x.on, .int .i64 x.sp, .int .i64 x.tk] 27)).alloc (.cells #[.bool false, .slice none 0 0, .slice none 0 0, .int .i64 0, .int .i64 0, .int .i64 0] 27)).heap.size = w.heap.size + 2 := by simp
  have HL1 := hidOf hI.ints.len
  have HL2 := hidOf hI.grs.len
  have HCp := hidOf (l5Copy_any A x _ hC.ninX hn hn')
  have HC := hidOf hC
  have S1 := hidOf s1
  clear hC s1 hI
  go_enter Try.func24, Try.ntmps24
  go_wp2_with fail
  refine (HCp.out).mono ?_
  rintro e w1 ⟨a1, c1, a2, c2, rfl, hR, hb1⟩
  rw [S1.out] at hR
  have hC1 := HC.out.kp hb1
  have hS := nsr_new hR hC1.sz
  generalize hW2 : w1.alloc (.cells #[.bool x.pm, .slice a1 A.n c1, .slice a2 A.n' c2, .int .i64 x.on, .int .i64 x.sp, .int .i64 x.tk] 27) = W2
  have hb2 : Below w1.heap.size w1 W2 := by subst hW2; exact bl_alloc (Below.refl _ _) _
  simp only at hS
  rw [hW2] at hS
  have hC2 := hC1.kp hb2
  obtain ⟨_, p0, p1, p2, p3, p4, p5, _⟩ := id hC2.box0
  have HS := hidOf hS
  have HC2 := hidOf hC2
  clear hR hb1 hC1 hb2 hC2 hS HC HCp
  go_wp2_with fail
  refine (specNotifyOk_any A x _ HC2.out.ninX hn hn' hok).mono ?_
  rintro e w3 ⟨rfl, hb3⟩
  have hC := HC2.out.kp hb3
  have hS := HS.out.keep hb3
  clear p0 p1 p2 p3 p4 p5 hW2 hb3 HS HC2
  obtain ⟨A1, hA1⟩ : ∃ A1 : Na, A1 = ⟨a1, A.n, c1, a2, A.n', c2⟩ := ⟨_, rfl⟩
  rw [← hA1] at hS
  have hAn : A1.n = A.n ∧ A1.n' = A.n' := by rw [hA1]; exact ⟨rfl, rfl⟩
  have HAn := hidOf hAn
  clear hA1 hAn
  generalize hN : w1.heap.size = N at *
  clear hN
  obtain ⟨_, p0, p1, p2, p3, p4, p5, _⟩ := id hC.box0
  obtain ⟨_, z0, z1, z2, z3, z4, z5, zf⟩ := id hS.box
  have HC := hidOf hC
  have HS := hidOf hS
  have HIX := hidOf hC.ninX
  clear hC hS
  cases hokx : okN x
  · obtain ⟨_, r0, r1, r2, r3, r4, r5, rf⟩ := id HC.out.box1
    have HF := hidOf (nsr_fin (A' := A1) (y := x) HC.out HS.out.rows)
    have HR := hidOf (show tellOneM x = (x, -1, 1) by unfold tellOneM; rw [if_pos hokx])
    clear HC HS hokx
    go_wp2
    refine bodyPost_ret (v := .tuple #[.agg #[.bool x.pm, .slice A1.a A1.n A1.c, .slice A1.a' A1.n' A1.c', .int .i64 x.on, .int .i64 x.sp, .int .i64 x.tk], .int .i64 (-1), .int .i64 1]) (by simp [results, Try.results24, go_sem, r0, r1, r2, r3, r4, r5]) rfl ?_
    rw [HR.out]
    exact ⟨A1, rfl, HF.out⟩
  · obtain ⟨k1, _, k3, k4, k5, k6, k7, k8⟩ := okN_parts hokx
    have HK8 := hidOf k8
    clear k8
    rw [HL1.out] at k3
    rw [HL2.out] at k4
    have HOK := hidOf hokx
    have HK1 := hidOf k1
    clear hokx k1
    by_cases t1 : (1000000000 : Int) ≤ x.on
    · obtain ⟨_, r0, r1, r2, r3, r4, r5, rf⟩ := id HC.out.box1
      have HF := hidOf (nsr_fin (A' := A1) (y := x) HC.out HS.out.rows)
      have HR := hidOf (show tellOneM x = (x, -1, 2) by
        unfold tellOneM
        rw [if_neg (by rw [HOK.out]; simp), if_pos (by unfold fullOne; rw [HL1.out, HL2.out]; first | (simp; done) | (simp; omega))])
      clear HC HS 
      go_wp2
      refine bodyPost_ret (v := .tuple #[.agg #[.bool x.pm, .slice A1.a A1.n A1.c, .slice A1.a' A1.n' A1.c', .int .i64 x.on, .int .i64 x.sp, .int .i64 x.tk], .int .i64 (-1), .int .i64 2]) (by simp [results, Try.results24, go_sem, r0, r1, r2, r3, r4, r5]) rfl ?_
      rw [HR.out]
      exact ⟨A1, rfl, HF.out⟩
    · by_cases t2 : (0 : Int) < (A.n : Int)
      · by_cases t3 : (32 : Int) ≤ (A.n' : Int)
        · obtain ⟨_, r0, r1, r2, r3, r4, r5, rf⟩ := id HC.out.box1
          have HF := hidOf (nsr_fin (A' := A1) (y := x) HC.out HS.out.rows)
          have HR := hidOf (show tellOneM x = (x, -1, 2) by
            unfold tellOneM
            rw [if_neg (by rw [HOK.out]; simp), if_pos (by unfold fullOne; rw [HL1.out, HL2.out]; first | (simp; done) | (simp; omega))])
          clear HC HS 
          go_wp2
          refine bodyPost_ret (v := .tuple #[.agg #[.bool x.pm, .slice A1.a A1.n A1.c, .slice A1.a' A1.n' A1.c', .int .i64 x.on, .int .i64 x.sp, .int .i64 x.tk], .int .i64 (-1), .int .i64 2]) (by simp [results, Try.results24, go_sem, r0, r1, r2, r3, r4, r5]) rfl ?_
          rw [HR.out]
          exact ⟨A1, rfl, HF.out⟩
        · have hres : tellOneM x = ((oneM { x with on := x.on + 1 }).1, (oneM { x with on := x.on + 1 }).2, 0) := by
            unfold tellOneM
            rw [if_neg (by rw [HOK.out]; simp), if_neg (by unfold fullOne; rw [HL1.out, HL2.out]; first | (simp; done) | (simp; omega))]
          have hS2 := HS.out.setc (y := { x with on := x.on + 1 }) 3 (.int .i64 (x.on + 1)) (HS.out.box.set3 (v := x.on + 1)) rfl rfl
          have hC2 := HC.out.keep (HS.out.below (Below.refl (w.heap.size + 2) w3) 3 (.int .i64 (x.on + 1))) (Nat.le_refl _)
          have HS2 := hidOf hS2
          have HC2 := hidOf hC2
          have HRes := hidOf hres
          obtain ⟨_, v0, v1, v2, v3, v4, v5, vf⟩ := id hS2.box
          simp only at v0 v1 v2 v3 v4 v5
          clear hS2 hC2 hres HS HC 
          go_wp2_with fail
          refine (l5One_any (w.heap.size + 2) A1 { x with on := x.on + 1 } _ HS2.out.rows (HC2.out.sz) (by have := HAn.out; omega) (by have := HAn.out; omega) k6).mono ?_
          rintro e w4 ⟨A4, rfl, hR4, hb4⟩
          have hC4 := HC2.out.keep hb4 (Nat.le_refl _)
          generalize hy : (oneM { x with on := x.on + 1 }).1 = y at hR4
          generalize ht : (oneM { x with on := x.on + 1 }).2 = t
          have hrs : tellOneM x = (y, t, 0) := by rw [HRes.out, hy, ht]
          generalize hW5 : w4.alloc (.cells #[.bool y.pm, .slice A4.a A4.n A4.c, .slice A4.a' A4.n' A4.c', .int .i64 y.on, .int .i64 y.sp, .int .i64 y.tk] 27) = W5
          have b5 : Below w4.heap.size w4 W5 := by subst hW5; exact bl_alloc (Below.refl _ _) _
          have hC5 := hC4.kp b5
          have hR5 := hR4.keep b5
          have hB5 : NBox w4.heap.size A4 y W5 := by subst hW5; exact NBox.new w4 A4 y _
          obtain ⟨_, u0, u1, u2, u3, u4, u5, _⟩ := id hB5
          obtain ⟨_, r0, r1, r2, r3, r4, r5, rf⟩ := id hC5.box1
          have HF := hidOf (nsr_fin (A' := A4) (y := y) hC5 hR5)
          have HR := hidOf (hrs)
          clear HS2 HC2 HRes hR4 hC4 hb4 hy ht hrs p0 p1 p2 p3 p4 p5 hC5 hR5 hB5 b5 z0 z1 z2 z3 z4 z5 zf v0 v1 v2 v3 v4 v5 vf
          go_wp2
          refine bodyPost_ret (v := .tuple #[.agg #[.bool y.pm, .slice A4.a A4.n A4.c, .slice A4.a' A4.n' A4.c', .int .i64 y.on, .int .i64 y.sp, .int .i64 y.tk], .int .i64 t, .int .i64 0]) (by simp [results, Try.results24, go_sem, r0, r1, r2, r3, r4, r5]) rfl ?_
          rw [HR.out]
          exact ⟨A4, rfl, HF.out⟩
      · have hres : tellOneM x = ((oneM { x with on := x.on + 1 }).1, (oneM { x with on := x.on + 1 }).2, 0) := by
          unfold tellOneM
          rw [if_neg (by rw [HOK.out]; simp), if_neg (by unfold fullOne; rw [HL1.out, HL2.out]; first | (simp; done) | (simp; omega))]
        have hS2 := HS.out.setc (y := { x with on := x.on + 1 }) 3 (.int .i64 (x.on + 1)) (HS.out.box.set3 (v := x.on + 1)) rfl rfl
        have hC2 := HC.out.keep (HS.out.below (Below.refl (w.heap.size + 2) w3) 3 (.int .i64 (x.on + 1))) (Nat.le_refl _)
        have HS2 := hidOf hS2
        have HC2 := hidOf hC2
        have HRes := hidOf hres
        obtain ⟨_, v0, v1, v2, v3, v4, v5, vf⟩ := id hS2.box
        simp only at v0 v1 v2 v3 v4 v5
        clear hS2 hC2 hres HS HC 
        go_wp2_with fail
        refine (l5One_any (w.heap.size + 2) A1 { x with on := x.on + 1 } _ HS2.out.rows (HC2.out.sz) (by have := HAn.out; omega) (by have := HAn.out; omega) k6).mono ?_
        rintro e w4 ⟨A4, rfl, hR4, hb4⟩
        have hC4 := HC2.out.keep hb4 (Nat.le_refl _)
        generalize hy : (oneM { x with on := x.on + 1 }).1 = y at hR4
        generalize ht : (oneM { x with on := x.on + 1 }).2 = t
        have hrs : tellOneM x = (y, t, 0) := by rw [HRes.out, hy, ht]
        generalize hW5 : w4.alloc (.cells #[.bool y.pm, .slice A4.a A4.n A4.c, .slice A4.a' A4.n' A4.c', .int .i64 y.on, .int .i64 y.sp, .int .i64 y.tk] 27) = W5
        have b5 : Below w4.heap.size w4 W5 := by subst hW5; exact bl_alloc (Below.refl _ _) _
        have hC5 := hC4.kp b5
        have hR5 := hR4.keep b5
        have hB5 : NBox w4.heap.size A4 y W5 := by subst hW5; exact NBox.new w4 A4 y _
        obtain ⟨_, u0, u1, u2, u3, u4, u5, _⟩ := id hB5
        obtain ⟨_, r0, r1, r2, r3, r4, r5, rf⟩ := id hC5.box1
        have HF := hidOf (nsr_fin (A' := A4) (y := y) hC5 hR5)
        have HR := hidOf (hrs)
        clear HS2 HC2 HRes hR4 hC4 hb4 hy ht hrs p0 p1 p2 p3 p4 p5 hC5 hR5 hB5 b5 z0 z1 z2 z3 z4 z5 zf v0 v1 v2 v3 v4 v5 vf
        go_wp2
        refine bodyPost_ret (v := .tuple #[.agg #[.bool y.pm, .slice A4.a A4.n A4.c, .slice A4.a' A4.n' A4.c', .int .i64 y.on, .int .i64 y.sp, .int .i64 y.tk], .int .i64 t, .int .i64 0]) (by simp [results, Try.results24, go_sem, r0, r1, r2, r3, r4, r5]) rfl ?_
        rw [HR.out]
        exact ⟨A4, rfl, HF.out⟩
end Go.Proofs.Ytfgknbflgmblmaa
