/-
  Walks of the specification's notifications: who goes on.
-/
import Derived.Test.YtfgknbflgmblmaaSN8
namespace Go.Proofs.Ytfgknbflgmblmaa
open Go.RowKit Pl Il

set_option maxRecDepth 100000 in
set_option maxHeartbeats 2000000 in
theorem specResume_any (A : Na) (x : Nt) (who : Int) (w : World) (hI : NIn w A x) (hn : A.n ≤ 2097152) (hn' : A.n' ≤ 2097152) (hok : A.n ≤ A.c) :
    Calls Try.prog 18 #[.agg #[.bool x.pm, .slice A.a A.n A.c, .slice A.a' A.n' A.c', .int .i64 x.on, .int .i64 x.sp, .int .i64 x.tk], .int .i64 who] w fun e w' => NOutP w (resumeM x who).1 [.int .i64 (resumeM x who).2] e w' := by
  have hC := nctx_new hI
  have s1 : ((w.alloc (.cells #[.bool x.pm, .slice A.a A.n A.c, .slice A.a' A.n' A.c', .int .i64 x.on, .int .i64 x.sp, .int .i64 x.tk] 27)).alloc (.cells #[.bool false, .slice none 0 0, .slice none 0 0, .int .i64 0, .int .i64 0, .int .i64 0] 27)).heap.size = w.heap.size + 2 := by simp
  have HL1 := hidOf hI.ints.len
  have HL2 := hidOf hI.grs.len
  have HCp := hidOf (l5Copy_any A x _ hC.ninX hn hn')
  have HC := hidOf hC
  have S1 := hidOf s1
  clear hC s1 hI
  go_enter Try.func18, Try.ntmps18
  go_wp2_with fail
  refine (HCp.out).mono ?_
  rintro e w1 ⟨a1, c1, a2, c2, rfl, hR, hb1⟩
  rw [S1.out] at hR
  have hC1 := HC.out.kp hb1
  have hS := nsr_new hR hC1.sz
  generalize hW2 : w1.alloc (.cells #[.bool x.pm, .slice a1 A.n c1, .slice a2 A.n' c2, .int .i64 x.on, .int .i64 x.sp, .int .i64 x.tk] 27) = W2
  have hb2 : Below w1.heap.size w1 W2 := by subst hW2; exact bl_alloc (Below.refl _ _) _
  simp only at hS
  rw [hW2] at hS
  have hC2 := hC1.kp hb2
  obtain ⟨_, p0, p1, p2, p3, p4, p5, _⟩ := id hC2.box0
  have HS := hidOf hS
  have HC2 := hidOf hC2
  clear hR hb1 hC1 hb2 hC2 hS HC HCp
  go_wp2_with fail
  refine (l5At_any A.a' A.n' A.c' x.gs who _ HC2.out.ninX.grs hn').mono ?_
  rintro e w2b ⟨rfl, rfl⟩
  go_wp2_with fail
  refine (specNotifyOk_any A x _ HC2.out.ninX hn hn' hok).mono ?_
  rintro e w3 ⟨rfl, hb3⟩
  have hC := HC2.out.kp hb3
  have hS := HS.out.keep hb3
  clear p0 p1 p2 p3 p4 p5 hW2 hb3 HS HC2
  obtain ⟨A1, hA1⟩ : ∃ A1 : Na, A1 = ⟨a1, A.n, c1, a2, A.n', c2⟩ := ⟨_, rfl⟩
  rw [← hA1] at hS
  have hAn : A1.n = A.n ∧ A1.n' = A.n' := by rw [hA1]; exact ⟨rfl, rfl⟩
  have HAn := hidOf hAn
  clear hA1 hAn
  generalize hN : w1.heap.size = N at *
  clear hN
  obtain ⟨_, p0, p1, p2, p3, p4, p5, _⟩ := id hC.box0
  obtain ⟨_, z0, z1, z2, z3, z4, z5, zf⟩ := id hS.box
  have HC := hidOf hC
  have HS := hidOf hS
  have HIX := hidOf hC.ninX
  clear hC hS
  cases hokx : okN x
  · obtain ⟨_, r0, r1, r2, r3, r4, r5, rf⟩ := id HC.out.box1
    have HF := hidOf (nsr_fin (A' := A1) (y := x) HC.out HS.out.rows)
    have HR := hidOf (show resumeM x who = (x, 1) by unfold resumeM; rw [if_pos hokx])
    clear HC HS hokx
    go_wp2
    refine bodyPost_ret (v := .tuple #[.agg #[.bool x.pm, .slice A1.a A1.n A1.c, .slice A1.a' A1.n' A1.c', .int .i64 x.on, .int .i64 x.sp, .int .i64 x.tk], .int .i64 1]) (by simp [results, Try.results18, go_sem, r0, r1, r2, r3, r4, r5]) rfl ?_
    rw [HR.out]
    exact ⟨A1, rfl, HF.out⟩
  · obtain ⟨k1, kg, k3, k4, k5, k6, k7, k8⟩ := okN_parts hokx
    have HK8 := hidOf k8
    clear k8
    rw [HL1.out] at k3
    rw [HL2.out] at k4
    have HOK := hidOf hokx
    have HK1 := hidOf k1
    clear hokx k1
    have HKg := hidOf (nodup_line kg)
    clear kg
    go_wp2_with fail
    refine (l2Has_any A.a A.n A.c x.ln who _ HIX.out.ints hn).mono ?_
    rintro e w6 ⟨rfl, rfl⟩
    cases hh1 : hasL x.ln who
    · cases hh2 : hasL (whosL x.gs) who
      · rw [place_minus hh2]
        obtain ⟨_, r0, r1, r2, r3, r4, r5, rf⟩ := id HC.out.box1
        have HF := hidOf (nsr_fin (A' := A1) (y := x) HC.out HS.out.rows)
        have HR := hidOf (show resumeM x who = (x, 3) by unfold resumeM; rw [if_neg (by rw [HOK.out]; simp), if_neg (by rw [hh1]; simp), if_pos (by unfold toldL; exact hh2)])
        clear HC HS
        go_wp2
        refine bodyPost_ret (v := .tuple #[.agg #[.bool x.pm, .slice A1.a A1.n A1.c, .slice A1.a' A1.n' A1.c', .int .i64 x.on, .int .i64 x.sp, .int .i64 x.tk], .int .i64 3]) (by simp [results, Try.results18, go_sem, r0, r1, r2, r3, r4, r5]) rfl ?_
        rw [HR.out]
        exact ⟨A1, rfl, HF.out⟩
      · obtain ⟨pk, hpl, hpk⟩ := place_bound hh2
        rw [hpk]
        obtain ⟨_, h' | ⟨gb, goff, gea, _, gcell⟩⟩ := HIX.out.grs
        · rw [whos_len, HL2.out, h'] at hpl; omega
        have hplg : pk < x.gs.length := by rw [whos_len] at hpl; exact hpl
        have hgc := (gcell pk (by rw [← HL2.out]; exact hplg)).2
        rw [gg_who HKg.out hplg hpk] at hgc
        simp only at hgc
        rw [gea] at p2
        have hji : (0 : Int) ≤ (pk : Int) ∧ (pk : Int) < (A.n' : Int) := by rw [HL2.out] at hplg; omega
        have hp' : ¬ (pk : Int) < 0 := by omega
        have HDl := hidOf (dropTo_less HKg.out hpk x.gs.length (Nat.le_refl _))
        rw [List.take_length] at HDl
        have Gea := hidOf gea
        have HPk := hidOf hpk
        clear gcell gea hpk hpl
        cases hone : oneOf x.gs who
        · rw [hone] at hgc
          have HRes := hidOf (show resumeM x who = ({ x with gs := lessG x.gs who, tk := x.tk }, 0) by
            unfold resumeM
            rw [if_neg (by rw [HOK.out]; simp), if_neg (by rw [hh1]; simp), if_neg (by unfold toldL; rw [hh2]; simp), if_neg (by rw [hone]; simp), hone]
            simp [permI])
          have hS2 := HS.out
          have hC2 := HC.out
          have HS2 := hidOf hS2
          have HC2 := hidOf hC2
          clear HS HC hS2 hC2
          go_wp2_with fail
          refine (l5Drop_any (w.heap.size + 2) A1 x (pk : Int) _ HS2.out.rows HC2.out.sz (by have := HAn.out; omega)).mono ?_
          rintro e w9 ⟨a9, m9, c9, rfl, hR9, hb9⟩
          have hC9 := HC2.out.kp hb9
          try simp only at hR9
          rw [HDl.out] at hR9
          obtain ⟨_, r0, r1, r2, r3, r4, r5, rf⟩ := id hC9.box1
          have HF := hidOf (nsr_fin (A' := ⟨A1.a, A1.n, A1.c, a9, m9, c9⟩) (y := { x with gs := lessG x.gs who, tk := x.tk }) hC9 hR9)
          have HR := hidOf (HRes.out)
          clear HS2 HC2 HRes hC9 hR9 hb9 HDl
          go_wp2
          refine bodyPost_ret (v := .tuple #[.agg #[.bool x.pm, .slice A1.a A1.n A1.c, .slice a9 m9 c9, .int .i64 x.on, .int .i64 x.sp, .int .i64 x.tk], .int .i64 0]) (by simp [results, Try.results18, go_sem, r0, r1, r2, r3, r4, r5]) rfl ?_
          rw [HR.out]
          exact ⟨⟨A1.a, A1.n, A1.c, a9, m9, c9⟩, rfl, HF.out⟩
        · rw [hone] at hgc
          by_cases t1 : (1000000000 : Int) ≤ x.tk
          · obtain ⟨_, r0, r1, r2, r3, r4, r5, rf⟩ := id HC.out.box1
            have HF := hidOf (nsr_fin (A' := A1) (y := x) HC.out HS.out.rows)
            have HR := hidOf (show resumeM x who = (x, 2) by unfold resumeM; rw [if_neg (by rw [HOK.out]; simp), if_neg (by rw [hh1]; simp), if_neg (by unfold toldL; rw [hh2]; simp), if_pos ⟨hone, t1⟩])
            clear HC HS
            go_wp2
            refine bodyPost_ret (v := .tuple #[.agg #[.bool x.pm, .slice A1.a A1.n A1.c, .slice A1.a' A1.n' A1.c', .int .i64 x.on, .int .i64 x.sp, .int .i64 x.tk], .int .i64 2]) (by simp [results, Try.results18, go_sem, r0, r1, r2, r3, r4, r5]) rfl ?_
            rw [HR.out]
            exact ⟨A1, rfl, HF.out⟩
          · have HRes := hidOf (show resumeM x who = ({ x with gs := lessG x.gs who, tk := (x.tk + 1) }, 0) by
              unfold resumeM
              rw [if_neg (by rw [HOK.out]; simp), if_neg (by rw [hh1]; simp), if_neg (by unfold toldL; rw [hh2]; simp), if_neg (by rw [hone]; simp; omega), hone]
              simp [permI])
            have hS2 := HS.out.setc (y := { x with tk := x.tk + 1 }) 5 (.int .i64 (x.tk + 1)) (HS.out.box.set5 (v := x.tk + 1)) rfl rfl
            have hC2 := HC.out.keep (HS.out.below (Below.refl (w.heap.size + 2) w6) 5 (.int .i64 (x.tk + 1))) (Nat.le_refl _)
            obtain ⟨_, v0, v1, v2, v3, v4, v5, vf⟩ := id hS2.box
            simp only at v0 v1 v2 v3 v4 v5
            have HS2 := hidOf hS2
            have HC2 := hidOf hC2
            clear HS HC hS2 hC2
            go_wp2_with fail
            refine (l5Drop_any (w.heap.size + 2) A1 { x with tk := x.tk + 1 } (pk : Int) _ HS2.out.rows HC2.out.sz (by have := HAn.out; omega)).mono ?_
            rintro e w9 ⟨a9, m9, c9, rfl, hR9, hb9⟩
            have hC9 := HC2.out.kp hb9
            try simp only at hR9
            rw [HDl.out] at hR9
            obtain ⟨_, r0, r1, r2, r3, r4, r5, rf⟩ := id hC9.box1
            have HF := hidOf (nsr_fin (A' := ⟨A1.a, A1.n, A1.c, a9, m9, c9⟩) (y := { x with gs := lessG x.gs who, tk := (x.tk + 1) }) hC9 hR9)
            have HR := hidOf (HRes.out)
            clear HS2 HC2 HRes hC9 hR9 hb9 HDl
            go_wp2
            refine bodyPost_ret (v := .tuple #[.agg #[.bool x.pm, .slice A1.a A1.n A1.c, .slice a9 m9 c9, .int .i64 x.on, .int .i64 x.sp, .int .i64 (x.tk + 1)], .int .i64 0]) (by simp [results, Try.results18, go_sem, r0, r1, r2, r3, r4, r5]) rfl ?_
            rw [HR.out]
            exact ⟨⟨A1.a, A1.n, A1.c, a9, m9, c9⟩, rfl, HF.out⟩
    · obtain ⟨_, r0, r1, r2, r3, r4, r5, rf⟩ := id HC.out.box1
      have HF := hidOf (nsr_fin (A' := A1) (y := x) HC.out HS.out.rows)
      have HR := hidOf (show resumeM x who = (x, 4) by unfold resumeM; rw [if_neg (by rw [HOK.out]; simp), if_pos hh1])
      clear HC HS
      go_wp2
      refine bodyPost_ret (v := .tuple #[.agg #[.bool x.pm, .slice A1.a A1.n A1.c, .slice A1.a' A1.n' A1.c', .int .i64 x.on, .int .i64 x.sp, .int .i64 x.tk], .int .i64 4]) (by simp [results, Try.results18, go_sem, r0, r1, r2, r3, r4, r5]) rfl ?_
      rw [HR.out]
      exact ⟨A1, rfl, HF.out⟩
end Go.Proofs.Ytfgknbflgmblmaa
