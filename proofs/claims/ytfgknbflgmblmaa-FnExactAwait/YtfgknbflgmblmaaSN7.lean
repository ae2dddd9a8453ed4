/-
  Walks of the specification's notifications: who waits.
-/
import Derived.Deep.RegionLaw
import Derived.Deep.RegionHeld3
import Derived.Test.YtfgknbflgmblmaaSN4b
namespace Go.Proofs.Ytfgknbflgmblmaa
open Go.RowKit Pl Il

set_option maxRecDepth 100000 in
set_option maxHeartbeats 2000000 in
theorem specAwait_any (A : Na) (x : Nt) (who : Int) (w : World) (hI : NIn w A x) (hn : A.n ≤ 2097152) (hn' : A.n' ≤ 2097152) (hok : A.n ≤ A.c) :
    Calls Try.prog 39 #[.agg #[.bool x.pm, .slice A.a A.n A.c, .slice A.a' A.n' A.c', .int .i64 x.on, .int .i64 x.sp, .int .i64 x.tk], .int .i64 who] w fun e w' => NOutP w (awaitM x who).1 [.int .i64 (awaitM x who).2] e w' := by
  have hC := nctx_new hI
  have s1 : ((w.alloc (.cells #[.bool x.pm, .slice A.a A.n A.c, .slice A.a' A.n' A.c', .int .i64 x.on, .int .i64 x.sp, .int .i64 x.tk] 27)).alloc (.cells #[.bool false, .slice none 0 0, .slice none 0 0, .int .i64 0, .int .i64 0, .int .i64 0] 27)).heap.size = w.heap.size + 2 := by simp
  have HL1 := hidOf hI.ints.len
  have HL2 := hidOf hI.grs.len
  have HCp := hidOf (l5Copy_any A x _ hC.ninX hn hn')
  have HC := hidOf hC
  have S1 := hidOf s1
  clear hC s1 hI
  go_enter Try.func39, Try.ntmps39
  go_wp2_with fail
  refine (HCp.out).mono ?_
  rintro e w1 ⟨a1, c1, a2, c2, rfl, hR, hb1⟩
  rw [S1.out] at hR
  have hC1 := HC.out.kp hb1
  have hS := nsr_new hR hC1.sz
  generalize hW2 : w1.alloc (.cells #[.bool x.pm, .slice a1 A.n c1, .slice a2 A.n' c2, .int .i64 x.on, .int .i64 x.sp, .int .i64 x.tk] 27) = W2
  have hb2 : Below w1.heap.size w1 W2 := by subst hW2; exact bl_alloc (Below.refl _ _) _
  simp only at hS
  rw [hW2] at hS
  have hC2 := hC1.kp hb2
  obtain ⟨_, p0, p1, p2, p3, p4, p5, _⟩ := id hC2.box0
  have HS := hidOf hS
  have HC2 := hidOf hC2
  clear hR hb1 hC1 hb2 hC2 hS HC HCp
  go_wp2_with fail
  refine (specNotifyOk_any A x _ HC2.out.ninX hn hn' hok).mono ?_
  rintro e w3 ⟨rfl, hb3⟩
  have hC := HC2.out.kp hb3
  have hS := HS.out.keep hb3
  clear p0 p1 p2 p3 p4 p5 hW2 hb3 HS HC2
  obtain ⟨A1, hA1⟩ : ∃ A1 : Na, A1 = ⟨a1, A.n, c1, a2, A.n', c2⟩ := ⟨_, rfl⟩
  rw [← hA1] at hS
  have hAn : A1.n = A.n ∧ A1.n' = A.n' := by rw [hA1]; exact ⟨rfl, rfl⟩
  have HAn := hidOf hAn
  clear hA1 hAn
  generalize hN : w1.heap.size = N at *
  clear hN
  obtain ⟨_, p0, p1, p2, p3, p4, p5, _⟩ := id hC.box0
  obtain ⟨_, z0, z1, z2, z3, z4, z5, zf⟩ := id hS.box
  have HC := hidOf hC
  have HS := hidOf hS
  have HIX := hidOf hC.ninX
  clear hC hS
  cases hokx : okN x
  · obtain ⟨_, r0, r1, r2, r3, r4, r5, rf⟩ := id HC.out.box1
    have HF := hidOf (nsr_fin (A' := A1) (y := x) HC.out HS.out.rows)
    have HR := hidOf (show awaitM x who = (x, 1) by unfold awaitM; rw [if_pos (.inl hokx)])
    clear HC HS hokx
    go_wp2
    refine bodyPost_ret (v := .tuple #[.agg #[.bool x.pm, .slice A1.a A1.n A1.c, .slice A1.a' A1.n' A1.c', .int .i64 x.on, .int .i64 x.sp, .int .i64 x.tk], .int .i64 1]) (by simp [results, Try.results39, go_sem, r0, r1, r2, r3, r4, r5]) rfl ?_
    rw [HR.out]
    exact ⟨A1, rfl, HF.out⟩
  · obtain ⟨k1, _, k3, k4, k5, k6, k7, k8⟩ := okN_parts hokx
    have HK8 := hidOf k8
    clear k8
    rw [HL1.out] at k3
    rw [HL2.out] at k4
    have HOK := hidOf hokx
    have HK1 := hidOf k1
    clear hokx k1
    go_wp2_with fail
    refine (client_any who _).mono ?_
    rintro e w4 ⟨rfl, rfl⟩
    cases hcl : clientL who
    · obtain ⟨_, r0, r1, r2, r3, r4, r5, rf⟩ := id HC.out.box1
      have HF := hidOf (nsr_fin (A' := A1) (y := x) HC.out HS.out.rows)
      have HR := hidOf (show awaitM x who = (x, 1) by unfold awaitM; rw [if_pos (.inr hcl)])
      clear HC HS hcl
      go_wp2
      refine bodyPost_ret (v := .tuple #[.agg #[.bool x.pm, .slice A1.a A1.n A1.c, .slice A1.a' A1.n' A1.c', .int .i64 x.on, .int .i64 x.sp, .int .i64 x.tk], .int .i64 1]) (by simp [results, Try.results39, go_sem, r0, r1, r2, r3, r4, r5]) rfl ?_
      rw [HR.out]
      exact ⟨A1, rfl, HF.out⟩
    · go_wp2_with fail
      refine (l2Has_any A.a A.n A.c x.ln who _ HIX.out.ints hn).mono ?_
      rintro e w5 ⟨rfl, rfl⟩
      cases hh1 : hasL x.ln who
      · go_wp2_with fail
        refine (l5At_any A.a' A.n' A.c' x.gs who _ HIX.out.grs hn').mono ?_
        rintro e w6 ⟨rfl, rfl⟩
        cases hh2 : hasL (whosL x.gs) who
        · rw [place_minus hh2]
          by_cases t1 : (1000000000 : Int) ≤ x.tk
          · obtain ⟨_, r0, r1, r2, r3, r4, r5, rf⟩ := id HC.out.box1
            have HF := hidOf (nsr_fin (A' := A1) (y := x) HC.out HS.out.rows)
            have HR := hidOf (show awaitM x who = (x, 2) by unfold awaitM; rw [if_neg (by rw [HOK.out, hcl]; simp), if_neg (by unfold toldL; rw [hh1, hh2]; simp), if_pos (.inl t1)])
            clear HC HS 
            go_wp2
            refine bodyPost_ret (v := .tuple #[.agg #[.bool x.pm, .slice A1.a A1.n A1.c, .slice A1.a' A1.n' A1.c', .int .i64 x.on, .int .i64 x.sp, .int .i64 x.tk], .int .i64 2]) (by simp [results, Try.results39, go_sem, r0, r1, r2, r3, r4, r5]) rfl ?_
            rw [HR.out]
            exact ⟨A1, rfl, HF.out⟩
          · cases hpm : x.pm
            · by_cases t3 : (32 : Int) ≤ (A.n : Int)
              · obtain ⟨_, r0, r1, r2, r3, r4, r5, rf⟩ := id HC.out.box1
                have HF := hidOf (nsr_fin (A' := A1) (y := x) HC.out HS.out.rows)
                have HR := hidOf (show awaitM x who = (x, 2) by unfold awaitM; rw [if_neg (by rw [HOK.out, hcl]; simp), if_neg (by unfold toldL; rw [hh1, hh2]; simp), if_pos (.inr ⟨hpm, by rw [HL1.out]; omega⟩)])
                clear HC HS 
                rw [hpm] at HF
                go_wp2
                refine bodyPost_ret (v := .tuple #[.agg #[.bool x.pm, .slice A1.a A1.n A1.c, .slice A1.a' A1.n' A1.c', .int .i64 x.on, .int .i64 x.sp, .int .i64 x.tk], .int .i64 2]) (by simp [results, Try.results39, go_sem, r0, r1, r2, r3, r4, r5, hpm]) rfl ?_
                rw [HR.out]
                exact ⟨A1, rfl, HF.out⟩
              · have hf : ¬ (1000000000 ≤ x.tk ∨ x.pm = false ∧ 32 ≤ x.ln.length) := by rw [HL1.out]; rintro (h | ⟨_, h⟩) <;> omega
                obtain ⟨g', c', w', hr, ho', hg, hl⟩ := append_own1 (w.heap.size + 2) A1.n _ x.ln who w6 HS.out.rows.one HC.out.sz (by have := HAn.out; omega)
                obtain ⟨hbx, hS2⟩ := HS.out.join ho' hg hl
                have hCg : Below (w.heap.size + 2) w6 (w'.setCell ⟨N, 1, none⟩ (.slice (some ⟨g', 0, none⟩) (A1.n + 1) c')) := bl_set1' ((Below.refl _ _).grown hg HC.out.sz (fun q e => (HS.out.rows.one.lt q e).1)) N 1 HS.out.ge _
                have hC2 := HC.out.keep hCg (Nat.le_refl _)
                obtain ⟨_, u0, u1, u2, u3, u4, u5, uf⟩ := id hbx
                obtain ⟨_, y0, y1, y2, y3, y4, y5, yf⟩ := id hS2.box
                simp only at y0 y1 y2 y3 y4 y5
                have HRes := hidOf (show awaitM x who = ({ x with ln := x.ln ++ [who] }, 4) by unfold awaitM; rw [if_neg (by rw [HOK.out, hcl]; simp), if_neg (by unfold toldL; rw [hh1, hh2]; simp), if_neg hf, if_neg (by rw [hpm]; simp)])
                have Hr := hidOf hr
                have dq : ∀ o, (w6.alloc o).cell? ⟨N, 1, none⟩ = some (.slice A1.a A1.n A1.c) := fun o => by rw [World.cell?_alloc_old _ _ _ (Nat.ne_of_lt (World.block_lt_of_cell? w6 _ z1))]; exact z1
                obtain ⟨_, r0, r1, r2, r3, r4, r5, rf⟩ := id hC2.box1
                have HF := hidOf (nsr_fin (A' := ⟨some ⟨g', 0, none⟩, A1.n + 1, c', A1.a', A1.n', A1.c'⟩) (y := { x with ln := x.ln ++ [who] }) hC2 hS2.rows)
                have HR := hidOf (HRes.out)
                clear HC HS hS2 hC2 hCg hbx hr ho' hg hl HRes hf
                simp only at HF
                rw [hpm] at HF
                go_wp2_with (at_builtin; refine wpList_append_run rfl _ _ 24 rfl _ _ _ rfl rfl Hr.out ?_)
                refine bodyPost_ret (v := .tuple #[.agg #[.bool x.pm, .slice (some ⟨g', 0, none⟩) (A1.n + 1) c', .slice A1.a' A1.n' A1.c', .int .i64 x.on, .int .i64 x.sp, .int .i64 x.tk], .int .i64 4]) (by simp [results, Try.results39, go_sem, r0, r1, r2, r3, r4, r5, hpm]) rfl ?_
                rw [HR.out]
                exact ⟨⟨some ⟨g', 0, none⟩, A1.n + 1, c', A1.a', A1.n', A1.c'⟩, rfl, by simp only; rw [hpm]; exact HF.out⟩
            · have hS2 := HS.out.setc (y := { x with pm := false }) 0 (.bool false) (HS.out.box.set0 (b := false)) rfl rfl
              have hS3 := hS2.setc (y := { x with pm := false, tk := x.tk + 1 }) 5 (.int .i64 (x.tk + 1)) (hS2.box.set5 (v := x.tk + 1)) rfl rfl
              have hC3 := HC.out.keep (HS.out.below (HS.out.below (Below.refl (w.heap.size + 2) w6) 0 (.bool false)) 5 (.int .i64 (x.tk + 1))) (Nat.le_refl _)
              obtain ⟨_, v0, v1, v2, v3, v4, v5, vf⟩ := id hS2.box
              obtain ⟨_, y0, y1, y2, y3, y4, y5, yf⟩ := id hS3.box
              simp only at v0 v1 v2 v3 v4 v5 y0 y1 y2 y3 y4 y5
              have HRes := hidOf (show awaitM x who = ({ x with pm := false, tk := x.tk + 1 }, 0) by unfold awaitM; rw [if_neg (by rw [HOK.out, hcl]; simp), if_neg (by unfold toldL; rw [hh1, hh2]; simp), if_neg (by rw [hpm]; simp; omega), if_pos hpm])
              obtain ⟨_, r0, r1, r2, r3, r4, r5, rf⟩ := id hC3.box1
              have HF := hidOf (nsr_fin (A' := A1) (y := { x with pm := false, tk := x.tk + 1 }) hC3 hS3.rows)
              have HR := hidOf (HRes.out)
              clear HC HS hS2 hS3 hC3 HRes
              go_wp2
              refine bodyPost_ret (v := .tuple #[.agg #[.bool false, .slice A1.a A1.n A1.c, .slice A1.a' A1.n' A1.c', .int .i64 x.on, .int .i64 x.sp, .int .i64 (x.tk + 1)], .int .i64 0]) (by simp [results, Try.results39, go_sem, r0, r1, r2, r3, r4, r5]) rfl ?_
              rw [HR.out]
              exact ⟨A1, rfl, HF.out⟩
        · obtain ⟨pk, _, hpk⟩ := place_bound hh2
          rw [hpk]
          have hp' : ¬ (pk : Int) < 0 := by omega
          clear hpk
          obtain ⟨_, r0, r1, r2, r3, r4, r5, rf⟩ := id HC.out.box1
          have HF := hidOf (nsr_fin (A' := A1) (y := x) HC.out HS.out.rows)
          have HR := hidOf (show awaitM x who = (x, 5) by unfold awaitM toldL; rw [if_neg (by rw [HOK.out, hcl]; simp), if_pos (.inr hh2)])
          clear HC HS
          go_wp2
          refine bodyPost_ret (v := .tuple #[.agg #[.bool x.pm, .slice A1.a A1.n A1.c, .slice A1.a' A1.n' A1.c', .int .i64 x.on, .int .i64 x.sp, .int .i64 x.tk], .int .i64 5]) (by simp [results, Try.results39, go_sem, r0, r1, r2, r3, r4, r5]) rfl ?_
          rw [HR.out]
          exact ⟨A1, rfl, HF.out⟩
      · obtain ⟨_, r0, r1, r2, r3, r4, r5, rf⟩ := id HC.out.box1
        have HF := hidOf (nsr_fin (A' := A1) (y := x) HC.out HS.out.rows)
        have HR := hidOf (show awaitM x who = (x, 5) by unfold awaitM toldL; rw [if_neg (by rw [HOK.out, hcl]; simp), if_pos (.inl hh1)])
        clear HC HS
        go_wp2
        refine bodyPost_ret (v := .tuple #[.agg #[.bool x.pm, .slice A1.a A1.n A1.c, .slice A1.a' A1.n' A1.c', .int .i64 x.on, .int .i64 x.sp, .int .i64 x.tk], .int .i64 5]) (by simp [results, Try.results39, go_sem, r0, r1, r2, r3, r4, r5]) rfl ?_
        rw [HR.out]
        exact ⟨A1, rfl, HF.out⟩
end Go.Proofs.Ytfgknbflgmblmaa
