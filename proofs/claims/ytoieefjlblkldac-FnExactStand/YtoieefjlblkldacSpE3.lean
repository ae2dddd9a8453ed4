/-
  Walks of the specification's events: who stands at one.
-/
import Derived.Test.YtoieefjlblkldacSpE
namespace Go.Proofs.Ytoieefjlblkldac
open Go.RowKit Pl Il

set_option maxRecDepth 100000 in
set_option maxHeartbeats 2000000 in
theorem specStand_any (A : Na) (x : Et) (who : Int) (w : World) (hI : EIn w A x) (hn : A.n ≤ 2097152) (hn' : A.n' ≤ 2097152) (hok : A.ok) :
    Calls Try.prog 16 #[.agg #[.bool x.au, .bool x.up, .slice A.a A.n A.c, .slice A.a' A.n' A.c', .int .i64 x.st, .int .i64 x.sp, .int .i64 x.tk], .int .i64 who] w fun e w' => EOutP w (standM x who).1 [.int .i64 (standM x who).2] e w' := by
  obtain ⟨au, up, ln, gs, st, sp, tk⟩ := x
  have hC := ectx_new hI
  have s1 : ((w.alloc (.cells #[.bool au, .bool up, .slice A.a A.n A.c, .slice A.a' A.n' A.c', .int .i64 st, .int .i64 sp, .int .i64 tk] 26)).alloc (.cells #[.bool false, .bool false, .slice none 0 0, .slice none 0 0, .int .i64 0, .int .i64 0, .int .i64 0] 26)).heap.size = w.heap.size + 2 := by simp
  have HL1 := hidOf hI.ints.len
  have HL2 := hidOf hI.grs.len
  have HCp := hidOf (l6Copy_any A ⟨au, up, ln, gs, st, sp, tk⟩ _ hC.ninX hn hn')
  have HC := hidOf hC
  have S1 := hidOf s1
  simp only at HL1 HL2
  clear hC s1 hI
  go_enter Try.func16, Try.ntmps16
  go_wp2_with fail
  refine (HCp.out).mono ?_
  rintro e w1 ⟨A1, rfl, hR, hb1⟩
  rw [S1.out] at hR
  have hC1 := HC.out.kp hb1
  have hS := est_new (x := ⟨au, up, ln, gs, st, sp, tk⟩) hR hC1.sz
  generalize hW2 : w1.alloc (.cells #[.bool au, .bool up, .slice A1.a A1.n A1.c, .slice A1.a' A1.n' A1.c', .int .i64 st, .int .i64 sp, .int .i64 tk] 26) = W2 at hS
  have hb2 : Below w1.heap.size w1 W2 := by subst hW2; exact bl_alloc (Below.refl _ _) _
  have hC2 := hC1.kp hb2
  obtain ⟨_, p0, p1, p2, p3, p4, p5, p6, _⟩ := id hC2.box0
  have HS := hidOf hS
  have HC2 := hidOf hC2
  clear hR hb1 hC1 hb2 hC2 hS HC HCp
  go_wp2_with fail
  refine (specEventOk_any A ⟨au, up, ln, gs, st, sp, tk⟩ _ HC2.out.ninX hn hn' hok).mono ?_
  rintro e w3 ⟨rfl, hb3⟩
  have hC := HC2.out.kp hb3
  have hS := HS.out.keep hb3
  clear p0 p1 p2 p3 p4 p5 p6 hW2 hb3 HS HC2
  generalize hN : w1.heap.size = N at *
  clear hN
  obtain ⟨_, p0, p1, p2, p3, p4, p5, p6, _⟩ := id hC.box0
  obtain ⟨_, z0, z1, z2, z3, z4, z5, z6, zf⟩ := id hS.box
  simp only at p0 p1 p2 p3 p4 p5 p6 z0 z1 z2 z3 z4 z5 z6
  have HC := hidOf hC
  have HS := hidOf hS
  have HIX := hidOf hC.ninX
  clear hC hS
  cases hokx : okE ⟨au, up, ln, gs, st, sp, tk⟩
  · obtain ⟨_, r0, r1, r2, r3, r4, r5, r6, rf⟩ := id HC.out.box1
    have HF := hidOf (est_fin (A' := A1) (y := ⟨au, up, ln, gs, st, sp, tk⟩) HC.out HS.out.rows)
    have HR := hidOf (show standM ⟨au, up, ln, gs, st, sp, tk⟩ who = (⟨au, up, ln, gs, st, sp, tk⟩, 1) by unfold standM; rw [if_pos (.inl hokx)])
    clear HC hokx HS
    go_wp2
    refine bodyPost_ret (v := .tuple #[.agg #[.bool au, .bool up, .slice A1.a A1.n A1.c, .slice A1.a' A1.n' A1.c', .int .i64 st, .int .i64 sp, .int .i64 tk], .int .i64 1]) (by simp [results, Try.results16, go_sem, r0, r1, r2, r3, r4, r5, r6]) rfl ?_
    rw [HR.out]
    exact ⟨A1, rfl, HF.out⟩
  · have hbo := okE_parts hokx
    simp only at hbo
    have HBo := hidOf hbo
    clear hbo
    go_wp2_with fail
    refine (client_any who _).mono ?_
    rintro e w4 ⟨rfl, rfl⟩
    cases hcl : clientL who
    · obtain ⟨_, r0, r1, r2, r3, r4, r5, r6, rf⟩ := id HC.out.box1
      have HF := hidOf (est_fin (A' := A1) (y := ⟨au, up, ln, gs, st, sp, tk⟩) HC.out HS.out.rows)
      have HR := hidOf (show standM ⟨au, up, ln, gs, st, sp, tk⟩ who = (⟨au, up, ln, gs, st, sp, tk⟩, 1) by unfold standM; rw [if_pos (.inr hcl)])
      clear HC hokx hcl HS HBo HIX
      go_wp2
      refine bodyPost_ret (v := .tuple #[.agg #[.bool au, .bool up, .slice A1.a A1.n A1.c, .slice A1.a' A1.n' A1.c', .int .i64 st, .int .i64 sp, .int .i64 tk], .int .i64 1]) (by simp [results, Try.results16, go_sem, r0, r1, r2, r3, r4, r5, r6]) rfl ?_
      rw [HR.out]
      exact ⟨A1, rfl, HF.out⟩
    · have hn1 : ¬ (okE ⟨au, up, ln, gs, st, sp, tk⟩ = false ∨ clientL who = false) := by rw [hokx, hcl]; simp
      clear hokx hcl
      go_wp2_with fail
      refine (l2Has_any A.a A.n A.c ln who _ HIX.out.ints hn).mono ?_
      rintro e w5 ⟨rfl, rfl⟩
      cases hh1 : hasL ln who
      · go_wp2_with fail
        refine (l2Has_any A.a' A.n' A.c' gs who _ HIX.out.grs hn').mono ?_
        rintro e w6 ⟨rfl, rfl⟩
        cases hh2 : hasL gs who
        · have hn2 : ¬ (hasL ln who = true ∨ hasL gs who = true) := by rw [hh1, hh2]; simp
          clear hh1 hh2
          cases au
          · cases up
            · have hl32 : ln.length ≤ 32 := HBo.out.1.2.2.1
              by_cases h32 : ln.length = 32
              · have h32' : (32 : Int) ≤ (A.n : Int) := by have := HL1.out; omega
                obtain ⟨_, r0, r1, r2, r3, r4, r5, r6, rf⟩ := id HC.out.box1
                have HF := hidOf (est_fin (A' := A1) (y := ⟨false, false, ln, gs, st, sp, tk⟩) HC.out HS.out.rows)
                have HR := hidOf (show standM ⟨false, false, ln, gs, st, sp, tk⟩ who = (⟨false, false, ln, gs, st, sp, tk⟩, 2) by unfold standM; rw [if_neg hn1, if_neg hn2, if_pos (.inr ⟨rfl, by simp only; omega⟩)])
                clear HC hn1 hn2 h32 hl32 HS HBo HIX
                go_wp2
                refine bodyPost_ret (v := .tuple #[.agg #[.bool false, .bool false, .slice A1.a A1.n A1.c, .slice A1.a' A1.n' A1.c', .int .i64 st, .int .i64 sp, .int .i64 tk], .int .i64 2]) (by simp [results, Try.results16, go_sem, r0, r1, r2, r3, r4, r5, r6]) rfl ?_
                rw [HR.out]
                exact ⟨A1, rfl, HF.out⟩
              · have h32' : ¬ (32 : Int) ≤ (A.n : Int) := by have := HL1.out; omega
                have HR0 := hidOf (show standM ⟨false, false, ln, gs, st, sp, tk⟩ who = (⟨false, false, ln ++ [who], gs, st, sp, tk⟩, 4) by unfold standM; rw [if_neg hn1, if_neg hn2, if_neg (by rintro (hh | hh); cases hh.1; exact h32 (by have h9 : 32 ≤ ln.length := hh.2; omega)), if_neg (by simp)])
                obtain ⟨g', c', w', hr, ho', hg, hl⟩ := append_own1 (w.heap.size + 2) A1.n _ ln who w6 HS.out.rows.one HC.out.sz (by have h7 := HS.out.rows.len.1; have h8 := HL1.out; simp only at h7; omega)
                have hlt := HS.out.box.lt
                have hsz := hg.size
                have hbx : EBox N A1 ⟨false, false, ln, gs, st, sp, tk⟩ w' := HS.out.box.grownO hg HS.out.ne1
                have hneb : (Value.slice (some ⟨g', 0, none⟩) (A1.n + 1) c').ownBlock ≠ some N := fun e => by
                  have e' : g' = N := by simpa [Value.ownBlock] using e
                  rcases hl with hl | hl
                  · exact HS.out.ne1 (by rw [hl, e'])
                  · omega
                have htwo := row_grown HS.out.rows.two hg (fun q e => HS.out.rows.ne q e)
                have hn3 : ∀ q, (Value.slice (some ⟨g', 0, none⟩) (A1.n + 1) c').ownBlock = some q → (Value.slice A1.a' A1.n' A1.c').ownBlock ≠ some q := fun q e e2 => by
                  have e' : g' = q := by simpa [Value.ownBlock] using e
                  subst e'
                  rcases hl with hl | hl
                  · exact HS.out.rows.ne _ hl e2
                  · have := (HS.out.rows.two.lt _ e2).2; omega
                have hRw : Rows2 (w.heap.size + 2) (w'.setCell ⟨N, 2, none⟩ (.slice (some ⟨g', 0, none⟩) (A1.n + 1) c')) ⟨some ⟨g', 0, none⟩, A1.n + 1, c', A1.a', A1.n', A1.c'⟩ (ln ++ [who]) gs := ⟨row_set ho' N 2 hneb _, row_set htwo N 2 HS.out.ne2 _, hn3⟩
                have hCw : ECtx w A ⟨false, false, ln, gs, st, sp, tk⟩ (w'.setCell ⟨N, 2, none⟩ (.slice (some ⟨g', 0, none⟩) (A1.n + 1) c')) := HC.out.keep (B := w.heap.size + 2) (bl_set1 ((Below.refl _ _).grown hg HC.out.sz (fun q e => (HS.out.rows.one.lt q e).1)) N 2 HS.out.ge _) (Nat.le_refl _)
                obtain ⟨_, y0, y1, y2, y3, y4, y5, y6, yf⟩ := id hbx
                obtain ⟨_, v0, v1, v2, v3, v4, v5, v6, vf⟩ := hbx.set2 (a := some ⟨g', 0, none⟩) (n := A1.n + 1) (c := c')
                have HF := hidOf (est_fin (y := ⟨false, false, ln ++ [who], gs, st, sp, tk⟩) hCw hRw)
                obtain ⟨_, r0, r1, r2, r3, r4, r5, r6, rf⟩ := id hCw.box1
                have Hr := hidOf hr
                simp only at y0 y1 y2 y3 y4 y5 y6 v0 v1 v2 v3 v4 v5 v6
                clear h32 hl32 hbx hneb htwo hn3 hRw hCw hr ho' hg hl hlt hsz hn1 hn2 HC HS
                go_wp2_with (at_builtin; refine wpList_append_run rfl _ _ 22 rfl _ _ _ rfl rfl Hr.out ?_)
                refine bodyPost_ret (v := .tuple #[.agg #[.bool false, .bool false, .slice (⟨some ⟨g', 0, none⟩, A1.n + 1, c', A1.a', A1.n', A1.c'⟩ : Na).a (⟨some ⟨g', 0, none⟩, A1.n + 1, c', A1.a', A1.n', A1.c'⟩ : Na).n (⟨some ⟨g', 0, none⟩, A1.n + 1, c', A1.a', A1.n', A1.c'⟩ : Na).c, .slice (⟨some ⟨g', 0, none⟩, A1.n + 1, c', A1.a', A1.n', A1.c'⟩ : Na).a' (⟨some ⟨g', 0, none⟩, A1.n + 1, c', A1.a', A1.n', A1.c'⟩ : Na).n' (⟨some ⟨g', 0, none⟩, A1.n + 1, c', A1.a', A1.n', A1.c'⟩ : Na).c', .int .i64 st, .int .i64 sp, .int .i64 tk], .int .i64 4]) (by simp [results, Try.results16, go_sem, r0, r1, r2, r3, r4, r5, r6]) rfl ?_
                rw [HR0.out]
                exact ⟨(⟨some ⟨g', 0, none⟩, A1.n + 1, c', A1.a', A1.n', A1.c'⟩ : Na), rfl, HF.out⟩
            · obtain ⟨_, r0, r1, r2, r3, r4, r5, r6, rf⟩ := id HC.out.box1
              have HF := hidOf (est_fin (A' := A1) (y := ⟨false, true, ln, gs, st, sp, tk⟩) HC.out HS.out.rows)
              have HR := hidOf (show standM ⟨false, true, ln, gs, st, sp, tk⟩ who = (⟨false, true, ln, gs, st, sp, tk⟩, 0) by unfold standM; rw [if_neg hn1, if_neg hn2, if_neg (by rintro (hh | hh); cases hh.1; cases hh.1), if_pos rfl, if_neg (by simp)])
              clear HC hn1 hn2 HS HBo HIX
              go_wp2
              refine bodyPost_ret (v := .tuple #[.agg #[.bool false, .bool true, .slice A1.a A1.n A1.c, .slice A1.a' A1.n' A1.c', .int .i64 st, .int .i64 sp, .int .i64 tk], .int .i64 0]) (by simp [results, Try.results16, go_sem, r0, r1, r2, r3, r4, r5, r6]) rfl ?_
              rw [HR.out]
              exact ⟨A1, rfl, HF.out⟩
          · have htk := HBo.out.2.2.2.1
            by_cases h : (1000000000 : Int) ≤ tk
            · obtain ⟨_, r0, r1, r2, r3, r4, r5, r6, rf⟩ := id HC.out.box1
              have HF := hidOf (est_fin (A' := A1) (y := ⟨true, up, ln, gs, st, sp, tk⟩) HC.out HS.out.rows)
              have HR := hidOf (show standM ⟨true, up, ln, gs, st, sp, tk⟩ who = (⟨true, up, ln, gs, st, sp, tk⟩, 2) by unfold standM; rw [if_neg hn1, if_neg hn2, if_pos (.inl ⟨rfl, h⟩)])
              clear HC hn1 hn2 HS HBo HIX
              go_wp2
              refine bodyPost_ret (v := .tuple #[.agg #[.bool true, .bool up, .slice A1.a A1.n A1.c, .slice A1.a' A1.n' A1.c', .int .i64 st, .int .i64 sp, .int .i64 tk], .int .i64 2]) (by simp [results, Try.results16, go_sem, r0, r1, r2, r3, r4, r5, r6]) rfl ?_
              rw [HR.out]
              exact ⟨A1, rfl, HF.out⟩
            · cases up
              · have hl32 : ln.length ≤ 32 := HBo.out.1.2.2.1
                by_cases h32 : ln.length = 32
                · have h32' : (32 : Int) ≤ (A.n : Int) := by have := HL1.out; omega
                  obtain ⟨_, r0, r1, r2, r3, r4, r5, r6, rf⟩ := id HC.out.box1
                  have HF := hidOf (est_fin (A' := A1) (y := ⟨true, false, ln, gs, st, sp, tk⟩) HC.out HS.out.rows)
                  have HR := hidOf (show standM ⟨true, false, ln, gs, st, sp, tk⟩ who = (⟨true, false, ln, gs, st, sp, tk⟩, 2) by unfold standM; rw [if_neg hn1, if_neg hn2, if_pos (.inr ⟨rfl, by simp only; omega⟩)])
                  clear HC hn1 hn2 h32 hl32 HS HBo HIX
                  go_wp2
                  refine bodyPost_ret (v := .tuple #[.agg #[.bool true, .bool false, .slice A1.a A1.n A1.c, .slice A1.a' A1.n' A1.c', .int .i64 st, .int .i64 sp, .int .i64 tk], .int .i64 2]) (by simp [results, Try.results16, go_sem, r0, r1, r2, r3, r4, r5, r6]) rfl ?_
                  rw [HR.out]
                  exact ⟨A1, rfl, HF.out⟩
                · have h32' : ¬ (32 : Int) ≤ (A.n : Int) := by have := HL1.out; omega
                  have HR0 := hidOf (show standM ⟨true, false, ln, gs, st, sp, tk⟩ who = (⟨true, false, ln ++ [who], gs, st, sp, tk⟩, 4) by unfold standM; rw [if_neg hn1, if_neg hn2, if_neg (by rintro (hh | hh); exact h hh.2; exact h32 (by have h9 : 32 ≤ ln.length := hh.2; omega)), if_neg (by simp)])
                  obtain ⟨g', c', w', hr, ho', hg, hl⟩ := append_own1 (w.heap.size + 2) A1.n _ ln who w6 HS.out.rows.one HC.out.sz (by have h7 := HS.out.rows.len.1; have h8 := HL1.out; simp only at h7; omega)
                  have hlt := HS.out.box.lt
                  have hsz := hg.size
                  have hbx : EBox N A1 ⟨true, false, ln, gs, st, sp, tk⟩ w' := HS.out.box.grownO hg HS.out.ne1
                  have hneb : (Value.slice (some ⟨g', 0, none⟩) (A1.n + 1) c').ownBlock ≠ some N := fun e => by
                    have e' : g' = N := by simpa [Value.ownBlock] using e
                    rcases hl with hl | hl
                    · exact HS.out.ne1 (by rw [hl, e'])
                    · omega
                  have htwo := row_grown HS.out.rows.two hg (fun q e => HS.out.rows.ne q e)
                  have hn3 : ∀ q, (Value.slice (some ⟨g', 0, none⟩) (A1.n + 1) c').ownBlock = some q → (Value.slice A1.a' A1.n' A1.c').ownBlock ≠ some q := fun q e e2 => by
                    have e' : g' = q := by simpa [Value.ownBlock] using e
                    subst e'
                    rcases hl with hl | hl
                    · exact HS.out.rows.ne _ hl e2
                    · have := (HS.out.rows.two.lt _ e2).2; omega
                  have hRw : Rows2 (w.heap.size + 2) (w'.setCell ⟨N, 2, none⟩ (.slice (some ⟨g', 0, none⟩) (A1.n + 1) c')) ⟨some ⟨g', 0, none⟩, A1.n + 1, c', A1.a', A1.n', A1.c'⟩ (ln ++ [who]) gs := ⟨row_set ho' N 2 hneb _, row_set htwo N 2 HS.out.ne2 _, hn3⟩
                  have hCw : ECtx w A ⟨true, false, ln, gs, st, sp, tk⟩ (w'.setCell ⟨N, 2, none⟩ (.slice (some ⟨g', 0, none⟩) (A1.n + 1) c')) := HC.out.keep (B := w.heap.size + 2) (bl_set1 ((Below.refl _ _).grown hg HC.out.sz (fun q e => (HS.out.rows.one.lt q e).1)) N 2 HS.out.ge _) (Nat.le_refl _)
                  obtain ⟨_, y0, y1, y2, y3, y4, y5, y6, yf⟩ := id hbx
                  obtain ⟨_, v0, v1, v2, v3, v4, v5, v6, vf⟩ := hbx.set2 (a := some ⟨g', 0, none⟩) (n := A1.n + 1) (c := c')
                  have HF := hidOf (est_fin (y := ⟨true, false, ln ++ [who], gs, st, sp, tk⟩) hCw hRw)
                  obtain ⟨_, r0, r1, r2, r3, r4, r5, r6, rf⟩ := id hCw.box1
                  have Hr := hidOf hr
                  simp only at y0 y1 y2 y3 y4 y5 y6 v0 v1 v2 v3 v4 v5 v6
                  clear h32 hl32 hbx hneb htwo hn3 hRw hCw hr ho' hg hl hlt hsz hn1 hn2 HC HS
                  go_wp2_with (at_builtin; refine wpList_append_run rfl _ _ 22 rfl _ _ _ rfl rfl Hr.out ?_)
                  refine bodyPost_ret (v := .tuple #[.agg #[.bool true, .bool false, .slice (⟨some ⟨g', 0, none⟩, A1.n + 1, c', A1.a', A1.n', A1.c'⟩ : Na).a (⟨some ⟨g', 0, none⟩, A1.n + 1, c', A1.a', A1.n', A1.c'⟩ : Na).n (⟨some ⟨g', 0, none⟩, A1.n + 1, c', A1.a', A1.n', A1.c'⟩ : Na).c, .slice (⟨some ⟨g', 0, none⟩, A1.n + 1, c', A1.a', A1.n', A1.c'⟩ : Na).a' (⟨some ⟨g', 0, none⟩, A1.n + 1, c', A1.a', A1.n', A1.c'⟩ : Na).n' (⟨some ⟨g', 0, none⟩, A1.n + 1, c', A1.a', A1.n', A1.c'⟩ : Na).c', .int .i64 st, .int .i64 sp, .int .i64 tk], .int .i64 4]) (by simp [results, Try.results16, go_sem, r0, r1, r2, r3, r4, r5, r6]) rfl ?_
                  rw [HR0.out]
                  exact ⟨(⟨some ⟨g', 0, none⟩, A1.n + 1, c', A1.a', A1.n', A1.c'⟩ : Na), rfl, HF.out⟩
              · have HR0 := hidOf (show standM ⟨true, true, ln, gs, st, sp, tk⟩ who = (⟨true, false, ln, gs, st, sp, tk + 1⟩, 0) by unfold standM; rw [if_neg hn1, if_neg hn2, if_neg (by rintro (hh | hh); exact h hh.2; cases hh.1), if_pos rfl, if_pos rfl])
                clear hn1 hn2
                have hS2 := HS.out.setc (y := ⟨true, false, ln, gs, st, sp, tk⟩) 1 (.bool false) (HS.out.box.set1 (v := false)) rfl rfl
                have hC2 := HC.out.keep (B := w.heap.size + 2) (bl_set1 (Below.refl _ _) N 1 HS.out.ge (.bool false)) (Nat.le_refl _)
                obtain ⟨_, up0, up1, up2, up3, up4, up5, up6, upf⟩ := id hS2.box
                have HC2 := hidOf hC2
                have HS2 := hidOf hS2
                clear HC HS hC2 hS2
                have HC := HC2
                have HS := HS2
                clear HC2 HS2
                simp only at up0 up1 up2 up3 up4 up5 up6
                have hS2 := HS.out.setc (y := ⟨true, false, ln, gs, st, sp, tk + 1⟩) 6 (.int .i64 (tk + 1)) (HS.out.box.set6 (v := tk + 1)) rfl rfl
                have hC2 := HC.out.keep (B := w.heap.size + 2) (bl_set1 (Below.refl _ _) N 6 HS.out.ge (.int .i64 (tk + 1))) (Nat.le_refl _)
                obtain ⟨_, tk0, tk1, tk2, tk3, tk4, tk5, tk6, tkf⟩ := id hS2.box
                have HC2 := hidOf hC2
                have HS2 := hidOf hS2
                clear HC HS hC2 hS2
                have HC := HC2
                have HS := HS2
                clear HC2 HS2
                simp only at tk0 tk1 tk2 tk3 tk4 tk5 tk6
                obtain ⟨_, r0, r1, r2, r3, r4, r5, r6, rf⟩ := id HC.out.box1
                have HF := hidOf (est_fin (A' := A1) (y := ⟨true, false, ln, gs, st, sp, tk + 1⟩) HC.out HS.out.rows)
                have HR := hidOf (HR0.out)
                clear HC HS HR0 HBo HIX
                go_wp2
                refine bodyPost_ret (v := .tuple #[.agg #[.bool true, .bool false, .slice A1.a A1.n A1.c, .slice A1.a' A1.n' A1.c', .int .i64 st, .int .i64 sp, .int .i64 (tk + 1)], .int .i64 0]) (by simp [results, Try.results16, go_sem, r0, r1, r2, r3, r4, r5, r6]) rfl ?_
                rw [HR.out]
                exact ⟨A1, rfl, HF.out⟩
        · obtain ⟨_, r0, r1, r2, r3, r4, r5, r6, rf⟩ := id HC.out.box1
          have HF := hidOf (est_fin (A' := A1) (y := ⟨au, up, ln, gs, st, sp, tk⟩) HC.out HS.out.rows)
          have HR := hidOf (show standM ⟨au, up, ln, gs, st, sp, tk⟩ who = (⟨au, up, ln, gs, st, sp, tk⟩, 5) by unfold standM; rw [if_neg hn1, if_pos (.inr hh2)])
          clear HC hn1 HS HBo HIX
          go_wp2
          refine bodyPost_ret (v := .tuple #[.agg #[.bool au, .bool up, .slice A1.a A1.n A1.c, .slice A1.a' A1.n' A1.c', .int .i64 st, .int .i64 sp, .int .i64 tk], .int .i64 5]) (by simp [results, Try.results16, go_sem, r0, r1, r2, r3, r4, r5, r6]) rfl ?_
          rw [HR.out]
          exact ⟨A1, rfl, HF.out⟩
      · obtain ⟨_, r0, r1, r2, r3, r4, r5, r6, rf⟩ := id HC.out.box1
        have HF := hidOf (est_fin (A' := A1) (y := ⟨au, up, ln, gs, st, sp, tk⟩) HC.out HS.out.rows)
        have HR := hidOf (show standM ⟨au, up, ln, gs, st, sp, tk⟩ who = (⟨au, up, ln, gs, st, sp, tk⟩, 5) by unfold standM; rw [if_neg hn1, if_pos (.inl hh1)])
        clear HC hn1 HS HBo HIX
        go_wp2
        refine bodyPost_ret (v := .tuple #[.agg #[.bool au, .bool up, .slice A1.a A1.n A1.c, .slice A1.a' A1.n' A1.c', .int .i64 st, .int .i64 sp, .int .i64 tk], .int .i64 5]) (by simp [results, Try.results16, go_sem, r0, r1, r2, r3, r4, r5, r6]) rfl ?_
        rw [HR.out]
        exact ⟨A1, rfl, HF.out⟩
end Go.Proofs.Ytoieefjlblkldac
