/-
  Walks of the specification's events: one is reset, who stands at one, who goes on.
-/
import Derived.Test.YtbhdjcggcgddfaaSpE
namespace Go.Proofs.Ytbhdjcggcgddfaa
open Go.RowKit Pl Il

set_option maxRecDepth 100000 in
set_option maxHeartbeats 2000000 in
theorem specGoOn_any (A : Na) (x : Et) (who : Int) (w : World) (hI : EIn w A x) (hn : A.n ≤ 2097152) (hn' : A.n' ≤ 2097152) (hok : A.ok) :
    Calls Try.prog 57 #[.agg #[.bool x.au, .bool x.up, .slice A.a A.n A.c, .slice A.a' A.n' A.c', .int .i64 x.st, .int .i64 x.sp, .int .i64 x.tk], .int .i64 who] w fun e w' => EOutP w (goOnM x who).1 [.int .i64 (goOnM x who).2] e w' := by
  obtain ⟨au, up, ln, gs, st, sp, tk⟩ := x
  have hC := ectx_new hI
  have s1 : ((w.alloc (.cells #[.bool au, .bool up, .slice A.a A.n A.c, .slice A.a' A.n' A.c', .int .i64 st, .int .i64 sp, .int .i64 tk] 46)).alloc (.cells #[.bool false, .bool false, .slice none 0 0, .slice none 0 0, .int .i64 0, .int .i64 0, .int .i64 0] 46)).heap.size = w.heap.size + 2 := by simp
  have HL1 := hidOf hI.ints.len
  have HL2 := hidOf hI.grs.len
  have HCp := hidOf (l6Copy_any A ⟨au, up, ln, gs, st, sp, tk⟩ _ hC.ninX hn hn')
  have HC := hidOf hC
  have S1 := hidOf s1
  simp only at HL1 HL2
  clear hC s1 hI
  go_enter Try.func57, Try.ntmps57
  go_wp2_with fail
  refine (HCp.out).mono ?_
  rintro e w1 ⟨A1, rfl, hR, hb1⟩
  rw [S1.out] at hR
  have hC1 := HC.out.kp hb1
  have hS := est_new (x := ⟨au, up, ln, gs, st, sp, tk⟩) hR hC1.sz
  generalize hW2 : w1.alloc (.cells #[.bool au, .bool up, .slice A1.a A1.n A1.c, .slice A1.a' A1.n' A1.c', .int .i64 st, .int .i64 sp, .int .i64 tk] 46) = W2 at hS
  have hb2 : Below w1.heap.size w1 W2 := by subst hW2; exact bl_alloc (Below.refl _ _) _
  have hC2 := hC1.kp hb2
  obtain ⟨_, p0, p1, p2, p3, p4, p5, p6, _⟩ := id hC2.box0
  have HS := hidOf hS
  have HC2 := hidOf hC2
  clear hR hb1 hC1 hb2 hC2 hS HC HCp
  go_wp2_with fail
  refine (specEventOk_any A ⟨au, up, ln, gs, st, sp, tk⟩ _ HC2.out.ninX hn hn' hok).mono ?_
  rintro e w3 ⟨rfl, hb3⟩
  have hC := HC2.out.kp hb3
  have hS := HS.out.keep hb3
  clear p0 p1 p2 p3 p4 p5 p6 hW2 hb3 HS HC2
  generalize hN : w1.heap.size = N at *
  clear hN
  obtain ⟨_, p0, p1, p2, p3, p4, p5, p6, _⟩ := id hC.box0
  obtain ⟨_, z0, z1, z2, z3, z4, z5, z6, zf⟩ := id hS.box
  simp only at p0 p1 p2 p3 p4 p5 p6 z0 z1 z2 z3 z4 z5 z6
  have HC := hidOf hC
  have HS := hidOf hS
  have HIX := hidOf hC.ninX
  clear hC hS
  cases hokx : okE ⟨au, up, ln, gs, st, sp, tk⟩
  · obtain ⟨_, r0, r1, r2, r3, r4, r5, r6, rf⟩ := id HC.out.box1
    have HF := hidOf (est_fin (A' := A1) (y := ⟨au, up, ln, gs, st, sp, tk⟩) HC.out HS.out.rows)
    have HR := hidOf (show goOnM ⟨au, up, ln, gs, st, sp, tk⟩ who = (⟨au, up, ln, gs, st, sp, tk⟩, 1) by unfold goOnM; rw [if_pos hokx])
    clear HC hokx HS
    go_wp2
    refine bodyPost_ret (v := .tuple #[.agg #[.bool au, .bool up, .slice A1.a A1.n A1.c, .slice A1.a' A1.n' A1.c', .int .i64 st, .int .i64 sp, .int .i64 tk], .int .i64 1]) (by simp [results, Try.results57, go_sem, r0, r1, r2, r3, r4, r5, r6]) rfl ?_
    rw [HR.out]
    exact ⟨A1, rfl, HF.out⟩
  · have hn1 : ¬ (okE ⟨au, up, ln, gs, st, sp, tk⟩ = false) := by rw [hokx]; simp
    have hbo := okE_parts hokx
    simp only at hbo
    have HBo := hidOf hbo
    clear hbo hokx
    cases au
    · go_wp2_with fail
      refine (l2Has_any A.a A.n A.c ln who _ HIX.out.ints hn).mono ?_
      rintro e w5 ⟨rfl, rfl⟩
      cases hh1 : hasL ln who
      · go_wp2_with fail
        refine (l2Has_any A.a' A.n' A.c' gs who _ HIX.out.grs hn').mono ?_
        rintro e w6 ⟨rfl, rfl⟩
        cases hh2 : hasL gs who
        · obtain ⟨_, r0, r1, r2, r3, r4, r5, r6, rf⟩ := id HC.out.box1
          have HF := hidOf (est_fin (A' := A1) (y := ⟨false, up, ln, gs, st, sp, tk⟩) HC.out HS.out.rows)
          have HR := hidOf (show goOnM ⟨false, up, ln, gs, st, sp, tk⟩ who = (⟨false, up, ln, gs, st, sp, tk⟩, 3) by unfold goOnM; rw [if_neg hn1, if_neg (by rw [hh1]; simp), if_pos hh2])
          clear HC hn1 HS HBo HIX
          go_wp2
          refine bodyPost_ret (v := .tuple #[.agg #[.bool false, .bool up, .slice A1.a A1.n A1.c, .slice A1.a' A1.n' A1.c', .int .i64 st, .int .i64 sp, .int .i64 tk], .int .i64 3]) (by simp [results, Try.results57, go_sem, r0, r1, r2, r3, r4, r5, r6]) rfl ?_
          rw [HR.out]
          exact ⟨A1, rfl, HF.out⟩
        · have HR0 := hidOf (show goOnM ⟨false, up, ln, gs, st, sp, tk⟩ who = (⟨false, up, ln, lessL gs who, st, sp, tk⟩, 0) by unfold goOnM; rw [if_neg hn1, if_neg (by rw [hh1]; simp), if_neg (by rw [hh2]; simp), if_neg (by simp)]; rfl)
          clear hn1 hh1 hh2
          have hIg := HIX.out.grs
          go_wp2_with fail
          refine (l2Less_any A.a' A.n' A.c' gs who _ hIg hn').mono ?_
          rintro e w7 ⟨g', m', c', rfl, ho', hb7⟩
          have hS7 := HS.out.keep hb7
          have hC7 := HC.out.kp hb7
          have hsz := HC.out.sz
          have hlt := HS.out.box.lt
          have hgp := (owns_parts ho').2.1
          have hS8 := hS7.told (row_mono ho' hsz) (fun e => by have e' : g' = N := by simpa [Value.ownBlock] using e
                                                               omega) (fun q e e2 => by have e' : g' = q := by simpa [Value.ownBlock] using e2
                                                                                        have := (HS.out.rows.one.lt q e).2
                                                                                        omega)
          have hC8 := hC7.keep (B := w.heap.size + 2) (bl_set1 (Below.refl _ _) N 3 HS.out.ge (.slice (some ⟨g', 0, none⟩) m' c')) (Nat.le_refl _)
          obtain ⟨_, y0, y1, y2, y3, y4, y5, y6, yf⟩ := id hS7.box
          obtain ⟨_, pp0, pp1, pp2, pp3, pp4, pp5, pp6, _⟩ := id hC8.box0
          simp only at y0 y1 y2 y3 y4 y5 y6 pp0 pp1 pp2 pp3 pp4 pp5 pp6
          generalize hA2 : (⟨A1.a, A1.n, A1.c, some ⟨g', 0, none⟩, m', c'⟩ : Na) = A2 at hS8
          have HC2 := hidOf hC8
          have HS2 := hidOf hS8
          clear HC HS hS7 hS8 hC7 hC8 ho' hb7 hgp hIg z0 z1 z2 z3 z4 z5 z6 zf p0 p1 p2 p3 p4 p5 p6 hsz hlt
          subst hA2
          have HC := HC2
          have HS := HS2
          clear HC2 HS2
          obtain ⟨_, vv0, vv1, vv2, vv3, vv4, vv5, vv6, vvf⟩ := id HS.out.box
          simp only at vv0 vv1 vv2 vv3 vv4 vv5 vv6
          obtain ⟨_, r0, r1, r2, r3, r4, r5, r6, rf⟩ := id HC.out.box1
          have HF := hidOf (est_fin (A' := (⟨A1.a, A1.n, A1.c, some ⟨g', 0, none⟩, m', c'⟩ : Na)) (y := ⟨false, up, ln, lessL gs who, st, sp, tk⟩) HC.out HS.out.rows)
          have HR := hidOf (HR0.out)
          clear HC HS HR0 HBo HIX
          go_wp2
          refine bodyPost_ret (v := .tuple #[.agg #[.bool false, .bool up, .slice (⟨A1.a, A1.n, A1.c, some ⟨g', 0, none⟩, m', c'⟩ : Na).a (⟨A1.a, A1.n, A1.c, some ⟨g', 0, none⟩, m', c'⟩ : Na).n (⟨A1.a, A1.n, A1.c, some ⟨g', 0, none⟩, m', c'⟩ : Na).c, .slice (⟨A1.a, A1.n, A1.c, some ⟨g', 0, none⟩, m', c'⟩ : Na).a' (⟨A1.a, A1.n, A1.c, some ⟨g', 0, none⟩, m', c'⟩ : Na).n' (⟨A1.a, A1.n, A1.c, some ⟨g', 0, none⟩, m', c'⟩ : Na).c', .int .i64 st, .int .i64 sp, .int .i64 tk], .int .i64 0]) (by simp [results, Try.results57, go_sem, r0, r1, r2, r3, r4, r5, r6]) rfl ?_
          rw [HR.out]
          exact ⟨(⟨A1.a, A1.n, A1.c, some ⟨g', 0, none⟩, m', c'⟩ : Na), rfl, HF.out⟩
      · obtain ⟨_, r0, r1, r2, r3, r4, r5, r6, rf⟩ := id HC.out.box1
        have HF := hidOf (est_fin (A' := A1) (y := ⟨false, up, ln, gs, st, sp, tk⟩) HC.out HS.out.rows)
        have HR := hidOf (show goOnM ⟨false, up, ln, gs, st, sp, tk⟩ who = (⟨false, up, ln, gs, st, sp, tk⟩, 4) by unfold goOnM; rw [if_neg hn1, if_pos hh1])
        clear HC hn1 HS HBo HIX
        go_wp2
        refine bodyPost_ret (v := .tuple #[.agg #[.bool false, .bool up, .slice A1.a A1.n A1.c, .slice A1.a' A1.n' A1.c', .int .i64 st, .int .i64 sp, .int .i64 tk], .int .i64 4]) (by simp [results, Try.results57, go_sem, r0, r1, r2, r3, r4, r5, r6]) rfl ?_
        rw [HR.out]
        exact ⟨A1, rfl, HF.out⟩
    · go_wp2_with fail
      refine (l2Has_any A.a A.n A.c ln who _ HIX.out.ints hn).mono ?_
      rintro e w5 ⟨rfl, rfl⟩
      cases hh1 : hasL ln who
      · go_wp2_with fail
        refine (l2Has_any A.a' A.n' A.c' gs who _ HIX.out.grs hn').mono ?_
        rintro e w6 ⟨rfl, rfl⟩
        cases hh2 : hasL gs who
        · obtain ⟨_, r0, r1, r2, r3, r4, r5, r6, rf⟩ := id HC.out.box1
          have HF := hidOf (est_fin (A' := A1) (y := ⟨true, up, ln, gs, st, sp, tk⟩) HC.out HS.out.rows)
          have HR := hidOf (show goOnM ⟨true, up, ln, gs, st, sp, tk⟩ who = (⟨true, up, ln, gs, st, sp, tk⟩, 3) by unfold goOnM; rw [if_neg hn1, if_neg (by rw [hh1]; simp), if_pos hh2])
          clear HC hn1 HS HBo HIX
          go_wp2
          refine bodyPost_ret (v := .tuple #[.agg #[.bool true, .bool up, .slice A1.a A1.n A1.c, .slice A1.a' A1.n' A1.c', .int .i64 st, .int .i64 sp, .int .i64 tk], .int .i64 3]) (by simp [results, Try.results57, go_sem, r0, r1, r2, r3, r4, r5, r6]) rfl ?_
          rw [HR.out]
          exact ⟨A1, rfl, HF.out⟩
        · have htk := HBo.out.2.2.2.1
          by_cases h : (1000000000 : Int) ≤ tk
          · obtain ⟨_, r0, r1, r2, r3, r4, r5, r6, rf⟩ := id HC.out.box1
            have HF := hidOf (est_fin (A' := A1) (y := ⟨true, up, ln, gs, st, sp, tk⟩) HC.out HS.out.rows)
            have HR := hidOf (show goOnM ⟨true, up, ln, gs, st, sp, tk⟩ who = (⟨true, up, ln, gs, st, sp, tk⟩, 2) by unfold goOnM; rw [if_neg hn1, if_neg (by rw [hh1]; simp), if_neg (by rw [hh2]; simp), if_pos ⟨rfl, h⟩])
            clear HC hn1 hh1 hh2 HS HBo HIX
            go_wp2
            refine bodyPost_ret (v := .tuple #[.agg #[.bool true, .bool up, .slice A1.a A1.n A1.c, .slice A1.a' A1.n' A1.c', .int .i64 st, .int .i64 sp, .int .i64 tk], .int .i64 2]) (by simp [results, Try.results57, go_sem, r0, r1, r2, r3, r4, r5, r6]) rfl ?_
            rw [HR.out]
            exact ⟨A1, rfl, HF.out⟩
          · have HR0 := hidOf (show goOnM ⟨true, up, ln, gs, st, sp, tk⟩ who = (⟨true, up, ln, lessL gs who, st, sp, tk + 1⟩, 0) by unfold goOnM; rw [if_neg hn1, if_neg (by rw [hh1]; simp), if_neg (by rw [hh2]; simp), if_neg (fun hh => h hh.2)]; rfl)
            clear hn1 hh1 hh2
            have hIg := HIX.out.grs
            go_wp2_with fail
            refine (l2Less_any A.a' A.n' A.c' gs who _ hIg hn').mono ?_
            rintro e w7 ⟨g', m', c', rfl, ho', hb7⟩
            have hS7 := HS.out.keep hb7
            have hC7 := HC.out.kp hb7
            have hsz := HC.out.sz
            have hlt := HS.out.box.lt
            have hgp := (owns_parts ho').2.1
            have hS8 := hS7.told (row_mono ho' hsz) (fun e => by have e' : g' = N := by simpa [Value.ownBlock] using e
                                                                 omega) (fun q e e2 => by have e' : g' = q := by simpa [Value.ownBlock] using e2
                                                                                          have := (HS.out.rows.one.lt q e).2
                                                                                          omega)
            have hC8 := hC7.keep (B := w.heap.size + 2) (bl_set1 (Below.refl _ _) N 3 HS.out.ge (.slice (some ⟨g', 0, none⟩) m' c')) (Nat.le_refl _)
            obtain ⟨_, y0, y1, y2, y3, y4, y5, y6, yf⟩ := id hS7.box
            obtain ⟨_, pp0, pp1, pp2, pp3, pp4, pp5, pp6, _⟩ := id hC8.box0
            simp only at y0 y1 y2 y3 y4 y5 y6 pp0 pp1 pp2 pp3 pp4 pp5 pp6
            generalize hA2 : (⟨A1.a, A1.n, A1.c, some ⟨g', 0, none⟩, m', c'⟩ : Na) = A2 at hS8
            have HC2 := hidOf hC8
            have HS2 := hidOf hS8
            clear HC HS hS7 hS8 hC7 hC8 ho' hb7 hgp hIg z0 z1 z2 z3 z4 z5 z6 zf p0 p1 p2 p3 p4 p5 p6 hsz hlt
            subst hA2
            have HC := HC2
            have HS := HS2
            clear HC2 HS2
            obtain ⟨_, vv0, vv1, vv2, vv3, vv4, vv5, vv6, vvf⟩ := id HS.out.box
            simp only at vv0 vv1 vv2 vv3 vv4 vv5 vv6
            have hS2 := HS.out.setc (y := ⟨true, up, ln, lessL gs who, st, sp, tk + 1⟩) 6 (.int .i64 (tk + 1)) (HS.out.box.set6 (v := tk + 1)) rfl rfl
            have hC2 := HC.out.keep (B := w.heap.size + 2) (bl_set1 (Below.refl _ _) N 6 HS.out.ge (.int .i64 (tk + 1))) (Nat.le_refl _)
            obtain ⟨_, tk0, tk1, tk2, tk3, tk4, tk5, tk6, tkf⟩ := id hS2.box
            have HC2 := hidOf hC2
            have HS2 := hidOf hS2
            clear HC HS hC2 hS2
            have HC := HC2
            have HS := HS2
            clear HC2 HS2
            simp only at tk0 tk1 tk2 tk3 tk4 tk5 tk6
            obtain ⟨_, r0, r1, r2, r3, r4, r5, r6, rf⟩ := id HC.out.box1
            have HF := hidOf (est_fin (A' := (⟨A1.a, A1.n, A1.c, some ⟨g', 0, none⟩, m', c'⟩ : Na)) (y := ⟨true, up, ln, lessL gs who, st, sp, tk + 1⟩) HC.out HS.out.rows)
            have HR := hidOf (HR0.out)
            clear HC HS HR0 HBo HIX
            go_wp2
            refine bodyPost_ret (v := .tuple #[.agg #[.bool true, .bool up, .slice (⟨A1.a, A1.n, A1.c, some ⟨g', 0, none⟩, m', c'⟩ : Na).a (⟨A1.a, A1.n, A1.c, some ⟨g', 0, none⟩, m', c'⟩ : Na).n (⟨A1.a, A1.n, A1.c, some ⟨g', 0, none⟩, m', c'⟩ : Na).c, .slice (⟨A1.a, A1.n, A1.c, some ⟨g', 0, none⟩, m', c'⟩ : Na).a' (⟨A1.a, A1.n, A1.c, some ⟨g', 0, none⟩, m', c'⟩ : Na).n' (⟨A1.a, A1.n, A1.c, some ⟨g', 0, none⟩, m', c'⟩ : Na).c', .int .i64 st, .int .i64 sp, .int .i64 (tk + 1)], .int .i64 0]) (by simp [results, Try.results57, go_sem, r0, r1, r2, r3, r4, r5, r6]) rfl ?_
            rw [HR.out]
            exact ⟨(⟨A1.a, A1.n, A1.c, some ⟨g', 0, none⟩, m', c'⟩ : Na), rfl, HF.out⟩
      · obtain ⟨_, r0, r1, r2, r3, r4, r5, r6, rf⟩ := id HC.out.box1
        have HF := hidOf (est_fin (A' := A1) (y := ⟨true, up, ln, gs, st, sp, tk⟩) HC.out HS.out.rows)
        have HR := hidOf (show goOnM ⟨true, up, ln, gs, st, sp, tk⟩ who = (⟨true, up, ln, gs, st, sp, tk⟩, 4) by unfold goOnM; rw [if_neg hn1, if_pos hh1])
        clear HC hn1 HS HBo HIX
        go_wp2
        refine bodyPost_ret (v := .tuple #[.agg #[.bool true, .bool up, .slice A1.a A1.n A1.c, .slice A1.a' A1.n' A1.c', .int .i64 st, .int .i64 sp, .int .i64 tk], .int .i64 4]) (by simp [results, Try.results57, go_sem, r0, r1, r2, r3, r4, r5, r6]) rfl ?_
        rw [HR.out]
        exact ⟨A1, rfl, HF.out⟩
end Go.Proofs.Ytbhdjcggcgddfaa
