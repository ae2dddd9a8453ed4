/-
  Walks of the specification's events: who steps back from one.
-/
import Derived.Test.YtbhdjcggcgddfaaSpE4
import Derived.Test.YtbhdjcggcgddfaaMrg4
namespace Go.Proofs.Ytbhdjcggcgddfaa
open Go.RowKit Pl Il

theorem passE_kindS (x : Et) : (passE x).1.au = x.au := by
  obtain ⟨au, up, ln, gs, st, sp, tk⟩ := x
  unfold passE
  cases ln with
  | nil => cases up <;> rfl
  | cons a r => rfl
set_option maxRecDepth 100000 in
set_option maxHeartbeats 2000000 in
theorem specStepBack_any (A : Na) (x : Et) (who : Int) (w : World) (hI : EIn w A x) (hn : A.n ≤ 2097152) (hn' : A.n' ≤ 2097152) (hok : A.ok) :
    Calls Try.prog 39 #[.agg #[.bool x.au, .bool x.up, .slice A.a A.n A.c, .slice A.a' A.n' A.c', .int .i64 x.st, .int .i64 x.sp, .int .i64 x.tk], .int .i64 who] w fun e w' => EOutT w (stepM x who).1 (stepM x who).2.1 (stepM x who).2.2 e w' := by
  obtain ⟨au, up, ln, gs, st, sp, tk⟩ := x
  have hC := ectx_new hI
  have s1 : ((w.alloc (.cells #[.bool au, .bool up, .slice A.a A.n A.c, .slice A.a' A.n' A.c', .int .i64 st, .int .i64 sp, .int .i64 tk] 46)).alloc (.cells #[.bool false, .bool false, .slice none 0 0, .slice none 0 0, .int .i64 0, .int .i64 0, .int .i64 0] 46)).heap.size = w.heap.size + 2 := by simp
  have HL1 := hidOf hI.ints.len
  have HL2 := hidOf hI.grs.len
  have HCp := hidOf (l6Copy_any A ⟨au, up, ln, gs, st, sp, tk⟩ _ hC.ninX hn hn')
  have HC := hidOf hC
  have S1 := hidOf s1
  simp only at HL1 HL2
  clear hC s1 hI
  go_enter Try.func39, Try.ntmps39
  go_wp2_with fail
  refine (HCp.out).mono ?_
  rintro e w1 ⟨A1, rfl, hR, hb1⟩
  rw [S1.out] at hR
  have hC1 := HC.out.kp hb1
  have hS := est_new (x := ⟨au, up, ln, gs, st, sp, tk⟩) hR hC1.sz
  generalize hW2 : w1.alloc (.cells #[.bool au, .bool up, .slice A1.a A1.n A1.c, .slice A1.a' A1.n' A1.c', .int .i64 st, .int .i64 sp, .int .i64 tk] 46) = W2 at hS
  have hb2 : Below w1.heap.size w1 W2 := by subst hW2; exact bl_alloc (Below.refl _ _) _
  have hC2 := hC1.kp hb2
  obtain ⟨_, p0, p1, p2, p3, p4, p5, p6, _⟩ := id hC2.box0
  have HS := hidOf hS
  have HC2 := hidOf hC2
  clear hR hb1 hC1 hb2 hC2 hS HC HCp
  go_wp2_with fail
  refine (specEventOk_any A ⟨au, up, ln, gs, st, sp, tk⟩ _ HC2.out.ninX hn hn' hok).mono ?_
  rintro e w3 ⟨rfl, hb3⟩
  have hC := HC2.out.kp hb3
  have hS := HS.out.keep hb3
  clear p0 p1 p2 p3 p4 p5 p6 hW2 hb3 HS HC2
  generalize hN : w1.heap.size = N at *
  clear hN
  obtain ⟨_, p0, p1, p2, p3, p4, p5, p6, _⟩ := id hC.box0
  obtain ⟨_, z0, z1, z2, z3, z4, z5, z6, zf⟩ := id hS.box
  simp only at p0 p1 p2 p3 p4 p5 p6 z0 z1 z2 z3 z4 z5 z6
  have HC := hidOf hC
  have HS := hidOf hS
  have HIX := hidOf hC.ninX
  clear hC hS
  cases hokx : okE ⟨au, up, ln, gs, st, sp, tk⟩
  · obtain ⟨_, r0, r1, r2, r3, r4, r5, r6, rf⟩ := id HC.out.box1
    have HF := hidOf (est_fin (A' := A1) (y := ⟨au, up, ln, gs, st, sp, tk⟩) HC.out HS.out.rows)
    have HR := hidOf (show stepM ⟨au, up, ln, gs, st, sp, tk⟩ who = (⟨au, up, ln, gs, st, sp, tk⟩, [], 1) by unfold stepM; rw [if_pos hokx])
    clear HC hokx HS
    go_wp2
    refine bodyPost_ret (v := .tuple #[.agg #[.bool au, .bool up, .slice A1.a A1.n A1.c, .slice A1.a' A1.n' A1.c', .int .i64 st, .int .i64 sp, .int .i64 tk], .slice none 0 0, .int .i64 1]) (by simp [results, Try.results39, go_sem, r0, r1, r2, r3, r4, r5, r6]) rfl ?_
    rw [HR.out]
    exact ⟨A1, none, 0, 0, rfl, HF.out.1, HF.out.2.1, ⟨⟨rfl, .inl rfl⟩, .inl rfl⟩, .inl rfl, HF.out.2.2⟩
  · have hn1 : ¬ (okE ⟨au, up, ln, gs, st, sp, tk⟩ = false) := by rw [hokx]; simp
    have hbo := okE_parts hokx
    simp only at hbo
    have HBo := hidOf hbo
    clear hbo hokx
    go_wp2_with fail
    refine (l2Has_any A.a A.n A.c ln who _ HIX.out.ints hn).mono ?_
    rintro e w5 ⟨rfl, rfl⟩
    cases hh1 : hasL ln who
    · go_wp2_with fail
      refine (l2Has_any A.a' A.n' A.c' gs who _ HIX.out.grs hn').mono ?_
      rintro e w6 ⟨rfl, rfl⟩
      cases hh2 : hasL gs who
      · obtain ⟨_, r0, r1, r2, r3, r4, r5, r6, rf⟩ := id HC.out.box1
        have HF := hidOf (est_fin (A' := A1) (y := ⟨au, up, ln, gs, st, sp, tk⟩) HC.out HS.out.rows)
        have HR := hidOf (show stepM ⟨au, up, ln, gs, st, sp, tk⟩ who = (⟨au, up, ln, gs, st, sp, tk⟩, [], 3) by unfold stepM; rw [if_neg hn1, if_neg (by rw [hh1]; simp), if_pos hh2])
        clear HC hn1 HS HBo HIX
        go_wp2
        refine bodyPost_ret (v := .tuple #[.agg #[.bool au, .bool up, .slice A1.a A1.n A1.c, .slice A1.a' A1.n' A1.c', .int .i64 st, .int .i64 sp, .int .i64 tk], .slice none 0 0, .int .i64 3]) (by simp [results, Try.results39, go_sem, r0, r1, r2, r3, r4, r5, r6]) rfl ?_
        rw [HR.out]
        exact ⟨A1, none, 0, 0, rfl, HF.out.1, HF.out.2.1, ⟨⟨rfl, .inl rfl⟩, .inl rfl⟩, .inl rfl, HF.out.2.2⟩
      · cases au
        · have HR0 := hidOf (show stepM ⟨false, up, ln, gs, st, sp, tk⟩ who = (⟨false, up, ln, lessL gs who, st, sp, tk⟩, [], 0) by unfold stepM; rw [if_neg hn1, if_neg (by rw [hh1]; simp), if_neg (by rw [hh2]; simp), if_neg (by simp), if_neg (by simp)])
          clear hn1 hh1 hh2
          have hIg := HIX.out.grs
          go_wp2_with fail
          refine (l2Less_any A.a' A.n' A.c' gs who _ hIg hn').mono ?_
          rintro e w7 ⟨g', m', c', rfl, ho', hb7⟩
          have hS7 := HS.out.keep hb7
          have hC7 := HC.out.kp hb7
          have hsz := HC.out.sz
          have hlt := HS.out.box.lt
          have hgp := (owns_parts ho').2.1
          have hS8 := hS7.told (row_mono ho' hsz) (fun e => by have e' : g' = N := by simpa [Value.ownBlock] using e
                                                               omega) (fun q e e2 => by have e' : g' = q := by simpa [Value.ownBlock] using e2
                                                                                        have := (HS.out.rows.one.lt q e).2
                                                                                        omega)
          have hC8 := hC7.keep (B := w.heap.size + 2) (bl_set1 (Below.refl _ _) N 3 HS.out.ge (.slice (some ⟨g', 0, none⟩) m' c')) (Nat.le_refl _)
          obtain ⟨_, y0, y1, y2, y3, y4, y5, y6, yf⟩ := id hS7.box
          obtain ⟨_, pp0, pp1, pp2, pp3, pp4, pp5, pp6, _⟩ := id hC8.box0
          simp only at y0 y1 y2 y3 y4 y5 y6 pp0 pp1 pp2 pp3 pp4 pp5 pp6
          have HC2 := hidOf hC8
          have HS2 := hidOf hS8
          clear HC HS hS7 hS8 hC7 hC8 ho' hb7 hgp hIg z0 z1 z2 z3 z4 z5 z6 zf p0 p1 p2 p3 p4 p5 p6 hsz hlt
          have HC := HC2
          have HS := HS2
          clear HC2 HS2
          obtain ⟨_, vv0, vv1, vv2, vv3, vv4, vv5, vv6, vvf⟩ := id HS.out.box
          simp only at vv0 vv1 vv2 vv3 vv4 vv5 vv6
          obtain ⟨_, r0, r1, r2, r3, r4, r5, r6, rf⟩ := id HC.out.box1
          have HF := hidOf (est_fin (A' := (⟨A1.a, A1.n, A1.c, some ⟨g', 0, none⟩, m', c'⟩ : Na)) (y := ⟨false, up, ln, lessL gs who, st, sp, tk⟩) HC.out HS.out.rows)
          have HR := hidOf (HR0.out)
          clear HC HS HR0 HBo HIX
          go_wp2
          refine bodyPost_ret (v := .tuple #[.agg #[.bool false, .bool up, .slice (⟨A1.a, A1.n, A1.c, some ⟨g', 0, none⟩, m', c'⟩ : Na).a (⟨A1.a, A1.n, A1.c, some ⟨g', 0, none⟩, m', c'⟩ : Na).n (⟨A1.a, A1.n, A1.c, some ⟨g', 0, none⟩, m', c'⟩ : Na).c, .slice (⟨A1.a, A1.n, A1.c, some ⟨g', 0, none⟩, m', c'⟩ : Na).a' (⟨A1.a, A1.n, A1.c, some ⟨g', 0, none⟩, m', c'⟩ : Na).n' (⟨A1.a, A1.n, A1.c, some ⟨g', 0, none⟩, m', c'⟩ : Na).c', .int .i64 st, .int .i64 sp, .int .i64 tk], .slice none 0 0, .int .i64 0]) (by simp [results, Try.results39, go_sem, r0, r1, r2, r3, r4, r5, r6]) rfl ?_
          rw [HR.out]
          exact ⟨(⟨A1.a, A1.n, A1.c, some ⟨g', 0, none⟩, m', c'⟩ : Na), none, 0, 0, rfl, HF.out.1, HF.out.2.1, ⟨⟨rfl, .inl rfl⟩, .inl rfl⟩, .inl rfl, HF.out.2.2⟩
        · have hsp := HBo.out.2.2.1
          cases up
          · by_cases hz : (A.n : Int) = 0
            · have hz' : ((A.n : Int) == 0) = true := by simp; omega
              clear hz
              have HR0 := hidOf (show stepM ⟨true, false, ln, gs, st, sp, tk⟩ who = ((passE ⟨true, false, ln, lessL gs who, st, sp, tk⟩).1, (passE ⟨true, false, ln, lessL gs who, st, sp, tk⟩).2, 0) by unfold stepM; rw [if_neg hn1, if_neg (by rw [hh1]; simp), if_neg (by rw [hh2]; simp), if_neg (by simp), if_pos rfl])
              clear hn1 hh1 hh2
              have hIg := HIX.out.grs
              go_wp2_with fail
              refine (l2Less_any A.a' A.n' A.c' gs who _ hIg hn').mono ?_
              rintro e w7 ⟨g', m', c', rfl, ho', hb7⟩
              have hS7 := HS.out.keep hb7
              have hC7 := HC.out.kp hb7
              have hsz := HC.out.sz
              have hlt := HS.out.box.lt
              have hgp := (owns_parts ho').2.1
              have hS8 := hS7.told (row_mono ho' hsz) (fun e => by have e' : g' = N := by simpa [Value.ownBlock] using e
                                                                   omega) (fun q e e2 => by have e' : g' = q := by simpa [Value.ownBlock] using e2
                                                                                            have := (HS.out.rows.one.lt q e).2
                                                                                            omega)
              have hC8 := hC7.keep (B := w.heap.size + 2) (bl_set1 (Below.refl _ _) N 3 HS.out.ge (.slice (some ⟨g', 0, none⟩) m' c')) (Nat.le_refl _)
              obtain ⟨_, y0, y1, y2, y3, y4, y5, y6, yf⟩ := id hS7.box
              obtain ⟨_, pp0, pp1, pp2, pp3, pp4, pp5, pp6, _⟩ := id hC8.box0
              simp only at y0 y1 y2 y3 y4 y5 y6 pp0 pp1 pp2 pp3 pp4 pp5 pp6
              have HC2 := hidOf hC8
              have HS2 := hidOf hS8
              clear HC HS hS7 hS8 hC7 hC8 ho' hb7 hgp hIg z0 z1 z2 z3 z4 z5 z6 zf p0 p1 p2 p3 p4 p5 p6 hsz hlt
              have HC := HC2
              have HS := HS2
              clear HC2 HS2
              obtain ⟨_, vv0, vv1, vv2, vv3, vv4, vv5, vv6, vvf⟩ := id HS.out.box
              simp only at vv0 vv1 vv2 vv3 vv4 vv5 vv6
              have HRo := hidOf HS.out.rows
              have hsz := HC.out.sz
              go_wp2_with fail
              refine (l6Pass_any (w.heap.size + 2) (⟨A1.a, A1.n, A1.c, some ⟨g', 0, none⟩, m', c'⟩ : Na) ⟨true, false, ln, lessL gs who, st, sp, tk⟩ _ HRo.out hsz (by have h7 := HRo.out.len.1; have h8 := HL1.out; first | omega | (simp only at h7; omega)) (by have h7 := HRo.out.len.2; have h8 := HL2.out; have h9 := less_len gs who; first | omega | (simp only at h7; omega)) HBo.out.2.2.1).mono ?_
              rintro e w7 ⟨A7, a7, m7, c7, rfl, hR7, hO7, hA7, hB7⟩
              have HKd := hidOf (passE_kindS ⟨true, false, ln, lessL gs who, st, sp, tk⟩)
              have hC7 := HC.out.keep hB7 (Nat.le_refl _)
              clear HC HS HRo
              generalize passE ⟨true, false, ln, lessL gs who, st, sp, tk⟩ = pp at hR7 hO7 HR0 HKd ⊢
              obtain ⟨⟨pau, pup, pln, pgs, pst, psp, ptk⟩, pl⟩ := pp
              simp only at hR7 hO7 HR0 HKd ⊢
              obtain rfl : pau = true := HKd.out
              generalize hW8 : w7.alloc (.cells #[.bool true, .bool pup, .slice A7.a A7.n A7.c, .slice A7.a' A7.n' A7.c', .int .i64 pst, .int .i64 psp, .int .i64 ptk] 46) = W8
              have hb8 : Below w7.heap.size w7 W8 := by subst hW8; exact bl_alloc (Below.refl _ _) _
              have x8 : EBox w7.heap.size A7 ⟨true, pup, pln, pgs, pst, psp, ptk⟩ W8 := by subst hW8; exact EBox.new w7 A7 ⟨true, pup, pln, pgs, pst, psp, ptk⟩ _
              have hC8 := hC7.kp hb8
              have HF := hidOf (est_finT (A' := A7) (y := ⟨true, pup, pln, pgs, pst, psp, ptk⟩) hC8 (hR7.keep hb8) (hO7.keep hb8))
              have HAp := hidOf hA7
              obtain ⟨_, x0, x1, x2, x3, x4, x5, x6, _⟩ := id x8
              obtain ⟨_, r0, r1, r2, r3, r4, r5, r6, rf⟩ := id hC8.box1
              simp only at x0 x1 x2 x3 x4 x5 x6
              clear hC7 hC8 x8 hb8 hR7 hO7 hA7 hB7 HKd hsz
              go_wp2
              refine bodyPost_ret (v := .tuple #[.agg #[.bool true, .bool pup, .slice A7.a A7.n A7.c, .slice A7.a' A7.n' A7.c', .int .i64 pst, .int .i64 psp, .int .i64 ptk], .slice a7 m7 c7, .int .i64 0]) (by simp [results, Try.results39, go_sem, r0, r1, r2, r3, r4, r5, r6]) rfl ?_
              rw [HR0.out]
              exact ⟨A7, a7, m7, c7, rfl, HF.out.1, HF.out.2.1, HF.out.2.2.1, HAp.out, HF.out.2.2.2⟩
            · have hz' : ((A.n : Int) == 0) = false := by simp; omega
              clear hz
              have HR0 := hidOf (show stepM ⟨true, false, ln, gs, st, sp, tk⟩ who = ((passE ⟨true, false, ln, lessL gs who, st, sp, tk⟩).1, (passE ⟨true, false, ln, lessL gs who, st, sp, tk⟩).2, 0) by unfold stepM; rw [if_neg hn1, if_neg (by rw [hh1]; simp), if_neg (by rw [hh2]; simp), if_neg (by simp), if_pos rfl])
              clear hn1 hh1 hh2
              have hIg := HIX.out.grs
              go_wp2_with fail
              refine (l2Less_any A.a' A.n' A.c' gs who _ hIg hn').mono ?_
              rintro e w7 ⟨g', m', c', rfl, ho', hb7⟩
              have hS7 := HS.out.keep hb7
              have hC7 := HC.out.kp hb7
              have hsz := HC.out.sz
              have hlt := HS.out.box.lt
              have hgp := (owns_parts ho').2.1
              have hS8 := hS7.told (row_mono ho' hsz) (fun e => by have e' : g' = N := by simpa [Value.ownBlock] using e
                                                                   omega) (fun q e e2 => by have e' : g' = q := by simpa [Value.ownBlock] using e2
                                                                                            have := (HS.out.rows.one.lt q e).2
                                                                                            omega)
              have hC8 := hC7.keep (B := w.heap.size + 2) (bl_set1 (Below.refl _ _) N 3 HS.out.ge (.slice (some ⟨g', 0, none⟩) m' c')) (Nat.le_refl _)
              obtain ⟨_, y0, y1, y2, y3, y4, y5, y6, yf⟩ := id hS7.box
              obtain ⟨_, pp0, pp1, pp2, pp3, pp4, pp5, pp6, _⟩ := id hC8.box0
              simp only at y0 y1 y2 y3 y4 y5 y6 pp0 pp1 pp2 pp3 pp4 pp5 pp6
              have HC2 := hidOf hC8
              have HS2 := hidOf hS8
              clear HC HS hS7 hS8 hC7 hC8 ho' hb7 hgp hIg z0 z1 z2 z3 z4 z5 z6 zf p0 p1 p2 p3 p4 p5 p6 hsz hlt
              have HC := HC2
              have HS := HS2
              clear HC2 HS2
              obtain ⟨_, vv0, vv1, vv2, vv3, vv4, vv5, vv6, vvf⟩ := id HS.out.box
              simp only at vv0 vv1 vv2 vv3 vv4 vv5 vv6
              have HRo := hidOf HS.out.rows
              have hsz := HC.out.sz
              go_wp2_with fail
              refine (l6Pass_any (w.heap.size + 2) (⟨A1.a, A1.n, A1.c, some ⟨g', 0, none⟩, m', c'⟩ : Na) ⟨true, false, ln, lessL gs who, st, sp, tk⟩ _ HRo.out hsz (by have h7 := HRo.out.len.1; have h8 := HL1.out; first | omega | (simp only at h7; omega)) (by have h7 := HRo.out.len.2; have h8 := HL2.out; have h9 := less_len gs who; first | omega | (simp only at h7; omega)) HBo.out.2.2.1).mono ?_
              rintro e w7 ⟨A7, a7, m7, c7, rfl, hR7, hO7, hA7, hB7⟩
              have HKd := hidOf (passE_kindS ⟨true, false, ln, lessL gs who, st, sp, tk⟩)
              have hC7 := HC.out.keep hB7 (Nat.le_refl _)
              clear HC HS HRo
              generalize passE ⟨true, false, ln, lessL gs who, st, sp, tk⟩ = pp at hR7 hO7 HR0 HKd ⊢
              obtain ⟨⟨pau, pup, pln, pgs, pst, psp, ptk⟩, pl⟩ := pp
              simp only at hR7 hO7 HR0 HKd ⊢
              obtain rfl : pau = true := HKd.out
              generalize hW8 : w7.alloc (.cells #[.bool true, .bool pup, .slice A7.a A7.n A7.c, .slice A7.a' A7.n' A7.c', .int .i64 pst, .int .i64 psp, .int .i64 ptk] 46) = W8
              have hb8 : Below w7.heap.size w7 W8 := by subst hW8; exact bl_alloc (Below.refl _ _) _
              have x8 : EBox w7.heap.size A7 ⟨true, pup, pln, pgs, pst, psp, ptk⟩ W8 := by subst hW8; exact EBox.new w7 A7 ⟨true, pup, pln, pgs, pst, psp, ptk⟩ _
              have hC8 := hC7.kp hb8
              have HF := hidOf (est_finT (A' := A7) (y := ⟨true, pup, pln, pgs, pst, psp, ptk⟩) hC8 (hR7.keep hb8) (hO7.keep hb8))
              have HAp := hidOf hA7
              obtain ⟨_, x0, x1, x2, x3, x4, x5, x6, _⟩ := id x8
              obtain ⟨_, r0, r1, r2, r3, r4, r5, r6, rf⟩ := id hC8.box1
              simp only at x0 x1 x2 x3 x4 x5 x6
              clear hC7 hC8 x8 hb8 hR7 hO7 hA7 hB7 HKd hsz
              go_wp2
              refine bodyPost_ret (v := .tuple #[.agg #[.bool true, .bool pup, .slice A7.a A7.n A7.c, .slice A7.a' A7.n' A7.c', .int .i64 pst, .int .i64 psp, .int .i64 ptk], .slice a7 m7 c7, .int .i64 0]) (by simp [results, Try.results39, go_sem, r0, r1, r2, r3, r4, r5, r6]) rfl ?_
              rw [HR0.out]
              exact ⟨A7, a7, m7, c7, rfl, HF.out.1, HF.out.2.1, HF.out.2.2.1, HAp.out, HF.out.2.2.2⟩
          · have hlz : ln = [] := HBo.out.1.2.2.2.2 rfl
            have hz9 : A.n = 0 := by rw [← HL1.out, hlz]; rfl
            have hz' : ((A.n : Int) == 0) = true := by rw [hz9]; rfl
            clear hz9
            clear hlz
            by_cases h : (1000000000 : Int) ≤ sp
            · obtain ⟨_, r0, r1, r2, r3, r4, r5, r6, rf⟩ := id HC.out.box1
              have HF := hidOf (est_fin (A' := A1) (y := ⟨true, true, ln, gs, st, sp, tk⟩) HC.out HS.out.rows)
              have HR := hidOf (show stepM ⟨true, true, ln, gs, st, sp, tk⟩ who = (⟨true, true, ln, gs, st, sp, tk⟩, [], 2) by unfold stepM; rw [if_neg hn1, if_neg (by rw [hh1]; simp), if_neg (by rw [hh2]; simp), if_pos ⟨rfl, rfl, h⟩])
              clear HC hn1 HS HBo HIX
              go_wp2
              refine bodyPost_ret (v := .tuple #[.agg #[.bool true, .bool true, .slice A1.a A1.n A1.c, .slice A1.a' A1.n' A1.c', .int .i64 st, .int .i64 sp, .int .i64 tk], .slice none 0 0, .int .i64 2]) (by simp [results, Try.results39, go_sem, r0, r1, r2, r3, r4, r5, r6]) rfl ?_
              rw [HR.out]
              exact ⟨A1, none, 0, 0, rfl, HF.out.1, HF.out.2.1, ⟨⟨rfl, .inl rfl⟩, .inl rfl⟩, .inl rfl, HF.out.2.2⟩
            · have HR0 := hidOf (show stepM ⟨true, true, ln, gs, st, sp, tk⟩ who = ((passE ⟨true, true, ln, lessL gs who, st, sp, tk⟩).1, (passE ⟨true, true, ln, lessL gs who, st, sp, tk⟩).2, 0) by unfold stepM; rw [if_neg hn1, if_neg (by rw [hh1]; simp), if_neg (by rw [hh2]; simp), if_neg (fun hh => h hh.2.2), if_pos rfl])
              clear hn1 hh1 hh2
              have hIg := HIX.out.grs
              go_wp2_with fail
              refine (l2Less_any A.a' A.n' A.c' gs who _ hIg hn').mono ?_
              rintro e w7 ⟨g', m', c', rfl, ho', hb7⟩
              have hS7 := HS.out.keep hb7
              have hC7 := HC.out.kp hb7
              have hsz := HC.out.sz
              have hlt := HS.out.box.lt
              have hgp := (owns_parts ho').2.1
              have hS8 := hS7.told (row_mono ho' hsz) (fun e => by have e' : g' = N := by simpa [Value.ownBlock] using e
                                                                   omega) (fun q e e2 => by have e' : g' = q := by simpa [Value.ownBlock] using e2
                                                                                            have := (HS.out.rows.one.lt q e).2
                                                                                            omega)
              have hC8 := hC7.keep (B := w.heap.size + 2) (bl_set1 (Below.refl _ _) N 3 HS.out.ge (.slice (some ⟨g', 0, none⟩) m' c')) (Nat.le_refl _)
              obtain ⟨_, y0, y1, y2, y3, y4, y5, y6, yf⟩ := id hS7.box
              obtain ⟨_, pp0, pp1, pp2, pp3, pp4, pp5, pp6, _⟩ := id hC8.box0
              simp only at y0 y1 y2 y3 y4 y5 y6 pp0 pp1 pp2 pp3 pp4 pp5 pp6
              have HC2 := hidOf hC8
              have HS2 := hidOf hS8
              clear HC HS hS7 hS8 hC7 hC8 ho' hb7 hgp hIg z0 z1 z2 z3 z4 z5 z6 zf p0 p1 p2 p3 p4 p5 p6 hsz hlt
              have HC := HC2
              have HS := HS2
              clear HC2 HS2
              obtain ⟨_, vv0, vv1, vv2, vv3, vv4, vv5, vv6, vvf⟩ := id HS.out.box
              simp only at vv0 vv1 vv2 vv3 vv4 vv5 vv6
              have HRo := hidOf HS.out.rows
              have hsz := HC.out.sz
              go_wp2_with fail
              refine (l6Pass_any (w.heap.size + 2) (⟨A1.a, A1.n, A1.c, some ⟨g', 0, none⟩, m', c'⟩ : Na) ⟨true, true, ln, lessL gs who, st, sp, tk⟩ _ HRo.out hsz (by have h7 := HRo.out.len.1; have h8 := HL1.out; first | omega | (simp only at h7; omega)) (by have h7 := HRo.out.len.2; have h8 := HL2.out; have h9 := less_len gs who; first | omega | (simp only at h7; omega)) HBo.out.2.2.1).mono ?_
              rintro e w7 ⟨A7, a7, m7, c7, rfl, hR7, hO7, hA7, hB7⟩
              have HKd := hidOf (passE_kindS ⟨true, true, ln, lessL gs who, st, sp, tk⟩)
              have hC7 := HC.out.keep hB7 (Nat.le_refl _)
              clear HC HS HRo
              generalize passE ⟨true, true, ln, lessL gs who, st, sp, tk⟩ = pp at hR7 hO7 HR0 HKd ⊢
              obtain ⟨⟨pau, pup, pln, pgs, pst, psp, ptk⟩, pl⟩ := pp
              simp only at hR7 hO7 HR0 HKd ⊢
              obtain rfl : pau = true := HKd.out
              generalize hW8 : w7.alloc (.cells #[.bool true, .bool pup, .slice A7.a A7.n A7.c, .slice A7.a' A7.n' A7.c', .int .i64 pst, .int .i64 psp, .int .i64 ptk] 46) = W8
              have hb8 : Below w7.heap.size w7 W8 := by subst hW8; exact bl_alloc (Below.refl _ _) _
              have x8 : EBox w7.heap.size A7 ⟨true, pup, pln, pgs, pst, psp, ptk⟩ W8 := by subst hW8; exact EBox.new w7 A7 ⟨true, pup, pln, pgs, pst, psp, ptk⟩ _
              have hC8 := hC7.kp hb8
              have HF := hidOf (est_finT (A' := A7) (y := ⟨true, pup, pln, pgs, pst, psp, ptk⟩) hC8 (hR7.keep hb8) (hO7.keep hb8))
              have HAp := hidOf hA7
              obtain ⟨_, x0, x1, x2, x3, x4, x5, x6, _⟩ := id x8
              obtain ⟨_, r0, r1, r2, r3, r4, r5, r6, rf⟩ := id hC8.box1
              simp only at x0 x1 x2 x3 x4 x5 x6
              clear hC7 hC8 x8 hb8 hR7 hO7 hA7 hB7 HKd hsz
              go_wp2
              refine bodyPost_ret (v := .tuple #[.agg #[.bool true, .bool pup, .slice A7.a A7.n A7.c, .slice A7.a' A7.n' A7.c', .int .i64 pst, .int .i64 psp, .int .i64 ptk], .slice a7 m7 c7, .int .i64 0]) (by simp [results, Try.results39, go_sem, r0, r1, r2, r3, r4, r5, r6]) rfl ?_
              rw [HR0.out]
              exact ⟨A7, a7, m7, c7, rfl, HF.out.1, HF.out.2.1, HF.out.2.2.1, HAp.out, HF.out.2.2.2⟩
    · have HR0 := hidOf (show stepM ⟨au, up, ln, gs, st, sp, tk⟩ who = (⟨au, up, lessL ln who, gs, st, sp, tk⟩, [], 0) by unfold stepM; rw [if_neg hn1, if_pos hh1])
      clear hn1 hh1
      have hIg := HIX.out.ints
      go_wp2_with fail
      refine (l2Less_any A.a A.n A.c ln who _ hIg hn).mono ?_
      rintro e w7 ⟨g', m', c', rfl, ho', hb7⟩
      have hS7 := HS.out.keep hb7
      have hC7 := HC.out.kp hb7
      have hsz := HC.out.sz
      have hlt := HS.out.box.lt
      have hgp := (owns_parts ho').2.1
      have hS8 := hS7.line (row_mono ho' hsz) (fun e => by have e' : g' = N := by simpa [Value.ownBlock] using e
                                                           omega) (fun q e e2 => by have e' : g' = q := by simpa [Value.ownBlock] using e
                                                                                    have := (HS.out.rows.two.lt q e2).2
                                                                                    omega)
      have hC8 := hC7.keep (B := w.heap.size + 2) (bl_set1 (Below.refl _ _) N 2 HS.out.ge (.slice (some ⟨g', 0, none⟩) m' c')) (Nat.le_refl _)
      obtain ⟨_, y0, y1, y2, y3, y4, y5, y6, yf⟩ := id hS7.box
      obtain ⟨_, pp0, pp1, pp2, pp3, pp4, pp5, pp6, _⟩ := id hC8.box0
      simp only at y0 y1 y2 y3 y4 y5 y6 pp0 pp1 pp2 pp3 pp4 pp5 pp6
      have HC2 := hidOf hC8
      have HS2 := hidOf hS8
      clear HC HS hS7 hS8 hC7 hC8 ho' hb7 hgp hIg z0 z1 z2 z3 z4 z5 z6 zf p0 p1 p2 p3 p4 p5 p6 hsz hlt
      have HC := HC2
      have HS := HS2
      clear HC2 HS2
      obtain ⟨_, vv0, vv1, vv2, vv3, vv4, vv5, vv6, vvf⟩ := id HS.out.box
      simp only at vv0 vv1 vv2 vv3 vv4 vv5 vv6
      obtain ⟨_, r0, r1, r2, r3, r4, r5, r6, rf⟩ := id HC.out.box1
      have HF := hidOf (est_fin (A' := (⟨some ⟨g', 0, none⟩, m', c', A1.a', A1.n', A1.c'⟩ : Na)) (y := ⟨au, up, lessL ln who, gs, st, sp, tk⟩) HC.out HS.out.rows)
      have HR := hidOf (HR0.out)
      clear HC HS HR0 HBo HIX
      go_wp2
      refine bodyPost_ret (v := .tuple #[.agg #[.bool au, .bool up, .slice (⟨some ⟨g', 0, none⟩, m', c', A1.a', A1.n', A1.c'⟩ : Na).a (⟨some ⟨g', 0, none⟩, m', c', A1.a', A1.n', A1.c'⟩ : Na).n (⟨some ⟨g', 0, none⟩, m', c', A1.a', A1.n', A1.c'⟩ : Na).c, .slice (⟨some ⟨g', 0, none⟩, m', c', A1.a', A1.n', A1.c'⟩ : Na).a' (⟨some ⟨g', 0, none⟩, m', c', A1.a', A1.n', A1.c'⟩ : Na).n' (⟨some ⟨g', 0, none⟩, m', c', A1.a', A1.n', A1.c'⟩ : Na).c', .int .i64 st, .int .i64 sp, .int .i64 tk], .slice none 0 0, .int .i64 0]) (by simp [results, Try.results39, go_sem, r0, r1, r2, r3, r4, r5, r6]) rfl ?_
      rw [HR.out]
      exact ⟨(⟨some ⟨g', 0, none⟩, m', c', A1.a', A1.n', A1.c'⟩ : Na), none, 0, 0, rfl, HF.out.1, HF.out.2.1, ⟨⟨rfl, .inl rfl⟩, .inl rfl⟩, .inl rfl, HF.out.2.2⟩
end Go.Proofs.Ytbhdjcggcgddfaa
