/-
  Walks of the specification's cells: who watches, who watches no more.
-/
import Derived.Test.YtbhdjcggcgddfaaSpC
namespace Go.Proofs.Ytbhdjcggcgddfaa
open Go.RowKit Pl Il

set_option maxRecDepth 100000 in
set_option maxHeartbeats 2000000 in
theorem specUnwatch_any (A : Na) (x : Ct) (who : Int) (w : World) (hI : CIn w A x) (hn : A.n ≤ 2097152) (hn' : A.n' ≤ 2097152) (hok : A.ok) :
    Calls Try.prog 80 #[.agg #[.int .i64 x.kd, .int .i64 x.nu, .string x.tx, .int .i64 x.ve, .bool x.cl, .slice A.a A.n A.c, .slice A.a' A.n' A.c'], .int .i64 who] w fun e w' => COutP w (unwatchM x who).1 [.int .i64 (unwatchM x who).2] e w' := by
  have hC := cctx_new hI
  have s1 : ((w.alloc (.cells #[.int .i64 x.kd, .int .i64 x.nu, .string x.tx, .int .i64 x.ve, .bool x.cl, .slice A.a A.n A.c, .slice A.a' A.n' A.c'] 58)).alloc (.cells #[.int .i64 0, .int .i64 0, .string ⟨#[]⟩, .int .i64 0, .bool false, .slice none 0 0, .slice none 0 0] 58)).heap.size = w.heap.size + 2 := by simp
  have HL1 := hidOf hI.ints.len
  have HL2 := hidOf hI.grs.len
  have htx := hI.tx
  have HCp := hidOf (l7Copy_any A x _ hC.ninX hn hn')
  have HC := hidOf hC
  have S1 := hidOf s1
  clear hC s1 hI
  go_enter Try.func80, Try.ntmps80
  go_wp2_with fail
  refine (HCp.out).mono ?_
  rintro e w1 ⟨A1, rfl, hR, hb1⟩
  rw [S1.out] at hR
  have hC1 := HC.out.kp hb1
  have hS := cst_new (x := x) hR hC1.sz
  generalize hW2 : w1.alloc (.cells #[.int .i64 x.kd, .int .i64 x.nu, .string x.tx, .int .i64 x.ve, .bool x.cl, .slice A1.a A1.n A1.c, .slice A1.a' A1.n' A1.c'] 58) = W2 at hS
  have hb2 : Below w1.heap.size w1 W2 := by subst hW2; exact bl_alloc (Below.refl _ _) _
  have hC2 := hC1.kp hb2
  obtain ⟨_, p0, p1, p2, p3, p4, p5, p6, _⟩ := id hC2.box0
  have HS := hidOf hS
  have HC2 := hidOf hC2
  clear hR hb1 hC1 hb2 hC2 hS HC HCp
  go_wp2_with fail
  refine (specCellOk_any A x _ HC2.out.ninX hn hn' hok).mono ?_
  rintro e w3 ⟨rfl, hb3⟩
  have hC := HC2.out.kp hb3
  have hS := HS.out.keep hb3
  clear p0 p1 p2 p3 p4 p5 p6 hW2 hb3 HS HC2
  generalize hN : w1.heap.size = N at *
  clear hN
  obtain ⟨_, p0, p1, p2, p3, p4, p5, p6, _⟩ := id hC.box0
  obtain ⟨_, z0, z1, z2, z3, z4, z5, z6, zf⟩ := id hS.box
  have HC := hidOf hC
  have HS := hidOf hS
  have HIX := hidOf hC.ninX
  clear hC hS
  cases hokx : okC x
  · obtain ⟨_, r0, r1, r2, r3, r4, r5, r6, rf⟩ := id HC.out.box1
    have HF := hidOf (cst_fin (A' := A1) (y := x) HC.out HS.out.rows htx)
    have HR := hidOf (show unwatchM x who = (x, 1) by unfold unwatchM; rw [if_pos hokx])
    clear HC HS hokx
    go_wp2
    refine bodyPost_ret (v := .tuple #[.agg #[.int .i64 x.kd, .int .i64 x.nu, .string x.tx, .int .i64 x.ve, .bool x.cl, .slice A1.a A1.n A1.c, .slice A1.a' A1.n' A1.c'], .int .i64 1]) (by simp [results, Try.results80, go_sem, r0, r1, r2, r3, r4, r5, r6]) rfl ?_
    rw [HR.out]
    exact ⟨A1, rfl, HF.out⟩
  · have HOK := hidOf hokx
    clear hokx
    go_wp2_with fail
    refine (l2Has_any A.a A.n A.c x.ln who _ HIX.out.ints hn).mono ?_
    rintro e w5 ⟨rfl, rfl⟩
    cases hh1 : hasL x.ln who
    · go_wp2_with fail
      refine (l2Has_any A.a' A.n' A.c' x.gs who _ HIX.out.grs hn').mono ?_
      rintro e w6 ⟨rfl, rfl⟩
      cases hh2 : hasL x.gs who
      · obtain ⟨_, r0, r1, r2, r3, r4, r5, r6, rf⟩ := id HC.out.box1
        have HF := hidOf (cst_fin (A' := A1) (y := x) HC.out HS.out.rows htx)
        have HR := hidOf (show unwatchM x who = (x, 3) by unfold unwatchM; rw [if_neg (by rw [HOK.out]; simp), if_pos ⟨hh1, hh2⟩])
        clear HC HS 
        go_wp2
        refine bodyPost_ret (v := .tuple #[.agg #[.int .i64 x.kd, .int .i64 x.nu, .string x.tx, .int .i64 x.ve, .bool x.cl, .slice A1.a A1.n A1.c, .slice A1.a' A1.n' A1.c'], .int .i64 3]) (by simp [results, Try.results80, go_sem, r0, r1, r2, r3, r4, r5, r6]) rfl ?_
        rw [HR.out]
        exact ⟨A1, rfl, HF.out⟩
      · have hq : ¬ (hasL x.ln who = false ∧ hasL x.gs who = false) := by rw [hh2]; simp
        have HQ := hidOf hq
        clear hq
        have hIg := HIX.out.ints
        clear HIX
        go_wp2_with fail
        refine (l2Less_any A.a A.n A.c x.ln who _ hIg hn).mono ?_
        rintro e w7 ⟨g', m', c', rfl, ho', hb7⟩
        have hS7 := HS.out.keep hb7
        have hC7 := HC.out.kp hb7
        have hsz := HC.out.sz
        have hlt := HS.out.box.lt
        have hgp := (owns_parts ho').2.1
        have hS8 := hS7.line (row_mono ho' hsz) (fun e => by have e' : g' = N := by simpa [Value.ownBlock] using e
                                                             omega) (fun q e e2 => by have e' : g' = q := by simpa [Value.ownBlock] using e
                                                                                      have := (HS.out.rows.two.lt q e2).2
                                                                                      omega)
        have hC8 := hC7.keep (B := w.heap.size + 2) (bl_set1 (Below.refl _ _) N 5 HS.out.ge (.slice (some ⟨g', 0, none⟩) m' c')) (Nat.le_refl _)
        obtain ⟨_, y0, y1, y2, y3, y4, y5, y6, yf⟩ := id hS7.box
        obtain ⟨_, p0', p1', p2', p3', p4', p5', p6', _⟩ := id hC7.box0
        obtain ⟨_, p0'', p1'', p2'', p3'', p4'', p5'', p6'', _⟩ := id hC8.box0
        have HS8 := hidOf hS8
        have HC8 := hidOf hC8
        have hI8 := hC8.ninX.grs
        clear hS7 hS8 hC7 hC8 ho' hb7 hgp HC HS hIg z0 z1 z2 z3 z4 z5 z6 zf p0 p1 p2 p3 p4 p5 p6
        go_wp2_with fail
        refine (l2Less_any A.a' A.n' A.c' x.gs who _ hI8 hn').mono ?_
        rintro e w9 ⟨g9, m9, c9, rfl, ho9, hb9⟩
        have hS9 := HS8.out.keep hb9
        have hC9 := HC8.out.kp hb9
        have hsz8 := HC8.out.sz
        have hlt8 := HS8.out.box.lt
        have hgp9 := (owns_parts ho9).2.1
        have hS10 := hS9.told (row_mono ho9 hsz8) (fun e => by have e' : g9 = N := by simpa [Value.ownBlock] using e
                                                               omega) (fun q e e2 => by have e' : g9 = q := by simpa [Value.ownBlock] using e2
                                                                                        have := (HS8.out.rows.one.lt q e).2
                                                                                        omega)
        have hC10 := hC9.keep (B := w.heap.size + 2) (bl_set1 (Below.refl _ _) N 6 HS8.out.ge (.slice (some ⟨g9, 0, none⟩) m9 c9)) (Nat.le_refl _)
        obtain ⟨_, u0, u1, u2, u3, u4, u5, u6, uf⟩ := id hS9.box
        obtain ⟨_, v0, v1, v2, v3, v4, v5, v6, vf⟩ := id hS10.box
        simp only at u0 u1 u2 u3 u4 u5 u6 v0 v1 v2 v3 v4 v5 v6
        obtain ⟨_, r0, r1, r2, r3, r4, r5, r6, rf⟩ := id hC10.box1
        have HF := hidOf (cst_fin (A' := ⟨some ⟨g', 0, none⟩, m', c', some ⟨g9, 0, none⟩, m9, c9⟩) (y := { x with ln := lessL x.ln who, gs := lessL x.gs who }) hC10 hS10.rows htx)
        have HR := hidOf (show unwatchM x who = ({ x with ln := lessL x.ln who, gs := lessL x.gs who }, 0) by unfold unwatchM; rw [if_neg (by rw [HOK.out]; simp), if_neg HQ.out])
        clear hS9 hS10 hC9 hC10 ho9 hb9 hgp9 HC8 HS8 hI8 y0 y1 y2 y3 y4 y5 y6 yf p0' p1' p2' p3' p4' p5' p6' p0'' p1'' p2'' p3'' p4'' p5'' p6''
        go_wp2
        refine bodyPost_ret (v := .tuple #[.agg #[.int .i64 x.kd, .int .i64 x.nu, .string x.tx, .int .i64 x.ve, .bool x.cl, .slice (some ⟨g', 0, none⟩) m' c', .slice (some ⟨g9, 0, none⟩) m9 c9], .int .i64 0]) (by simp [results, Try.results80, go_sem, r0, r1, r2, r3, r4, r5, r6]) rfl ?_
        rw [HR.out]
        exact ⟨⟨some ⟨g', 0, none⟩, m', c', some ⟨g9, 0, none⟩, m9, c9⟩, rfl, HF.out⟩
    · have hq : ¬ (hasL x.ln who = false ∧ hasL x.gs who = false) := by rw [hh1]; simp
      have HQ := hidOf hq
      clear hq
      have hIg := HIX.out.ints
      clear HIX
      go_wp2_with fail
      refine (l2Less_any A.a A.n A.c x.ln who _ hIg hn).mono ?_
      rintro e w7 ⟨g', m', c', rfl, ho', hb7⟩
      have hS7 := HS.out.keep hb7
      have hC7 := HC.out.kp hb7
      have hsz := HC.out.sz
      have hlt := HS.out.box.lt
      have hgp := (owns_parts ho').2.1
      have hS8 := hS7.line (row_mono ho' hsz) (fun e => by have e' : g' = N := by simpa [Value.ownBlock] using e
                                                           omega) (fun q e e2 => by have e' : g' = q := by simpa [Value.ownBlock] using e
                                                                                    have := (HS.out.rows.two.lt q e2).2
                                                                                    omega)
      have hC8 := hC7.keep (B := w.heap.size + 2) (bl_set1 (Below.refl _ _) N 5 HS.out.ge (.slice (some ⟨g', 0, none⟩) m' c')) (Nat.le_refl _)
      obtain ⟨_, y0, y1, y2, y3, y4, y5, y6, yf⟩ := id hS7.box
      obtain ⟨_, p0', p1', p2', p3', p4', p5', p6', _⟩ := id hC7.box0
      obtain ⟨_, p0'', p1'', p2'', p3'', p4'', p5'', p6'', _⟩ := id hC8.box0
      have HS8 := hidOf hS8
      have HC8 := hidOf hC8
      have hI8 := hC8.ninX.grs
      clear hS7 hS8 hC7 hC8 ho' hb7 hgp HC HS hIg z0 z1 z2 z3 z4 z5 z6 zf p0 p1 p2 p3 p4 p5 p6
      go_wp2_with fail
      refine (l2Less_any A.a' A.n' A.c' x.gs who _ hI8 hn').mono ?_
      rintro e w9 ⟨g9, m9, c9, rfl, ho9, hb9⟩
      have hS9 := HS8.out.keep hb9
      have hC9 := HC8.out.kp hb9
      have hsz8 := HC8.out.sz
      have hlt8 := HS8.out.box.lt
      have hgp9 := (owns_parts ho9).2.1
      have hS10 := hS9.told (row_mono ho9 hsz8) (fun e => by have e' : g9 = N := by simpa [Value.ownBlock] using e
                                                             omega) (fun q e e2 => by have e' : g9 = q := by simpa [Value.ownBlock] using e2
                                                                                      have := (HS8.out.rows.one.lt q e).2
                                                                                      omega)
      have hC10 := hC9.keep (B := w.heap.size + 2) (bl_set1 (Below.refl _ _) N 6 HS8.out.ge (.slice (some ⟨g9, 0, none⟩) m9 c9)) (Nat.le_refl _)
      obtain ⟨_, u0, u1, u2, u3, u4, u5, u6, uf⟩ := id hS9.box
      obtain ⟨_, v0, v1, v2, v3, v4, v5, v6, vf⟩ := id hS10.box
      simp only at u0 u1 u2 u3 u4 u5 u6 v0 v1 v2 v3 v4 v5 v6
      obtain ⟨_, r0, r1, r2, r3, r4, r5, r6, rf⟩ := id hC10.box1
      have HF := hidOf (cst_fin (A' := ⟨some ⟨g', 0, none⟩, m', c', some ⟨g9, 0, none⟩, m9, c9⟩) (y := { x with ln := lessL x.ln who, gs := lessL x.gs who }) hC10 hS10.rows htx)
      have HR := hidOf (show unwatchM x who = ({ x with ln := lessL x.ln who, gs := lessL x.gs who }, 0) by unfold unwatchM; rw [if_neg (by rw [HOK.out]; simp), if_neg HQ.out])
      clear hS9 hS10 hC9 hC10 ho9 hb9 hgp9 HC8 HS8 hI8 y0 y1 y2 y3 y4 y5 y6 yf p0' p1' p2' p3' p4' p5' p6' p0'' p1'' p2'' p3'' p4'' p5'' p6''
      go_wp2
      refine bodyPost_ret (v := .tuple #[.agg #[.int .i64 x.kd, .int .i64 x.nu, .string x.tx, .int .i64 x.ve, .bool x.cl, .slice (some ⟨g', 0, none⟩) m' c', .slice (some ⟨g9, 0, none⟩) m9 c9], .int .i64 0]) (by simp [results, Try.results80, go_sem, r0, r1, r2, r3, r4, r5, r6]) rfl ?_
      rw [HR.out]
      exact ⟨⟨some ⟨g', 0, none⟩, m', c', some ⟨g9, 0, none⟩, m9, c9⟩, rfl, HF.out⟩
end Go.Proofs.Ytbhdjcggcgddfaa
