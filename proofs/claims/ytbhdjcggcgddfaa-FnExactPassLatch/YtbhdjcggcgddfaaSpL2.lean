/-
  Walks of the specification's latches: who stands at one, who passes it, who quits it.
-/
import Derived.Test.YtbhdjcggcgddfaaSpL
namespace Go.Proofs.Ytbhdjcggcgddfaa
open Go.RowKit Pl Il

set_option maxRecDepth 100000 in
set_option maxHeartbeats 2000000 in
theorem specPassLatch_any (A : Na) (x : Lt) (who : Int) (w : World) (hI : LIn w A x) (hn : A.n ≤ 2097152) (hn' : A.n' ≤ 2097152) (hok : A.ok) :
    Calls Try.prog 67 #[.agg #[.int .i64 x.ct, .slice A.a A.n A.c, .slice A.a' A.n' A.c'], .int .i64 who] w fun e w' => LOutP w (passM x who).1 [.int .i64 (passM x who).2] e w' := by
  have hC := lctx_new hI
  have s1 : ((w.alloc (.cells #[.int .i64 x.ct, .slice A.a A.n A.c, .slice A.a' A.n' A.c'] 78)).alloc (.cells #[.int .i64 0, .slice none 0 0, .slice none 0 0] 78)).heap.size = w.heap.size + 2 := by simp
  have HL1 := hidOf hI.ints.len
  have HL2 := hidOf hI.grs.len
  have HCp := hidOf (l6CopyLatch_any A x _ hC.ninX hn hn')
  have HC := hidOf hC
  have S1 := hidOf s1
  clear hC s1 hI
  go_enter Try.func67, Try.ntmps67
  go_wp2_with fail
  refine (HCp.out).mono ?_
  rintro e w1 ⟨A1, rfl, hR, hb1⟩
  rw [S1.out] at hR
  have hC1 := HC.out.kp hb1
  have hS := lst_new (x := x) hR hC1.sz
  generalize hW2 : w1.alloc (.cells #[.int .i64 x.ct, .slice A1.a A1.n A1.c, .slice A1.a' A1.n' A1.c'] 78) = W2 at hS
  have hb2 : Below w1.heap.size w1 W2 := by subst hW2; exact bl_alloc (Below.refl _ _) _
  have hC2 := hC1.kp hb2
  obtain ⟨_, p0, p1, p2, _⟩ := id hC2.box0
  have HS := hidOf hS
  have HC2 := hidOf hC2
  clear hR hb1 hC1 hb2 hC2 hS HC HCp
  go_wp2_with fail
  refine (specLatchOk_any A x _ HC2.out.ninX hn hn' hok).mono ?_
  rintro e w3 ⟨rfl, hb3⟩
  have hC := HC2.out.kp hb3
  have hS := HS.out.keep hb3
  clear p0 p1 p2 hW2 hb3 HS HC2
  generalize hN : w1.heap.size = N at *
  clear hN
  obtain ⟨_, p0, p1, p2, _⟩ := id hC.box0
  obtain ⟨_, z0, z1, z2, zf⟩ := id hS.box
  have HC := hidOf hC
  have HS := hidOf hS
  have HIX := hidOf hC.ninX
  clear hC hS
  cases hokx : okLa x
  · obtain ⟨_, r0, r1, r2, rf⟩ := id HC.out.box1
    have HF := hidOf (lst_fin (A' := A1) (y := x) HC.out HS.out.rows)
    have HR := hidOf (show passM x who = (x, 1) by unfold passM; rw [if_pos hokx])
    clear HC hokx HS
    go_wp2
    refine bodyPost_ret (v := .tuple #[.agg #[.int .i64 x.ct, .slice A1.a A1.n A1.c, .slice A1.a' A1.n' A1.c'], .int .i64 1]) (by simp [results, Try.results67, go_sem, r0, r1, r2]) rfl ?_
    rw [HR.out]
    exact ⟨A1, rfl, HF.out⟩
  · go_wp2_with fail
    refine (l2Has_any A.a A.n A.c x.ln who _ HIX.out.ints hn).mono ?_
    rintro e w5 ⟨rfl, rfl⟩
    have hn1 : ¬ (okLa x = false) := by simp [hokx]
    cases hh1 : hasL x.ln who
    · go_wp2_with fail
      refine (l2Has_any A.a' A.n' A.c' x.gs who _ HIX.out.grs hn').mono ?_
      rintro e w6 ⟨rfl, rfl⟩
      cases hh2 : hasL x.gs who
      · obtain ⟨_, r0, r1, r2, rf⟩ := id HC.out.box1
        have HF := hidOf (lst_fin (A' := A1) (y := x) HC.out HS.out.rows)
        have HR := hidOf (show passM x who = (x, 3) by unfold passM; rw [if_neg hn1, if_neg (by rw [hh1]; simp), if_neg (by rw [hh2]; simp)])
        clear HC hn1 HS
        go_wp2
        refine bodyPost_ret (v := .tuple #[.agg #[.int .i64 x.ct, .slice A1.a A1.n A1.c, .slice A1.a' A1.n' A1.c'], .int .i64 3]) (by simp [results, Try.results67, go_sem, r0, r1, r2]) rfl ?_
        rw [HR.out]
        exact ⟨A1, rfl, HF.out⟩
      · have hIg := HIX.out.grs
        go_wp2_with fail
        refine (l2Less_any A.a' A.n' A.c' x.gs who _ hIg hn').mono ?_
        rintro e w7 ⟨g', m', c', rfl, ho', hb7⟩
        have hS7 := HS.out.keep hb7
        have hC7 := HC.out.kp hb7
        have hsz := HC.out.sz
        have hlt := HS.out.box.lt
        have hgp := (owns_parts ho').2.1
        have hS8 := hS7.told (row_mono ho' hsz) (fun e => by have e' : g' = N := by simpa [Value.ownBlock] using e
                                                             omega) (fun q e e2 => by have e' : g' = q := by simpa [Value.ownBlock] using e2
                                                                                      have := (HS.out.rows.one.lt q e).2
                                                                                      omega)
        have hC8 := hC7.keep (B := w.heap.size + 2) (bl_set1 (Below.refl _ _) N 2 HS.out.ge (.slice (some ⟨g', 0, none⟩) m' c')) (Nat.le_refl _)
        obtain ⟨_, y0, y1, y2, yf⟩ := id hS7.box
        obtain ⟨_, v0, v1, v2, vf⟩ := id hS8.box
        have HF := hidOf (lst_fin (y := { x with gs := lessL x.gs who }) hC8 hS8.rows)
        have HR := hidOf (show passM x who = ({ x with gs := lessL x.gs who }, 0) by unfold passM; rw [if_neg hn1, if_neg (by rw [hh1]; simp), if_pos hh2])
        obtain ⟨_, r0, r1, r2, rf⟩ := id hC8.box1
        simp only at v0 v1 v2 HF
        clear hS7 hS8 hC7 hC8 hn1 hh1 hh2 ho' hb7 hgp HC HS hIg z0 z1 z2 zf
        go_wp2
        refine bodyPost_ret (v := .tuple #[.agg #[.int .i64 x.ct, .slice A1.a A1.n A1.c, .slice (some ⟨g', 0, none⟩) m' c'], .int .i64 0]) (by simp [results, Try.results67, go_sem, r0, r1, r2]) rfl ?_
        rw [HR.out]
        exact ⟨⟨A1.a, A1.n, A1.c, some ⟨g', 0, none⟩, m', c'⟩, rfl, HF.out⟩
    · obtain ⟨_, r0, r1, r2, rf⟩ := id HC.out.box1
      have HF := hidOf (lst_fin (A' := A1) (y := x) HC.out HS.out.rows)
      have HR := hidOf (show passM x who = (x, 4) by unfold passM; rw [if_neg hn1, if_pos hh1])
      clear HC hn1 HS
      go_wp2
      refine bodyPost_ret (v := .tuple #[.agg #[.int .i64 x.ct, .slice A1.a A1.n A1.c, .slice A1.a' A1.n' A1.c'], .int .i64 4]) (by simp [results, Try.results67, go_sem, r0, r1, r2]) rfl ?_
      rw [HR.out]
      exact ⟨A1, rfl, HF.out⟩
set_option maxRecDepth 100000 in
set_option maxHeartbeats 2000000 in
theorem specQuitLatch_any (A : Na) (x : Lt) (who : Int) (w : World) (hI : LIn w A x) (hn : A.n ≤ 2097152) (hn' : A.n' ≤ 2097152) (hok : A.ok) :
    Calls Try.prog 68 #[.agg #[.int .i64 x.ct, .slice A.a A.n A.c, .slice A.a' A.n' A.c'], .int .i64 who] w fun e w' => LOutP w (quitM x who).1 [.int .i64 (quitM x who).2] e w' := by
  have hC := lctx_new hI
  have s1 : ((w.alloc (.cells #[.int .i64 x.ct, .slice A.a A.n A.c, .slice A.a' A.n' A.c'] 78)).alloc (.cells #[.int .i64 0, .slice none 0 0, .slice none 0 0] 78)).heap.size = w.heap.size + 2 := by simp
  have HL1 := hidOf hI.ints.len
  have HL2 := hidOf hI.grs.len
  have HCp := hidOf (l6CopyLatch_any A x _ hC.ninX hn hn')
  have HC := hidOf hC
  have S1 := hidOf s1
  clear hC s1 hI
  go_enter Try.func68, Try.ntmps68
  go_wp2_with fail
  refine (HCp.out).mono ?_
  rintro e w1 ⟨A1, rfl, hR, hb1⟩
  rw [S1.out] at hR
  have hC1 := HC.out.kp hb1
  have hS := lst_new (x := x) hR hC1.sz
  generalize hW2 : w1.alloc (.cells #[.int .i64 x.ct, .slice A1.a A1.n A1.c, .slice A1.a' A1.n' A1.c'] 78) = W2 at hS
  have hb2 : Below w1.heap.size w1 W2 := by subst hW2; exact bl_alloc (Below.refl _ _) _
  have hC2 := hC1.kp hb2
  obtain ⟨_, p0, p1, p2, _⟩ := id hC2.box0
  have HS := hidOf hS
  have HC2 := hidOf hC2
  clear hR hb1 hC1 hb2 hC2 hS HC HCp
  go_wp2_with fail
  refine (specLatchOk_any A x _ HC2.out.ninX hn hn' hok).mono ?_
  rintro e w3 ⟨rfl, hb3⟩
  have hC := HC2.out.kp hb3
  have hS := HS.out.keep hb3
  clear p0 p1 p2 hW2 hb3 HS HC2
  generalize hN : w1.heap.size = N at *
  clear hN
  obtain ⟨_, p0, p1, p2, _⟩ := id hC.box0
  obtain ⟨_, z0, z1, z2, zf⟩ := id hS.box
  have HC := hidOf hC
  have HS := hidOf hS
  have HIX := hidOf hC.ninX
  clear hC hS
  cases hokx : okLa x
  · obtain ⟨_, r0, r1, r2, rf⟩ := id HC.out.box1
    have HF := hidOf (lst_fin (A' := A1) (y := x) HC.out HS.out.rows)
    have HR := hidOf (show quitM x who = (x, 1) by unfold quitM; rw [if_pos hokx])
    clear HC hokx HS
    go_wp2
    refine bodyPost_ret (v := .tuple #[.agg #[.int .i64 x.ct, .slice A1.a A1.n A1.c, .slice A1.a' A1.n' A1.c'], .int .i64 1]) (by simp [results, Try.results68, go_sem, r0, r1, r2]) rfl ?_
    rw [HR.out]
    exact ⟨A1, rfl, HF.out⟩
  · go_wp2_with fail
    refine (l2Has_any A.a A.n A.c x.ln who _ HIX.out.ints hn).mono ?_
    rintro e w5 ⟨rfl, rfl⟩
    have hn1 : ¬ (okLa x = false) := by simp [hokx]
    cases hh1 : hasL x.ln who
    · go_wp2_with fail
      refine (l2Has_any A.a' A.n' A.c' x.gs who _ HIX.out.grs hn').mono ?_
      rintro e w6 ⟨rfl, rfl⟩
      cases hh2 : hasL x.gs who
      · obtain ⟨_, r0, r1, r2, rf⟩ := id HC.out.box1
        have HF := hidOf (lst_fin (A' := A1) (y := x) HC.out HS.out.rows)
        have HR := hidOf (show quitM x who = (x, 3) by unfold quitM; rw [if_neg hn1, if_pos ⟨hh1, hh2⟩])
        clear HC hn1 HS
        go_wp2
        refine bodyPost_ret (v := .tuple #[.agg #[.int .i64 x.ct, .slice A1.a A1.n A1.c, .slice A1.a' A1.n' A1.c'], .int .i64 3]) (by simp [results, Try.results68, go_sem, r0, r1, r2]) rfl ?_
        rw [HR.out]
        exact ⟨A1, rfl, HF.out⟩
      · have hq : ¬ (hasL x.ln who = false ∧ hasL x.gs who = false) := by simp [hh1, hh2]
        have hIg := HIX.out.ints
        clear HIX
        go_wp2_with fail
        refine (l2Less_any A.a A.n A.c x.ln who _ hIg hn).mono ?_
        rintro e w7 ⟨g', m', c', rfl, ho', hb7⟩
        have hS7 := HS.out.keep hb7
        have hC7 := HC.out.kp hb7
        have hsz := HC.out.sz
        have hlt := HS.out.box.lt
        have hgp := (owns_parts ho').2.1
        have hS8 := hS7.line (row_mono ho' hsz) (fun e => by have e' : g' = N := by simpa [Value.ownBlock] using e
                                                             omega) (fun q e e2 => by have e' : g' = q := by simpa [Value.ownBlock] using e
                                                                                      have := (HS.out.rows.two.lt q e2).2
                                                                                      omega)
        have hC8 := hC7.keep (B := w.heap.size + 2) (bl_set1 (Below.refl _ _) N 1 HS.out.ge (.slice (some ⟨g', 0, none⟩) m' c')) (Nat.le_refl _)
        obtain ⟨_, y0, y1, y2, yf⟩ := id hS7.box
        obtain ⟨_, p0', p1', p2', _⟩ := id hC7.box0
        obtain ⟨_, p0'', p1'', p2'', _⟩ := id hC8.box0
        have HS8 := hidOf hS8
        have HC8 := hidOf hC8
        have HR := hidOf (show quitM x who = ({ x with ln := lessL x.ln who, gs := lessL x.gs who }, 0) by unfold quitM; rw [if_neg hn1, if_neg hq])
        have hI8 := hC8.ninX.grs
        clear hS7 hS8 hC7 hC8 hn1 hq ho' hb7 hgp HC HS hIg z0 z1 z2 zf p0 p1 p2
        go_wp2_with fail
        refine (l2Less_any A.a' A.n' A.c' x.gs who _ hI8 hn').mono ?_
        rintro e w9 ⟨g9, m9, c9, rfl, ho9, hb9⟩
        have hS9 := HS8.out.keep hb9
        have hC9 := HC8.out.kp hb9
        have hsz8 := HC8.out.sz
        have hlt8 := HS8.out.box.lt
        have hgp9 := (owns_parts ho9).2.1
        have hS10 := hS9.told (row_mono ho9 hsz8) (fun e => by have e' : g9 = N := by simpa [Value.ownBlock] using e
                                                               omega) (fun q e e2 => by have e' : g9 = q := by simpa [Value.ownBlock] using e2
                                                                                        have := (HS8.out.rows.one.lt q e).2
                                                                                        omega)
        have hC10 := hC9.keep (B := w.heap.size + 2) (bl_set1 (Below.refl _ _) N 2 HS8.out.ge (.slice (some ⟨g9, 0, none⟩) m9 c9)) (Nat.le_refl _)
        obtain ⟨_, u0, u1, u2, uf⟩ := id hS9.box
        obtain ⟨_, v0, v1, v2, vf⟩ := id hS10.box
        have HF := hidOf (lst_fin (y := { x with ln := lessL x.ln who, gs := lessL x.gs who }) hC10 hS10.rows)
        obtain ⟨_, r0, r1, r2, rf⟩ := id hC10.box1
        simp only at u0 u1 u2 v0 v1 v2 HF
        clear hS9 hS10 hC9 hC10 ho9 hb9 hgp9 HC8 HS8 hI8 y0 y1 y2 yf p0' p1' p2' p0'' p1'' p2''
        go_wp2
        refine bodyPost_ret (v := .tuple #[.agg #[.int .i64 x.ct, .slice (some ⟨g', 0, none⟩) m' c', .slice (some ⟨g9, 0, none⟩) m9 c9], .int .i64 0]) (by simp [results, Try.results68, go_sem, r0, r1, r2]) rfl ?_
        rw [HR.out]
        exact ⟨⟨some ⟨g', 0, none⟩, m', c', some ⟨g9, 0, none⟩, m9, c9⟩, rfl, HF.out⟩
    · have hq : ¬ (hasL x.ln who = false ∧ hasL x.gs who = false) := by simp [hh1]
      have hIg := HIX.out.ints
      clear HIX
      go_wp2_with fail
      refine (l2Less_any A.a A.n A.c x.ln who _ hIg hn).mono ?_
      rintro e w7 ⟨g', m', c', rfl, ho', hb7⟩
      have hS7 := HS.out.keep hb7
      have hC7 := HC.out.kp hb7
      have hsz := HC.out.sz
      have hlt := HS.out.box.lt
      have hgp := (owns_parts ho').2.1
      have hS8 := hS7.line (row_mono ho' hsz) (fun e => by have e' : g' = N := by simpa [Value.ownBlock] using e
                                                           omega) (fun q e e2 => by have e' : g' = q := by simpa [Value.ownBlock] using e
                                                                                    have := (HS.out.rows.two.lt q e2).2
                                                                                    omega)
      have hC8 := hC7.keep (B := w.heap.size + 2) (bl_set1 (Below.refl _ _) N 1 HS.out.ge (.slice (some ⟨g', 0, none⟩) m' c')) (Nat.le_refl _)
      obtain ⟨_, y0, y1, y2, yf⟩ := id hS7.box
      obtain ⟨_, p0', p1', p2', _⟩ := id hC7.box0
      obtain ⟨_, p0'', p1'', p2'', _⟩ := id hC8.box0
      have HS8 := hidOf hS8
      have HC8 := hidOf hC8
      have HR := hidOf (show quitM x who = ({ x with ln := lessL x.ln who, gs := lessL x.gs who }, 0) by unfold quitM; rw [if_neg hn1, if_neg hq])
      have hI8 := hC8.ninX.grs
      clear hS7 hS8 hC7 hC8 hn1 hq ho' hb7 hgp HC HS hIg z0 z1 z2 zf p0 p1 p2
      go_wp2_with fail
      refine (l2Less_any A.a' A.n' A.c' x.gs who _ hI8 hn').mono ?_
      rintro e w9 ⟨g9, m9, c9, rfl, ho9, hb9⟩
      have hS9 := HS8.out.keep hb9
      have hC9 := HC8.out.kp hb9
      have hsz8 := HC8.out.sz
      have hlt8 := HS8.out.box.lt
      have hgp9 := (owns_parts ho9).2.1
      have hS10 := hS9.told (row_mono ho9 hsz8) (fun e => by have e' : g9 = N := by simpa [Value.ownBlock] using e
                                                             omega) (fun q e e2 => by have e' : g9 = q := by simpa [Value.ownBlock] using e2
                                                                                      have := (HS8.out.rows.one.lt q e).2
                                                                                      omega)
      have hC10 := hC9.keep (B := w.heap.size + 2) (bl_set1 (Below.refl _ _) N 2 HS8.out.ge (.slice (some ⟨g9, 0, none⟩) m9 c9)) (Nat.le_refl _)
      obtain ⟨_, u0, u1, u2, uf⟩ := id hS9.box
      obtain ⟨_, v0, v1, v2, vf⟩ := id hS10.box
      have HF := hidOf (lst_fin (y := { x with ln := lessL x.ln who, gs := lessL x.gs who }) hC10 hS10.rows)
      obtain ⟨_, r0, r1, r2, rf⟩ := id hC10.box1
      simp only at u0 u1 u2 v0 v1 v2 HF
      clear hS9 hS10 hC9 hC10 ho9 hb9 hgp9 HC8 HS8 hI8 y0 y1 y2 yf p0' p1' p2' p0'' p1'' p2''
      go_wp2
      refine bodyPost_ret (v := .tuple #[.agg #[.int .i64 x.ct, .slice (some ⟨g', 0, none⟩) m' c', .slice (some ⟨g9, 0, none⟩) m9 c9], .int .i64 0]) (by simp [results, Try.results68, go_sem, r0, r1, r2]) rfl ?_
      rw [HR.out]
      exact ⟨⟨some ⟨g', 0, none⟩, m', c', some ⟨g9, 0, none⟩, m9, c9⟩, rfl, HF.out⟩
end Go.Proofs.Ytbhdjcggcgddfaa
