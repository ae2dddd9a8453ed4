/-
  Walks of the specification's cells: who has been told.
-/
import Derived.Test.YtbhdjcggcgddfaaSpC3
import Derived.Test.YtbhdjcggcgddfaaCM9
namespace Go.Proofs.Ytbhdjcggcgddfaa
open Go.RowKit Pl Il

set_option maxRecDepth 100000 in
set_option maxHeartbeats 2000000 in
theorem specSeen_any (A : Na) (x : Ct) (who : Int) (w : World) (hI : CIn w A x) (hn : A.n ≤ 2097152) (hn' : A.n' ≤ 2097152) (hok : A.ok) :
    Calls Try.prog 78 #[.agg #[.int .i64 x.kd, .int .i64 x.nu, .string x.tx, .int .i64 x.ve, .bool x.cl, .slice A.a A.n A.c, .slice A.a' A.n' A.c'], .int .i64 who] w fun e w' => COutP w (seenM x who).1 [.agg #[.int .i64 (seenM x who).2.1, .int .i64 (seenM x who).2.2.1, .string (seenM x who).2.2.2.1], .int .i64 (seenM x who).2.2.2.2.1, .int .i64 (seenM x who).2.2.2.2.2] e w' := by
  have hC := cc3_new hI
  have s1 : (((w.alloc (.cells #[.int .i64 x.kd, .int .i64 x.nu, .string x.tx, .int .i64 x.ve, .bool x.cl, .slice A.a A.n A.c, .slice A.a' A.n' A.c'] 58)).alloc (.cells #[.int .i64 0, .int .i64 0, .string ⟨#[]⟩, .int .i64 0, .bool false, .slice none 0 0, .slice none 0 0] 58)).alloc (.cells #[.int .i64 0, .int .i64 0, .string ⟨#[]⟩] 55)).heap.size = w.heap.size + 3 := by simp
  have HL1 := hidOf hI.ints.len
  have HL2 := hidOf hI.grs.len
  have htx := hI.tx
  have HCp := hidOf (l7Copy_any A x _ hC.c.ninX hn hn')
  have HC := hidOf hC
  have S1 := hidOf s1
  clear hC s1 hI
  go_enter Try.func78, Try.ntmps78
  go_wp2_with fail
  refine (HCp.out).mono ?_
  rintro e w1 ⟨A1, rfl, hR, hb1⟩
  rw [S1.out] at hR
  have hC1 := HC.out.kp hb1
  have hS := cst_new (x := x) hR hC1.sz
  generalize hW2 : w1.alloc (.cells #[.int .i64 x.kd, .int .i64 x.nu, .string x.tx, .int .i64 x.ve, .bool x.cl, .slice A1.a A1.n A1.c, .slice A1.a' A1.n' A1.c'] 58) = W2 at hS
  have hb2 : Below w1.heap.size w1 W2 := by subst hW2; exact bl_alloc (Below.refl _ _) _
  have hC2 := hC1.kp hb2
  obtain ⟨_, p0, p1, p2, p3, p4, p5, p6, _⟩ := id hC2.c.box0
  have HS := hidOf hS
  have HC2 := hidOf hC2
  clear hR hb1 hC1 hb2 hC2 hS HC HCp
  go_wp2_with fail
  refine (specCellOk_any A x _ HC2.out.c.ninX hn hn' hok).mono ?_
  rintro e w3 ⟨rfl, hb3⟩
  have hC := HC2.out.kp hb3
  have hS := HS.out.keep hb3
  clear p0 p1 p2 p3 p4 p5 p6 hW2 hb3 HS HC2
  generalize hN : w1.heap.size = N at *
  clear hN
  obtain ⟨_, p0, p1, p2, p3, p4, p5, p6, _⟩ := id hC.c.box0
  obtain ⟨_, z0, z1, z2, z3, z4, z5, z6, zf⟩ := id hS.box
  have HC := hidOf hC
  have HS := hidOf hS
  have HIX := hidOf hC.c.ninX
  clear hC hS
  cases hokx : okC x
  · obtain ⟨_, r0, r1, r2, r3, r4, r5, r6, rf⟩ := id HC.out.c.box1
    obtain ⟨_, e0, e1, e2, ef⟩ := id HC.out.m
    have HF := hidOf (seen_fin (A' := A1) (y := x) HC.out HS.out.rows htx (.int .i64 0) (.int .i64 0) (.string ⟨#[]⟩))
    have HR := hidOf (show seenM x who = (x, 0, 0, ⟨#[]⟩, 0, 1) by unfold seenM; rw [if_pos hokx])
    clear HC HS hokx
    go_wp2
    refine bodyPost_ret (v := .tuple #[.agg #[.int .i64 x.kd, .int .i64 x.nu, .string x.tx, .int .i64 x.ve, .bool x.cl, .slice A1.a A1.n A1.c, .slice A1.a' A1.n' A1.c'], .agg #[.int .i64 0, .int .i64 0, .string ⟨#[]⟩], .int .i64 0, .int .i64 1]) (by simp [results, Try.results78, go_sem, r0, r1, r2, r3, r4, r5, r6, e0, e1, e2]) rfl ?_
    rw [HR.out]
    exact ⟨A1, rfl, HF.out⟩
  · have HOK := hidOf hokx
    clear hokx
    go_wp2_with fail
    refine (l2Has_any A.a A.n A.c x.ln who _ HIX.out.ints hn).mono ?_
    rintro e w5 ⟨rfl, rfl⟩
    cases hh1 : hasL x.ln who
    · go_wp2_with fail
      refine (l2Has_any A.a' A.n' A.c' x.gs who _ HIX.out.grs hn').mono ?_
      rintro e w6 ⟨rfl, rfl⟩
      cases hh2 : hasL x.gs who
      · obtain ⟨_, r0, r1, r2, r3, r4, r5, r6, rf⟩ := id HC.out.c.box1
        obtain ⟨_, e0, e1, e2, ef⟩ := id HC.out.m
        have HF := hidOf (seen_fin (A' := A1) (y := x) HC.out HS.out.rows htx (.int .i64 0) (.int .i64 0) (.string ⟨#[]⟩))
        have HR := hidOf (show seenM x who = (x, 0, 0, ⟨#[]⟩, 0, 3) by unfold seenM; rw [if_neg (by rw [HOK.out]; simp), if_neg (by rw [hh1]; simp), if_neg (by rw [hh2]; simp)])
        clear HC HS 
        go_wp2
        refine bodyPost_ret (v := .tuple #[.agg #[.int .i64 x.kd, .int .i64 x.nu, .string x.tx, .int .i64 x.ve, .bool x.cl, .slice A1.a A1.n A1.c, .slice A1.a' A1.n' A1.c'], .agg #[.int .i64 0, .int .i64 0, .string ⟨#[]⟩], .int .i64 0, .int .i64 3]) (by simp [results, Try.results78, go_sem, r0, r1, r2, r3, r4, r5, r6, e0, e1, e2]) rfl ?_
        rw [HR.out]
        exact ⟨A1, rfl, HF.out⟩
      · have hIg := HIX.out.grs
        go_wp2_with fail
        refine (l2Less_any A.a' A.n' A.c' x.gs who _ hIg hn').mono ?_
        rintro e w7 ⟨g', m', c', rfl, ho', hb7⟩
        have hS7 := HS.out.keep hb7
        have hC7 := HC.out.kp hb7
        have hsz := HC.out.sz
        have hlt := HS.out.box.lt
        have hgp := (owns_parts ho').2.1
        have hS8 := hS7.told (row_mono ho' hsz) (fun e => by have e' : g' = N := by simpa [Value.ownBlock] using e
                                                             omega) (fun q e e2 => by have e' : g' = q := by simpa [Value.ownBlock] using e2
                                                                                      have := (HS.out.rows.one.lt q e).2
                                                                                      omega)
        have hC8 := hC7.keep (B := w.heap.size + 3) (bl_set1 (Below.refl _ _) N 6 HS.out.ge (.slice (some ⟨g', 0, none⟩) m' c')) (Nat.le_refl _)
        obtain ⟨_, y0, y1, y2, y3, y4, y5, y6, yf⟩ := id hS7.box
        obtain ⟨_, v0, v1, v2, v3, v4, v5, v6, vf⟩ := id hS8.box
        clear p0 p1 p2 p3 p4 p5 p6
        obtain ⟨_, p0, p1, p2, p3, p4, p5, p6, _⟩ := id hC8.c.box0
        simp only at v0 v1 v2 v3 v4 v5 v6
        have HS8 := hidOf hS8
        have HC8 := hidOf hC8
        have hI8 := hC8.c.ninX
        clear hS7 hS8 hC7 hC8 ho' hb7 hgp HC HS hIg z0 z1 z2 z3 z4 z5 z6 zf
        go_wp2_with fail
        refine (specLook_any A x _ hI8 hn hn' hok).mono ?_
        rintro e w9 ⟨hP, hb9⟩
        unfold LookP at hP
        have hlk : lookM x = (x.kd, x.nu, x.tx, x.ve, lookC x) := by unfold lookM; rw [if_neg (by rw [HOK.out]; simp)]
        rw [hlk] at hP
        subst hP
        clear hlk
        simp only
        generalize hW : w9.alloc (.cells #[.int .i64 x.kd, .int .i64 x.nu, .string x.tx] 55) = W
        have bW : Below w9.heap.size w9 W := by subst hW; exact bl_alloc (Below.refl _ _) _
        have mW : Box3 w9.heap.size (.int .i64 x.kd) (.int .i64 x.nu) (.string x.tx) W := by subst hW; exact Box3.new w9 _ _ _ _
        have hz9 : w.heap.size + 3 ≤ w9.heap.size := Nat.le_trans HC8.out.sz hb9.size
        have hq1 : ¬ w9.heap.size = w.heap.size + 1 := by omega
        have hq2 : ¬ w.heap.size + 1 = w9.heap.size := by omega
        have hq3 : ¬ w9.heap.size = w.heap.size + 2 := by omega
        have hq4 : ¬ w.heap.size + 2 = w9.heap.size := by omega
        have hSW := HS8.out.keep (bl_trans hb9 bW)
        have hCW := HC8.out.kp (bl_trans hb9 bW)
        obtain ⟨_, z0, z1, z2, z3, z4, z5, z6, zf⟩ := id hSW.box
        obtain ⟨_, k0, k1, k2, _⟩ := id mW
        simp only at z0 z1 z2 z3 z4 z5 z6
        have HR0 := hidOf (show seenM x who = ({ x with gs := lessL x.gs who }, x.kd, x.nu, x.tx, x.ve, lookC x) by unfold seenM; rw [if_neg (by rw [HOK.out]; simp), if_neg (by rw [hh1]; simp), if_pos hh2])
        generalize lookC x = lc at HR0 ⊢
        obtain ⟨_, r0, r1, r2, r3, r4, r5, r6, rf⟩ := id hCW.c.box1
        obtain ⟨_, e0, e1, e2, ef⟩ := id hCW.m
        have HF := hidOf (seen_fin (A' := ⟨A1.a, A1.n, A1.c, some ⟨g', 0, none⟩, m', c'⟩) (y := { x with gs := lessL x.gs who }) hCW hSW.rows htx (.int .i64 x.kd) (.int .i64 x.nu) (.string x.tx))
        simp only at HF
        clear HS8 HC8 hSW hCW mW bW hb9 hI8 p0 p1 p2 p3 p4 p5 p6 y0 y1 y2 y3 y4 y5 y6 yf v0 v1 v2 v3 v4 v5 v6 vf
        go_wp2_with fail
        go_region
        all_goals (try go_wp2)
        all_goals refine bodyPost_ret (v := .tuple #[.agg #[.int .i64 x.kd, .int .i64 x.nu, .string x.tx, .int .i64 x.ve, .bool x.cl, .slice A1.a A1.n A1.c, .slice (some ⟨g', 0, none⟩) m' c'], .agg #[.int .i64 x.kd, .int .i64 x.nu, .string x.tx], .int .i64 x.ve, .int .i64 lc]) (by simp [results, Try.results78, go_sem, r0, r1, r2, r3, r4, r5, r6, e0, e1, e2]) rfl ?_
        all_goals rw [HR0.out]
        all_goals exact ⟨⟨A1.a, A1.n, A1.c, some ⟨g', 0, none⟩, m', c'⟩, rfl, HF.out.1.keep (Below.refl _ _).drew, HF.out.2.1, HF.out.2.2.drew⟩
    · obtain ⟨_, r0, r1, r2, r3, r4, r5, r6, rf⟩ := id HC.out.c.box1
      obtain ⟨_, e0, e1, e2, ef⟩ := id HC.out.m
      have HF := hidOf (seen_fin (A' := A1) (y := x) HC.out HS.out.rows htx (.int .i64 0) (.int .i64 0) (.string ⟨#[]⟩))
      have HR := hidOf (show seenM x who = (x, 0, 0, ⟨#[]⟩, 0, 4) by unfold seenM; rw [if_neg (by rw [HOK.out]; simp), if_pos hh1])
      clear HC HS 
      go_wp2
      refine bodyPost_ret (v := .tuple #[.agg #[.int .i64 x.kd, .int .i64 x.nu, .string x.tx, .int .i64 x.ve, .bool x.cl, .slice A1.a A1.n A1.c, .slice A1.a' A1.n' A1.c'], .agg #[.int .i64 0, .int .i64 0, .string ⟨#[]⟩], .int .i64 0, .int .i64 4]) (by simp [results, Try.results78, go_sem, r0, r1, r2, r3, r4, r5, r6, e0, e1, e2]) rfl ?_
      rw [HR.out]
      exact ⟨A1, rfl, HF.out⟩
end Go.Proofs.Ytbhdjcggcgddfaa
