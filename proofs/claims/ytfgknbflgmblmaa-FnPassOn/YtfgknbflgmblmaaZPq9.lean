/-
  Walks of the specification's notifications: who withdraws
-/
import Derived.Test.YtfgknbflgmblmaaZPq8
namespace Go.Proofs.Ytfgknbflgmblmaa
open Go.RowKit Pl Il
set_option maxRecDepth 100000 in
set_option maxHeartbeats 2000000 in
theorem specWithdraw_anyR (A : Na) (x : Nt) (who : Int) (w : World) (hI : NIn w A x) (hn : A.n ≤ 2097152) (hn' : A.n' ≤ 2097152) (hok : A.n ≤ A.c) :
    Calls Try.prog 20 #[.agg #[.bool x.pm, .slice A.a A.n A.c, .slice A.a' A.n' A.c', .int .i64 x.on, .int .i64 x.sp, .int .i64 x.tk], .int .i64 who] w fun e w' => NOutR w (withdrawM x who).1 [.int .i64 (withdrawM x who).2.1, .int .i64 (withdrawM x who).2.2] e w' := by
  have hC := nctx_new hI
  have s1 : ((w.alloc (.cells #[.bool x.pm, .slice A.a A.n A.c, .slice A.a' A.n' A.c', .int .i64 x.on, .int .i64 x.sp, .int .i64 x.tk] 27)).alloc (.cells #[.bool false, .slice none 0 0, .slice none 0 0, .int .i64 0, .int .i64 0, .int .i64 0] 27)).heap.size = w.heap.size + 2 := by simp
  have HL1 := hidOf hI.ints.len
  have HL2 := hidOf hI.grs.len
  have HCp := hidOf (l5Copy_any A x _ hC.ninX hn hn')
  have HC := hidOf hC
  have S1 := hidOf s1
  clear hC s1 hI
  go_enter Try.func20, Try.ntmps20
  go_wp2_with fail
  refine (HCp.out).mono ?_
  rintro e w1 ⟨a1, c1, a2, c2, rfl, hR, hb1⟩
  rw [S1.out] at hR
  have hC1 := HC.out.kp hb1
  have hS := nsr_new hR hC1.sz
  generalize hW2 : w1.alloc (.cells #[.bool x.pm, .slice a1 A.n c1, .slice a2 A.n' c2, .int .i64 x.on, .int .i64 x.sp, .int .i64 x.tk] 27) = W2
  have hb2 : Below w1.heap.size w1 W2 := by subst hW2; exact bl_alloc (Below.refl _ _) _
  simp only at hS
  rw [hW2] at hS
  have hC2 := hC1.kp hb2
  obtain ⟨_, p0, p1, p2, p3, p4, p5, _⟩ := id hC2.box0
  have HS := hidOf hS
  have HC2 := hidOf hC2
  clear hR hb1 hC1 hb2 hC2 hS HC HCp
  go_wp2_with fail
  refine (l5At_any A.a' A.n' A.c' x.gs who _ HC2.out.ninX.grs hn').mono ?_
  rintro e w2b ⟨rfl, rfl⟩
  go_wp2_with fail
  refine (specNotifyOk_any A x _ HC2.out.ninX hn hn' hok).mono ?_
  rintro e w3 ⟨rfl, hb3⟩
  have hC := HC2.out.kp hb3
  have hS := HS.out.keep hb3
  clear p0 p1 p2 p3 p4 p5 hW2 hb3 HS HC2
  obtain ⟨A1, hA1⟩ : ∃ A1 : Na, A1 = ⟨a1, A.n, c1, a2, A.n', c2⟩ := ⟨_, rfl⟩
  rw [← hA1] at hS
  have hAn : A1.n = A.n ∧ A1.n' = A.n' := by rw [hA1]; exact ⟨rfl, rfl⟩
  have HAn := hidOf hAn
  clear hA1 hAn
  generalize hN : w1.heap.size = N at *
  clear hN
  obtain ⟨_, p0, p1, p2, p3, p4, p5, _⟩ := id hC.box0
  obtain ⟨_, z0, z1, z2, z3, z4, z5, zf⟩ := id hS.box
  have HC := hidOf hC
  have HS := hidOf hS
  have HIX := hidOf hC.ninX
  clear hC hS
  cases hokx : okN x
  · obtain ⟨_, r0, r1, r2, r3, r4, r5, rf⟩ := id HC.out.box1
    have HF := hidOf (nsr_finR (A' := A1) (y := x) HC.out HS.out.rows)
    have HR := hidOf (show withdrawM x who = (x, -1, 1) by unfold withdrawM; rw [if_pos hokx])
    clear HC HS hokx
    go_wp2
    refine bodyPost_ret (v := .tuple #[.agg #[.bool x.pm, .slice A1.a A1.n A1.c, .slice A1.a' A1.n' A1.c', .int .i64 x.on, .int .i64 x.sp, .int .i64 x.tk], .int .i64 (-1), .int .i64 1]) (by simp [results, Try.results20, go_sem, r0, r1, r2, r3, r4, r5]) rfl ?_
    rw [HR.out]
    exact ⟨A1, rfl, HF.out⟩
  · obtain ⟨k1, kg, k3, k4, k5, k6, k7, k8⟩ := okN_parts hokx
    have HK8 := hidOf k8
    clear k8
    rw [HL1.out] at k3
    rw [HL2.out] at k4
    have HOK := hidOf hokx
    have HK1 := hidOf k1
    clear hokx k1
    have HKg := hidOf (nodup_line kg)
    clear kg
    go_wp2_with fail
    refine (l2Has_any A.a A.n A.c x.ln who _ HIX.out.ints hn).mono ?_
    rintro e w6 ⟨rfl, rfl⟩
    cases hh1 : hasL x.ln who
    · cases hh2 : hasL (whosL x.gs) who
      · rw [place_minus hh2]
        obtain ⟨_, r0, r1, r2, r3, r4, r5, rf⟩ := id HC.out.box1
        have HF := hidOf (nsr_finR (A' := A1) (y := x) HC.out HS.out.rows)
        have HR := hidOf (show withdrawM x who = (x, -1, 3) by unfold withdrawM; rw [if_neg (by rw [HOK.out]; simp), if_neg (by rw [hh1]; simp), if_pos (by unfold toldL; exact hh2)])
        clear HC HS
        go_wp2
        refine bodyPost_ret (v := .tuple #[.agg #[.bool x.pm, .slice A1.a A1.n A1.c, .slice A1.a' A1.n' A1.c', .int .i64 x.on, .int .i64 x.sp, .int .i64 x.tk], .int .i64 (-1), .int .i64 3]) (by simp [results, Try.results20, go_sem, r0, r1, r2, r3, r4, r5]) rfl ?_
        rw [HR.out]
        exact ⟨A1, rfl, HF.out⟩
      · obtain ⟨pk, hpl, hpk⟩ := place_bound hh2
        rw [hpk]
        obtain ⟨_, h' | ⟨gb, goff, gea, _, gcell⟩⟩ := HIX.out.grs
        · rw [whos_len, HL2.out, h'] at hpl; omega
        have hplg : pk < x.gs.length := by rw [whos_len] at hpl; exact hpl
        have hgc := (gcell pk (by rw [← HL2.out]; exact hplg)).2
        rw [gg_who HKg.out hplg hpk] at hgc
        simp only at hgc
        rw [gea] at p2
        have hji : (0 : Int) ≤ (pk : Int) ∧ (pk : Int) < (A.n' : Int) := by rw [HL2.out] at hplg; omega
        have hp' : ¬ (pk : Int) < 0 := by omega
        have HDl := hidOf (dropTo_less HKg.out hpk x.gs.length (Nat.le_refl _))
        rw [List.take_length] at HDl
        have Gea := hidOf gea
        have HPk := hidOf hpk
        clear gcell gea hpk hpl
        cases hone : oneOf x.gs who
        · rw [hone] at hgc
          have HRes := hidOf (show withdrawM x who = ({ x with gs := lessG x.gs who }, -1, 0) by unfold withdrawM; rw [if_neg (by rw [HOK.out]; simp), if_neg (by rw [hh1]; simp), if_neg (by unfold toldL; rw [hh2]; simp), if_pos hone])
          go_wp2_with fail
          refine (l5Drop_any (w.heap.size + 2) A1 x (pk : Int) _ HS.out.rows HC.out.sz (by have := HAn.out; omega)).mono ?_
          rintro e w9 ⟨a9, m9, c9, rfl, hR9, hb9⟩
          have hC9 := HC.out.kp hb9
          rw [HDl.out] at hR9
          obtain ⟨_, r0, r1, r2, r3, r4, r5, rf⟩ := id hC9.box1
          have HF := hidOf (nsr_finR (A' := ⟨A1.a, A1.n, A1.c, a9, m9, c9⟩) (y := { x with gs := lessG x.gs who }) hC9 hR9)
          have HR := hidOf (HRes.out)
          clear HS HC HRes hC9 hR9 hb9 HDl
          go_wp2
          refine bodyPost_ret (v := .tuple #[.agg #[.bool x.pm, .slice A1.a A1.n A1.c, .slice a9 m9 c9, .int .i64 x.on, .int .i64 x.sp, .int .i64 x.tk], .int .i64 (-1), .int .i64 0]) (by simp [results, Try.results20, go_sem, r0, r1, r2, r3, r4, r5]) rfl ?_
          rw [HR.out]
          exact ⟨⟨A1.a, A1.n, A1.c, a9, m9, c9⟩, rfl, HF.out⟩
        · rw [hone] at hgc
          by_cases t2 : A.n = 0
          · have t2' : ((A.n : Int) == 0) = true := by simp [t2]
            obtain ⟨b, hb⟩ : ∃ b, b = x.pm := ⟨_, rfl⟩
            rw [← hb] at p0
            have HPM := hidOf hb
            clear hb
            cases b
            · have T2 := hidOf t2
              clear t2
              have HRes := hidOf (show withdrawM x who = ((oneM { x with gs := lessG x.gs who }).1, (oneM { x with gs := lessG x.gs who }).2, 0) by unfold withdrawM; rw [if_neg (by rw [HOK.out]; simp), if_neg (by rw [hh1]; simp), if_neg (by unfold toldL; rw [hh2]; simp), if_neg (by rw [hone]; simp), if_neg (by rw [← HPM.out]; simp)])
              go_wp2_with fail
              refine (l5Drop_any (w.heap.size + 2) A1 x (pk : Int) _ HS.out.rows HC.out.sz (by have := HAn.out; omega)).mono ?_
              rintro e w9 ⟨a9, m9, c9, rfl, hR9, hb9⟩
              have hC9 := HC.out.kp hb9
              rw [HDl.out] at hR9
              have hm9 : m9 ≤ 2097152 := by have h1 := hR9.own.two.gr.len; simp only at h1; have h2 := lessG_len x.gs who; have h3 := HL2.out; omega
              have hsz9 := hC9.sz
              go_wp2_with fail
              refine (l5One_any (w.heap.size + 2) ⟨A1.a, A1.n, A1.c, a9, m9, c9⟩ { x with gs := lessG x.gs who } _ hR9 hsz9 (by have := HAn.out; simp only; omega) hm9 k6).mono ?_
              rintro e w10 ⟨A4, rfl, hR4, hb4⟩
              have hC4 := hC9.keep hb4 (Nat.le_refl _)
              generalize hy : (oneM { x with gs := lessG x.gs who }).1 = y at hR4
              generalize ht : (oneM { x with gs := lessG x.gs who }).2 = t
              have hrs : withdrawM x who = (y, t, 0) := by rw [HRes.out, hy, ht]
              generalize hW5 : w10.alloc (.cells #[.bool y.pm, .slice A4.a A4.n A4.c, .slice A4.a' A4.n' A4.c', .int .i64 y.on, .int .i64 y.sp, .int .i64 y.tk] 27) = W5
              have b5 : Below w10.heap.size w10 W5 := by subst hW5; exact bl_alloc (Below.refl _ _) _
              have hC5 := hC4.kp b5
              have hR5 := hR4.keep b5
              have hB5 : NBox w10.heap.size A4 y W5 := by subst hW5; exact NBox.new w10 A4 y _
              obtain ⟨_, u0, u1, u2, u3, u4, u5, _⟩ := id hB5
              obtain ⟨_, r0, r1, r2, r3, r4, r5, rf⟩ := id hC5.box1
              have HF := hidOf (nsr_finR (A' := A4) (y := y) hC5 hR5)
              have HR := hidOf (hrs)
              clear HC HS HRes hR4 hC4 hb4 hy ht hrs p0 p1 p2 p3 p4 p5 hC5 hR5 hB5 b5 hC9 hR9 hb9 z0 z1 z2 z3 z4 z5 zf
              go_wp2
              refine bodyPost_ret (v := .tuple #[.agg #[.bool y.pm, .slice A4.a A4.n A4.c, .slice A4.a' A4.n' A4.c', .int .i64 y.on, .int .i64 y.sp, .int .i64 y.tk], .int .i64 t, .int .i64 0]) (by simp [results, Try.results20, go_sem, r0, r1, r2, r3, r4, r5]) rfl ?_
              rw [HR.out]
              exact ⟨A4, rfl, HF.out⟩
            · by_cases t1 : (1000000000 : Int) ≤ x.sp
              · obtain ⟨_, r0, r1, r2, r3, r4, r5, rf⟩ := id HC.out.box1
                have HF := hidOf (nsr_finR (A' := A1) (y := x) HC.out HS.out.rows)
                have HR := hidOf (show withdrawM x who = (x, -1, 2) by unfold withdrawM; rw [if_neg (by rw [HOK.out]; simp), if_neg (by rw [hh1]; simp), if_neg (by unfold toldL; rw [hh2]; simp), if_neg (by rw [hone]; simp), if_pos ⟨by rw [HL1.out]; omega, HPM.out.symm, t1⟩])
                clear HC HS t2
                go_wp2
                refine bodyPost_ret (v := .tuple #[.agg #[.bool x.pm, .slice A1.a A1.n A1.c, .slice A1.a' A1.n' A1.c', .int .i64 x.on, .int .i64 x.sp, .int .i64 x.tk], .int .i64 (-1), .int .i64 2]) (by simp [results, Try.results20, go_sem, r0, r1, r2, r3, r4, r5]) rfl ?_
                rw [HR.out]
                exact ⟨A1, rfl, HF.out⟩
              · have T2 := hidOf t2
                clear t2
                have HRes := hidOf (show withdrawM x who = ((oneM { x with gs := lessG x.gs who }).1, (oneM { x with gs := lessG x.gs who }).2, 0) by unfold withdrawM; rw [if_neg (by rw [HOK.out]; simp), if_neg (by rw [hh1]; simp), if_neg (by unfold toldL; rw [hh2]; simp), if_neg (by rw [hone]; simp), if_neg (by rintro ⟨_, _, h⟩; omega)])
                go_wp2_with fail
                refine (l5Drop_any (w.heap.size + 2) A1 x (pk : Int) _ HS.out.rows HC.out.sz (by have := HAn.out; omega)).mono ?_
                rintro e w9 ⟨a9, m9, c9, rfl, hR9, hb9⟩
                have hC9 := HC.out.kp hb9
                rw [HDl.out] at hR9
                have hm9 : m9 ≤ 2097152 := by have h1 := hR9.own.two.gr.len; simp only at h1; have h2 := lessG_len x.gs who; have h3 := HL2.out; omega
                have hsz9 := hC9.sz
                go_wp2_with fail
                refine (l5One_any (w.heap.size + 2) ⟨A1.a, A1.n, A1.c, a9, m9, c9⟩ { x with gs := lessG x.gs who } _ hR9 hsz9 (by have := HAn.out; simp only; omega) hm9 k6).mono ?_
                rintro e w10 ⟨A4, rfl, hR4, hb4⟩
                have hC4 := hC9.keep hb4 (Nat.le_refl _)
                generalize hy : (oneM { x with gs := lessG x.gs who }).1 = y at hR4
                generalize ht : (oneM { x with gs := lessG x.gs who }).2 = t
                have hrs : withdrawM x who = (y, t, 0) := by rw [HRes.out, hy, ht]
                generalize hW5 : w10.alloc (.cells #[.bool y.pm, .slice A4.a A4.n A4.c, .slice A4.a' A4.n' A4.c', .int .i64 y.on, .int .i64 y.sp, .int .i64 y.tk] 27) = W5
                have b5 : Below w10.heap.size w10 W5 := by subst hW5; exact bl_alloc (Below.refl _ _) _
                have hC5 := hC4.kp b5
                have hR5 := hR4.keep b5
                have hB5 : NBox w10.heap.size A4 y W5 := by subst hW5; exact NBox.new w10 A4 y _
                obtain ⟨_, u0, u1, u2, u3, u4, u5, _⟩ := id hB5
                obtain ⟨_, r0, r1, r2, r3, r4, r5, rf⟩ := id hC5.box1
                have HF := hidOf (nsr_finR (A' := A4) (y := y) hC5 hR5)
                have HR := hidOf (hrs)
                clear HC HS HRes hR4 hC4 hb4 hy ht hrs p0 p1 p2 p3 p4 p5 hC5 hR5 hB5 b5 hC9 hR9 hb9 z0 z1 z2 z3 z4 z5 zf
                go_wp2
                refine bodyPost_ret (v := .tuple #[.agg #[.bool y.pm, .slice A4.a A4.n A4.c, .slice A4.a' A4.n' A4.c', .int .i64 y.on, .int .i64 y.sp, .int .i64 y.tk], .int .i64 t, .int .i64 0]) (by simp [results, Try.results20, go_sem, r0, r1, r2, r3, r4, r5]) rfl ?_
                rw [HR.out]
                exact ⟨A4, rfl, HF.out⟩
          · have t2' : ((A.n : Int) == 0) = false := by simp; omega
            have HRes := hidOf (show withdrawM x who = ((oneM { x with gs := lessG x.gs who }).1, (oneM { x with gs := lessG x.gs who }).2, 0) by unfold withdrawM; rw [if_neg (by rw [HOK.out]; simp), if_neg (by rw [hh1]; simp), if_neg (by unfold toldL; rw [hh2]; simp), if_neg (by rw [hone]; simp), if_neg (by rw [HL1.out]; rintro ⟨h, _⟩; omega)])
            go_wp2_with fail
            refine (l5Drop_any (w.heap.size + 2) A1 x (pk : Int) _ HS.out.rows HC.out.sz (by have := HAn.out; omega)).mono ?_
            rintro e w9 ⟨a9, m9, c9, rfl, hR9, hb9⟩
            have hC9 := HC.out.kp hb9
            rw [HDl.out] at hR9
            have hm9 : m9 ≤ 2097152 := by have h1 := hR9.own.two.gr.len; simp only at h1; have h2 := lessG_len x.gs who; have h3 := HL2.out; omega
            have hsz9 := hC9.sz
            go_wp2_with fail
            refine (l5One_any (w.heap.size + 2) ⟨A1.a, A1.n, A1.c, a9, m9, c9⟩ { x with gs := lessG x.gs who } _ hR9 hsz9 (by have := HAn.out; simp only; omega) hm9 k6).mono ?_
            rintro e w10 ⟨A4, rfl, hR4, hb4⟩
            have hC4 := hC9.keep hb4 (Nat.le_refl _)
            generalize hy : (oneM { x with gs := lessG x.gs who }).1 = y at hR4
            generalize ht : (oneM { x with gs := lessG x.gs who }).2 = t
            have hrs : withdrawM x who = (y, t, 0) := by rw [HRes.out, hy, ht]
            generalize hW5 : w10.alloc (.cells #[.bool y.pm, .slice A4.a A4.n A4.c, .slice A4.a' A4.n' A4.c', .int .i64 y.on, .int .i64 y.sp, .int .i64 y.tk] 27) = W5
            have b5 : Below w10.heap.size w10 W5 := by subst hW5; exact bl_alloc (Below.refl _ _) _
            have hC5 := hC4.kp b5
            have hR5 := hR4.keep b5
            have hB5 : NBox w10.heap.size A4 y W5 := by subst hW5; exact NBox.new w10 A4 y _
            obtain ⟨_, u0, u1, u2, u3, u4, u5, _⟩ := id hB5
            obtain ⟨_, r0, r1, r2, r3, r4, r5, rf⟩ := id hC5.box1
            have HF := hidOf (nsr_finR (A' := A4) (y := y) hC5 hR5)
            have HR := hidOf (hrs)
            clear HC HS HRes hR4 hC4 hb4 hy ht hrs p0 p1 p2 p3 p4 p5 hC5 hR5 hB5 b5 hC9 hR9 hb9 z0 z1 z2 z3 z4 z5 zf
            go_wp2
            refine bodyPost_ret (v := .tuple #[.agg #[.bool y.pm, .slice A4.a A4.n A4.c, .slice A4.a' A4.n' A4.c', .int .i64 y.on, .int .i64 y.sp, .int .i64 y.tk], .int .i64 t, .int .i64 0]) (by simp [results, Try.results20, go_sem, r0, r1, r2, r3, r4, r5]) rfl ?_
            rw [HR.out]
            exact ⟨A4, rfl, HF.out⟩
    · have hIl := HIX.out.ints
      go_wp2_with fail
      refine (l2Less_any A.a A.n A.c x.ln who _ hIl hn).mono ?_
      rintro e w7 ⟨g', m', c', rfl, ho', hb7⟩
      have hS7 := HS.out.keep hb7
      have hC7 := HC.out.kp hb7
      have hsz := HC.out.sz
      have hlt := HS.out.box.lt
      have hgp := (owns_parts ho').2.1
      have hS8 := hS7.line (own_mono1 ho' hsz) (fun e => by have e' : g' = N := by simpa [Value.ownBlock] using e
                                                            omega)
      have hC8 := hC7.keep (hS7.below (Below.refl (w.heap.size + 2) w7) 1 (.slice (some ⟨g', 0, none⟩) m' c')) (Nat.le_refl _)
      obtain ⟨_, y0, y1, y2, y3, y4, y5, yf⟩ := id hS7.box
      obtain ⟨_, v0, v1, v2, v3, v4, v5, vf⟩ := id hS8.box
      simp only at v0 v1 v2 v3 v4 v5
      have HRes := hidOf (show withdrawM x who = ({ x with ln := lessL x.ln who }, -1, 0) by unfold withdrawM; rw [if_neg (by rw [HOK.out]; simp), if_pos hh1])
      obtain ⟨_, r0, r1, r2, r3, r4, r5, rf⟩ := id hC8.box1
      have HF := hidOf (nsr_finR (A' := ⟨some ⟨g', 0, none⟩, m', c', A1.a', A1.n', A1.c'⟩) (y := { x with ln := lessL x.ln who }) hC8 hS8.rows)
      have HR := hidOf (HRes.out)
      clear HC HS hS7 hS8 hC7 hC8 ho' hb7 hgp HRes hIl z0 z1 z2 z3 z4 z5 zf
      go_wp2
      refine bodyPost_ret (v := .tuple #[.agg #[.bool x.pm, .slice (some ⟨g', 0, none⟩) m' c', .slice A1.a' A1.n' A1.c', .int .i64 x.on, .int .i64 x.sp, .int .i64 x.tk], .int .i64 (-1), .int .i64 0]) (by simp [results, Try.results20, go_sem, r0, r1, r2, r3, r4, r5]) rfl ?_
      rw [HR.out]
      exact ⟨⟨some ⟨g', 0, none⟩, m', c', A1.a', A1.n', A1.c'⟩, rfl, HF.out⟩
theorem specWithdraw_any (A : Na) (x : Nt) (who : Int) (w : World) (hI : NIn w A x) (hn : A.n ≤ 2097152) (hn' : A.n' ≤ 2097152) (hok : A.n ≤ A.c) :
    Calls Try.prog 20 #[.agg #[.bool x.pm, .slice A.a A.n A.c, .slice A.a' A.n' A.c', .int .i64 x.on, .int .i64 x.sp, .int .i64 x.tk], .int .i64 who] w fun e w' => NOutP w (withdrawM x who).1 [.int .i64 (withdrawM x who).2.1, .int .i64 (withdrawM x who).2.2] e w' :=
  (specWithdraw_anyR A x who w hI hn hn' hok).mono fun _ _ h => h.weak
end Go.Proofs.Ytfgknbflgmblmaa
