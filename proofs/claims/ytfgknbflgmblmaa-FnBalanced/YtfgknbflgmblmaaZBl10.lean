/-
  The program's notifications: who goes on
-/
import Derived.Test.YtfgknbflgmblmaaZBl4
namespace Go.Proofs.Ytfgknbflgmblmaa
open Go.RowKit Go.Maps Pl Il
set_option maxRecDepth 100000 in
set_option maxHeartbeats 2000000 in
theorem implResume_any (A : Na) (x : Nt) (who : Int) (w : World) (hI : NIn w A x) (hn : A.n ≤ 2097152) (hn' : A.n' ≤ 2097152) (hw : NWf x) (hx : (Lit.int .i64 who).wf = true) :
  Calls Try.prog 17 #[.agg #[.bool x.pm, .slice A.a A.n A.c, .slice A.a' A.n' A.c', .int .i64 x.on, .int .i64 x.sp, .int .i64 x.tk], .int .i64 who] w fun e w' => NOutP w (resumeM x who).1 [.int .i64 (resumeM x who).2] e w' := by
 have hC := nctx_new hI
 have s1 : ((w.alloc (.cells #[.bool x.pm, .slice A.a A.n A.c, .slice A.a' A.n' A.c', .int .i64 x.on, .int .i64 x.sp, .int .i64 x.tk] 27)).alloc (.cells #[.bool false, .slice none 0 0, .slice none 0 0, .int .i64 0, .int .i64 0, .int .i64 0] 27)).heap.size = w.heap.size + 2 := by simp
 have HL1 := hidOf hI.ints.len
 have HL2 := hidOf hI.grs.len
 have HCp := hidOf (copiedNotify_any A x _ hC.ninX hn hn')
 have HC := hidOf hC
 have S1 := hidOf s1
 clear hC s1 hI
 go_enter Try.func17, Try.ntmps17
 go_wp2_with fail
 refine (HCp.out).mono ?_
 rintro e w1 ⟨a1, c1, a2, c2, rfl, hR, hb1⟩
 rw [S1.out] at hR
 have hC1 := HC.out.kp hb1
 have hS := nsr_new hR hC1.sz
 generalize hW2 : w1.alloc (.cells #[.bool x.pm, .slice a1 A.n c1, .slice a2 A.n' c2, .int .i64 x.on, .int .i64 x.sp, .int .i64 x.tk] 27) = W2
 have hb2 : Below w1.heap.size w1 W2 := by subst hW2; exact bl_alloc (Below.refl _ _) _
 simp only at hS
 rw [hW2] at hS
 have hC2 := hC1.kp hb2
 obtain ⟨_, p0, p1, p2, p3, p4, p5, _⟩ := id hC2.box0
 have HS := hidOf hS
 have HC2 := hidOf hC2
 clear hR hb1 hC1 hb2 hC2 hS HC HCp
 go_wp2_with fail
 refine (implNotifyOk_any A x _ HC2.out.ninX hn hn' hw).mono ?_
 rintro e w3 ⟨rfl, hb3⟩
 have hC := HC2.out.kp hb3
 have hS := HS.out.keep hb3
 clear p0 p1 p2 p3 p4 p5 hW2 hb3 HS HC2
 obtain ⟨A1, hA1⟩ : ∃ A1 : Na, A1 = ⟨a1, A.n, c1, a2, A.n', c2⟩ := ⟨_, rfl⟩
 rw [← hA1] at hS
 have hAn : A1.n = A.n ∧ A1.n' = A.n' := by rw [hA1]; exact ⟨rfl, rfl⟩
 have HAn := hidOf hAn
 clear hA1 hAn
 generalize hN : w1.heap.size = N at *
 clear hN
 obtain ⟨_, p0, p1, p2, p3, p4, p5, _⟩ := id hC.box0
 have HC := hidOf hC
 have HS := hidOf hS
 clear hC hS
 cases hok : okN x
 ·clear p0 p1 p2 p3 p4 p5
  obtain ⟨_, z0, z1, z2, z3, z4, z5, _⟩ := id (HS.out).box
  obtain ⟨_, r0, r1, r2, r3, r4, r5, rf⟩ := id (HC.out).box1
  have HF := hidOf (nsr_fin (HC.out) ((HS.out)).rows)
  have HR := hidOf (show resumeM x who = (x, 1) by unfold resumeM; rw [if_pos hok])
  clear hok HC HS
  go_wp2
  refine bodyPost_ret (v := .tuple #[.agg #[.bool x.pm, .slice A1.a A1.n A1.c, .slice A1.a' A1.n' A1.c', .int .i64 x.on, .int .i64 x.sp, .int .i64 x.tk], .int .i64 1]) (by simp [results, Try.results17, go_sem, r0, r1, r2, r3, r4, r5]) rfl ?_
  rw [HR.out]
  exact ⟨A1, rfl, HF.out⟩
 ·obtain ⟨k1, kg, k3, k4, k5, k6, k7, k8⟩ := okN_parts hok
  have HK8 := hidOf k8
  clear k8
  rw [HL1.out] at k3
  rw [HL2.out] at k4
  have HOK := hidOf hok
  have HK1 := hidOf k1
  have HKg := hidOf (nodup_line kg)
  clear hok k1 kg
  go_wp2_with fail
  refine (implPlaceOf_any A.a A.n A.c x.ln who _ HC.out.ninX.ints hn hw.ln hx).mono ?_
  rintro e w4 ⟨rfl, hb4⟩
  have hC4 := HC.out.kp hb4
  have hS4 := HS.out.keep hb4
  clear HC HS hb4 p0 p1 p2 p3 p4 p5
  obtain ⟨_, p0, p1, p2, p3, p4, p5, _⟩ := id hC4.box0
  have HC := hidOf hC4
  have HS := hidOf hS4
  clear hC4 hS4
  cases hh1 : hasL x.ln who
  ·rw [place_minus hh1]
   go_wp2_with fail
   refine (grantOf_any A.a' A.n' A.c' x.gs who _ HC.out.ninX.grs hn').mono ?_
   rintro e w5 ⟨rfl, hb5⟩
   have hC5 := HC.out.kp hb5
   have hS5 := HS.out.keep hb5
   clear HC HS hb5 p0 p1 p2 p3 p4 p5
   cases hh2 : hasL (whosL x.gs) who
   ·rw [find_none hh2]
    unfold grRes
    simp only [Option.isSome]
    generalize hW6 : w5.alloc (.cells #[.int .i64 0, .bool false] 44) = W6
    have g0 : W6.cell? ⟨w5.heap.size, 0, none⟩ = some (.int .i64 0) := by subst hW6; simp
    have g1 : W6.cell? ⟨w5.heap.size, 1, none⟩ = some (.bool false) := by subst hW6; simp
    have gf : ∀ o, W6.frozen? ⟨w5.heap.size, o, none⟩ = false := fun o => by subst hW6; simp [go_sem]
    have b6 : Below w5.heap.size w5 W6 := by subst hW6; exact bl_alloc (Below.refl _ _) _
    generalize hW7 : (W6.setCell ⟨w5.heap.size, 0, none⟩ (.int .i64 0)).setCell ⟨w5.heap.size, 1, none⟩ (.bool false) = W7
    have h0 : W7.cell? ⟨w5.heap.size, 0, none⟩ = some (.int .i64 0) := by subst hW7; rw [World.cell?_setCell_other _ _ _ _ (by simp)]; exact World.cell?_setCell_same _ _ _ g0
    have h1 : W7.cell? ⟨w5.heap.size, 1, none⟩ = some (.bool false) := by subst hW7; exact World.cell?_setCell_same _ _ _ (by rw [World.cell?_setCell_other _ _ _ _ (by simp)]; exact g1)
    have b7 : Below w5.heap.size w5 W7 := by subst hW7; exact bl_set1' (bl_set1' b6 w5.heap.size 0 (Nat.le_refl _) _) w5.heap.size 1 (Nat.le_refl _) _
    have hC7 := hC5.kp b7
    have hS7 := hS5.keep b7
    obtain ⟨_, p0, p1, p2, p3, p4, p5, _⟩ := id hC7.box0
    have HC := hidOf hC7
    have HS := hidOf hS7
    clear hC5 hS5 b6 b7 hC7 hS7
    obtain ⟨_, z0, z1, z2, z3, z4, z5, _⟩ := id (HS.out).box
    obtain ⟨_, r0, r1, r2, r3, r4, r5, rf⟩ := id (HC.out).box1
    have HF := hidOf (nsr_fin (HC.out) ((HS.out)).rows)
    have HR := hidOf (show resumeM x who = (x, 3) by unfold resumeM; rw [if_neg (by rw [HOK.out]; simp), if_neg (by rw [hh1]; simp), if_pos (by unfold toldL; exact hh2)])
    clear HC HS
    go_wp2
    refine bodyPost_ret (v := .tuple #[.agg #[.bool x.pm, .slice A1.a A1.n A1.c, .slice A1.a' A1.n' A1.c', .int .i64 x.on, .int .i64 x.sp, .int .i64 x.tk], .int .i64 3]) (by simp [results, Try.results17, go_sem, r0, r1, r2, r3, r4, r5]) rfl ?_
    rw [HR.out]
    exact ⟨A1, rfl, HF.out⟩
   ·rw [find_one HKg.out hh2]
    unfold grRes
    simp only [Option.isSome]
    cases hone : oneOf x.gs who
    ·generalize hW6 : w5.alloc (.cells #[.int .i64 0, .bool false] 44) = W6
     have g0 : W6.cell? ⟨w5.heap.size, 0, none⟩ = some (.int .i64 0) := by subst hW6; simp
     have g1 : W6.cell? ⟨w5.heap.size, 1, none⟩ = some (.bool false) := by subst hW6; simp
     have gf : ∀ o, W6.frozen? ⟨w5.heap.size, o, none⟩ = false := fun o => by subst hW6; simp [go_sem]
     have b6 : Below w5.heap.size w5 W6 := by subst hW6; exact bl_alloc (Below.refl _ _) _
     generalize hW7 : (W6.setCell ⟨w5.heap.size, 0, none⟩ (.int .i64 who)).setCell ⟨w5.heap.size, 1, none⟩ (.bool false) = W7
     have h0 : W7.cell? ⟨w5.heap.size, 0, none⟩ = some (.int .i64 who) := by subst hW7; rw [World.cell?_setCell_other _ _ _ _ (by simp)]; exact World.cell?_setCell_same _ _ _ g0
     have h1 : W7.cell? ⟨w5.heap.size, 1, none⟩ = some (.bool false) := by subst hW7; exact World.cell?_setCell_same _ _ _ (by rw [World.cell?_setCell_other _ _ _ _ (by simp)]; exact g1)
     have b7 : Below w5.heap.size w5 W7 := by subst hW7; exact bl_set1' (bl_set1' b6 w5.heap.size 0 (Nat.le_refl _) _) w5.heap.size 1 (Nat.le_refl _) _
     have hC7 := hC5.kp b7
     have hS7 := hS5.keep b7
     obtain ⟨_, p0, p1, p2, p3, p4, p5, _⟩ := id hC7.box0
     have HC := hidOf hC7
     have HS := hidOf hS7
     clear hC5 hS5 b6 b7 hC7 hS7
     have HRes := hidOf (show resumeM x who = ({ x with gs := lessG x.gs who, tk := x.tk }, 0) by
      unfold resumeM
      rw [if_neg (by rw [HOK.out]; simp), if_neg (by rw [hh1]; simp), if_neg (by unfold toldL; rw [hh2]; simp), if_neg (by rw [hone]; simp), hone]
      simp [permI])
     have hIg := HC.out.ninX.grs
     go_wp2_with fail
     refine (without_any A.a' A.n' A.c' x.gs who false _ hIg hn').mono ?_
     rintro e w9 ⟨a9, m9, c9, rfl, ho9, hb9⟩
     rw [less_without HKg.out (by rw [find_one HKg.out hh2, hone])] at ho9
     have hC9 := HC.out.kp hb9
     have hS9 := HS.out.keep hb9
     have hsz := HC.out.sz
     have hlt9 := HS.out.box.lt
     have hS10 := hS9.told (own_mono1 ho9 hsz) (fun e => by have := (ho9.lt _ e).1; omega)
     have hC10 := hC9.keep (hS9.below (Below.refl (w.heap.size + 2) w9) 2 (.slice a9 m9 c9)) (Nat.le_refl _)
     have h1' := cellB h1 hb9
     have h1'' : (w9.setCell ⟨N, 2, none⟩ (.slice a9 m9 c9)).cell? ⟨w5.heap.size, 1, none⟩ = some (.bool false) := by rw [World.cell?_setCell_other _ _ _ _ (by simp)]; exact h1'
     obtain ⟨_, y0, y1, y2, y3, y4, y5, yf⟩ := id hS9.box
     obtain ⟨_, v0, v1, v2, v3, v4, v5, vf⟩ := id hS10.box
     simp only at v0 v1 v2 v3 v4 v5
     obtain ⟨_, z0, z1, z2, z3, z4, z5, _⟩ := id (hS10).box
     obtain ⟨_, r0, r1, r2, r3, r4, r5, rf⟩ := id (hC10).box1
     have HF := hidOf (nsr_fin (hC10) ((hS10)).rows)
     have HR := hidOf (HRes.out)
     simp only at z0 z1 z2 z3 z4 z5 HF
     clear HC HS hS9 hC9 hS10 hC10 ho9 hb9 hIg HRes hsz
     go_wp2
     refine bodyPost_ret (v := .tuple #[.agg #[.bool x.pm, .slice A1.a A1.n A1.c, .slice a9 m9 c9, .int .i64 x.on, .int .i64 x.sp, .int .i64 x.tk], .int .i64 0]) (by simp [results, Try.results17, go_sem, r0, r1, r2, r3, r4, r5]) rfl ?_
     rw [HR.out]
     exact ⟨⟨A1.a, A1.n, A1.c, a9, m9, c9⟩, rfl, HF.out⟩
    ·generalize hW6 : w5.alloc (.cells #[.int .i64 0, .bool false] 44) = W6
     have g0 : W6.cell? ⟨w5.heap.size, 0, none⟩ = some (.int .i64 0) := by subst hW6; simp
     have g1 : W6.cell? ⟨w5.heap.size, 1, none⟩ = some (.bool false) := by subst hW6; simp
     have gf : ∀ o, W6.frozen? ⟨w5.heap.size, o, none⟩ = false := fun o => by subst hW6; simp [go_sem]
     have b6 : Below w5.heap.size w5 W6 := by subst hW6; exact bl_alloc (Below.refl _ _) _
     generalize hW7 : (W6.setCell ⟨w5.heap.size, 0, none⟩ (.int .i64 who)).setCell ⟨w5.heap.size, 1, none⟩ (.bool true) = W7
     have h0 : W7.cell? ⟨w5.heap.size, 0, none⟩ = some (.int .i64 who) := by subst hW7; rw [World.cell?_setCell_other _ _ _ _ (by simp)]; exact World.cell?_setCell_same _ _ _ g0
     have h1 : W7.cell? ⟨w5.heap.size, 1, none⟩ = some (.bool true) := by subst hW7; exact World.cell?_setCell_same _ _ _ (by rw [World.cell?_setCell_other _ _ _ _ (by simp)]; exact g1)
     have b7 : Below w5.heap.size w5 W7 := by subst hW7; exact bl_set1' (bl_set1' b6 w5.heap.size 0 (Nat.le_refl _) _) w5.heap.size 1 (Nat.le_refl _) _
     have hC7 := hC5.kp b7
     have hS7 := hS5.keep b7
     obtain ⟨_, p0, p1, p2, p3, p4, p5, _⟩ := id hC7.box0
     have HC := hidOf hC7
     have HS := hidOf hS7
     clear hC5 hS5 b6 b7 hC7 hS7
     by_cases t1 : x.tk = 1000000000
     ·have t1' : (x.tk == 1000000000) = true := by simp [t1]
      obtain ⟨_, z0, z1, z2, z3, z4, z5, _⟩ := id (HS.out).box
      obtain ⟨_, r0, r1, r2, r3, r4, r5, rf⟩ := id (HC.out).box1
      have HF := hidOf (nsr_fin (HC.out) ((HS.out)).rows)
      have HR := hidOf (show resumeM x who = (x, 2) by unfold resumeM; rw [if_neg (by rw [HOK.out]; simp), if_neg (by rw [hh1]; simp), if_neg (by unfold toldL; rw [hh2]; simp), if_pos ⟨hone, by omega⟩])
      clear HC HS t1
      go_wp2
      refine bodyPost_ret (v := .tuple #[.agg #[.bool x.pm, .slice A1.a A1.n A1.c, .slice A1.a' A1.n' A1.c', .int .i64 x.on, .int .i64 x.sp, .int .i64 x.tk], .int .i64 2]) (by simp [results, Try.results17, go_sem, r0, r1, r2, r3, r4, r5]) rfl ?_
      rw [HR.out]
      exact ⟨A1, rfl, HF.out⟩
     ·have t1' : (x.tk == 1000000000) = false := by simp [t1]
      have HRes := hidOf (show resumeM x who = ({ x with gs := lessG x.gs who, tk := (x.tk + 1) }, 0) by
       unfold resumeM
       rw [if_neg (by rw [HOK.out]; simp), if_neg (by rw [hh1]; simp), if_neg (by unfold toldL; rw [hh2]; simp), if_neg (by rw [hone]; simp; omega), hone]
       simp [permI])
      have hIg := HC.out.ninX.grs
      go_wp2_with fail
      refine (without_any A.a' A.n' A.c' x.gs who true _ hIg hn').mono ?_
      rintro e w9 ⟨a9, m9, c9, rfl, ho9, hb9⟩
      rw [less_without HKg.out (by rw [find_one HKg.out hh2, hone])] at ho9
      have hC9 := HC.out.kp hb9
      have hS9 := HS.out.keep hb9
      have hsz := HC.out.sz
      have hlt9 := HS.out.box.lt
      have hS10 := hS9.told (own_mono1 ho9 hsz) (fun e => by have := (ho9.lt _ e).1; omega)
      have hC10 := hC9.keep (hS9.below (Below.refl (w.heap.size + 2) w9) 2 (.slice a9 m9 c9)) (Nat.le_refl _)
      have h1' := cellB h1 hb9
      have h1'' : (w9.setCell ⟨N, 2, none⟩ (.slice a9 m9 c9)).cell? ⟨w5.heap.size, 1, none⟩ = some (.bool true) := by rw [World.cell?_setCell_other _ _ _ _ (by simp)]; exact h1'
      obtain ⟨_, y0, y1, y2, y3, y4, y5, yf⟩ := id hS9.box
      obtain ⟨_, v0, v1, v2, v3, v4, v5, vf⟩ := id hS10.box
      simp only at v0 v1 v2 v3 v4 v5
      have hS11 := hS10.setc (y := { x with gs := lessG x.gs who, tk := x.tk + 1 }) 5 (.int .i64 (x.tk + 1)) (hS10.box.set5 (v := x.tk + 1)) rfl rfl
      have hC11 := hC10.keep (hS10.below (Below.refl (w.heap.size + 2) _) 5 (.int .i64 (x.tk + 1))) (Nat.le_refl _)
      obtain ⟨_, z0, z1, z2, z3, z4, z5, _⟩ := id (hS11).box
      obtain ⟨_, r0, r1, r2, r3, r4, r5, rf⟩ := id (hC11).box1
      have HF := hidOf (nsr_fin (hC11) ((hS11)).rows)
      have HR := hidOf (HRes.out)
      simp only at z0 z1 z2 z3 z4 z5 HF
      clear HC HS hS9 hC9 hS10 hC10 hS11 hC11 ho9 hb9 hIg HRes hsz
      go_wp2
      refine bodyPost_ret (v := .tuple #[.agg #[.bool x.pm, .slice A1.a A1.n A1.c, .slice a9 m9 c9, .int .i64 x.on, .int .i64 x.sp, .int .i64 (x.tk + 1)], .int .i64 0]) (by simp [results, Try.results17, go_sem, r0, r1, r2, r3, r4, r5]) rfl ?_
      rw [HR.out]
      exact ⟨⟨A1.a, A1.n, A1.c, a9, m9, c9⟩, rfl, HF.out⟩
  ·obtain ⟨pk, _, hpk⟩ := place_bound hh1
   rw [hpk]
   have hp' : ¬ (pk : Int) < 0 := by omega
   clear hpk
   obtain ⟨_, z0, z1, z2, z3, z4, z5, _⟩ := id (HS.out).box
   obtain ⟨_, r0, r1, r2, r3, r4, r5, rf⟩ := id (HC.out).box1
   have HF := hidOf (nsr_fin (HC.out) ((HS.out)).rows)
   have HR := hidOf (show resumeM x who = (x, 4) by unfold resumeM; rw [if_neg (by rw [HOK.out]; simp), if_pos hh1])
   clear HC HS
   go_wp2
   refine bodyPost_ret (v := .tuple #[.agg #[.bool x.pm, .slice A1.a A1.n A1.c, .slice A1.a' A1.n' A1.c', .int .i64 x.on, .int .i64 x.sp, .int .i64 x.tk], .int .i64 4]) (by simp [results, Try.results17, go_sem, r0, r1, r2, r3, r4, r5]) rfl ?_
   rw [HR.out]
   exact ⟨A1, rfl, HF.out⟩
end Go.Proofs.Ytfgknbflgmblmaa
