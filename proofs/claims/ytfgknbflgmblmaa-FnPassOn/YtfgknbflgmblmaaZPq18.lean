/-
  The program's notifications: who withdraws
-/
import Derived.Test.YtfgknbflgmblmaaZPq17
namespace Go.Proofs.Ytfgknbflgmblmaa
open Go.RowKit Go.Maps Pl Il
theorem leave_no {xs : List Int} {x : Int} (h1 : lineL xs = true) (h : hasL xs x = false) : leaveL xs x = (xs, 3) := by simp [leaveL, h1, h]
theorem leave_yes {xs : List Int} {x : Int} (h1 : lineL xs = true) (h : hasL xs x = true) : leaveL xs x = (lessL xs x, 0) := by simp [leaveL, h1, h]
theorem NSt.lineR {B N : Nat} {A : Na} {x : Nt} {w : World} {a : Option Addr} {n c : Nat} {xs : List Int} (h : NSt B N A x w) (ho : Il.OwnAt B w a n xs) (hc : n ≤ c) (h1 : n = 0 ∨ ∀ b off, a = some ⟨b, off, none⟩ → b ≠ N) (h2 : n = 0 ∨ ∀ b off, a = some ⟨b, off, none⟩ → (Value.slice A.a' A.n' A.c').ownBlock ≠ some b) :
    NSt B N { A with a := a, n := n, c := c } { x with ln := xs } (w.setCell ⟨N, 1, none⟩ (.slice a n c)) :=
  ⟨h.box.set1.lists xs x.gs, h.ge, ho.of_block (by simp) (h1.imp id fun l b off e => Below.heap_setCell w ⟨N, 1, none⟩ _ b (l b off e)), hc, own_set h.two N 1 h.ne2 _, h1, h.ne2, h2⟩
set_option maxRecDepth 100000 in
set_option maxHeartbeats 2000000 in
theorem implWithdraw_any (A : Na) (x : Nt) (who : Int) (w : World) (hI : NIn w A x) (hn : A.n ≤ 2097152) (hn' : A.n' ≤ 2097152) (hw : NWf x) (hx : (Lit.int .i64 who).wf = true) :
  Calls Try.prog 19 #[.agg #[.bool x.pm, .slice A.a A.n A.c, .slice A.a' A.n' A.c', .int .i64 x.on, .int .i64 x.sp, .int .i64 x.tk], .int .i64 who] w fun e w' => NOutP w (withdrawM x who).1 [.int .i64 (withdrawM x who).2.1, .int .i64 (withdrawM x who).2.2] e w' := by
 have hC := nctx_new hI
 have s1 : ((w.alloc (.cells #[.bool x.pm, .slice A.a A.n A.c, .slice A.a' A.n' A.c', .int .i64 x.on, .int .i64 x.sp, .int .i64 x.tk] 27)).alloc (.cells #[.bool false, .slice none 0 0, .slice none 0 0, .int .i64 0, .int .i64 0, .int .i64 0] 27)).heap.size = w.heap.size + 2 := by simp
 have HL1 := hidOf hI.ints.len
 have HL2 := hidOf hI.grs.len
 have HCp := hidOf (copiedNotify_any A x _ hC.ninX hn hn')
 have HC := hidOf hC
 have S1 := hidOf s1
 clear hC s1 hI
 go_enter Try.func19, Try.ntmps19
 go_wp2_with fail
 refine (HCp.out).mono ?_
 rintro e w1 ⟨a1, c1, a2, c2, rfl, hR, hb1⟩
 rw [S1.out] at hR
 have hC1 := HC.out.kp hb1
 have hS := nst_new hR hC1.sz
 generalize hW2 : w1.alloc (.cells #[.bool x.pm, .slice a1 A.n c1, .slice a2 A.n' c2, .int .i64 x.on, .int .i64 x.sp, .int .i64 x.tk] 27) = W2
 have hb2 : Below w1.heap.size w1 W2 := by subst hW2; exact bl_alloc (Below.refl _ _) _
 simp only at hS
 rw [hW2] at hS
 have hC2 := hC1.kp hb2
 obtain ⟨_, p0, p1, p2, p3, p4, p5, _⟩ := id hC2.box0
 have HS := hidOf hS
 have HC2 := hidOf hC2
 clear hR hb1 hC1 hb2 hC2 hS HC HCp
 go_wp2_with fail
 refine (implNotifyOk_any A x _ HC2.out.ninX hn hn' hw).mono ?_
 rintro e w3 ⟨rfl, hb3⟩
 have hC := HC2.out.kp hb3
 have hS := HS.out.keep hb3
 clear p0 p1 p2 p3 p4 p5 hW2 hb3 HS HC2
 obtain ⟨A1, hA1⟩ : ∃ A1 : Na, A1 = ⟨a1, A.n, c1, a2, A.n', c2⟩ := ⟨_, rfl⟩
 rw [← hA1] at hS
 have hAn : A1.n = A.n ∧ A1.n' = A.n' := by rw [hA1]; exact ⟨rfl, rfl⟩
 have HAn := hidOf hAn
 clear hA1 hAn
 generalize hN : w1.heap.size = N at *
 clear hN
 obtain ⟨_, p0, p1, p2, p3, p4, p5, _⟩ := id hC.box0
 have HC := hidOf hC
 have HS := hidOf hS
 clear hC hS
 cases hok : okN x
 ·clear p0 p1 p2 p3 p4 p5
  obtain ⟨_, z0, z1, z2, z3, z4, z5, _⟩ := id (HS.out).box
  obtain ⟨_, r0, r1, r2, r3, r4, r5, rf⟩ := id (HC.out).box1
  have HF := hidOf (nst_fin (HC.out) (HS.out))
  have HR := hidOf (show withdrawM x who = (x, -1, 1) by unfold withdrawM; rw [if_pos hok])
  clear hok HC HS
  go_wp2
  refine bodyPost_ret (v := .tuple #[.agg #[.bool x.pm, .slice A1.a A1.n A1.c, .slice A1.a' A1.n' A1.c', .int .i64 x.on, .int .i64 x.sp, .int .i64 x.tk], .int .i64 (-1), .int .i64 1]) (by simp [results, Try.results19, go_sem, r0, r1, r2, r3, r4, r5]) rfl ?_
  rw [HR.out]
  exact ⟨A1, rfl, HF.out⟩
 ·obtain ⟨k1, kg, k3, k4, k5, k6, k7, k8⟩ := okN_parts hok
  have HK8 := hidOf k8
  clear k8
  rw [HL1.out] at k3
  rw [HL2.out] at k4
  have HOK := hidOf hok
  have HK1 := hidOf k1
  have HKg := hidOf (nodup_line kg)
  clear hok k1 kg
  go_wp2_with fail
  refine (implLeave_any2 A.a A.n A.c x.ln who _ HC.out.ninX.ints hn hw.ln hx).mono ?_
  rintro e w4 ⟨a4, m4, c4, rfl, hBk, hcp4⟩
  have hC4 := HC.out.kp hBk.below
  have hS4 := HS.out.keep hBk.below
  have HQ := hidOf HS.out.two.lt
  have hlt4 := HS.out.box.lt
  have hsz4 := HC.out.sz
  clear HC HS p0 p1 p2 p3 p4 p5
  cases hh1 : hasL x.ln who
  ·rw [leave_no HK1.out hh1]
   obtain ⟨_, p0, p1, p2, p3, p4, p5, _⟩ := id hC4.box0
   have HC := hidOf hC4
   have HS := hidOf hS4
   clear hC4 hS4 hBk
   go_wp2_with fail
   refine (grantOf_any A.a' A.n' A.c' x.gs who _ HC.out.ninX.grs hn').mono ?_
   rintro e w5 ⟨rfl, hb5⟩
   have hC5 := HC.out.kp hb5
   have hS5 := HS.out.keep hb5
   clear HC HS hb5 p0 p1 p2 p3 p4 p5
   cases hh2 : hasL (whosL x.gs) who
   ·rw [find_none hh2]
    unfold grRes
    simp only [Option.isSome]
    generalize hW6 : w5.alloc (.cells #[.int .i64 0, .bool false] 44) = W6
    have g0 : W6.cell? ⟨w5.heap.size, 0, none⟩ = some (.int .i64 0) := by subst hW6; simp
    have g1 : W6.cell? ⟨w5.heap.size, 1, none⟩ = some (.bool false) := by subst hW6; simp
    have gf : ∀ o, W6.frozen? ⟨w5.heap.size, o, none⟩ = false := fun o => by subst hW6; simp [go_sem]
    have b6 : Below w5.heap.size w5 W6 := by subst hW6; exact bl_alloc (Below.refl _ _) _
    generalize hW7 : (W6.setCell ⟨w5.heap.size, 0, none⟩ (.int .i64 0)).setCell ⟨w5.heap.size, 1, none⟩ (.bool false) = W7
    have h0 : W7.cell? ⟨w5.heap.size, 0, none⟩ = some (.int .i64 0) := by subst hW7; rw [World.cell?_setCell_other _ _ _ _ (by simp)]; exact World.cell?_setCell_same _ _ _ g0
    have h1 : W7.cell? ⟨w5.heap.size, 1, none⟩ = some (.bool false) := by subst hW7; exact World.cell?_setCell_same _ _ _ (by rw [World.cell?_setCell_other _ _ _ _ (by simp)]; exact g1)
    have b7 : Below w5.heap.size w5 W7 := by subst hW7; exact bl_set1' (bl_set1' b6 w5.heap.size 0 (Nat.le_refl _) _) w5.heap.size 1 (Nat.le_refl _) _
    have hC7 := hC5.kp b7
    have hS7 := hS5.keep b7
    obtain ⟨_, p0, p1, p2, p3, p4, p5, _⟩ := id hC7.box0
    have HC := hidOf hC7
    have HS := hidOf hS7
    clear hC5 hS5 b6 b7 hC7 hS7
    obtain ⟨_, z0, z1, z2, z3, z4, z5, _⟩ := id (HS.out).box
    obtain ⟨_, r0, r1, r2, r3, r4, r5, rf⟩ := id (HC.out).box1
    have HF := hidOf (nst_fin (HC.out) (HS.out))
    have HR := hidOf (show withdrawM x who = (x, -1, 3) by unfold withdrawM; rw [if_neg (by rw [HOK.out]; simp), if_neg (by rw [hh1]; simp), if_pos (by unfold toldL; exact hh2)])
    clear HC HS
    go_wp2
    refine bodyPost_ret (v := .tuple #[.agg #[.bool x.pm, .slice A1.a A1.n A1.c, .slice A1.a' A1.n' A1.c', .int .i64 x.on, .int .i64 x.sp, .int .i64 x.tk], .int .i64 (-1), .int .i64 3]) (by simp [results, Try.results19, go_sem, r0, r1, r2, r3, r4, r5]) rfl ?_
    rw [HR.out]
    exact ⟨A1, rfl, HF.out⟩
   ·rw [find_one HKg.out hh2]
    unfold grRes
    simp only [Option.isSome]
    cases hone : oneOf x.gs who
    ·generalize hW6 : w5.alloc (.cells #[.int .i64 0, .bool false] 44) = W6
     have g0 : W6.cell? ⟨w5.heap.size, 0, none⟩ = some (.int .i64 0) := by subst hW6; simp
     have g1 : W6.cell? ⟨w5.heap.size, 1, none⟩ = some (.bool false) := by subst hW6; simp
     have gf : ∀ o, W6.frozen? ⟨w5.heap.size, o, none⟩ = false := fun o => by subst hW6; simp [go_sem]
     have b6 : Below w5.heap.size w5 W6 := by subst hW6; exact bl_alloc (Below.refl _ _) _
     generalize hW7 : (W6.setCell ⟨w5.heap.size, 0, none⟩ (.int .i64 who)).setCell ⟨w5.heap.size, 1, none⟩ (.bool false) = W7
     have h0 : W7.cell? ⟨w5.heap.size, 0, none⟩ = some (.int .i64 who) := by subst hW7; rw [World.cell?_setCell_other _ _ _ _ (by simp)]; exact World.cell?_setCell_same _ _ _ g0
     have h1 : W7.cell? ⟨w5.heap.size, 1, none⟩ = some (.bool false) := by subst hW7; exact World.cell?_setCell_same _ _ _ (by rw [World.cell?_setCell_other _ _ _ _ (by simp)]; exact g1)
     have b7 : Below w5.heap.size w5 W7 := by subst hW7; exact bl_set1' (bl_set1' b6 w5.heap.size 0 (Nat.le_refl _) _) w5.heap.size 1 (Nat.le_refl _) _
     have hC7 := hC5.kp b7
     have hS7 := hS5.keep b7
     obtain ⟨_, p0, p1, p2, p3, p4, p5, _⟩ := id hC7.box0
     have HC := hidOf hC7
     have HS := hidOf hS7
     clear hC5 hS5 b6 b7 hC7 hS7
     have HRes := hidOf (show withdrawM x who = ({ x with gs := lessG x.gs who }, -1, 0) by unfold withdrawM; rw [if_neg (by rw [HOK.out]; simp), if_neg (by rw [hh1]; simp), if_neg (by unfold toldL; rw [hh2]; simp), if_pos hone])
     have hdm : dropM x who false = ({ x with gs := lessG x.gs who }, -1) := by unfold dropM; rw [less_without HKg.out (by rw [find_one HKg.out hh2, hone])]; rfl
     have Hdm := hidOf hdm
     clear hdm
     go_wp2_with fail
     refine (dropGrant_any _ N A1 x who false _ HS.out (by have := HAn.out; omega) (by have := HAn.out; omega) HK1.out hw.ln k6).mono ?_
     rintro e w8 ⟨A8, rfl, hS8, hb8⟩
     have hC8 := HC.out.keep hb8 (Nat.le_refl _)
     rw [Hdm.out] at hS8 ⊢
     simp only at hS8 ⊢
     obtain ⟨_, z0, z1, z2, z3, z4, z5, _⟩ := id (hS8).box
     obtain ⟨_, r0, r1, r2, r3, r4, r5, rf⟩ := id (hC8).box1
     have HF := hidOf (nst_fin (hC8) (hS8))
     have HR := hidOf (HRes.out)
     clear HC HS HRes hS8 hC8 hb8 Hdm p0 p1 p2 p3 p4 p5
     go_wp2
     refine bodyPost_ret (v := .tuple #[.agg #[.bool x.pm, .slice A8.a A8.n A8.c, .slice A8.a' A8.n' A8.c', .int .i64 x.on, .int .i64 x.sp, .int .i64 x.tk], .int .i64 (-1), .int .i64 0]) (by simp [results, Try.results19, go_sem, r0, r1, r2, r3, r4, r5]) rfl ?_
     rw [HR.out]
     exact ⟨A8, rfl, HF.out⟩
    ·generalize hW6 : w5.alloc (.cells #[.int .i64 0, .bool false] 44) = W6
     have g0 : W6.cell? ⟨w5.heap.size, 0, none⟩ = some (.int .i64 0) := by subst hW6; simp
     have g1 : W6.cell? ⟨w5.heap.size, 1, none⟩ = some (.bool false) := by subst hW6; simp
     have gf : ∀ o, W6.frozen? ⟨w5.heap.size, o, none⟩ = false := fun o => by subst hW6; simp [go_sem]
     have b6 : Below w5.heap.size w5 W6 := by subst hW6; exact bl_alloc (Below.refl _ _) _
     generalize hW7 : (W6.setCell ⟨w5.heap.size, 0, none⟩ (.int .i64 who)).setCell ⟨w5.heap.size, 1, none⟩ (.bool true) = W7
     have h0 : W7.cell? ⟨w5.heap.size, 0, none⟩ = some (.int .i64 who) := by subst hW7; rw [World.cell?_setCell_other _ _ _ _ (by simp)]; exact World.cell?_setCell_same _ _ _ g0
     have h1 : W7.cell? ⟨w5.heap.size, 1, none⟩ = some (.bool true) := by subst hW7; exact World.cell?_setCell_same _ _ _ (by rw [World.cell?_setCell_other _ _ _ _ (by simp)]; exact g1)
     have b7 : Below w5.heap.size w5 W7 := by subst hW7; exact bl_set1' (bl_set1' b6 w5.heap.size 0 (Nat.le_refl _) _) w5.heap.size 1 (Nat.le_refl _) _
     have hC7 := hC5.kp b7
     have hS7 := hS5.keep b7
     obtain ⟨_, p0, p1, p2, p3, p4, p5, _⟩ := id hC7.box0
     have HC := hidOf hC7
     have HS := hidOf hS7
     clear hC5 hS5 b6 b7 hC7 hS7
     by_cases t2 : A.n = 0
     ·have t2' : ((A.n : Int) == 0) = true := by simp [t2]
      cases hpm : x.pm
      ·have HRes := hidOf (show withdrawM x who = ((oneM { x with gs := lessG x.gs who }).1, (oneM { x with gs := lessG x.gs who }).2, 0) by unfold withdrawM; rw [if_neg (by rw [HOK.out]; simp), if_neg (by rw [hh1]; simp), if_neg (by unfold toldL; rw [hh2]; simp), if_neg (by rw [hone]; simp), if_neg (by rw [hpm]; simp)])
       have hdm : dropM x who true = oneM { x with gs := lessG x.gs who } := by unfold dropM; rw [less_without HKg.out (by rw [find_one HKg.out hh2, hone])]; rfl
       have Hdm := hidOf hdm
       clear hdm
       clear t2
       go_wp2_with fail
       refine (dropGrant_any _ N A1 x who true _ HS.out (by have := HAn.out; omega) (by have := HAn.out; omega) HK1.out hw.ln k6).mono ?_
       rintro e w8 ⟨A8, rfl, hS8, hb8⟩
       have hC8 := HC.out.keep hb8 (Nat.le_refl _)
       rw [Hdm.out] at hS8 ⊢
       generalize hy : (oneM { x with gs := lessG x.gs who }).1 = y at hS8
       generalize ht : (oneM { x with gs := lessG x.gs who }).2 = t
       have hrs : withdrawM x who = (y, t, 0) := by rw [HRes.out, hy, ht]
       obtain ⟨_, z0, z1, z2, z3, z4, z5, _⟩ := id (hS8).box
       obtain ⟨_, r0, r1, r2, r3, r4, r5, rf⟩ := id (hC8).box1
       have HF := hidOf (nst_fin (hC8) (hS8))
       have HR := hidOf (hrs)
       clear HC HS HRes hS8 hC8 hb8 hy ht hrs Hdm p0 p1 p2 p3 p4 p5
       go_wp2
       refine bodyPost_ret (v := .tuple #[.agg #[.bool y.pm, .slice A8.a A8.n A8.c, .slice A8.a' A8.n' A8.c', .int .i64 y.on, .int .i64 y.sp, .int .i64 y.tk], .int .i64 t, .int .i64 0]) (by simp [results, Try.results19, go_sem, r0, r1, r2, r3, r4, r5]) rfl ?_
       rw [HR.out]
       exact ⟨A8, rfl, HF.out⟩
      ·by_cases t1 : x.sp = 1000000000
       ·have t1' : (x.sp == 1000000000) = true := by simp [t1]
        obtain ⟨_, z0, z1, z2, z3, z4, z5, _⟩ := id (HS.out).box
        obtain ⟨_, r0, r1, r2, r3, r4, r5, rf⟩ := id (HC.out).box1
        have HF := hidOf (nst_fin (HC.out) (HS.out))
        have HR := hidOf (show withdrawM x who = (x, -1, 2) by unfold withdrawM; rw [if_neg (by rw [HOK.out]; simp), if_neg (by rw [hh1]; simp), if_neg (by unfold toldL; rw [hh2]; simp), if_neg (by rw [hone]; simp), if_pos ⟨by rw [HL1.out]; omega, hpm, by omega⟩])
        clear HC HS t1 t2
        rw [hpm] at HF
        go_wp2
        refine bodyPost_ret (v := .tuple #[.agg #[.bool x.pm, .slice A1.a A1.n A1.c, .slice A1.a' A1.n' A1.c', .int .i64 x.on, .int .i64 x.sp, .int .i64 x.tk], .int .i64 (-1), .int .i64 2]) (by simp [results, Try.results19, go_sem, r0, r1, r2, r3, r4, r5, hpm]) rfl ?_
        rw [HR.out]
        exact ⟨A1, rfl, HF.out⟩
       ·have t1' : (x.sp == 1000000000) = false := by simp [t1]
        have HRes := hidOf (show withdrawM x who = ((oneM { x with gs := lessG x.gs who }).1, (oneM { x with gs := lessG x.gs who }).2, 0) by unfold withdrawM; rw [if_neg (by rw [HOK.out]; simp), if_neg (by rw [hh1]; simp), if_neg (by unfold toldL; rw [hh2]; simp), if_neg (by rw [hone]; simp), if_neg (by rintro ⟨_, _, h⟩; omega)])
        have hdm : dropM x who true = oneM { x with gs := lessG x.gs who } := by unfold dropM; rw [less_without HKg.out (by rw [find_one HKg.out hh2, hone])]; rfl
        have Hdm := hidOf hdm
        clear hdm
        clear t2
        go_wp2_with fail
        refine (dropGrant_any _ N A1 x who true _ HS.out (by have := HAn.out; omega) (by have := HAn.out; omega) HK1.out hw.ln k6).mono ?_
        rintro e w8 ⟨A8, rfl, hS8, hb8⟩
        have hC8 := HC.out.keep hb8 (Nat.le_refl _)
        rw [Hdm.out] at hS8 ⊢
        generalize hy : (oneM { x with gs := lessG x.gs who }).1 = y at hS8
        generalize ht : (oneM { x with gs := lessG x.gs who }).2 = t
        have hrs : withdrawM x who = (y, t, 0) := by rw [HRes.out, hy, ht]
        obtain ⟨_, z0, z1, z2, z3, z4, z5, _⟩ := id (hS8).box
        obtain ⟨_, r0, r1, r2, r3, r4, r5, rf⟩ := id (hC8).box1
        have HF := hidOf (nst_fin (hC8) (hS8))
        have HR := hidOf (hrs)
        clear HC HS HRes hS8 hC8 hb8 hy ht hrs Hdm p0 p1 p2 p3 p4 p5
        go_wp2
        refine bodyPost_ret (v := .tuple #[.agg #[.bool y.pm, .slice A8.a A8.n A8.c, .slice A8.a' A8.n' A8.c', .int .i64 y.on, .int .i64 y.sp, .int .i64 y.tk], .int .i64 t, .int .i64 0]) (by simp [results, Try.results19, go_sem, r0, r1, r2, r3, r4, r5]) rfl ?_
        rw [HR.out]
        exact ⟨A8, rfl, HF.out⟩
     ·have t2' : ((A.n : Int) == 0) = false := by simp; omega
      have HRes := hidOf (show withdrawM x who = ((oneM { x with gs := lessG x.gs who }).1, (oneM { x with gs := lessG x.gs who }).2, 0) by unfold withdrawM; rw [if_neg (by rw [HOK.out]; simp), if_neg (by rw [hh1]; simp), if_neg (by unfold toldL; rw [hh2]; simp), if_neg (by rw [hone]; simp), if_neg (by rw [HL1.out]; rintro ⟨h, _⟩; omega)])
      have hdm : dropM x who true = oneM { x with gs := lessG x.gs who } := by unfold dropM; rw [less_without HKg.out (by rw [find_one HKg.out hh2, hone])]; rfl
      have Hdm := hidOf hdm
      clear hdm
      go_wp2_with fail
      refine (dropGrant_any _ N A1 x who true _ HS.out (by have := HAn.out; omega) (by have := HAn.out; omega) HK1.out hw.ln k6).mono ?_
      rintro e w8 ⟨A8, rfl, hS8, hb8⟩
      have hC8 := HC.out.keep hb8 (Nat.le_refl _)
      rw [Hdm.out] at hS8 ⊢
      generalize hy : (oneM { x with gs := lessG x.gs who }).1 = y at hS8
      generalize ht : (oneM { x with gs := lessG x.gs who }).2 = t
      have hrs : withdrawM x who = (y, t, 0) := by rw [HRes.out, hy, ht]
      obtain ⟨_, z0, z1, z2, z3, z4, z5, _⟩ := id (hS8).box
      obtain ⟨_, r0, r1, r2, r3, r4, r5, rf⟩ := id (hC8).box1
      have HF := hidOf (nst_fin (hC8) (hS8))
      have HR := hidOf (hrs)
      clear HC HS HRes hS8 hC8 hb8 hy ht hrs Hdm p0 p1 p2 p3 p4 p5
      go_wp2
      refine bodyPost_ret (v := .tuple #[.agg #[.bool y.pm, .slice A8.a A8.n A8.c, .slice A8.a' A8.n' A8.c', .int .i64 y.on, .int .i64 y.sp, .int .i64 y.tk], .int .i64 t, .int .i64 0]) (by simp [results, Try.results19, go_sem, r0, r1, r2, r3, r4, r5]) rfl ?_
      rw [HR.out]
      exact ⟨A8, rfl, HF.out⟩
  ·rw [leave_yes HK1.out hh1] at hBk ⊢
   have hsp4 := own_span hBk.own
   have hS5 := hS4.lineR (hBk.own.mono hsz4) hcp4 (hsp4.imp id fun l b off e => by have := (l b off e).1; omega) (hsp4.imp id fun l b off e e2 => by have := (l b off e).1; have := (HQ.out b e2).2; omega)
   have hC5 := hC4.keep (hS4.below (Below.refl (w.heap.size + 2) w4) 1 (.slice a4 m4 c4)) (Nat.le_refl _)
   obtain ⟨_, y0, y1, y2, y3, y4, y5, yf⟩ := id hS4.box
   have HRes := hidOf (show withdrawM x who = ({ x with ln := lessL x.ln who }, -1, 0) by unfold withdrawM; rw [if_neg (by rw [HOK.out]; simp), if_pos hh1])
   obtain ⟨_, z0, z1, z2, z3, z4, z5, _⟩ := id (hS5).box
   obtain ⟨_, r0, r1, r2, r3, r4, r5, rf⟩ := id (hC5).box1
   have HF := hidOf (nst_fin (hC5) (hS5))
   have HR := hidOf (HRes.out)
   simp only at z0 z1 z2 z3 z4 z5 HF
   clear hS4 hC4 hS5 hC5 hBk hsp4 HRes HQ hcp4
   go_wp2
   refine bodyPost_ret (v := .tuple #[.agg #[.bool x.pm, .slice a4 m4 c4, .slice A1.a' A1.n' A1.c', .int .i64 x.on, .int .i64 x.sp, .int .i64 x.tk], .int .i64 (-1), .int .i64 0]) (by simp [results, Try.results19, go_sem, r0, r1, r2, r3, r4, r5]) rfl ?_
   rw [HR.out]
   exact ⟨⟨a4, m4, c4, A1.a', A1.n', A1.c'⟩, rfl, HF.out⟩
end Go.Proofs.Ytfgknbflgmblmaa
