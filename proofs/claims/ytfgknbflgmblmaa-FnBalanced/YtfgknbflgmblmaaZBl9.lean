/-
  A notification in a variable of its own: a grant is appended, a number
  The program's notifications: who waits
  Walks of the specification's notifications: a grant is taken out
  Walks of the specification's notifications: who goes on
-/
import Derived.Test.YtfgknbflgmblmaaZBl8
import Derived.Deep.RegionLaw
namespace Go.Proofs.Ytfgknbflgmblmaa
open Go.RowKit Pl Il
theorem NRow.ne {B : Nat} {w : World} {A : Na} {x : Nt} (h : NRow B w A x) (q : Nat) (h1 : (Value.slice A.a A.n A.c).ownBlock = some q) : (Value.slice A.a' A.n' A.c').ownBlock ≠ some q := by
  intro h2
  obtain ⟨_, ⟨ea, en⟩ | ⟨g, cap, cur, ea, hB, hg, hr⟩⟩ := h.one
  · rw [ea] at h1; simp [Value.ownBlock] at h1
  obtain ⟨_, ⟨ea', en'⟩ | ⟨g', cap', cur', ea', hB', hg', hr'⟩⟩ := h.two
  · rw [ea'] at h2; simp [Value.ownBlock] at h2
  rw [ea] at h1
  rw [ea'] at h2
  have e1 : g = q := by simpa [Value.ownBlock] using h1
  have e2 : g' = q := by simpa [Value.ownBlock] using h2
  subst e1
  subst e2
  rw [hg] at hg'
  simp at hg'
/-- A number is appended to the line. -/
theorem NSr.join {B N : Nat} {A : Na} {x : Nt} {w w' : World} {g' c' : Nat} {y : Int} (h : NSr B N A x w) (ho : w'.ownsRow B 3 1 (.slice (some ⟨g', 0, none⟩) (A.n + 1) c') (A.n + 1) (intsV (x.ln ++ [y]))) (hg : w.grownBy w' (Value.slice A.a A.n A.c).ownBlock) (hl : (Value.slice A.a A.n A.c).ownBlock = some g' ∨ w.heap.size ≤ g') :
    NBox N A x w' ∧ NSr B N { A with a := some ⟨g', 0, none⟩, n := A.n + 1, c := c' } { x with ln := x.ln ++ [y] } (w'.setCell ⟨N, 1, none⟩ (.slice (some ⟨g', 0, none⟩) (A.n + 1) c')) := by
  have hb := h.box.grownO hg h.ne1
  have hlt := h.box.lt
  have hne : (Value.slice (some ⟨g', 0, none⟩) (A.n + 1) c').ownBlock ≠ some N := fun e => by
    have e' : g' = N := by simpa [Value.ownBlock] using e
    rcases hl with hl | hl
    · exact h.ne1 (by rw [hl, e'])
    · omega
  have h1 := grow_far h.rows.two hg (fun q e e2 => h.rows.ne q e e2)
  exact ⟨hb, hb.set1.lists _ x.gs, h.ge, ⟨own_set ho N 1 hne _, own_set h1 N 1 h.ne2 _⟩, hne, h.ne2⟩
theorem NCtx.grown {w : World} {A : Na} {x : Nt} {u u' : World} {g : Option Nat} (h : NCtx w A x u) (hg : u.grownBy u' g) (hq : ∀ q, g = some q → w.heap.size + 2 ≤ q) (N o : Nat) (hN : w.heap.size + 2 ≤ N) (v : Value) : NCtx w A x u' ∧ NCtx w A x (u'.setCell ⟨N, o, none⟩ v) := by
  have h1 : Below (w.heap.size + 2) u u' := (Below.refl _ _).grown hg h.sz hq
  exact ⟨h.keep h1 (Nat.le_refl _), h.keep (bl_set1' h1 N o hN v) (Nat.le_refl _)⟩
end Go.Proofs.Ytfgknbflgmblmaa
namespace Go.Proofs.Ytfgknbflgmblmaa
open Go.RowKit Go.Maps Pl Il
theorem place_nn {xs : List Int} {x : Int} (h : hasL xs x = true) : 0 ≤ placeL xs x := by
  obtain ⟨k, _, e⟩ := place_bound h
  omega
set_option maxRecDepth 100000 in
set_option maxHeartbeats 2000000 in
theorem implAwait_any (A : Na) (x : Nt) (who : Int) (w : World) (hI : NIn w A x) (hn : A.n ≤ 2097152) (hn' : A.n' ≤ 2097152) (hw : NWf x) (hx : (Lit.int .i64 who).wf = true) :
  Calls Try.prog 21 #[.agg #[.bool x.pm, .slice A.a A.n A.c, .slice A.a' A.n' A.c', .int .i64 x.on, .int .i64 x.sp, .int .i64 x.tk], .int .i64 who] w fun e w' => NOutP w (awaitM x who).1 [.int .i64 (awaitM x who).2] e w' := by
 have hC := nctx_new hI
 have s1 : ((w.alloc (.cells #[.bool x.pm, .slice A.a A.n A.c, .slice A.a' A.n' A.c', .int .i64 x.on, .int .i64 x.sp, .int .i64 x.tk] 27)).alloc (.cells #[.bool false, .slice none 0 0, .slice none 0 0, .int .i64 0, .int .i64 0, .int .i64 0] 27)).heap.size = w.heap.size + 2 := by simp
 have HL1 := hidOf hI.ints.len
 have HL2 := hidOf hI.grs.len
 have HCp := hidOf (copiedNotify_any A x _ hC.ninX hn hn')
 have HC := hidOf hC
 have S1 := hidOf s1
 clear hC s1 hI
 go_enter Try.func21, Try.ntmps21
 go_wp2_with fail
 refine (HCp.out).mono ?_
 rintro e w1 ⟨a1, c1, a2, c2, rfl, hR, hb1⟩
 rw [S1.out] at hR
 have hC1 := HC.out.kp hb1
 have hS := nsr_new hR hC1.sz
 generalize hW2 : w1.alloc (.cells #[.bool x.pm, .slice a1 A.n c1, .slice a2 A.n' c2, .int .i64 x.on, .int .i64 x.sp, .int .i64 x.tk] 27) = W2
 have hb2 : Below w1.heap.size w1 W2 := by subst hW2; exact bl_alloc (Below.refl _ _) _
 simp only at hS
 rw [hW2] at hS
 have hC2 := hC1.kp hb2
 obtain ⟨_, p0, p1, p2, p3, p4, p5, _⟩ := id hC2.box0
 have HS := hidOf hS
 have HC2 := hidOf hC2
 clear hR hb1 hC1 hb2 hC2 hS HC HCp
 go_wp2_with fail
 refine (implNotifyOk_any A x _ HC2.out.ninX hn hn' hw).mono ?_
 rintro e w3 ⟨rfl, hb3⟩
 have hC := HC2.out.kp hb3
 have hS := HS.out.keep hb3
 clear p0 p1 p2 p3 p4 p5 hW2 hb3 HS HC2
 obtain ⟨A1, hA1⟩ : ∃ A1 : Na, A1 = ⟨a1, A.n, c1, a2, A.n', c2⟩ := ⟨_, rfl⟩
 rw [← hA1] at hS
 have hAn : A1.n = A.n ∧ A1.n' = A.n' := by rw [hA1]; exact ⟨rfl, rfl⟩
 have HAn := hidOf hAn
 clear hA1 hAn
 generalize hN : w1.heap.size = N at *
 clear hN
 obtain ⟨_, p0, p1, p2, p3, p4, p5, _⟩ := id hC.box0
 have HC := hidOf hC
 have HS := hidOf hS
 clear hC hS
 cases hok : okN x
 ·clear p0 p1 p2 p3 p4 p5
  obtain ⟨_, z0, z1, z2, z3, z4, z5, _⟩ := id (HS.out).box
  obtain ⟨_, r0, r1, r2, r3, r4, r5, rf⟩ := id (HC.out).box1
  have HF := hidOf (nsr_fin (HC.out) ((HS.out)).rows)
  have HR := hidOf (show awaitM x who = (x, 1) by unfold awaitM; rw [if_pos (.inl hok)])
  clear hok HC HS
  go_wp2
  refine bodyPost_ret (v := .tuple #[.agg #[.bool x.pm, .slice A1.a A1.n A1.c, .slice A1.a' A1.n' A1.c', .int .i64 x.on, .int .i64 x.sp, .int .i64 x.tk], .int .i64 1]) (by simp [results, Try.results21, go_sem, r0, r1, r2, r3, r4, r5]) rfl ?_
  rw [HR.out]
  exact ⟨A1, rfl, HF.out⟩
 ·obtain ⟨k1, kg, k3, k4, k5, k6, k7, k8⟩ := okN_parts hok
  have HK8 := hidOf k8
  clear k8
  rw [HL1.out] at k3
  rw [HL2.out] at k4
  have HOK := hidOf hok
  have HK1 := hidOf k1
  have HKg := hidOf (nodup_line kg)
  clear hok k1 kg
  go_wp2_with fail
  refine (isClient_any who _).mono ?_
  rintro e w4 ⟨rfl, rfl⟩
  cases hcl : clientL who
  ·clear p0 p1 p2 p3 p4 p5
   obtain ⟨_, z0, z1, z2, z3, z4, z5, _⟩ := id (HS.out).box
   obtain ⟨_, r0, r1, r2, r3, r4, r5, rf⟩ := id (HC.out).box1
   have HF := hidOf (nsr_fin (HC.out) ((HS.out)).rows)
   have HR := hidOf (show awaitM x who = (x, 1) by unfold awaitM; rw [if_pos (.inr hcl)])
   clear hcl HC HS
   go_wp2
   refine bodyPost_ret (v := .tuple #[.agg #[.bool x.pm, .slice A1.a A1.n A1.c, .slice A1.a' A1.n' A1.c', .int .i64 x.on, .int .i64 x.sp, .int .i64 x.tk], .int .i64 1]) (by simp [results, Try.results21, go_sem, r0, r1, r2, r3, r4, r5]) rfl ?_
   rw [HR.out]
   exact ⟨A1, rfl, HF.out⟩
  ·go_wp2_with fail
   refine (grantOf_any A.a' A.n' A.c' x.gs who _ HC.out.ninX.grs hn').mono ?_
   rintro e w5 ⟨rfl, hb5⟩
   have hC5 := HC.out.kp hb5
   have hS5 := HS.out.keep hb5
   clear HC HS hb5 p0 p1 p2 p3 p4 p5
   cases hh2 : hasL (whosL x.gs) who
   ·rw [find_none hh2]
    unfold grRes
    simp only [Option.isSome]
    have P1 : ∀ o, (w5.alloc o).cell? ⟨w.heap.size, 1, none⟩ = some (.slice A.a A.n A.c) := fun o => (hC5.box0.alloc o).c1
    go_wp2_with fail
    clear P1
    generalize hW6 : w5.alloc (.cells #[.int .i64 0, .bool false] 44) = W6
    have b6 : Below w5.heap.size w5 W6 := by subst hW6; exact bl_alloc (Below.refl _ _) _
    have hC6 := hC5.kp b6
    have hS6 := hS5.keep b6
    obtain ⟨_, p0, p1, p2, p3, p4, p5, _⟩ := id hC6.box0
    have HC := hidOf hC6
    have HS := hidOf hS6
    clear hW6 hC5 hS5 b6 hC6 hS6
    refine (implPlaceOf_any A.a A.n A.c x.ln who _ HC.out.ninX.ints hn hw.ln hx).mono ?_
    rintro e w7 ⟨rfl, hb7⟩
    have hC7 := HC.out.kp hb7
    have hS7 := HS.out.keep hb7
    clear HC HS hb7 p0 p1 p2 p3 p4 p5
    obtain ⟨_, p0, p1, p2, p3, p4, p5, _⟩ := id hC7.box0
    have HC := hidOf hC7
    have HS := hidOf hS7
    clear hC7 hS7
    cases hh1 : hasL x.ln who
    ·rw [place_minus hh1]
     by_cases t1 : x.tk = 1000000000
     ·have t1' : (x.tk == 1000000000) = true := by simp [t1]
      obtain ⟨_, z0, z1, z2, z3, z4, z5, _⟩ := id (HS.out).box
      obtain ⟨_, r0, r1, r2, r3, r4, r5, rf⟩ := id (HC.out).box1
      have HF := hidOf (nsr_fin (HC.out) ((HS.out)).rows)
      have HR := hidOf (show awaitM x who = (x, 2) by unfold awaitM; rw [if_neg (by rw [HOK.out, hcl]; simp), if_neg (by unfold toldL; rw [hh1, hh2]; simp), if_pos (.inl (by omega))])
      clear HC HS t1
      go_wp2
      refine bodyPost_ret (v := .tuple #[.agg #[.bool x.pm, .slice A1.a A1.n A1.c, .slice A1.a' A1.n' A1.c', .int .i64 x.on, .int .i64 x.sp, .int .i64 x.tk], .int .i64 2]) (by simp [results, Try.results21, go_sem, r0, r1, r2, r3, r4, r5]) rfl ?_
      rw [HR.out]
      exact ⟨A1, rfl, HF.out⟩
     ·have t1' : (x.tk == 1000000000) = false := by simp [t1]
      cases hpm : x.pm
      ·by_cases t3 : A.n = 32
       ·have t3' : ((A.n : Int) == 32) = true := by simp; omega
        obtain ⟨_, z0, z1, z2, z3, z4, z5, _⟩ := id (HS.out).box
        obtain ⟨_, r0, r1, r2, r3, r4, r5, rf⟩ := id (HC.out).box1
        have HF := hidOf (nsr_fin (HC.out) ((HS.out)).rows)
        have HR := hidOf (show awaitM x who = (x, 2) by unfold awaitM; rw [if_neg (by rw [HOK.out, hcl]; simp), if_neg (by unfold toldL; rw [hh1, hh2]; simp), if_pos (.inr ⟨hpm, by rw [HL1.out]; omega⟩)])
        clear HC HS t3
        rw [hpm] at HF
        go_wp2
        refine bodyPost_ret (v := .tuple #[.agg #[.bool x.pm, .slice A1.a A1.n A1.c, .slice A1.a' A1.n' A1.c', .int .i64 x.on, .int .i64 x.sp, .int .i64 x.tk], .int .i64 2]) (by simp [results, Try.results21, go_sem, r0, r1, r2, r3, r4, r5, hpm]) rfl ?_
        rw [HR.out]
        exact ⟨A1, rfl, HF.out⟩
       ·have t3' : ((A.n : Int) == 32) = false := by simp; omega
        have hf : ¬ (1000000000 ≤ x.tk ∨ x.pm = false ∧ 32 ≤ x.ln.length) := by rw [HL1.out]; rintro (h | ⟨_, h⟩) <;> omega
        obtain ⟨g', c', w', hr, ho', hg, hl⟩ := append_own1 (w.heap.size + 2) A1.n _ x.ln who w7 HS.out.rows.one HC.out.sz (by have := HAn.out; omega)
        obtain ⟨hbx, hS2⟩ := HS.out.join ho' hg hl
        have hCg : Below (w.heap.size + 2) w7 (w'.setCell ⟨N, 1, none⟩ (.slice (some ⟨g', 0, none⟩) (A1.n + 1) c')) := bl_set1' ((Below.refl _ _).grown hg HC.out.sz (fun q e => (HS.out.rows.one.lt q e).1)) N 1 HS.out.ge _
        have hC2 := HC.out.keep hCg (Nat.le_refl _)
        obtain ⟨_, y0, y1, y2, y3, y4, y5, yf⟩ := id HS.out.box
        obtain ⟨_, u0, u1, u2, u3, u4, u5, uf⟩ := id hbx
        have HRes := hidOf (show awaitM x who = ({ x with ln := x.ln ++ [who] }, 4) by unfold awaitM; rw [if_neg (by rw [HOK.out, hcl]; simp), if_neg (by unfold toldL; rw [hh1, hh2]; simp), if_neg hf, if_neg (by rw [hpm]; simp)])
        have Hr := hidOf hr
        have dq : ∀ o, (w7.alloc o).cell? ⟨N, 1, none⟩ = some (.slice A1.a A1.n A1.c) := fun o => by rw [World.cell?_alloc_old _ _ _ (Nat.ne_of_lt (World.block_lt_of_cell? w7 _ y1))]; exact y1
        obtain ⟨_, z0, z1, z2, z3, z4, z5, _⟩ := id (hS2).box
        obtain ⟨_, r0, r1, r2, r3, r4, r5, rf⟩ := id (hC2).box1
        have HF := hidOf (nsr_fin (hC2) ((hS2)).rows)
        have HR := hidOf (HRes.out)
        clear HC HS hS2 hC2 hCg hbx hr ho' hg hl HRes hf t3
        simp only at HF z0 z1 z2 z3 z4 z5
        rw [hpm] at HF
        go_wp2_with (at_builtin; refine wpList_append_run rfl _ _ 24 rfl _ _ _ rfl rfl Hr.out ?_)
        refine bodyPost_ret (v := .tuple #[.agg #[.bool x.pm, .slice (some ⟨g', 0, none⟩) (A1.n + 1) c', .slice A1.a' A1.n' A1.c', .int .i64 x.on, .int .i64 x.sp, .int .i64 x.tk], .int .i64 4]) (by simp [results, Try.results21, go_sem, r0, r1, r2, r3, r4, r5, hpm]) rfl ?_
        rw [HR.out]
        exact ⟨⟨some ⟨g', 0, none⟩, A1.n + 1, c', A1.a', A1.n', A1.c'⟩, rfl, by simp only; rw [hpm]; exact HF.out⟩
      ·have hS2 := HS.out.setc (y := { x with pm := false }) 0 (.bool false) (HS.out.box.set0 (b := false)) rfl rfl
       have hS3 := hS2.setc (y := { x with pm := false, tk := x.tk + 1 }) 5 (.int .i64 (x.tk + 1)) (hS2.box.set5 (v := x.tk + 1)) rfl rfl
       have hC3 := HC.out.keep (HS.out.below (HS.out.below (Below.refl (w.heap.size + 2) w7) 0 (.bool false)) 5 (.int .i64 (x.tk + 1))) (Nat.le_refl _)
       obtain ⟨_, y0, y1, y2, y3, y4, y5, yf⟩ := id HS.out.box
       obtain ⟨_, v0, v1, v2, v3, v4, v5, vf⟩ := id hS2.box
       simp only at v0 v1 v2 v3 v4 v5
       have HRes := hidOf (show awaitM x who = ({ x with pm := false, tk := x.tk + 1 }, 0) by unfold awaitM; rw [if_neg (by rw [HOK.out, hcl]; simp), if_neg (by unfold toldL; rw [hh1, hh2]; simp), if_neg (by rw [hpm]; simp; omega), if_pos hpm])
       obtain ⟨_, z0, z1, z2, z3, z4, z5, _⟩ := id (hS3).box
       obtain ⟨_, r0, r1, r2, r3, r4, r5, rf⟩ := id (hC3).box1
       have HF := hidOf (nsr_fin (hC3) ((hS3)).rows)
       simp only at z0 z1 z2 z3 z4 z5 HF
       have HR := hidOf (HRes.out)
       clear HC HS hS2 hS3 hC3 HRes
       go_wp2
       refine bodyPost_ret (v := .tuple #[.agg #[.bool false, .slice A1.a A1.n A1.c, .slice A1.a' A1.n' A1.c', .int .i64 x.on, .int .i64 x.sp, .int .i64 (x.tk + 1)], .int .i64 0]) (by simp [results, Try.results21, go_sem, r0, r1, r2, r3, r4, r5]) rfl ?_
       rw [HR.out]
       exact ⟨A1, rfl, HF.out⟩
    ·have hp := place_nn hh1
     generalize hpl : placeL x.ln who = pl at hp
     clear hpl
     have hp' : ¬ pl < 0 := by omega
     obtain ⟨_, z0, z1, z2, z3, z4, z5, _⟩ := id (HS.out).box
     obtain ⟨_, r0, r1, r2, r3, r4, r5, rf⟩ := id (HC.out).box1
     have HF := hidOf (nsr_fin (HC.out) ((HS.out)).rows)
     have HR := hidOf (show awaitM x who = (x, 5) by unfold awaitM toldL; rw [if_neg (by rw [HOK.out, hcl]; simp), if_pos (.inl hh1)])
     clear HC HS 
     go_wp2
     refine bodyPost_ret (v := .tuple #[.agg #[.bool x.pm, .slice A1.a A1.n A1.c, .slice A1.a' A1.n' A1.c', .int .i64 x.on, .int .i64 x.sp, .int .i64 x.tk], .int .i64 5]) (by simp [results, Try.results21, go_sem, r0, r1, r2, r3, r4, r5]) rfl ?_
     rw [HR.out]
     exact ⟨A1, rfl, HF.out⟩
   ·generalize hW6 : w5.alloc (.cells #[.int .i64 who, .bool (oneOf x.gs who)] 44) = W6
    have b6 : Below w5.heap.size w5 W6 := by subst hW6; exact bl_alloc (Below.refl _ _) _
    have hC6 := hC5.kp b6
    have hS6 := hS5.keep b6
    obtain ⟨_, p0, p1, p2, p3, p4, p5, _⟩ := id hC6.box0
    have HC := hidOf hC6
    have HS := hidOf hS6
    clear hC5 hS5 b6 hC6 hS6
    rw [find_one HKg.out hh2]
    unfold grRes
    simp only [Option.isSome]
    obtain ⟨_, z0, z1, z2, z3, z4, z5, _⟩ := id (HS.out).box
    obtain ⟨_, r0, r1, r2, r3, r4, r5, rf⟩ := id (HC.out).box1
    have HF := hidOf (nsr_fin (HC.out) ((HS.out)).rows)
    have HR := hidOf (show awaitM x who = (x, 5) by unfold awaitM toldL; rw [if_neg (by rw [HOK.out, hcl]; simp), if_pos (.inr hh2)])
    clear HC HS 
    go_wp2
    refine bodyPost_ret (v := .tuple #[.agg #[.bool x.pm, .slice A1.a A1.n A1.c, .slice A1.a' A1.n' A1.c', .int .i64 x.on, .int .i64 x.sp, .int .i64 x.tk], .int .i64 5]) (by simp [results, Try.results21, go_sem, r0, r1, r2, r3, r4, r5]) rfl ?_
    rw [HR.out]
    exact ⟨A1, rfl, HF.out⟩
end Go.Proofs.Ytfgknbflgmblmaa
namespace Go.Proofs.Ytfgknbflgmblmaa
open Go.RowKit Pl Il
/-- While grants are copied: the argument's variable, the answer's, the list. -/
structure DropS (w : World) (A : Na) (x : Nt) (j : Nat) (l : List (Int × Bool)) (a : Option Addr) (m c : Nat) (u : World) : Prop where
  box0 : NBox w.heap.size A x u
  box1 : NBox (w.heap.size + 1) Na.zero Nt.zero u
  below : Below w.heap.size w u
  sz : w.heap.size + 2 ≤ u.heap.size
  row : u.ownsRow (w.heap.size + 2) 44 2 (.slice a m c) m (gflat l)
  len : m ≤ j
theorem DropS.keep {w : World} {A : Na} {x : Nt} {j : Nat} {l : List (Int × Bool)} {a : Option Addr} {m c : Nat} {u u' : World} (h : DropS w A x j l a m c u) (hb : Below u.heap.size u u') : DropS w A x j l a m c u' :=
  ⟨h.box0.keep hb, h.box1.keep hb, bl_trans h.below hb, Nat.le_trans h.sz hb.size, ownsRow_keep h.row hb, h.len⟩
theorem DropS.push {w : World} {A : Na} {x : Nt} {j : Nat} {l : List (Int × Bool)} {a : Option Addr} {m c g' c' : Nat} {u w' : World} {y : Int × Bool} (h : DropS w A x j l a m c u) (ho : w'.ownsRow (w.heap.size + 2) 44 2 (.slice (some ⟨g', 0, none⟩) (m + 1) c') (m + 1) (gflat (l ++ [y]))) (hg : u.grownBy w' (Value.slice a m c).ownBlock) : DropS w A x (j + 1) (l ++ [y]) (some ⟨g', 0, none⟩) (m + 1) c' w' :=
  ⟨h.box0.grownO hg (fun e => by have := (h.row.lt _ e).1; omega), h.box1.grownO hg (fun e => by have := (h.row.lt _ e).1; omega), h.below.grown hg (by have := h.sz; omega) (fun q e => by have := (h.row.lt q e).1; omega), Nat.le_trans h.sz hg.size, ho, by have := h.len; omega⟩
theorem DropS.fin {w : World} {A : Na} {x : Nt} {B j : Nat} {l : List (Int × Bool)} {a : Option Addr} {m c : Nat} {u : World} (h : DropS w A x j l a m c u) (hR : NRow B w A x) (hB : B ≤ w.heap.size) (y0 y1 y2 y3 y4 y5 : Value) :
    NRow B (((((((u.setCell ⟨w.heap.size, 2, none⟩ (.slice a m c)).setCell ⟨w.heap.size + 1, 0, none⟩ y0).setCell ⟨w.heap.size + 1, 1, none⟩ y1).setCell ⟨w.heap.size + 1, 2, none⟩ y2).setCell ⟨w.heap.size + 1, 3, none⟩ y3).setCell ⟨w.heap.size + 1, 4, none⟩ y4).setCell ⟨w.heap.size + 1, 5, none⟩ y5) ⟨A.a, A.n, A.c, a, m, c⟩ { x with gs := l } ∧
    Below w.heap.size w (((((((u.setCell ⟨w.heap.size, 2, none⟩ (.slice a m c)).setCell ⟨w.heap.size + 1, 0, none⟩ y0).setCell ⟨w.heap.size + 1, 1, none⟩ y1).setCell ⟨w.heap.size + 1, 2, none⟩ y2).setCell ⟨w.heap.size + 1, 3, none⟩ y3).setCell ⟨w.heap.size + 1, 4, none⟩ y4).setCell ⟨w.heap.size + 1, 5, none⟩ y5) := by
  have h1 : (Value.slice A.a A.n A.c).ownBlock ≠ some w.heap.size := fun e => by have := (hR.one.lt _ e).2; omega
  have h2 : (Value.slice a m c).ownBlock ≠ some w.heap.size := fun e => by have := (h.row.lt _ e).1; omega
  have h3 : (Value.slice A.a A.n A.c).ownBlock ≠ some (w.heap.size + 1) := fun e => by have := (hR.one.lt _ e).2; omega
  have h4 : (Value.slice a m c).ownBlock ≠ some (w.heap.size + 1) := fun e => by have := (h.row.lt _ e).1; omega
  have hr : NRow B u ⟨A.a, A.n, A.c, a, m, c⟩ { x with gs := l } := ⟨ownsRow_keep hR.one h.below, own_mono1 h.row (by omega)⟩
  have hf := (one_end (M := w.heap.size + 1) (w := w) (NRow.set hr w.heap.size 2 h1 h2 (.slice a m c)) h3 h4 (by omega) ((bl_set1' h.below w.heap.size 2 (Nat.le_refl _) (.slice a m c)).mono hB) y0 y1 y2 y3 y4 y5).1
  exact ⟨hf, bl_set6' (bl_set1' h.below w.heap.size 2 (Nat.le_refl _) (.slice a m c)) (w.heap.size + 1) (by omega) _ _ _ _ _ _⟩
/-- Those ahead of i, without the one at a place. -/
def dropTo (gs : List (Int × Bool)) (p : Int) : Nat → List (Int × Bool)
  | 0 => []
  | i + 1 => dropTo gs p i ++ (if (i : Int) = p then [] else [gg gs i])
theorem dropTo_less {gs : List (Int × Bool)} (hd : (whosL gs).Nodup) {who : Int} {p : Int} (hp : placeL (whosL gs) who = p) : ∀ i, i ≤ gs.length → dropTo gs p i = lessG (gs.take i) who
  | 0, _ => by simp [dropTo, lessG]
  | i + 1, h => by
    have ih := dropTo_less hd hp i (by omega)
    rw [dropTo, ih, take_gg (by omega), less_snoc]
    congr 1
    by_cases he : (gg gs i).1 = who
    · have h1 := (place_at hd (by omega : i < gs.length)).1 he
      rw [if_pos (by rw [← h1, hp]), if_pos (by simp [he])]
    · have h1 : ¬ placeL (whosL gs) who = (i : Int) := fun e => he ((place_at hd (by omega : i < gs.length)).2 e)
      rw [if_neg (by rw [← hp]; exact fun e => h1 e.symm), if_neg (by simp [he])]
set_option maxRecDepth 100000 in
set_option maxHeartbeats 2000000 in
theorem l5Drop_any (B : Nat) (A : Na) (x : Nt) (p : Int) (w : World) (hR : NRow B w A x) (hB : B ≤ w.heap.size) (hn' : A.n' ≤ 2097152) :
  Calls Try.prog 49 #[.agg #[.bool x.pm, .slice A.a A.n A.c, .slice A.a' A.n' A.c', .int .i64 x.on, .int .i64 x.sp, .int .i64 x.tk], .int .i64 p] w fun e w' => ∃ a' m c', e = .returned (.agg #[.bool x.pm, .slice A.a A.n A.c, .slice a' m c', .int .i64 x.on, .int .i64 x.sp, .int .i64 x.tk]) ∧ NRow B w' ⟨A.a, A.n, A.c, a', m, c'⟩ { x with gs := dropTo x.gs p x.gs.length } ∧ Below w.heap.size w w' := by
 have hL := hR.own.two.gr.len
 have hG := hR.own.two.gr
 generalize hW0 : w.alloc (.cells #[.bool x.pm, .slice A.a A.n A.c, .slice A.a' A.n' A.c', .int .i64 x.on, .int .i64 x.sp, .int .i64 x.tk] 27) = W0
 generalize hW1 : W0.alloc (.cells #[.bool false, .slice none 0 0, .slice none 0 0, .int .i64 0, .int .i64 0, .int .i64 0] 27) = W1
 have b0 : Below w.heap.size w W0 := by subst hW0; exact bl_alloc (Below.refl _ _) _
 have b1 : Below w.heap.size w W1 := by subst hW1; exact bl_alloc b0 _
 have s0 : W0.heap.size = w.heap.size + 1 := by subst hW0; simp
 have s1 : W1.heap.size = w.heap.size + 2 := by subst hW1; simp [s0]
 have x0 : NBox w.heap.size A x W1 := by subst hW1 hW0; exact (NBox.new w A x _).alloc _
 have x1 : NBox (w.heap.size + 1) Na.zero Nt.zero W1 := by subst hW1; rw [← s0]; exact NBox.newZ W0 _
 have hDS : DropS w A x 0 [] (some ⟨W1.heap.size, 0, none⟩) 0 0 (W1.alloc (.cells #[] 44)) := by
  have bE : Below W1.heap.size W1 (W1.alloc (.cells #[] 44)) := bl_alloc (Below.refl _ _) _
  exact ⟨x0.keep bE, x1.keep bE, bl_trans b1 bE, by have := bE.size; omega, own_mono1 (ownsG_empty W1) (by omega), by simp⟩
 have HD := hidOf hDS
 have HR := hidOf hR
 have HG := hidOf hG
 have HL := hidOf hL
 clear hR hG hL x0 x1 b0 b1 s0 hDS
 subst hW1 hW0
 have S1 := hidOf s1
 clear s1
 go_enter Try.func49, Try.ntmps49
 go_wp2_with fail
 go_loopw [5, 6] (fun l i wr => ∃ (j : Nat) (a : Option Addr) (m c : Nat), j ≤ A.n' ∧ i = .int .i64 j ∧ l = .slice a m c ∧ DropS w A x j (dropTo x.gs p j) a m c wr) (fun _ i _ => A.n' - (intOf i).toNat)
 case atStart => exact ⟨0, _, 0, 0, Nat.zero_le _, rfl, rfl, by have h := HD.out; rw [S1.out] at h; exact h⟩
 case round =>
  rename_i wr
  obtain ⟨j, a, m, c, hj, rfl, rfl, hS⟩ := hrel
  clear HD
  obtain ⟨_, p0, p1, p2, p3, p4, p5, pf⟩ := id hS.box0
  by_cases hlt : j < A.n'
  ·obtain ⟨_, h' | ⟨b, off, ea, hb, hcell⟩⟩ := (HG.out.keep hS.below)
   ·omega
   have hc := hcell j hlt
   have hjl : j < x.gs.length := by rw [HL.out]; exact hlt
   by_cases hp : (j : Int) = p
   ·have hp' : ((j : Int) != p) = false := by simp [hp]
    have hN : dropTo x.gs p (j + 1) = dropTo x.gs p j := by rw [dropTo, if_pos hp, List.append_nil]
    have HN : Hid (DropS w A x (j + 1) (dropTo x.gs p (j + 1)) a m c wr) := by rw [hN]; exact ⟨hS.box0, hS.box1, hS.below, hS.sz, hS.row, by have := hS.len; omega⟩
    have HP := hidOf hp
    clear hp hS hN hcell hc
    go_wp2
    go_roundw
    case rel => exact ⟨j + 1, a, m, c, by omega, by go_num, rfl, HN.out⟩
    case measure => simp [intOf]; omega
   ·have hp' : ((j : Int) != p) = true := by simp [hp]
    have hN : dropTo x.gs p (j + 1) = dropTo x.gs p j ++ [gg x.gs j] := by rw [dropTo, if_neg hp]
    generalize hy : gg x.gs j = y at hc hN
    obtain ⟨y1, y2⟩ := y
    obtain ⟨hc1, hc2⟩ := hc
    simp only at hc1 hc2
    obtain ⟨g', c', w', hr, ho', hg', hl'⟩ := append_gr2 (w.heap.size + 2) m _ _ y1 y2 wr hS.row hS.sz (by have := hS.len; omega)
    have HN : Hid (DropS w A x (j + 1) (dropTo x.gs p (j + 1)) (some ⟨g', 0, none⟩) (m + 1) c' w') := by rw [hN]; exact hS.push ho' hg'
    have Hr := hidOf hr
    have hji : (0 : Int) ≤ (j : Int) ∧ (j : Int) < (A.n' : Int) := by omega
    rw [ea] at p2
    have Ea := hidOf ea
    clear hp hS hN hcell hr ho' hg' hl' hy ea
    go_wp2_with (at_builtin; refine wpList_append_run rfl _ _ 25 rfl _ _ _ rfl rfl Hr.out ?_)
    go_roundw
    case rel => exact ⟨j + 1, some ⟨g', 0, none⟩, m + 1, c', by omega, by go_num, rfl, HN.out⟩
    case measure => simp [intOf]; omega
  ·obtain rfl : j = A.n' := by omega
   have hF := hS.fin HR.out hB (.bool x.pm) (.slice A.a A.n A.c) (.slice a m c) (.int .i64 x.on) (.int .i64 x.sp) (.int .i64 x.tk)
   rw [← HL.out] at hF
   obtain ⟨_, r0, r1, r2, r3, r4, r5, rf⟩ := id hS.box1
   obtain ⟨_, v0, v1, v2, v3, v4, v5, vf⟩ := hS.box0.set2 (a := a) (n := m) (c := c)
   obtain ⟨_, q0, q1, q2, q3, q4, q5, qf⟩ := hS.box1.far w.heap.size 2 (by omega) (.slice a m c)
   simp only at v0 v1 v2 v3 v4 v5
   have HF := hidOf hF
   clear hF hS
   go_wp2
   refine bodyPost_ret (v := .agg #[.bool x.pm, .slice A.a A.n A.c, .slice a m c, .int .i64 x.on, .int .i64 x.sp, .int .i64 x.tk]) (by simp [results, Try.results49, go_sem, q0, q1, q2, q3, q4, q5]) rfl ?_
   exact ⟨a, m, c, rfl, HF.out⟩
open Go.RowKit Pl Il
set_option maxRecDepth 100000 in
set_option maxHeartbeats 2000000 in
theorem specResume_any (A : Na) (x : Nt) (who : Int) (w : World) (hI : NIn w A x) (hn : A.n ≤ 2097152) (hn' : A.n' ≤ 2097152) (hok : A.n ≤ A.c) :
  Calls Try.prog 18 #[.agg #[.bool x.pm, .slice A.a A.n A.c, .slice A.a' A.n' A.c', .int .i64 x.on, .int .i64 x.sp, .int .i64 x.tk], .int .i64 who] w fun e w' => NOutP w (resumeM x who).1 [.int .i64 (resumeM x who).2] e w' := by
 have hC := nctx_new hI
 have s1 : ((w.alloc (.cells #[.bool x.pm, .slice A.a A.n A.c, .slice A.a' A.n' A.c', .int .i64 x.on, .int .i64 x.sp, .int .i64 x.tk] 27)).alloc (.cells #[.bool false, .slice none 0 0, .slice none 0 0, .int .i64 0, .int .i64 0, .int .i64 0] 27)).heap.size = w.heap.size + 2 := by simp
 have HL1 := hidOf hI.ints.len
 have HL2 := hidOf hI.grs.len
 have HCp := hidOf (l5Copy_any A x _ hC.ninX hn hn')
 have HC := hidOf hC
 have S1 := hidOf s1
 clear hC s1 hI
 go_enter Try.func18, Try.ntmps18
 go_wp2_with fail
 refine (HCp.out).mono ?_
 rintro e w1 ⟨a1, c1, a2, c2, rfl, hR, hb1⟩
 rw [S1.out] at hR
 have hC1 := HC.out.kp hb1
 have hS := nsr_new hR hC1.sz
 generalize hW2 : w1.alloc (.cells #[.bool x.pm, .slice a1 A.n c1, .slice a2 A.n' c2, .int .i64 x.on, .int .i64 x.sp, .int .i64 x.tk] 27) = W2
 have hb2 : Below w1.heap.size w1 W2 := by subst hW2; exact bl_alloc (Below.refl _ _) _
 simp only at hS
 rw [hW2] at hS
 have hC2 := hC1.kp hb2
 obtain ⟨_, p0, p1, p2, p3, p4, p5, _⟩ := id hC2.box0
 have HS := hidOf hS
 have HC2 := hidOf hC2
 clear hR hb1 hC1 hb2 hC2 hS HC HCp
 go_wp2_with fail
 refine (l5At_any A.a' A.n' A.c' x.gs who _ HC2.out.ninX.grs hn').mono ?_
 rintro e w2b ⟨rfl, rfl⟩
 go_wp2_with fail
 refine (specNotifyOk_any A x _ HC2.out.ninX hn hn' hok).mono ?_
 rintro e w3 ⟨rfl, hb3⟩
 have hC := HC2.out.kp hb3
 have hS := HS.out.keep hb3
 clear p0 p1 p2 p3 p4 p5 hW2 hb3 HS HC2
 obtain ⟨A1, hA1⟩ : ∃ A1 : Na, A1 = ⟨a1, A.n, c1, a2, A.n', c2⟩ := ⟨_, rfl⟩
 rw [← hA1] at hS
 have hAn : A1.n = A.n ∧ A1.n' = A.n' := by rw [hA1]; exact ⟨rfl, rfl⟩
 have HAn := hidOf hAn
 clear hA1 hAn
 generalize hN : w1.heap.size = N at *
 clear hN
 obtain ⟨_, p0, p1, p2, p3, p4, p5, _⟩ := id hC.box0
 obtain ⟨_, z0, z1, z2, z3, z4, z5, zf⟩ := id hS.box
 have HC := hidOf hC
 have HS := hidOf hS
 have HIX := hidOf hC.ninX
 clear hC hS
 cases hokx : okN x
 ·obtain ⟨_, r0, r1, r2, r3, r4, r5, rf⟩ := id HC.out.box1
  have HF := hidOf (nsr_fin (A' := A1) (y := x) HC.out HS.out.rows)
  have HR := hidOf (show resumeM x who = (x, 1) by unfold resumeM; rw [if_pos hokx])
  clear HC HS hokx
  go_wp2
  refine bodyPost_ret (v := .tuple #[.agg #[.bool x.pm, .slice A1.a A1.n A1.c, .slice A1.a' A1.n' A1.c', .int .i64 x.on, .int .i64 x.sp, .int .i64 x.tk], .int .i64 1]) (by simp [results, Try.results18, go_sem, r0, r1, r2, r3, r4, r5]) rfl ?_
  rw [HR.out]
  exact ⟨A1, rfl, HF.out⟩
 ·obtain ⟨k1, kg, k3, k4, k5, k6, k7, k8⟩ := okN_parts hokx
  have HK8 := hidOf k8
  clear k8
  rw [HL1.out] at k3
  rw [HL2.out] at k4
  have HOK := hidOf hokx
  have HK1 := hidOf k1
  clear hokx k1
  have HKg := hidOf (nodup_line kg)
  clear kg
  go_wp2_with fail
  refine (l2Has_any A.a A.n A.c x.ln who _ HIX.out.ints hn).mono ?_
  rintro e w6 ⟨rfl, rfl⟩
  cases hh1 : hasL x.ln who
  ·cases hh2 : hasL (whosL x.gs) who
   ·rw [place_minus hh2]
    obtain ⟨_, r0, r1, r2, r3, r4, r5, rf⟩ := id HC.out.box1
    have HF := hidOf (nsr_fin (A' := A1) (y := x) HC.out HS.out.rows)
    have HR := hidOf (show resumeM x who = (x, 3) by unfold resumeM; rw [if_neg (by rw [HOK.out]; simp), if_neg (by rw [hh1]; simp), if_pos (by unfold toldL; exact hh2)])
    clear HC HS
    go_wp2
    refine bodyPost_ret (v := .tuple #[.agg #[.bool x.pm, .slice A1.a A1.n A1.c, .slice A1.a' A1.n' A1.c', .int .i64 x.on, .int .i64 x.sp, .int .i64 x.tk], .int .i64 3]) (by simp [results, Try.results18, go_sem, r0, r1, r2, r3, r4, r5]) rfl ?_
    rw [HR.out]
    exact ⟨A1, rfl, HF.out⟩
   ·obtain ⟨pk, hpl, hpk⟩ := place_bound hh2
    rw [hpk]
    obtain ⟨_, h' | ⟨gb, goff, gea, _, gcell⟩⟩ := HIX.out.grs
    ·rw [whos_len, HL2.out, h'] at hpl; omega
    have hplg : pk < x.gs.length := by rw [whos_len] at hpl; exact hpl
    have hgc := (gcell pk (by rw [← HL2.out]; exact hplg)).2
    rw [gg_who HKg.out hplg hpk] at hgc
    simp only at hgc
    rw [gea] at p2
    have hji : (0 : Int) ≤ (pk : Int) ∧ (pk : Int) < (A.n' : Int) := by rw [HL2.out] at hplg; omega
    have hp' : ¬ (pk : Int) < 0 := by omega
    have HDl := hidOf (dropTo_less HKg.out hpk x.gs.length (Nat.le_refl _))
    rw [List.take_length] at HDl
    have Gea := hidOf gea
    have HPk := hidOf hpk
    clear gcell gea hpk hpl
    cases hone : oneOf x.gs who
    ·rw [hone] at hgc
     have HRes := hidOf (show resumeM x who = ({ x with gs := lessG x.gs who, tk := x.tk }, 0) by
      unfold resumeM
      rw [if_neg (by rw [HOK.out]; simp), if_neg (by rw [hh1]; simp), if_neg (by unfold toldL; rw [hh2]; simp), if_neg (by rw [hone]; simp), hone]
      simp [permI])
     have hS2 := HS.out
     have hC2 := HC.out
     have HS2 := hidOf hS2
     have HC2 := hidOf hC2
     clear HS HC hS2 hC2
     go_wp2_with fail
     refine (l5Drop_any (w.heap.size + 2) A1 x (pk : Int) _ HS2.out.rows HC2.out.sz (by have := HAn.out; omega)).mono ?_
     rintro e w9 ⟨a9, m9, c9, rfl, hR9, hb9⟩
     have hC9 := HC2.out.kp hb9
     try simp only at hR9
     rw [HDl.out] at hR9
     obtain ⟨_, r0, r1, r2, r3, r4, r5, rf⟩ := id hC9.box1
     have HF := hidOf (nsr_fin (A' := ⟨A1.a, A1.n, A1.c, a9, m9, c9⟩) (y := { x with gs := lessG x.gs who, tk := x.tk }) hC9 hR9)
     have HR := hidOf (HRes.out)
     clear HS2 HC2 HRes hC9 hR9 hb9 HDl
     go_wp2
     refine bodyPost_ret (v := .tuple #[.agg #[.bool x.pm, .slice A1.a A1.n A1.c, .slice a9 m9 c9, .int .i64 x.on, .int .i64 x.sp, .int .i64 x.tk], .int .i64 0]) (by simp [results, Try.results18, go_sem, r0, r1, r2, r3, r4, r5]) rfl ?_
     rw [HR.out]
     exact ⟨⟨A1.a, A1.n, A1.c, a9, m9, c9⟩, rfl, HF.out⟩
    ·rw [hone] at hgc
     by_cases t1 : (1000000000 : Int) ≤ x.tk
     ·obtain ⟨_, r0, r1, r2, r3, r4, r5, rf⟩ := id HC.out.box1
      have HF := hidOf (nsr_fin (A' := A1) (y := x) HC.out HS.out.rows)
      have HR := hidOf (show resumeM x who = (x, 2) by unfold resumeM; rw [if_neg (by rw [HOK.out]; simp), if_neg (by rw [hh1]; simp), if_neg (by unfold toldL; rw [hh2]; simp), if_pos ⟨hone, t1⟩])
      clear HC HS
      go_wp2
      refine bodyPost_ret (v := .tuple #[.agg #[.bool x.pm, .slice A1.a A1.n A1.c, .slice A1.a' A1.n' A1.c', .int .i64 x.on, .int .i64 x.sp, .int .i64 x.tk], .int .i64 2]) (by simp [results, Try.results18, go_sem, r0, r1, r2, r3, r4, r5]) rfl ?_
      rw [HR.out]
      exact ⟨A1, rfl, HF.out⟩
     ·have HRes := hidOf (show resumeM x who = ({ x with gs := lessG x.gs who, tk := (x.tk + 1) }, 0) by
       unfold resumeM
       rw [if_neg (by rw [HOK.out]; simp), if_neg (by rw [hh1]; simp), if_neg (by unfold toldL; rw [hh2]; simp), if_neg (by rw [hone]; simp; omega), hone]
       simp [permI])
      have hS2 := HS.out.setc (y := { x with tk := x.tk + 1 }) 5 (.int .i64 (x.tk + 1)) (HS.out.box.set5 (v := x.tk + 1)) rfl rfl
      have hC2 := HC.out.keep (HS.out.below (Below.refl (w.heap.size + 2) w6) 5 (.int .i64 (x.tk + 1))) (Nat.le_refl _)
      obtain ⟨_, v0, v1, v2, v3, v4, v5, vf⟩ := id hS2.box
      simp only at v0 v1 v2 v3 v4 v5
      have HS2 := hidOf hS2
      have HC2 := hidOf hC2
      clear HS HC hS2 hC2
      go_wp2_with fail
      refine (l5Drop_any (w.heap.size + 2) A1 { x with tk := x.tk + 1 } (pk : Int) _ HS2.out.rows HC2.out.sz (by have := HAn.out; omega)).mono ?_
      rintro e w9 ⟨a9, m9, c9, rfl, hR9, hb9⟩
      have hC9 := HC2.out.kp hb9
      try simp only at hR9
      rw [HDl.out] at hR9
      obtain ⟨_, r0, r1, r2, r3, r4, r5, rf⟩ := id hC9.box1
      have HF := hidOf (nsr_fin (A' := ⟨A1.a, A1.n, A1.c, a9, m9, c9⟩) (y := { x with gs := lessG x.gs who, tk := (x.tk + 1) }) hC9 hR9)
      have HR := hidOf (HRes.out)
      clear HS2 HC2 HRes hC9 hR9 hb9 HDl
      go_wp2
      refine bodyPost_ret (v := .tuple #[.agg #[.bool x.pm, .slice A1.a A1.n A1.c, .slice a9 m9 c9, .int .i64 x.on, .int .i64 x.sp, .int .i64 (x.tk + 1)], .int .i64 0]) (by simp [results, Try.results18, go_sem, r0, r1, r2, r3, r4, r5]) rfl ?_
      rw [HR.out]
      exact ⟨⟨A1.a, A1.n, A1.c, a9, m9, c9⟩, rfl, HF.out⟩
  ·obtain ⟨_, r0, r1, r2, r3, r4, r5, rf⟩ := id HC.out.box1
   have HF := hidOf (nsr_fin (A' := A1) (y := x) HC.out HS.out.rows)
   have HR := hidOf (show resumeM x who = (x, 4) by unfold resumeM; rw [if_neg (by rw [HOK.out]; simp), if_pos hh1])
   clear HC HS
   go_wp2
   refine bodyPost_ret (v := .tuple #[.agg #[.bool x.pm, .slice A1.a A1.n A1.c, .slice A1.a' A1.n' A1.c', .int .i64 x.on, .int .i64 x.sp, .int .i64 x.tk], .int .i64 4]) (by simp [results, Try.results18, go_sem, r0, r1, r2, r3, r4, r5]) rfl ?_
   rw [HR.out]
   exact ⟨A1, rfl, HF.out⟩
end Go.Proofs.Ytfgknbflgmblmaa
