/-
  The program's notifications: a telling of one, a telling of all.
-/
import Derived.Test.YtfgknbflgmblmaaV6
import Derived.Test.YtfgknbflgmblmaaKN
namespace Go.Proofs.Ytfgknbflgmblmaa
open Go.RowKit Go.Maps Pl Il

/-- What a call on a notification holds on to: the argument's variable, the answer's, the copy's. -/
structure NCtx (w : World) (A : Na) (x : Nt) (u : World) : Prop where
  box0 : NBox w.heap.size A x u
  box1 : NBox (w.heap.size + 1) Na.zero Nt.zero u
  nin : NIn w A x
  below : Below w.heap.size w u
  sz : w.heap.size + 2 ≤ u.heap.size
section
variable {w : World} {A : Na} {x : Nt} {u u' : World}
theorem NCtx.keep {B : Nat} (h : NCtx w A x u) (hb : Below B u u') (hB : w.heap.size + 2 ≤ B) : NCtx w A x u' :=
  ⟨h.box0.below hb (by omega), h.box1.below hb (by omega), h.nin, h.below.trans (hb.mono (by omega)), Nat.le_trans h.sz hb.size⟩
theorem NCtx.kp (h : NCtx w A x u) (hb : Below u.heap.size u u') : NCtx w A x u' := h.keep hb h.sz
theorem NCtx.ninX (h : NCtx w A x u) : NIn u A x := h.nin.keep h.below
theorem nctx_new (hI : NIn w A x) : NCtx w A x ((w.alloc (.cells #[.bool x.pm, .slice A.a A.n A.c, .slice A.a' A.n' A.c', .int .i64 x.on, .int .i64 x.sp, .int .i64 x.tk] 27)).alloc (.cells #[.bool false, .slice none 0 0, .slice none 0 0, .int .i64 0, .int .i64 0, .int .i64 0] 27)) := by
  have s0 : (w.alloc (.cells #[.bool x.pm, .slice A.a A.n A.c, .slice A.a' A.n' A.c', .int .i64 x.on, .int .i64 x.sp, .int .i64 x.tk] 27)).heap.size = w.heap.size + 1 := by simp
  refine ⟨(NBox.new w A x _).alloc _, by rw [← s0]; exact NBox.newZ _ _, hI, bl_alloc (bl_alloc (Below.refl _ _) _) _, by simp⟩
end
/-- The copy in its variable. -/
theorem nst_new {B : Nat} {A : Na} {x : Nt} {w : World} (h : NRow B w A x) (hB : B ≤ w.heap.size) : NSt B w.heap.size A x (w.alloc (.cells #[.bool x.pm, .slice A.a A.n A.c, .slice A.a' A.n' A.c', .int .i64 x.on, .int .i64 x.sp, .int .i64 x.tk] 27)) := by
  have hb : Below w.heap.size w (w.alloc (.cells #[.bool x.pm, .slice A.a A.n A.c, .slice A.a' A.n' A.c', .int .i64 x.on, .int .i64 x.sp, .int .i64 x.tk] 27)) := bl_alloc (Below.refl _ _) _
  have ho := h.own
  refine ⟨NBox.new w A x _, hB, ho.one.keep hb, h.cap, ownsRow_keep h.two hb, ?_, fun e => Nat.lt_irrefl _ (h.two.lt _ e).2, ?_⟩
  · rcases ho.one.ints.row with h0 | ⟨b, off, e, hlt, _⟩
    · exact .inl h0
    · exact .inr fun b1 o1 e1 => by rw [e] at e1; cases e1; omega
  · obtain ⟨_, ⟨ea, en⟩ | ⟨g, cap, cur, ea, hB, hg, hr⟩⟩ := h.one
    · exact .inl en
    · refine .inr fun b off e e' => ?_
      injection ea with ea _ _
      rw [ea] at e
      cases e
      obtain ⟨_, ⟨ea', en'⟩ | ⟨g', cap', cur', ea', hB', hg', hr'⟩⟩ := h.two
      · rw [ea'] at e'; simp [Value.ownBlock] at e'
      · rw [ea'] at e'
        have : g' = g := by simpa [Value.ownBlock] using e'
        subst this
        rw [hg] at hg'
        simp at hg'
theorem nst_fin {w : World} {A A' : Na} {x y : Nt} {u : World} {N : Nat} (hC : NCtx w A x u) (hS : NSt (w.heap.size + 2) N A' y u) :
    NOwn w.heap.size ((((((u.setCell ⟨w.heap.size + 1, 0, none⟩ (.bool y.pm)).setCell ⟨w.heap.size + 1, 1, none⟩ (.slice A'.a A'.n A'.c)).setCell ⟨w.heap.size + 1, 2, none⟩ (.slice A'.a' A'.n' A'.c')).setCell ⟨w.heap.size + 1, 3, none⟩ (.int .i64 y.on)).setCell ⟨w.heap.size + 1, 4, none⟩ (.int .i64 y.sp)).setCell ⟨w.heap.size + 1, 5, none⟩ (.int .i64 y.tk)) A' y ∧ A'.n ≤ A'.c ∧ Below w.heap.size w ((((((u.setCell ⟨w.heap.size + 1, 0, none⟩ (.bool y.pm)).setCell ⟨w.heap.size + 1, 1, none⟩ (.slice A'.a A'.n A'.c)).setCell ⟨w.heap.size + 1, 2, none⟩ (.slice A'.a' A'.n' A'.c')).setCell ⟨w.heap.size + 1, 3, none⟩ (.int .i64 y.on)).setCell ⟨w.heap.size + 1, 4, none⟩ (.int .i64 y.sp)).setCell ⟨w.heap.size + 1, 5, none⟩ (.int .i64 y.tk)) := by
  have h := hS.own
  have hlt : w.heap.size + 1 < w.heap.size + 2 := by omega
  exact ⟨((((((h.far (w.heap.size + 1) 0 hlt _).far (w.heap.size + 1) 1 hlt _).far (w.heap.size + 1) 2 hlt _).far (w.heap.size + 1) 3 hlt _).far (w.heap.size + 1) 4 hlt _).far (w.heap.size + 1) 5 hlt _).mono (by omega), hS.cap, bl_set6' hC.below (w.heap.size + 1) (by omega) _ _ _ _ _ _⟩

theorem okN_parts {x : Nt} (h : okN x = true) : lineL x.ln = true ∧ lineL (whosL x.gs) = true ∧ x.ln.length ≤ 32 ∧ x.gs.length ≤ 32 ∧ (0 ≤ x.on ∧ x.on ≤ 1000000000) ∧ (0 ≤ x.sp ∧ x.sp ≤ 1000000000) ∧ (0 ≤ x.tk ∧ x.tk ≤ 1000000000) ∧ x.on = heldN x := by
  simp only [okN, Bool.and_eq_true, decide_eq_true_eq, waitL] at h
  obtain ⟨⟨⟨⟨⟨h1, h2⟩, _⟩, _⟩, ⟨h4, h5⟩, h6⟩, h7⟩ := h
  refine ⟨h1, h2, line_len h1, ?_, cnt_bd' h4, cnt_bd' h5, cnt_bd' h6, h7⟩
  have := line_len h2
  rwa [whos_len] at this
set_option maxRecDepth 100000 in
set_option maxHeartbeats 2000000 in
theorem implTellOne_any (A : Na) (x : Nt) (w : World) (hI : NIn w A x) (hn : A.n ≤ 2097152) (hn' : A.n' ≤ 2097152) (hw : NWf x) :
    Calls Try.prog 14 #[.agg #[.bool x.pm, .slice A.a A.n A.c, .slice A.a' A.n' A.c', .int .i64 x.on, .int .i64 x.sp, .int .i64 x.tk]] w fun e w' => NOutP w (tellOneM x).1 [.int .i64 (tellOneM x).2.1, .int .i64 (tellOneM x).2.2] e w' := by
  have hC := nctx_new hI
  have s1 : ((w.alloc (.cells #[.bool x.pm, .slice A.a A.n A.c, .slice A.a' A.n' A.c', .int .i64 x.on, .int .i64 x.sp, .int .i64 x.tk] 27)).alloc (.cells #[.bool false, .slice none 0 0, .slice none 0 0, .int .i64 0, .int .i64 0, .int .i64 0] 27)).heap.size = w.heap.size + 2 := by simp
  have HL1 := hidOf hI.ints.len
  have HL2 := hidOf hI.grs.len
  have HCp := hidOf (copiedNotify_any A x _ hC.ninX hn hn')
  have HC := hidOf hC
  have S1 := hidOf s1
  clear hC s1 hI
  go_enter Try.func14, Try.ntmps14
  go_wp2_with fail
  refine (HCp.out).mono ?_
  rintro e w1 ⟨a1, c1, a2, c2, rfl, hR, hb1⟩
  rw [S1.out] at hR
  have hC1 := HC.out.kp hb1
  have hS := nst_new hR hC1.sz
  generalize hW2 : w1.alloc (.cells #[.bool x.pm, .slice a1 A.n c1, .slice a2 A.n' c2, .int .i64 x.on, .int .i64 x.sp, .int .i64 x.tk] 27) = W2
  have hb2 : Below w1.heap.size w1 W2 := by subst hW2; exact bl_alloc (Below.refl _ _) _
  simp only at hS
  rw [hW2] at hS
  have hC2 := hC1.kp hb2
  obtain ⟨_, p0, p1, p2, p3, p4, p5, _⟩ := id hC2.box0
  have HS := hidOf hS
  have HC2 := hidOf hC2
  clear hR hb1 hC1 hb2 hC2 hS HC HCp
  go_wp2_with fail
  refine (implNotifyOk_any A x _ HC2.out.ninX hn hn' hw).mono ?_
  rintro e w3 ⟨rfl, hb3⟩
  have hC := HC2.out.kp hb3
  have hS := HS.out.keep hb3
  clear p0 p1 p2 p3 p4 p5 hW2 hb3 HS HC2
  obtain ⟨A1, hA1⟩ : ∃ A1 : Na, A1 = ⟨a1, A.n, c1, a2, A.n', c2⟩ := ⟨_, rfl⟩
  rw [← hA1] at hS
  have hAn : A1.n = A.n ∧ A1.n' = A.n' := by rw [hA1]; exact ⟨rfl, rfl⟩
  have HAn := hidOf hAn
  clear hA1 hAn
  generalize hN : w1.heap.size = N at *
  clear hN
  obtain ⟨_, p0, p1, p2, p3, p4, p5, _⟩ := id hC.box0
  have HC := hidOf hC
  have HS := hidOf hS
  clear hC hS
  cases hok : okN x
  · have hres : tellOneM x = (x, -1, 1) := by unfold tellOneM; rw [if_pos hok]
    clear p0 p1 p2 p3 p4 p5
    obtain ⟨_, z0, z1, z2, z3, z4, z5, _⟩ := id (HS.out).box
    obtain ⟨_, r0, r1, r2, r3, r4, r5, rf⟩ := id (HC.out).box1
    have HF := hidOf (nst_fin (HC.out) (HS.out))
    have HR := hidOf (hres)
    clear hres hok HC HS
    go_wp2
    refine bodyPost_ret (v := .tuple #[.agg #[.bool x.pm, .slice A1.a A1.n A1.c, .slice A1.a' A1.n' A1.c', .int .i64 x.on, .int .i64 x.sp, .int .i64 x.tk], .int .i64 (-1), .int .i64 1]) (by simp [results, Try.results14, go_sem, r0, r1, r2, r3, r4, r5]) rfl ?_
    rw [HR.out]
    exact ⟨A1, rfl, HF.out⟩
  · obtain ⟨k1, _, k3, k4, k5, k6, k7, k8⟩ := okN_parts hok
    have HK8 := hidOf k8
    clear k8
    rw [HL1.out] at k3
    rw [HL2.out] at k4
    have HOK := hidOf hok
    have HK1 := hidOf k1
    clear hok k1
    by_cases t1 : x.on = 1000000000
    · have t1' : (x.on == 1000000000) = true := by simp [t1]
      have hres : tellOneM x = (x, -1, 2) := by
        unfold tellOneM
        rw [if_neg (by rw [HOK.out]; simp), if_pos (by unfold fullOne; rw [HL1.out, HL2.out]; first | (simp; done) | (simp; omega))]
      obtain ⟨_, z0, z1, z2, z3, z4, z5, _⟩ := id (HS.out).box
      obtain ⟨_, r0, r1, r2, r3, r4, r5, rf⟩ := id (HC.out).box1
      have HF := hidOf (nst_fin (HC.out) (HS.out))
      have HR := hidOf (hres)
      clear hres HC HS t1
      go_wp2
      refine bodyPost_ret (v := .tuple #[.agg #[.bool x.pm, .slice A1.a A1.n A1.c, .slice A1.a' A1.n' A1.c', .int .i64 x.on, .int .i64 x.sp, .int .i64 x.tk], .int .i64 (-1), .int .i64 2]) (by simp [results, Try.results14, go_sem, r0, r1, r2, r3, r4, r5]) rfl ?_
      rw [HR.out]
      exact ⟨A1, rfl, HF.out⟩
    · have t1' : (x.on == 1000000000) = false := by simp [t1]
      by_cases t2 : (0 : Int) < (A.n : Int)
      · by_cases t3 : A.n' = 32
        · have t3' : ((A.n' : Int) == 32) = true := by simp; omega
          have hres : tellOneM x = (x, -1, 2) := by
            unfold tellOneM
            rw [if_neg (by rw [HOK.out]; simp), if_pos (by unfold fullOne; rw [HL1.out, HL2.out]; first | (simp; done) | (simp; omega))]
          obtain ⟨_, z0, z1, z2, z3, z4, z5, _⟩ := id (HS.out).box
          obtain ⟨_, r0, r1, r2, r3, r4, r5, rf⟩ := id (HC.out).box1
          have HF := hidOf (nst_fin (HC.out) (HS.out))
          have HR := hidOf (hres)
          clear hres HC HS t3
          go_wp2
          refine bodyPost_ret (v := .tuple #[.agg #[.bool x.pm, .slice A1.a A1.n A1.c, .slice A1.a' A1.n' A1.c', .int .i64 x.on, .int .i64 x.sp, .int .i64 x.tk], .int .i64 (-1), .int .i64 2]) (by simp [results, Try.results14, go_sem, r0, r1, r2, r3, r4, r5]) rfl ?_
          rw [HR.out]
          exact ⟨A1, rfl, HF.out⟩
        · have t3' : ((A.n' : Int) == 32) = false := by simp; omega
          have hres : tellOneM x = ((oneM { x with on := x.on + 1 }).1, (oneM { x with on := x.on + 1 }).2, 0) := by
            unfold tellOneM
            rw [if_neg (by rw [HOK.out]; simp), if_neg (by unfold fullOne; rw [HL1.out, HL2.out]; first | (simp; done) | (simp; omega))]
          obtain ⟨_, z0, z1, z2, z3, z4, z5, zf⟩ := id HS.out.box
          have hS2 := HS.out.setc (y := { x with on := x.on + 1 }) 3 (.int .i64 (x.on + 1)) (HS.out.box.set3 (v := x.on + 1)) rfl rfl
          have hC2 := HC.out.keep (HS.out.below (Below.refl (w.heap.size + 2) w3) 3 (.int .i64 (x.on + 1))) (Nat.le_refl _)
          have HS2 := hidOf hS2
          have HC2 := hidOf hC2
          have HRes := hidOf hres
          clear hS2 hC2 hres HS HC t3
          go_wp2_with fail
          refine (placeTelling_any _ N A1 { x with on := x.on + 1 } _ HS2.out (by have := HAn.out; omega) (by have := HAn.out; omega) HK1.out hw.ln k6).mono ?_
          rintro e w4 ⟨A4, rfl, hS4, hb4⟩
          have hC4 := HC2.out.keep hb4 (Nat.le_refl _)
          generalize hy : (oneM { x with on := x.on + 1 }).1 = y at hS4
          generalize ht : (oneM { x with on := x.on + 1 }).2 = t
          have hrs : tellOneM x = (y, t, 0) := by rw [HRes.out, hy, ht]
          obtain ⟨_, z0, z1, z2, z3, z4, z5, _⟩ := id (hS4).box
          obtain ⟨_, r0, r1, r2, r3, r4, r5, rf⟩ := id (hC4).box1
          have HF := hidOf (nst_fin (hC4) (hS4))
          have HR := hidOf (hrs)
          clear HS2 HC2 HRes hS4 hC4 hb4 hy ht hrs p0 p1 p2 p3 p4 p5
          go_wp2
          refine bodyPost_ret (v := .tuple #[.agg #[.bool y.pm, .slice A4.a A4.n A4.c, .slice A4.a' A4.n' A4.c', .int .i64 y.on, .int .i64 y.sp, .int .i64 y.tk], .int .i64 t, .int .i64 0]) (by simp [results, Try.results14, go_sem, r0, r1, r2, r3, r4, r5]) rfl ?_
          rw [HR.out]
          exact ⟨A4, rfl, HF.out⟩
      · have hres : tellOneM x = ((oneM { x with on := x.on + 1 }).1, (oneM { x with on := x.on + 1 }).2, 0) := by
          unfold tellOneM
          rw [if_neg (by rw [HOK.out]; simp), if_neg (by unfold fullOne; rw [HL1.out, HL2.out]; first | (simp; done) | (simp; omega))]
        obtain ⟨_, z0, z1, z2, z3, z4, z5, zf⟩ := id HS.out.box
        have hS2 := HS.out.setc (y := { x with on := x.on + 1 }) 3 (.int .i64 (x.on + 1)) (HS.out.box.set3 (v := x.on + 1)) rfl rfl
        have hC2 := HC.out.keep (HS.out.below (Below.refl (w.heap.size + 2) w3) 3 (.int .i64 (x.on + 1))) (Nat.le_refl _)
        have HS2 := hidOf hS2
        have HC2 := hidOf hC2
        have HRes := hidOf hres
        clear hS2 hC2 hres HS HC
        go_wp2_with fail
        refine (placeTelling_any _ N A1 { x with on := x.on + 1 } _ HS2.out (by have := HAn.out; omega) (by have := HAn.out; omega) HK1.out hw.ln k6).mono ?_
        rintro e w4 ⟨A4, rfl, hS4, hb4⟩
        have hC4 := HC2.out.keep hb4 (Nat.le_refl _)
        generalize hy : (oneM { x with on := x.on + 1 }).1 = y at hS4
        generalize ht : (oneM { x with on := x.on + 1 }).2 = t
        have hrs : tellOneM x = (y, t, 0) := by rw [HRes.out, hy, ht]
        obtain ⟨_, z0, z1, z2, z3, z4, z5, _⟩ := id (hS4).box
        obtain ⟨_, r0, r1, r2, r3, r4, r5, rf⟩ := id (hC4).box1
        have HF := hidOf (nst_fin (hC4) (hS4))
        have HR := hidOf (hrs)
        clear HS2 HC2 HRes hS4 hC4 hb4 hy ht hrs p0 p1 p2 p3 p4 p5
        go_wp2
        refine bodyPost_ret (v := .tuple #[.agg #[.bool y.pm, .slice A4.a A4.n A4.c, .slice A4.a' A4.n' A4.c', .int .i64 y.on, .int .i64 y.sp, .int .i64 y.tk], .int .i64 t, .int .i64 0]) (by simp [results, Try.results14, go_sem, r0, r1, r2, r3, r4, r5]) rfl ?_
        rw [HR.out]
        exact ⟨A4, rfl, HF.out⟩
end Go.Proofs.Ytfgknbflgmblmaa
