/-
  Walks of the specification's events: one is raised.
-/
import Derived.Test.YtbhdjcggcgddfaaSpE4
namespace Go.Proofs.Ytbhdjcggcgddfaa
open Go.RowKit Pl Il

theorem passE_kindS (x : Et) : (passE x).1.au = x.au := by
  obtain ⟨au, up, ln, gs, st, sp, tk⟩ := x
  unfold passE
  cases ln with
  | nil => cases up <;> rfl
  | cons a r => rfl
/-- What the last answer holds on to. -/
def KHeld (w : World) (N : Nat) (A A1 : Na) (x y : Et) (w' : World) : Prop := ECtx w A x w' ∧ ESt (w.heap.size + 2) N A1 y w'
theorem raise_end {w : World} {N : Nat} {A A1 : Na} {x y : Et} {u u' : World} {g c n : Nat} {xs : List Int} (hH : KHeld w N A A1 x y u) (ho : Owns u.drew.heap.size u' g n c xs) (hb : Below u.drew.heap.size u.drew u') :
    EBox N A1 y u' ∧ EBox (w.heap.size + 1) Na.zero Et.zero u' ∧ (∀ v : World, v = (((((((u'.setCell ⟨w.heap.size + 1, 0, none⟩ (.bool y.au)).setCell ⟨w.heap.size + 1, 1, none⟩ (.bool y.up)).setCell ⟨w.heap.size + 1, 2, none⟩ (.slice A1.a A1.n A1.c)).setCell ⟨w.heap.size + 1, 3, none⟩ (.slice A1.a' A1.n' A1.c')).setCell ⟨w.heap.size + 1, 4, none⟩ (.int .i64 y.st)).setCell ⟨w.heap.size + 1, 5, none⟩ (.int .i64 y.sp)).setCell ⟨w.heap.size + 1, 6, none⟩ (.int .i64 y.tk)) → EOwn w.heap.size v A1 y ∧ A1.ok ∧ Il.OwnAt w.heap.size v (some ⟨g, 0, none⟩) n xs ∧ Below w.heap.size w v) ∧ Apart3 A1.a A1.n A1.a' A1.n' (some ⟨g, 0, none⟩) n := by
  have hC7 := (hH.1.kp (Below.refl _ _).drew).kp hb
  have hS7 := (hH.2.keep (Below.refl _ _).drew).keep hb
  have hge7 := (owns_parts ho).2.1
  have hsz7 := (hH.1.kp (Below.refl _ _).drew).sz
  have hlt1 := (hH.2.keep (Below.refl _ _).drew).rows.one.lt
  have hlt2 := (hH.2.keep (Below.refl _ _).drew).rows.two.lt
  refine ⟨hS7.box, hC7.box1, fun v hv => ?_, .inr fun b off e => ⟨.inr fun b' off' e' hbb => ?_, .inr fun b' off' e' hbb => ?_⟩⟩
  · subst hv
    exact est_finT hC7 hS7.rows ((owns_parts ho).2.2.2.2.2.mono hsz7)
  · cases e
    have := (hlt1 b' (by rw [e']; rfl)).2
    omega
  · cases e
    have := (hlt2 b' (by rw [e']; rfl)).2
    omega
set_option maxRecDepth 100000 in
set_option maxHeartbeats 2000000 in
theorem specRaise_any (A : Na) (x : Et) (w : World) (hI : EIn w A x) (hn : A.n ≤ 2097152) (hn' : A.n' ≤ 2097152) (hok : A.ok) :
    Calls Try.prog 49 #[.agg #[.bool x.au, .bool x.up, .slice A.a A.n A.c, .slice A.a' A.n' A.c', .int .i64 x.st, .int .i64 x.sp, .int .i64 x.tk]] w fun e w' => EOutT w (raiseM x).1 (raiseM x).2.1 (raiseM x).2.2 e w' := by
  obtain ⟨au, up, ln, gs, st, sp, tk⟩ := x
  have hC := ectx_new hI
  have s1 : ((w.alloc (.cells #[.bool au, .bool up, .slice A.a A.n A.c, .slice A.a' A.n' A.c', .int .i64 st, .int .i64 sp, .int .i64 tk] 46)).alloc (.cells #[.bool false, .bool false, .slice none 0 0, .slice none 0 0, .int .i64 0, .int .i64 0, .int .i64 0] 46)).heap.size = w.heap.size + 2 := by simp
  have HL1 := hidOf hI.ints.len
  have HL2 := hidOf hI.grs.len
  have HCp := hidOf (l6Copy_any A ⟨au, up, ln, gs, st, sp, tk⟩ _ hC.ninX hn hn')
  have HC := hidOf hC
  have S1 := hidOf s1
  simp only at HL1 HL2
  clear hC s1 hI
  go_enter Try.func49, Try.ntmps49
  go_wp2_with fail
  refine (HCp.out).mono ?_
  rintro e w1 ⟨A1, rfl, hR, hb1⟩
  rw [S1.out] at hR
  have hC1 := HC.out.kp hb1
  have hS := est_new (x := ⟨au, up, ln, gs, st, sp, tk⟩) hR hC1.sz
  generalize hW2 : w1.alloc (.cells #[.bool au, .bool up, .slice A1.a A1.n A1.c, .slice A1.a' A1.n' A1.c', .int .i64 st, .int .i64 sp, .int .i64 tk] 46) = W2 at hS
  have hb2 : Below w1.heap.size w1 W2 := by subst hW2; exact bl_alloc (Below.refl _ _) _
  have hC2 := hC1.kp hb2
  obtain ⟨_, p0, p1, p2, p3, p4, p5, p6, _⟩ := id hC2.box0
  have HS := hidOf hS
  have HC2 := hidOf hC2
  clear hR hb1 hC1 hb2 hC2 hS HC HCp
  go_wp2_with fail
  refine (specEventOk_any A ⟨au, up, ln, gs, st, sp, tk⟩ _ HC2.out.ninX hn hn' hok).mono ?_
  rintro e w3 ⟨rfl, hb3⟩
  have hC := HC2.out.kp hb3
  have hS := HS.out.keep hb3
  clear p0 p1 p2 p3 p4 p5 p6 hW2 hb3 HS HC2
  generalize hN : w1.heap.size = N at *
  clear hN
  obtain ⟨_, p0, p1, p2, p3, p4, p5, p6, _⟩ := id hC.box0
  obtain ⟨_, z0, z1, z2, z3, z4, z5, z6, zf⟩ := id hS.box
  simp only at p0 p1 p2 p3 p4 p5 p6 z0 z1 z2 z3 z4 z5 z6
  have HC := hidOf hC
  have HS := hidOf hS
  have HIX := hidOf hC.ninX
  clear hC hS
  cases hokx : okE ⟨au, up, ln, gs, st, sp, tk⟩
  · obtain ⟨_, r0, r1, r2, r3, r4, r5, r6, rf⟩ := id HC.out.box1
    have HF := hidOf (est_fin (A' := A1) (y := ⟨au, up, ln, gs, st, sp, tk⟩) HC.out HS.out.rows)
    have HR := hidOf (show raiseM ⟨au, up, ln, gs, st, sp, tk⟩ = (⟨au, up, ln, gs, st, sp, tk⟩, [], 1) by unfold raiseM; rw [if_pos hokx])
    clear HC hokx HS
    go_wp2
    refine bodyPost_ret (v := .tuple #[.agg #[.bool au, .bool up, .slice A1.a A1.n A1.c, .slice A1.a' A1.n' A1.c', .int .i64 st, .int .i64 sp, .int .i64 tk], .slice none 0 0, .int .i64 1]) (by simp [results, Try.results49, go_sem, r0, r1, r2, r3, r4, r5, r6]) rfl ?_
    rw [HR.out]
    exact ⟨A1, none, 0, 0, rfl, HF.out.1, HF.out.2.1, ⟨⟨rfl, .inl rfl⟩, .inl rfl⟩, .inl rfl, HF.out.2.2⟩
  · have hn1 : ¬ (okE ⟨au, up, ln, gs, st, sp, tk⟩ = false) := by rw [hokx]; simp
    have hbo := okE_parts hokx
    simp only at hbo
    have HBo := hidOf hbo
    clear hbo hokx
    cases au
    · by_cases h4 : 32 < ln.length + gs.length
      · have h5 : (32 : Int) < (A.n : Int) + (A.n' : Int) := by have := HL1.out; have := HL2.out; omega
        obtain ⟨_, r0, r1, r2, r3, r4, r5, r6, rf⟩ := id HC.out.box1
        have HF := hidOf (est_fin (A' := A1) (y := ⟨false, up, ln, gs, st, sp, tk⟩) HC.out HS.out.rows)
        have HR := hidOf (show raiseM ⟨false, up, ln, gs, st, sp, tk⟩ = (⟨false, up, ln, gs, st, sp, tk⟩, [], 2) by unfold raiseM; rw [if_neg hn1, if_neg (by simp), if_pos h4])
        clear HC hn1 HS HBo HIX
        go_wp2
        refine bodyPost_ret (v := .tuple #[.agg #[.bool false, .bool up, .slice A1.a A1.n A1.c, .slice A1.a' A1.n' A1.c', .int .i64 st, .int .i64 sp, .int .i64 tk], .slice none 0 0, .int .i64 2]) (by simp [results, Try.results49, go_sem, r0, r1, r2, r3, r4, r5, r6]) rfl ?_
        rw [HR.out]
        exact ⟨A1, none, 0, 0, rfl, HF.out.1, HF.out.2.1, ⟨⟨rfl, .inl rfl⟩, .inl rfl⟩, .inl rfl, HF.out.2.2⟩
      · have h5 : ¬ (32 : Int) < (A.n : Int) + (A.n' : Int) := by have := HL1.out; have := HL2.out; omega
        have h5' : decide ((32 : Int) < (A.n : Int) + (A.n' : Int)) = false := by simp; omega
        have HR0 := hidOf (show raiseM ⟨false, up, ln, gs, st, sp, tk⟩ = (⟨false, true, [], gs ++ ln, st, sp, tk⟩, ln, 0) by unfold raiseM; rw [if_neg hn1, if_neg (by simp), if_neg h4])
        clear hn1 h4
        have hS2 := HS.out.setc (y := ⟨false, true, ln, gs, st, sp, tk⟩) 1 (.bool true) (HS.out.box.set1 (v := true)) rfl rfl
        have hC2 := HC.out.keep (B := w.heap.size + 2) (bl_set1 (Below.refl _ _) N 1 HS.out.ge (.bool true)) (Nat.le_refl _)
        obtain ⟨_, v0, v1, v2, v3, v4, v5, v6, vf⟩ := id hS2.box
        obtain ⟨_, pq0, pq1, pq2, pq3, pq4, pq5, pq6, _⟩ := id hC2.box0
        generalize hU : w3.setCell ⟨N, 1, none⟩ (.bool true) = U at hS2 hC2 v0 v1 v2 v3 v4 v5 v6 vf pq0 pq1 pq2 pq3 pq4 pq5 pq6
        simp only at v0 v1 v2 v3 v4 v5 v6 pq0 pq1 pq2 pq3 pq4 pq5 pq6
        have hlen := hS2.rows.len
        simp only at hlen
        obtain ⟨a3, c3, w4, hr, ho3, hg3, hl3⟩ := append_ownS (w.heap.size + 2) A1.n' _ gs A.a A.n A.c ln U hS2.rows.two hC2.sz hC2.ninX.ints (by have := HL2.out; omega)
        have hltN := hS2.box.lt
        have hbx : EBox N A1 ⟨false, true, ln, gs, st, sp, tk⟩ w4 := hS2.box.grownO hg3 hS2.ne2
        have hne3 : (Value.slice a3 (A1.n' + A.n) c3).ownBlock ≠ some N := fun e => by
          rcases hl3 N e with h | h
          · exact hS2.ne2 h
          · omega
        have hC4 : ECtx w A ⟨false, up, ln, gs, st, sp, tk⟩ w4 := hC2.keep (B := w.heap.size + 2) ((Below.refl _ _).grown hg3 hC2.sz (fun q e => (hS2.rows.two.lt q e).1)) (Nat.le_refl _)
        have hS5 : ESt (w.heap.size + 2) N ⟨none, 0, 0, a3, A1.n' + A.n, c3⟩ ⟨false, true, [], gs ++ ln, st, sp, tk⟩ ((w4.setCell ⟨N, 3, none⟩ (.slice a3 (A1.n' + A.n) c3)).setCell ⟨N, 2, none⟩ (.slice none 0 0)) := by
          refine ⟨((hbx.set3 (a := a3) (n := A1.n' + A.n) (c := c3)).set2 (a := none) (n := 0) (c := 0)).lists [] (gs ++ ln), hS2.ge, ⟨⟨rfl, .inl ⟨rfl, rfl⟩⟩, row_set (row_set ho3 N 3 hne3 _) N 2 hne3 _, fun q e => by simp [Value.ownBlock] at e⟩, by simp [Value.ownBlock], hne3⟩
        have hC5 : ECtx w A ⟨false, up, ln, gs, st, sp, tk⟩ ((w4.setCell ⟨N, 3, none⟩ (.slice a3 (A1.n' + A.n) c3)).setCell ⟨N, 2, none⟩ (.slice none 0 0)) := hC4.keep (B := w.heap.size + 2) (bl_set1 (bl_set1 (Below.refl _ _) N 3 hS2.ge _) N 2 hS2.ge _) (Nat.le_refl _)
        obtain ⟨_, y0, y1, y2, y3, y4, y5, y6, yf⟩ := id hbx
        have HH := hidOf (show KHeld w N A ⟨none, 0, 0, a3, A1.n' + A.n, c3⟩ ⟨false, up, ln, gs, st, sp, tk⟩ ⟨false, true, [], gs ++ ln, st, sp, tk⟩ _ from ⟨hC5, hS5⟩)
        have HCy := hidOf (l2Copy_any A.a A.n A.c ln _ (hC5.ninX.ints.keep (Below.refl _ _).drew) hn)
        have Hr := hidOf hr
        obtain ⟨_, g0, g1, g2, g3, g4, g5, g6, gf⟩ := id hS5.box
        obtain ⟨_, pz0, pz1, pz2, pz3, pz4, pz5, pz6, _⟩ := id hC5.box0
        simp only at y0 y1 y2 y3 y4 y5 y6 g0 g1 g2 g3 g4 g5 g6 pz0 pz1 pz2 pz3 pz4 pz5 pz6
        clear hS2 hC2 hlen ho3 hg3 hl3 hbx hne3 hC4 hS5 hC5 hr hltN HC HS HBo
        subst hU
        go_wp2_with (at_builtin; refine wpList_append_run rfl _ _ 24 rfl _ _ _ rfl rfl Hr.out ?_)
        first | (go_region_with (first
          | (go_at_call 120; refine (HCy.out).mono ?_; rintro e w7 ⟨g7, c7, rfl, ho7, hb7⟩; obtain ⟨hbn, hb1r, hFv, hAp⟩ := raise_end HH.out ho7 hb7; obtain ⟨_, s0, s1, s2, s3, s4, s5, s6, _⟩ := id hbn; obtain ⟨_, r0, r1, r2, r3, r4, r5, r6, rf⟩ := id hb1r; have HF := hidOf hFv; have HAp := hidOf hAp; simp only at s0 s1 s2 s3 s4 s5 s6; clear hbn hb1r hFv hAp ho7 hb7))) | fail
        all_goals go_wp2
        all_goals refine bodyPost_ret (v := .tuple #[.agg #[.bool false, .bool true, .slice none 0 0, .slice a3 (A1.n' + A.n) c3, .int .i64 st, .int .i64 sp, .int .i64 tk], .slice (some ⟨g7, 0, none⟩) A.n c7, .int .i64 0]) (by simp [results, Try.results49, go_sem, r0, r1, r2, r3, r4, r5, r6]) rfl ?_
        all_goals rw [HR0.out]
        all_goals exact ⟨⟨none, 0, 0, a3, A1.n' + A.n, c3⟩, some ⟨g7, 0, none⟩, A.n, c7, rfl, (HF.out _ rfl).1, (HF.out _ rfl).2.1, (HF.out _ rfl).2.2.1, HAp.out, (HF.out _ rfl).2.2.2⟩
    · have hst := HBo.out.2.1
      have hgl := HBo.out.1.2.2.2.1
      by_cases h1 : (1000000000 : Int) ≤ st
      · obtain ⟨_, r0, r1, r2, r3, r4, r5, r6, rf⟩ := id HC.out.box1
        have HF := hidOf (est_fin (A' := A1) (y := ⟨true, up, ln, gs, st, sp, tk⟩) HC.out HS.out.rows)
        have HR := hidOf (show raiseM ⟨true, up, ln, gs, st, sp, tk⟩ = (⟨true, up, ln, gs, st, sp, tk⟩, [], 2) by unfold raiseM; rw [if_neg hn1, if_pos rfl, if_pos (.inl (by simp only; omega))])
        clear HC hn1 HS HBo HIX
        go_wp2
        refine bodyPost_ret (v := .tuple #[.agg #[.bool true, .bool up, .slice A1.a A1.n A1.c, .slice A1.a' A1.n' A1.c', .int .i64 st, .int .i64 sp, .int .i64 tk], .slice none 0 0, .int .i64 2]) (by simp [results, Try.results49, go_sem, r0, r1, r2, r3, r4, r5, r6]) rfl ?_
        rw [HR.out]
        exact ⟨A1, none, 0, 0, rfl, HF.out.1, HF.out.2.1, ⟨⟨rfl, .inl rfl⟩, .inl rfl⟩, .inl rfl, HF.out.2.2⟩
      · by_cases h2 : (0 : Int) < (A.n : Int)
        · by_cases h3 : (32 : Int) ≤ (A.n' : Int)
          · obtain ⟨_, r0, r1, r2, r3, r4, r5, r6, rf⟩ := id HC.out.box1
            have HF := hidOf (est_fin (A' := A1) (y := ⟨true, up, ln, gs, st, sp, tk⟩) HC.out HS.out.rows)
            have HR := hidOf (show raiseM ⟨true, up, ln, gs, st, sp, tk⟩ = (⟨true, up, ln, gs, st, sp, tk⟩, [], 2) by unfold raiseM; rw [if_neg hn1, if_pos rfl, if_pos (.inr ⟨by simp only; have := HL1.out; omega, by simp only; have := HL2.out; omega⟩)])
            clear HC hn1 HS HBo HIX hgl
            go_wp2
            refine bodyPost_ret (v := .tuple #[.agg #[.bool true, .bool up, .slice A1.a A1.n A1.c, .slice A1.a' A1.n' A1.c', .int .i64 st, .int .i64 sp, .int .i64 tk], .slice none 0 0, .int .i64 2]) (by simp [results, Try.results49, go_sem, r0, r1, r2, r3, r4, r5, r6]) rfl ?_
            rw [HR.out]
            exact ⟨A1, none, 0, 0, rfl, HF.out.1, HF.out.2.1, ⟨⟨rfl, .inl rfl⟩, .inl rfl⟩, .inl rfl, HF.out.2.2⟩
          · have h3' : decide ((32 : Int) ≤ (A.n' : Int)) = false := by simp; omega
            have HR0 := hidOf (show raiseM ⟨true, up, ln, gs, st, sp, tk⟩ = ((passE ⟨true, up, ln, gs, st + 1, sp, tk⟩).1, (passE ⟨true, up, ln, gs, st + 1, sp, tk⟩).2, 0) by unfold raiseM; rw [if_neg hn1, if_pos rfl, if_neg (fun h => by rcases h with h | h; (have h9 : st = 1000000000 := h; omega); (have h9 : gs.length = 32 := h.2; have := HL2.out; omega))])
            clear hn1
            have hS2 := HS.out.setc (y := ⟨true, up, ln, gs, st + 1, sp, tk⟩) 4 (.int .i64 (st + 1)) (HS.out.box.set4 (v := st + 1)) rfl rfl
            have hC2 := HC.out.keep (B := w.heap.size + 2) (bl_set1 (Below.refl _ _) N 4 HS.out.ge (.int .i64 (st + 1))) (Nat.le_refl _)
            obtain ⟨_, st0, st1, st2, st3, st4, st5, st6, stf⟩ := id hS2.box
            have HC2 := hidOf hC2
            have HS2 := hidOf hS2
            clear HC HS hC2 hS2
            have HC := HC2
            have HS := HS2
            clear HC2 HS2
            simp only at st0 st1 st2 st3 st4 st5 st6
            have HRo := hidOf HS.out.rows
            have hsz := HC.out.sz
            go_wp2_with fail
            refine (l6Pass_any (w.heap.size + 2) A1 ⟨true, up, ln, gs, st + 1, sp, tk⟩ _ HRo.out hsz (by have h7 := HRo.out.len.1; have h8 := HL1.out; first | omega | (simp only at h7; omega)) (by have h7 := HRo.out.len.2; have h8 := HL2.out; first | omega | (simp only at h7; omega)) HBo.out.2.2.1).mono ?_
            rintro e w7 ⟨A7, a7, m7, c7, rfl, hR7, hO7, hA7, hB7⟩
            have HKd := hidOf (passE_kindS ⟨true, up, ln, gs, st + 1, sp, tk⟩)
            have hC7 := HC.out.keep hB7 (Nat.le_refl _)
            clear HC HS HRo
            generalize passE ⟨true, up, ln, gs, st + 1, sp, tk⟩ = pp at hR7 hO7 HR0 HKd ⊢
            obtain ⟨⟨pau, pup, pln, pgs, pst, psp, ptk⟩, pl⟩ := pp
            simp only at hR7 hO7 HR0 HKd ⊢
            obtain rfl : pau = true := HKd.out
            generalize hW8 : w7.alloc (.cells #[.bool true, .bool pup, .slice A7.a A7.n A7.c, .slice A7.a' A7.n' A7.c', .int .i64 pst, .int .i64 psp, .int .i64 ptk] 46) = W8
            have hb8 : Below w7.heap.size w7 W8 := by subst hW8; exact bl_alloc (Below.refl _ _) _
            have x8 : EBox w7.heap.size A7 ⟨true, pup, pln, pgs, pst, psp, ptk⟩ W8 := by subst hW8; exact EBox.new w7 A7 ⟨true, pup, pln, pgs, pst, psp, ptk⟩ _
            have hC8 := hC7.kp hb8
            have HF := hidOf (est_finT (A' := A7) (y := ⟨true, pup, pln, pgs, pst, psp, ptk⟩) hC8 (hR7.keep hb8) (hO7.keep hb8))
            have HAp := hidOf hA7
            obtain ⟨_, x0, x1, x2, x3, x4, x5, x6, _⟩ := id x8
            obtain ⟨_, r0, r1, r2, r3, r4, r5, r6, rf⟩ := id hC8.box1
            simp only at x0 x1 x2 x3 x4 x5 x6
            clear hC7 hC8 x8 hb8 hR7 hO7 hA7 hB7 HKd hsz
            go_wp2
            refine bodyPost_ret (v := .tuple #[.agg #[.bool true, .bool pup, .slice A7.a A7.n A7.c, .slice A7.a' A7.n' A7.c', .int .i64 pst, .int .i64 psp, .int .i64 ptk], .slice a7 m7 c7, .int .i64 0]) (by simp [results, Try.results49, go_sem, r0, r1, r2, r3, r4, r5, r6]) rfl ?_
            rw [HR0.out]
            exact ⟨A7, a7, m7, c7, rfl, HF.out.1, HF.out.2.1, HF.out.2.2.1, HAp.out, HF.out.2.2.2⟩
        · have h2' : decide ((0 : Int) < (A.n : Int)) = false := by simp; omega
          have HR0 := hidOf (show raiseM ⟨true, up, ln, gs, st, sp, tk⟩ = ((passE ⟨true, up, ln, gs, st + 1, sp, tk⟩).1, (passE ⟨true, up, ln, gs, st + 1, sp, tk⟩).2, 0) by unfold raiseM; rw [if_neg hn1, if_pos rfl, if_neg (fun h => by rcases h with h | h; (have h9 : st = 1000000000 := h; omega); (have h9 : 0 < ln.length := h.1; have := HL1.out; omega))])
          clear hn1
          have hS2 := HS.out.setc (y := ⟨true, up, ln, gs, st + 1, sp, tk⟩) 4 (.int .i64 (st + 1)) (HS.out.box.set4 (v := st + 1)) rfl rfl
          have hC2 := HC.out.keep (B := w.heap.size + 2) (bl_set1 (Below.refl _ _) N 4 HS.out.ge (.int .i64 (st + 1))) (Nat.le_refl _)
          obtain ⟨_, st0, st1, st2, st3, st4, st5, st6, stf⟩ := id hS2.box
          have HC2 := hidOf hC2
          have HS2 := hidOf hS2
          clear HC HS hC2 hS2
          have HC := HC2
          have HS := HS2
          clear HC2 HS2
          simp only at st0 st1 st2 st3 st4 st5 st6
          have HRo := hidOf HS.out.rows
          have hsz := HC.out.sz
          go_wp2_with fail
          refine (l6Pass_any (w.heap.size + 2) A1 ⟨true, up, ln, gs, st + 1, sp, tk⟩ _ HRo.out hsz (by have h7 := HRo.out.len.1; have h8 := HL1.out; first | omega | (simp only at h7; omega)) (by have h7 := HRo.out.len.2; have h8 := HL2.out; first | omega | (simp only at h7; omega)) HBo.out.2.2.1).mono ?_
          rintro e w7 ⟨A7, a7, m7, c7, rfl, hR7, hO7, hA7, hB7⟩
          have HKd := hidOf (passE_kindS ⟨true, up, ln, gs, st + 1, sp, tk⟩)
          have hC7 := HC.out.keep hB7 (Nat.le_refl _)
          clear HC HS HRo
          generalize passE ⟨true, up, ln, gs, st + 1, sp, tk⟩ = pp at hR7 hO7 HR0 HKd ⊢
          obtain ⟨⟨pau, pup, pln, pgs, pst, psp, ptk⟩, pl⟩ := pp
          simp only at hR7 hO7 HR0 HKd ⊢
          obtain rfl : pau = true := HKd.out
          generalize hW8 : w7.alloc (.cells #[.bool true, .bool pup, .slice A7.a A7.n A7.c, .slice A7.a' A7.n' A7.c', .int .i64 pst, .int .i64 psp, .int .i64 ptk] 46) = W8
          have hb8 : Below w7.heap.size w7 W8 := by subst hW8; exact bl_alloc (Below.refl _ _) _
          have x8 : EBox w7.heap.size A7 ⟨true, pup, pln, pgs, pst, psp, ptk⟩ W8 := by subst hW8; exact EBox.new w7 A7 ⟨true, pup, pln, pgs, pst, psp, ptk⟩ _
          have hC8 := hC7.kp hb8
          have HF := hidOf (est_finT (A' := A7) (y := ⟨true, pup, pln, pgs, pst, psp, ptk⟩) hC8 (hR7.keep hb8) (hO7.keep hb8))
          have HAp := hidOf hA7
          obtain ⟨_, x0, x1, x2, x3, x4, x5, x6, _⟩ := id x8
          obtain ⟨_, r0, r1, r2, r3, r4, r5, r6, rf⟩ := id hC8.box1
          simp only at x0 x1 x2 x3 x4 x5 x6
          clear hC7 hC8 x8 hb8 hR7 hO7 hA7 hB7 HKd hsz
          go_wp2
          refine bodyPost_ret (v := .tuple #[.agg #[.bool true, .bool pup, .slice A7.a A7.n A7.c, .slice A7.a' A7.n' A7.c', .int .i64 pst, .int .i64 psp, .int .i64 ptk], .slice a7 m7 c7, .int .i64 0]) (by simp [results, Try.results49, go_sem, r0, r1, r2, r3, r4, r5, r6]) rfl ?_
          rw [HR0.out]
          exact ⟨A7, a7, m7, c7, rfl, HF.out.1, HF.out.2.1, HF.out.2.2.1, HAp.out, HF.out.2.2.2⟩
end Go.Proofs.Ytbhdjcggcgddfaa
