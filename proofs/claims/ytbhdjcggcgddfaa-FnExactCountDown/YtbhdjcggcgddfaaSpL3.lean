/-
  Walks of the specification's latches: one is counted down.
-/
import Derived.Test.YtbhdjcggcgddfaaSpL
import Derived.Deep.RegionWith
namespace Go.Proofs.Ytbhdjcggcgddfaa
open Go.RowKit Pl Il

/-- What the last answer holds on to: the argument's variable, the answer's, the copy's. -/
abbrev CHeld (w : World) (N : Nat) (A A1 : Na) (x y : Lt) (w' : World) : Prop :=
  w'.cell? ⟨w.heap.size, 1, none⟩ = some (.slice A.a A.n A.c) ∧ w'.cell? ⟨N, 0, none⟩ = some (.int .i64 y.ct) ∧ w'.cell? ⟨N, 1, none⟩ = some (.slice A1.a A1.n A1.c) ∧ w'.cell? ⟨N, 2, none⟩ = some (.slice A1.a' A1.n' A1.c') ∧ LCtx w A x w' ∧ LSt (w.heap.size + 2) N A1 y w'
theorem CHeld.mk' {w : World} {N : Nat} {A A1 : Na} {x y : Lt} {w' : World} (h : LCtx w A x w') (h2 : LSt (w.heap.size + 2) N A1 y w') : CHeld w N A A1 x y w' := ⟨h.box0.c1, h2.box.c0, h2.box.c1, h2.box.c2, h, h2⟩
theorem CHeld.keep {w : World} {N : Nat} {A A1 : Na} {x y : Lt} {u u' : World} (h : CHeld w N A A1 x y u) (hb : Below u.heap.size u u') : CHeld w N A A1 x y u' := CHeld.mk' (h.2.2.2.2.1.kp hb) (h.2.2.2.2.2.keep hb)
theorem CHeld.drew {w : World} {N : Nat} {A A1 : Na} {x y : Lt} {u : World} (h : CHeld w N A A1 x y u) : CHeld w N A A1 x y u.drew := h.keep (Below.refl _ _).drew
/-- Behind the copy of the line that was told. -/
theorem count_end {w : World} {N : Nat} {A A1 : Na} {x y : Lt} {u u' : World} {g c n : Nat} {xs : List Int} (hH : CHeld w N A A1 x y u) (ho : Owns u.drew.heap.size u' g n c xs) (hb : Below u.drew.heap.size u.drew u') :
    u'.cell? ⟨N, 0, none⟩ = some (.int .i64 y.ct) ∧ u'.cell? ⟨N, 1, none⟩ = some (.slice A1.a A1.n A1.c) ∧ u'.cell? ⟨N, 2, none⟩ = some (.slice A1.a' A1.n' A1.c') ∧
    u'.cell? ⟨w.heap.size + 1, 0, none⟩ = some (.int .i64 0) ∧ u'.cell? ⟨w.heap.size + 1, 1, none⟩ = some (.slice none 0 0) ∧ u'.cell? ⟨w.heap.size + 1, 2, none⟩ = some (.slice none 0 0) ∧ (∀ o, u'.frozen? ⟨w.heap.size + 1, o, none⟩ = false) ∧
    (LOwn w.heap.size (((u'.setCell ⟨w.heap.size + 1, 0, none⟩ (.int .i64 y.ct)).setCell ⟨w.heap.size + 1, 1, none⟩ (.slice A1.a A1.n A1.c)).setCell ⟨w.heap.size + 1, 2, none⟩ (.slice A1.a' A1.n' A1.c')) A1 y ∧ A1.ok ∧ Il.OwnAt w.heap.size (((u'.setCell ⟨w.heap.size + 1, 0, none⟩ (.int .i64 y.ct)).setCell ⟨w.heap.size + 1, 1, none⟩ (.slice A1.a A1.n A1.c)).setCell ⟨w.heap.size + 1, 2, none⟩ (.slice A1.a' A1.n' A1.c')) (some ⟨g, 0, none⟩) n xs ∧ Below w.heap.size w (((u'.setCell ⟨w.heap.size + 1, 0, none⟩ (.int .i64 y.ct)).setCell ⟨w.heap.size + 1, 1, none⟩ (.slice A1.a A1.n A1.c)).setCell ⟨w.heap.size + 1, 2, none⟩ (.slice A1.a' A1.n' A1.c'))) ∧ Apart3 A1.a A1.n A1.a' A1.n' (some ⟨g, 0, none⟩) n := by
  have hd := hH.drew
  obtain ⟨q1, s0, s1, s2, hC7, hS7⟩ := id (CHeld.keep hd hb)
  have hge7 := (owns_parts ho).2.1
  have hsz7 := hd.2.2.2.2.1.sz
  have hlt1 := hd.2.2.2.2.2.rows.one.lt
  have hlt2 := hd.2.2.2.2.2.rows.two.lt
  refine ⟨s0, s1, s2, hC7.box1.c0, hC7.box1.c1, hC7.box1.c2, hC7.box1.fr, lst_finT hC7 hS7.rows ((owns_parts ho).2.2.2.2.2.mono hsz7), .inr fun b off e => ⟨.inr fun b' off' e' hbb => ?_, .inr fun b' off' e' hbb => ?_⟩⟩
  · cases e
    have := (hlt1 b' (by rw [e']; rfl)).2
    omega
  · cases e
    have := (hlt2 b' (by rw [e']; rfl)).2
    omega
set_option maxRecDepth 100000 in
set_option maxHeartbeats 2000000 in
theorem specCountDown_any (A : Na) (x : Lt) (n : Int) (w : World) (hI : LIn w A x) (hn : A.n ≤ 2097152) (hn' : A.n' ≤ 2097152) (hok : A.ok) :
    Calls Try.prog 62 #[.agg #[.int .i64 x.ct, .slice A.a A.n A.c, .slice A.a' A.n' A.c'], .int .i64 n] w fun e w' => LOutT w (countM x n).1 (countM x n).2.1 (countM x n).2.2 e w' := by
  have hC := lctx_new hI
  have s1 : ((w.alloc (.cells #[.int .i64 x.ct, .slice A.a A.n A.c, .slice A.a' A.n' A.c'] 78)).alloc (.cells #[.int .i64 0, .slice none 0 0, .slice none 0 0] 78)).heap.size = w.heap.size + 2 := by simp
  have HL1 := hidOf hI.ints.len
  have HL2 := hidOf hI.grs.len
  have HCp := hidOf (l6CopyLatch_any A x _ hC.ninX hn hn')
  have HC := hidOf hC
  have S1 := hidOf s1
  clear hC s1 hI
  go_enter Try.func62, Try.ntmps62
  go_wp2_with fail
  refine (HCp.out).mono ?_
  rintro e w1 ⟨A1, rfl, hR, hb1⟩
  rw [S1.out] at hR
  have hC1 := HC.out.kp hb1
  have hS := lst_new (x := x) hR hC1.sz
  generalize hW2 : w1.alloc (.cells #[.int .i64 x.ct, .slice A1.a A1.n A1.c, .slice A1.a' A1.n' A1.c'] 78) = W2 at hS
  have hb2 : Below w1.heap.size w1 W2 := by subst hW2; exact bl_alloc (Below.refl _ _) _
  have hC2 := hC1.kp hb2
  obtain ⟨_, p0, p1, p2, _⟩ := id hC2.box0
  have HS := hidOf hS
  have HC2 := hidOf hC2
  clear hR hb1 hC1 hb2 hC2 hS HC HCp
  go_wp2_with fail
  refine (specLatchOk_any A x _ HC2.out.ninX hn hn' hok).mono ?_
  rintro e w3 ⟨rfl, hb3⟩
  have hC := HC2.out.kp hb3
  have hS := HS.out.keep hb3
  clear p0 p1 p2 hW2 hb3 HS HC2
  generalize hN : w1.heap.size = N at *
  clear hN
  obtain ⟨_, p0, p1, p2, _⟩ := id hC.box0
  obtain ⟨_, z0, z1, z2, zf⟩ := id hS.box
  have HC := hidOf hC
  have HS := hidOf hS
  have HIX := hidOf hC.ninX
  clear hC hS
  cases hokx : okLa x
  · obtain ⟨_, r0, r1, r2, rf⟩ := id HC.out.box1
    have HF := hidOf (lst_fin (A' := A1) (y := x) HC.out HS.out.rows)
    have HR := hidOf (show countM x n = (x, [], 1) by unfold countM; rw [if_pos (.inl hokx)])
    clear HC hokx HS
    go_wp2
    refine bodyPost_ret (v := .tuple #[.agg #[.int .i64 x.ct, .slice A1.a A1.n A1.c, .slice A1.a' A1.n' A1.c'], .slice none 0 0, .int .i64 1]) (by simp [results, Try.results62, go_sem, r0, r1, r2]) rfl ?_
    rw [HR.out]
    exact ⟨A1, none, 0, 0, rfl, HF.out.1, HF.out.2.1, ⟨⟨rfl, .inl rfl⟩, .inl rfl⟩, .inl rfl, HF.out.2.2⟩
  · by_cases h1 : n < 1
    · obtain ⟨_, r0, r1, r2, rf⟩ := id HC.out.box1
      have HF := hidOf (lst_fin (A' := A1) (y := x) HC.out HS.out.rows)
      have HR := hidOf (show countM x n = (x, [], 1) by unfold countM; rw [if_pos (.inr h1)])
      clear HC hokx HS
      go_wp2
      refine bodyPost_ret (v := .tuple #[.agg #[.int .i64 x.ct, .slice A1.a A1.n A1.c, .slice A1.a' A1.n' A1.c'], .slice none 0 0, .int .i64 1]) (by simp [results, Try.results62, go_sem, r0, r1, r2]) rfl ?_
      rw [HR.out]
      exact ⟨A1, none, 0, 0, rfl, HF.out.1, HF.out.2.1, ⟨⟨rfl, .inl rfl⟩, .inl rfl⟩, .inl rfl, HF.out.2.2⟩
    · have hn1 : ¬ (okLa x = false ∨ n < 1) := by rintro (h | h); rw [hokx] at h; cases h; exact h1 h
      have hbo := okLa_parts hokx
      by_cases h2 : x.ct < n
      · obtain ⟨_, r0, r1, r2, rf⟩ := id HC.out.box1
        have HF := hidOf (lst_fin (A' := A1) (y := x) HC.out HS.out.rows)
        have HR := hidOf (show countM x n = (x, [], 6) by unfold countM; rw [if_neg hn1, if_pos h2])
        clear HC hokx hn1 hbo HS
        go_wp2
        refine bodyPost_ret (v := .tuple #[.agg #[.int .i64 x.ct, .slice A1.a A1.n A1.c, .slice A1.a' A1.n' A1.c'], .slice none 0 0, .int .i64 6]) (by simp [results, Try.results62, go_sem, r0, r1, r2]) rfl ?_
        rw [HR.out]
        exact ⟨A1, none, 0, 0, rfl, HF.out.1, HF.out.2.1, ⟨⟨rfl, .inl rfl⟩, .inl rfl⟩, .inl rfl, HF.out.2.2⟩
      · by_cases h3 : n = x.ct
        · have h3' : (n == x.ct) = true := by simp [h3]
          by_cases h4 : 32 < x.ln.length + x.gs.length
          · have h5 : (32 : Int) < (A.n : Int) + (A.n' : Int) := by have := HL1.out; have := HL2.out; omega
            obtain ⟨_, r0, r1, r2, rf⟩ := id HC.out.box1
            have HF := hidOf (lst_fin (A' := A1) (y := x) HC.out HS.out.rows)
            have HR := hidOf (show countM x n = (x, [], 2) by unfold countM; rw [if_neg hn1, if_neg h2, if_pos ⟨h3, h4⟩])
            clear HC hokx hn1 hbo h3 HS
            go_wp2
            refine bodyPost_ret (v := .tuple #[.agg #[.int .i64 x.ct, .slice A1.a A1.n A1.c, .slice A1.a' A1.n' A1.c'], .slice none 0 0, .int .i64 2]) (by simp [results, Try.results62, go_sem, r0, r1, r2]) rfl ?_
            rw [HR.out]
            exact ⟨A1, none, 0, 0, rfl, HF.out.1, HF.out.2.1, ⟨⟨rfl, .inl rfl⟩, .inl rfl⟩, .inl rfl, HF.out.2.2⟩
          · have h5 : ¬ (32 : Int) < (A.n : Int) + (A.n' : Int) := by have := HL1.out; have := HL2.out; omega
            have h5' : decide ((32 : Int) < (A.n : Int) + (A.n' : Int)) = false := by simp; omega
            have hp : ¬ (0 : Int) < x.ct - n := by omega
            have HR0 := hidOf (show countM x n = ({ x with ct := x.ct - n, ln := [], gs := x.gs ++ x.ln }, x.ln, 0) by unfold countM; rw [if_neg hn1, if_neg h2, if_neg (fun h => h4 h.2), if_neg hp])
            have hS2 := HS.out.setc (y := { x with ct := x.ct - n }) 0 (.int .i64 (x.ct - n)) (HS.out.box.set0 (v := x.ct - n)) rfl rfl
            have hC2 := HC.out.keep (B := w.heap.size + 2) (bl_set1 (Below.refl _ _) N 0 HS.out.ge (.int .i64 (x.ct - n))) (Nat.le_refl _)
            obtain ⟨_, v0, v1, v2, vf⟩ := id hS2.box
            obtain ⟨_, p0', p1', p2', _⟩ := id hC2.box0
            generalize hU : w3.setCell ⟨N, 0, none⟩ (.int .i64 (x.ct - n)) = U at hS2 hC2 v0 v1 v2 vf p0' p1' p2'
            simp only at v0 v1 v2
            have hlen := hS2.rows.len
            simp only at hlen
            obtain ⟨a3, c3, w4, hr, ho3, hg3, hl3⟩ := append_ownS (w.heap.size + 2) A1.n' _ x.gs A.a A.n A.c x.ln U hS2.rows.two hC2.sz hC2.ninX.ints (by have := HL2.out; omega)
            have hltN := hS2.box.lt
            have hbx : LBox N A1 { x with ct := x.ct - n } w4 := hS2.box.grownO hg3 hS2.ne2
            have hne3 : (Value.slice a3 (A1.n' + A.n) c3).ownBlock ≠ some N := fun e => by
              rcases hl3 N e with h | h
              · exact hS2.ne2 h
              · omega
            have hC4 : LCtx w A x w4 := hC2.keep (B := w.heap.size + 2) ((Below.refl _ _).grown hg3 hC2.sz (fun q e => (hS2.rows.two.lt q e).1)) (Nat.le_refl _)
            have hS5 : LSt (w.heap.size + 2) N ⟨none, 0, 0, a3, A1.n' + A.n, c3⟩ { x with ct := x.ct - n, ln := [], gs := x.gs ++ x.ln } ((w4.setCell ⟨N, 2, none⟩ (.slice a3 (A1.n' + A.n) c3)).setCell ⟨N, 1, none⟩ (.slice none 0 0)) := by
              refine ⟨((hbx.set2 (a := a3) (n := A1.n' + A.n) (c := c3)).set1 (a := none) (n := 0) (c := 0)).lists [] (x.gs ++ x.ln), hS2.ge, ⟨⟨rfl, .inl ⟨rfl, rfl⟩⟩, row_set (row_set ho3 N 2 hne3 _) N 1 hne3 _, fun q e => by simp [Value.ownBlock] at e⟩, by simp [Value.ownBlock], hne3⟩
            have hC5 : LCtx w A x ((w4.setCell ⟨N, 2, none⟩ (.slice a3 (A1.n' + A.n) c3)).setCell ⟨N, 1, none⟩ (.slice none 0 0)) := hC4.keep (B := w.heap.size + 2) (bl_set1 (bl_set1 (Below.refl _ _) N 2 hS2.ge _) N 1 hS2.ge _) (Nat.le_refl _)
            obtain ⟨_, y0, y1, y2, yf⟩ := id hbx
            have hH := CHeld.mk' hC5 hS5
            have HCy := hidOf (l2Copy_any A.a A.n A.c x.ln _ (hC5.ninX.ints.keep (Below.refl _ _).drew) hn)
            have Hr := hidOf hr
            obtain ⟨_, g0, g1, g2, gf⟩ := id hS5.box
            clear hS2 hC2 hlen ho3 hg3 hl3 hbx hne3 hC4 hS5 hC5 hr hltN HC HS hn1 h3 h4 hbo hokx
            subst hU
            go_wp2_with (at_builtin; refine wpList_append_run rfl _ _ 24 rfl _ _ _ rfl rfl Hr.out ?_)
            first | (go_region_with (first
              | (go_at_call 120; refine (HCy.out).mono ?_; rintro e w7 ⟨g7, c7, rfl, ho7, hb7⟩; have hT := count_end hH ho7 hb7; obtain ⟨s0, s1, s2, r0, r1, r2, rf, hF⟩ := hT; have HF := hidOf hF; simp only at s0 s1 s2; clear hF ho7 hb7))) | fail
            all_goals go_wp2
            all_goals refine bodyPost_ret (v := .tuple #[.agg #[.int .i64 (x.ct - n), .slice none 0 0, .slice a3 (A1.n' + A.n) c3], .slice (some ⟨g7, 0, none⟩) A.n c7, .int .i64 0]) (by simp [results, Try.results62, go_sem, r0, r1, r2]) rfl ?_
            all_goals rw [HR0.out]
            all_goals exact ⟨⟨none, 0, 0, a3, A1.n' + A.n, c3⟩, some ⟨g7, 0, none⟩, A.n, c7, rfl, HF.out.1.1, HF.out.1.2.1, HF.out.1.2.2.1, HF.out.2, HF.out.1.2.2.2⟩
        · have h3' : (n == x.ct) = false := by simp [h3]
          have hp : (0 : Int) < x.ct - n := by omega
          have hS2 := HS.out.setc (y := { x with ct := x.ct - n }) 0 (.int .i64 (x.ct - n)) (HS.out.box.set0 (v := x.ct - n)) rfl rfl
          have hC2 := HC.out.keep (B := w.heap.size + 2) (bl_set1 (Below.refl _ _) N 0 HS.out.ge (.int .i64 (x.ct - n))) (Nat.le_refl _)
          obtain ⟨_, v0, v1, v2, vf⟩ := id hS2.box
          have HR0 := hidOf (show countM x n = ({ x with ct := x.ct - n }, [], 0) by unfold countM; rw [if_neg hn1, if_neg h2, if_neg (fun h => h3 h.1), if_pos hp])
          have HC2 := hidOf hC2
          have HS2 := hidOf hS2
          clear HC HS hC2 hS2 hn1 h3
          have HC := HC2
          have HS := HS2
          clear HC2 HS2
          simp only at v0 v1 v2
          obtain ⟨_, r0, r1, r2, rf⟩ := id HC.out.box1
          have HF := hidOf (lst_fin (A' := A1) (y := { x with ct := x.ct - n }) HC.out HS.out.rows)
          have HR := hidOf (HR0.out)
          clear HC HS HR0
          go_wp2
          refine bodyPost_ret (v := .tuple #[.agg #[.int .i64 (x.ct - n), .slice A1.a A1.n A1.c, .slice A1.a' A1.n' A1.c'], .slice none 0 0, .int .i64 0]) (by simp [results, Try.results62, go_sem, r0, r1, r2]) rfl ?_
          rw [HR.out]
          exact ⟨A1, none, 0, 0, rfl, HF.out.1, HF.out.2.1, ⟨⟨rfl, .inl rfl⟩, .inl rfl⟩, .inl rfl, HF.out.2.2⟩
end Go.Proofs.Ytbhdjcggcgddfaa
