/-
  Walks of the specification's events: a raising is given on.
-/
import Derived.Test.YtbhdjcggcgddfaaSpE
import Derived.Test.YtbhdjcggcgddfaaMrg4
import Derived.Deep.RegionWith
namespace Go.Proofs.Ytbhdjcggcgddfaa
open Go.RowKit Pl Il

/-- An event is handed back, and a list apart from it. -/
def PassQ (B : Nat) (w : World) (y : Et) (l : List Int) (e : Ending) (w' : World) : Prop :=
  ∃ (A' : Na) (a : Option Addr) (m c : Nat), e = .returned (.tuple #[.agg #[.bool y.au, .bool y.up, .slice A'.a A'.n A'.c, .slice A'.a' A'.n' A'.c', .int .i64 y.st, .int .i64 y.sp, .int .i64 y.tk], .slice a m c]) ∧ Rows2 B w' A' y.ln y.gs ∧ Il.OwnAt B w' a m l ∧ Apart3 A'.a A'.n A'.a' A'.n' a m ∧ Below B w w'
theorem pass_end {B M : Nat} {w V : World} {A2 : Na} {ln gs : List Int} {y : Int} (hR : Rows2 B V A2 ln gs) (h1 : (Value.slice A2.a A2.n A2.c).ownBlock ≠ some M) (h2 : (Value.slice A2.a' A2.n' A2.c').ownBlock ≠ some M) (hM : M < V.heap.size) (hBM : B ≤ M) (hb : Below B w V) (y0 y1 y2 y3 y4 y5 y6 : Value) :
    Rows2 B ((((((((V.alloc (.cells #[.int .i64 y] 3)).setCell ⟨M, 0, none⟩ y0).setCell ⟨M, 1, none⟩ y1).setCell ⟨M, 2, none⟩ y2).setCell ⟨M, 3, none⟩ y3).setCell ⟨M, 4, none⟩ y4).setCell ⟨M, 5, none⟩ y5).setCell ⟨M, 6, none⟩ y6) A2 ln gs ∧ Il.OwnAt B ((((((((V.alloc (.cells #[.int .i64 y] 3)).setCell ⟨M, 0, none⟩ y0).setCell ⟨M, 1, none⟩ y1).setCell ⟨M, 2, none⟩ y2).setCell ⟨M, 3, none⟩ y3).setCell ⟨M, 4, none⟩ y4).setCell ⟨M, 5, none⟩ y5).setCell ⟨M, 6, none⟩ y6) (some ⟨V.heap.size, 0, none⟩) 1 [y] ∧ Apart3 A2.a A2.n A2.a' A2.n' (some ⟨V.heap.size, 0, none⟩) 1 ∧ Below B w ((((((((V.alloc (.cells #[.int .i64 y] 3)).setCell ⟨M, 0, none⟩ y0).setCell ⟨M, 1, none⟩ y1).setCell ⟨M, 2, none⟩ y2).setCell ⟨M, 3, none⟩ y3).setCell ⟨M, 4, none⟩ y4).setCell ⟨M, 5, none⟩ y5).setCell ⟨M, 6, none⟩ y6) := by
  have hB : B ≤ V.heap.size := by omega
  have hR1 := hR.keep (bl_alloc (Below.refl V.heap.size V) (.cells #[.int .i64 y] 3))
  have hO : Il.OwnAt V.heap.size (V.alloc (.cells #[.int .i64 y] 3)) (some ⟨V.heap.size, 0, none⟩) 1 [y] :=
    ⟨⟨rfl, .inr ⟨V.heap.size, 0, rfl, by simp, fun i hi => by obtain rfl : i = 0 := by omega
                                                              simp⟩⟩, .inr ⟨V.heap.size, 0, rfl, Nat.le_refl _, fun i hi => by simp [go_sem]⟩⟩
  refine ⟨(((((((hR1).set M 0 h1 h2 y0).set M 1 h1 h2 y1).set M 2 h1 h2 y2).set M 3 h1 h2 y3).set M 4 h1 h2 y4).set M 5 h1 h2 y5).set M 6 h1 h2 y6, ((((((((hO).far M 0 hM y0).far M 1 hM y1).far M 2 hM y2).far M 3 hM y3).far M 4 hM y4).far M 5 hM y5).far M 6 hM y6).mono hB, .inr fun b off e => ⟨.inr fun b' off' e' hbb => ?_, .inr fun b' off' e' hbb => ?_⟩, bl_set1 (bl_set1 (bl_set1 (bl_set1 (bl_set1 (bl_set1 (bl_set1 ((hb.alloc hB _)) M 0 hBM y0) M 1 hBM y1) M 2 hBM y2) M 3 hBM y3) M 4 hBM y4) M 5 hBM y5) M 6 hBM y6⟩
  · cases e
    have := (hR.one.lt b' (by rw [e']; rfl)).2
    omega
  · cases e
    have := (hR.two.lt b' (by rw [e']; rfl)).2
    omega
theorem l6Pass_nilf (B : Nat) (A : Na) (au : Bool) (gs : List Int) (st sp tk : Int) (w : World) (hR : Rows2 B w A [] gs) (hB : B ≤ w.heap.size) (_hsp : 0 ≤ sp ∧ sp ≤ 1000000000) :
    Calls Try.prog 107 #[.agg #[.bool au, .bool false, .slice A.a A.n A.c, .slice A.a' A.n' A.c', .int .i64 st, .int .i64 sp, .int .i64 tk]] w fun e w' => PassQ B w ⟨au, true, [], gs, st, sp, tk⟩ [] e w' := by
  have hn0 : A.n = 0 := by have := hR.len.1; simpa using this.symm
  have h0 : ¬ (0 : Int) < (A.n : Int) := by omega
  have hb : Below w.heap.size w (((w.alloc (.cells #[.bool au, .bool true, .slice A.a A.n A.c, .slice A.a' A.n' A.c', .int .i64 st, .int .i64 sp, .int .i64 tk] 46)).alloc (.cells #[.bool au, .bool true, .slice A.a A.n A.c, .slice A.a' A.n' A.c', .int .i64 st, .int .i64 sp, .int .i64 tk] 46)).alloc (.cells #[] 3)) := bl_alloc (bl_alloc (bl_alloc (Below.refl _ _) _) _) _
  have HF := hidOf (And.intro (hR.keep hb) (hb.mono hB))
  clear hn0 hR hb
  go_enter Try.func107, Try.ntmps107
  go_wp2
  refine bodyPost_ret (v := .tuple #[.agg #[.bool au, .bool true, .slice A.a A.n A.c, .slice A.a' A.n' A.c', .int .i64 st, .int .i64 sp, .int .i64 tk], .slice (some ⟨w.heap.size + 1 + 1, 0, none⟩) 0 0]) (by simp [results, Try.results107, go_sem]) rfl ?_
  exact ⟨A, _, 0, 0, rfl, HF.out.1, ⟨⟨rfl, .inl rfl⟩, .inl rfl⟩, .inl rfl, HF.out.2⟩
theorem l6Pass_nilt (B : Nat) (A : Na) (au : Bool) (gs : List Int) (st sp tk : Int) (w : World) (hR : Rows2 B w A [] gs) (hB : B ≤ w.heap.size) (hsp : 0 ≤ sp ∧ sp ≤ 1000000000) :
    Calls Try.prog 107 #[.agg #[.bool au, .bool true, .slice A.a A.n A.c, .slice A.a' A.n' A.c', .int .i64 st, .int .i64 sp, .int .i64 tk]] w fun e w' => PassQ B w ⟨au, true, [], gs, st, sp + 1, tk⟩ [] e w' := by
  have hn0 : A.n = 0 := by have := hR.len.1; simpa using this.symm
  have h0 : ¬ (0 : Int) < (A.n : Int) := by omega
  have hb : Below w.heap.size w (((w.alloc (.cells #[.bool au, .bool true, .slice A.a A.n A.c, .slice A.a' A.n' A.c', .int .i64 st, .int .i64 (sp + 1), .int .i64 tk] 46)).alloc (.cells #[.bool au, .bool true, .slice A.a A.n A.c, .slice A.a' A.n' A.c', .int .i64 st, .int .i64 (sp + 1), .int .i64 tk] 46)).alloc (.cells #[] 3)) := bl_alloc (bl_alloc (bl_alloc (Below.refl _ _) _) _) _
  have HF := hidOf (And.intro (hR.keep hb) (hb.mono hB))
  clear hn0 hR hb
  go_enter Try.func107, Try.ntmps107
  go_wp2
  refine bodyPost_ret (v := .tuple #[.agg #[.bool au, .bool true, .slice A.a A.n A.c, .slice A.a' A.n' A.c', .int .i64 st, .int .i64 (sp + 1), .int .i64 tk], .slice (some ⟨w.heap.size + 1 + 1, 0, none⟩) 0 0]) (by simp [results, Try.results107, go_sem]) rfl ?_
  exact ⟨A, _, 0, 0, rfl, HF.out.1, ⟨⟨rfl, .inl rfl⟩, .inl rfl⟩, .inl rfl, HF.out.2⟩
set_option maxRecDepth 100000 in
set_option maxHeartbeats 2000000 in
theorem l6Pass_cons0 (B ga n c : Nat) (a' : Option Addr) (n' c' : Nat) (au up : Bool) (y : Int) (r gs : List Int) (st sp tk : Int) (w : World) (hR : Rows2 B w (⟨some ⟨ga, 0, none⟩, n, c, a', n', c'⟩ : Na) (y :: r) gs) (hB : B ≤ w.heap.size) (hn : n ≤ 2097152) (hn' : n' ≤ 2097152) :
    Calls Try.prog 107 #[.agg #[.bool au, .bool up, .slice (some ⟨ga, 0, none⟩) n c, .slice a' n' c', .int .i64 st, .int .i64 sp, .int .i64 tk]] w fun e w' => PassQ B w ⟨au, up, r, gs ++ [y], st, sp, tk⟩ [y] e w' := by
  have hl := hR.len.1
  have hp0 : 0 < n := by simp at hl; omega
  have hp : (0 : Int) < (n : Int) := by omega
  have hgl : ga < w.heap.size := (hR.one.lt ga rfl).2
  have hok := hR.ok.1
  simp only at hok
  have hcell : ∀ i, i < n → w.cell? ⟨ga, i, none⟩ = some (.int .i64 ((y :: r).getD i 0)) := by
    rcases (row_own hR.one).1.ints.row with h | ⟨b, off, e, _, hc⟩
    · simp only at h; omega
    · cases e; intro i hi; have := hc i hi; simpa using this
  have hI : IntsAt w (some ⟨ga, 0, none⟩) n (y :: r) := (row_own hR.one).1.ints
  generalize hW0 : w.alloc (.cells #[.bool au, .bool up, .slice (some ⟨ga, 0, none⟩) n c, .slice a' n' c', .int .i64 st, .int .i64 sp, .int .i64 tk] 46) = W0
  generalize hW1 : W0.alloc (.cells #[.bool false, .bool false, .slice none 0 0, .slice none 0 0, .int .i64 0, .int .i64 0, .int .i64 0] 46) = W1
  have b0 : Below w.heap.size w W0 := by subst hW0; exact bl_alloc (Below.refl _ _) _
  have b1 : Below w.heap.size w W1 := by subst hW1; exact bl_alloc b0 _
  have s0 : W0.heap.size = w.heap.size + 1 := by subst hW0; simp
  have s1 : W1.heap.size = w.heap.size + 2 := by subst hW1; simp [s0]
  have x0 : EBox w.heap.size (⟨some ⟨ga, 0, none⟩, n, c, a', n', c'⟩ : Na) ⟨au, up, y :: r, gs, st, sp, tk⟩ W1 := by subst hW1 hW0; exact (EBox.new w (⟨some ⟨ga, 0, none⟩, n, c, a', n', c'⟩ : Na) ⟨au, up, y :: r, gs, st, sp, tk⟩ _).alloc _
  have x1 : EBox (w.heap.size + 1) Na.zero Et.zero W1 := by subst hW1; rw [← s0]; exact EBox.newZ W0 _
  have k0 : W1.cell? ⟨ga, 0, none⟩ = some (.int .i64 y) := by rw [b1.cell (p := ⟨ga, 0, none⟩) hgl]; simpa using hcell 0 hp0
  have hI1 := ((hI.drop 1 hp0).keep b1)
  simp only [List.drop_succ_cons, List.drop_zero, Nat.zero_add] at hI1
  obtain ⟨_, p0, p1, p2, p3, p4, p5, p6, _⟩ := id x0
  simp only at p0 p1 p2 p3 p4 p5 p6
  have HI1 := hidOf hI1
  have HR := hidOf hR
  have X0 := hidOf x0
  have X1 := hidOf x1
  have HB := hidOf b1
  have S1 := hidOf s1
  clear hR hI hI1 x0 x1 b0 b1 s0 s1 hcell hl
  subst hW1 hW0
  have hm1 : (1 : Int) ≤ (n : Int) := by omega
  have hm3 : (1 : Int) ≤ (c : Int) := by omega
  have hm5 : (n : Int) ≤ (c : Int) := by omega
  have hm2 : ¬ (n : Int) < 1 := by omega
  by_cases hc1 : c = 1
  · have hn1 : n = 1 := by omega
    have hr0 : r = [] := by have h := HR.out.len.1; simp only [List.length_cons] at h; exact List.length_eq_zero_iff.1 (by omega)
    subst hn1 hc1 hr0
    go_enter Try.func107, Try.ntmps107
    go_wp2_with fail
    refine (l2Copy_any _ 0 _ [] _ (IntsAt.nil _ _) (by omega)).mono ?_
    rintro e w1 ⟨g1, c1, rfl, ho1, hb1⟩
    rw [S1.out] at ho1
    have x0 := X0.out.keep hb1
    have x1 := X1.out.keep hb1
    have hB1 := bl_trans HB.out hb1
    have y0 := x0.set2 (a := some ⟨g1, 0, none⟩) (n := 0) (c := c1)
    have y1 := x1.far w.heap.size 2 (by omega) (.slice (some ⟨g1, 0, none⟩) (0) c1)
    have hg1 := (owns_parts ho1).2.1
    have htw := HR.out.two.lt
    have hnw : (Value.slice a' n' c').ownBlock ≠ some w.heap.size := fun e => by have := (htw _ e).2; omega
    have ho2 := row_set (B := w.heap.size + 2) ho1 w.heap.size 2 (fun e => by have e' : g1 = w.heap.size := by simpa [Value.ownBlock] using e
                                                                              omega) (.slice (some ⟨g1, 0, none⟩) (0) c1)
    have hr2 := row_set (row_below HR.out.two hB1) w.heap.size 2 hnw (.slice (some ⟨g1, 0, none⟩) (0) c1)
    have hB2 := bl_set1 hB1 w.heap.size 2 (Nat.le_refl _) (.slice (some ⟨g1, 0, none⟩) (0) c1)
    generalize hU : w1.setCell ⟨w.heap.size, 2, none⟩ (.slice (some ⟨g1, 0, none⟩) (0) c1) = U at y0 y1 ho2 hr2 hB2
    have hsz := y1.lt
    obtain ⟨g', cq, w', hr, ho', hg, hl⟩ := append_own1 B n' _ gs y U hr2 (by have := hB2.size; omega) (by omega)
    have hs' := hg.size
    have z0 : EBox w.heap.size _ _ w' := y0.grownO hg hnw
    have z1 : EBox (w.heap.size + 1) _ _ w' := y1.grownO hg (fun e => by have := (htw _ e).2; omega)
    have bv0 := z0.set3 (a := some ⟨g', 0, none⟩) (n := n' + 1) (c := cq)
    have bv1 := z1.far w.heap.size 3 (by omega) (.slice (some ⟨g', 0, none⟩) (n' + 1) cq)
    have hlg : g' < w.heap.size ∨ U.heap.size ≤ g' := by
      rcases hl with h | h
      · exact .inl (htw _ h).2
      · exact .inr h
    have ho3 : w'.ownsRow (w.heap.size + 2) 3 1 (.slice (some ⟨g1, 0, none⟩) (0) c1) (0) (intsV []) := row_grown ho2 hg (fun q e e2 => by
      have h1 := (htw _ e).2
      have e' : g1 = q := by simpa [Value.ownBlock] using e2
      omega)
    have hlt1 : g1 < U.heap.size := (ho2.lt g1 rfl).2
    have ho4 := row_set ho3 w.heap.size 3 (fun e => by have e' : g1 = w.heap.size := by simpa [Value.ownBlock] using e
                                                       omega) (.slice (some ⟨g', 0, none⟩) (n' + 1) cq)
    have hq4 := row_set ho' w.heap.size 3 (fun e => by have e' : g' = w.heap.size := by simpa [Value.ownBlock] using e
                                                       omega) (.slice (some ⟨g', 0, none⟩) (n' + 1) cq)
    have hB4 : Below B w (w'.setCell ⟨w.heap.size, 3, none⟩ (.slice (some ⟨g', 0, none⟩) (n' + 1) cq)) := bl_set1 ((hB2.mono hB).grown hg (by have := hB2.size; omega) (fun q e => (HR.out.two.lt q e).1)) w.heap.size 3 hB _
    have hRw : Rows2 B (w'.setCell ⟨w.heap.size, 3, none⟩ (.slice (some ⟨g', 0, none⟩) (n' + 1) cq)) ⟨some ⟨g1, 0, none⟩, 0, c1, some ⟨g', 0, none⟩, n' + 1, cq⟩ [] (gs ++ [y]) := ⟨row_mono ho4 (by omega), hq4, fun q e e2 => by
      have e1 : g1 = q := by simpa [Value.ownBlock] using e
      have e3 : g' = q := by simpa [Value.ownBlock] using e2
      omega⟩
    obtain ⟨_, p0, p1, p2, p3, p4, p5, p6, pf⟩ := id x0
    obtain ⟨_, q0, q1, q2, q3, q4, q5, q6, qf⟩ := id y0
    obtain ⟨_, t0, t1, t2, t3, t4, t5, t6, tf⟩ := id z0
    obtain ⟨_, v0, v1, v2, v3, v4, v5, v6, vf⟩ := id bv0
    obtain ⟨_, r0, r1, r2, r3, r4, r5, r6, rf⟩ := bv1.alloc (.cells #[.int .i64 y] 3)
    obtain ⟨_, vz0, vz1, vz2, vz3, vz4, vz5, vz6, _⟩ := bv0.alloc (.cells #[.int .i64 y] 3)
    simp only at p0 p1 p2 p3 p4 p5 p6 q0 q1 q2 q3 q4 q5 q6 t0 t1 t2 t3 t4 t5 t6 v0 v1 v2 v3 v4 v5 v6 vz0 vz1 vz2 vz3 vz4 vz5 vz6
    have dq : ∀ o, (U.alloc o).cell? ⟨w.heap.size, 3, none⟩ = some (.slice a' n' c') := fun o => by rw [World.cell?_alloc_old _ _ _ (Nat.ne_of_lt (World.block_lt_of_cell? U _ q3))]; exact q3
    have HE := hidOf (pass_end (M := w.heap.size + 1) (y := y) hRw (fun e => by have e' : g1 = w.heap.size + 1 := by simpa [Value.ownBlock] using e
                                                                                omega) (fun e => by have e' : g' = w.heap.size + 1 := by simpa [Value.ownBlock] using e
                                                                                                    omega) bv1.lt (by omega) hB4 (.bool au) (.bool up) (.slice (some ⟨g1, 0, none⟩) (0) c1) (.slice (some ⟨g', 0, none⟩) (n' + 1) cq) (.int .i64 st) (.int .i64 sp) (.int .i64 tk))
    have hsv : (w'.setCell ⟨w.heap.size, 3, none⟩ (.slice (some ⟨g', 0, none⟩) (n' + 1) cq)).heap.size = w'.heap.size := by simp
    have Hr := hidOf hr
    have hlz := bv1.lt
    clear ho1 hB1 hb1 x0 x1 X0 X1 HB y0 y1 hr2 ho2 hB2 hr ho' hg hl z0 z1 bv0 bv1 hlg ho3 ho4 hq4 hB4 hRw htw hnw HR S1 hs'
    go_wp2_with (at_builtin; refine wpList_append_run rfl _ _ 24 rfl _ _ _ rfl rfl Hr.out ?_)
    refine bodyPost_ret (v := .tuple #[.agg #[.bool au, .bool up, .slice (some ⟨g1, 0, none⟩) (0) c1, .slice (some ⟨g', 0, none⟩) (n' + 1) cq, .int .i64 st, .int .i64 sp, .int .i64 tk], .slice (some ⟨w'.heap.size, 0, none⟩) 1 1]) (by simp [results, Try.results107, go_sem, r0, r1, r2, r3, r4, r5, r6]) rfl ?_
    rw [hsv] at HE
    exact ⟨⟨some ⟨g1, 0, none⟩, 0, c1, some ⟨g', 0, none⟩, n' + 1, cq⟩, _, 1, 1, rfl, HE.out.1, HE.out.2.1, HE.out.2.2.1, HE.out.2.2.2⟩
  · have hcm : ¬ c = 1 := hc1
    have hcm' : ¬ 1 = c := by omega
    go_enter Try.func107, Try.ntmps107
    go_wp2_with fail
    refine (l2Copy_any (some ⟨ga, 1, none⟩) (n - 1) (c - 1) r _ HI1.out (by omega)).mono ?_
    rintro e w1 ⟨g1, c1, rfl, ho1, hb1⟩
    rw [S1.out] at ho1
    have x0 := X0.out.keep hb1
    have x1 := X1.out.keep hb1
    have hB1 := bl_trans HB.out hb1
    have y0 := x0.set2 (a := some ⟨g1, 0, none⟩) (n := n - 1) (c := c1)
    have y1 := x1.far w.heap.size 2 (by omega) (.slice (some ⟨g1, 0, none⟩) (n - 1) c1)
    have hg1 := (owns_parts ho1).2.1
    have htw := HR.out.two.lt
    have hnw : (Value.slice a' n' c').ownBlock ≠ some w.heap.size := fun e => by have := (htw _ e).2; omega
    have ho2 := row_set (B := w.heap.size + 2) ho1 w.heap.size 2 (fun e => by have e' : g1 = w.heap.size := by simpa [Value.ownBlock] using e
                                                                              omega) (.slice (some ⟨g1, 0, none⟩) (n - 1) c1)
    have hr2 := row_set (row_below HR.out.two hB1) w.heap.size 2 hnw (.slice (some ⟨g1, 0, none⟩) (n - 1) c1)
    have hB2 := bl_set1 hB1 w.heap.size 2 (Nat.le_refl _) (.slice (some ⟨g1, 0, none⟩) (n - 1) c1)
    generalize hU : w1.setCell ⟨w.heap.size, 2, none⟩ (.slice (some ⟨g1, 0, none⟩) (n - 1) c1) = U at y0 y1 ho2 hr2 hB2
    have hsz := y1.lt
    obtain ⟨g', cq, w', hr, ho', hg, hl⟩ := append_own1 B n' _ gs y U hr2 (by have := hB2.size; omega) (by omega)
    have hs' := hg.size
    have z0 : EBox w.heap.size _ _ w' := y0.grownO hg hnw
    have z1 : EBox (w.heap.size + 1) _ _ w' := y1.grownO hg (fun e => by have := (htw _ e).2; omega)
    have bv0 := z0.set3 (a := some ⟨g', 0, none⟩) (n := n' + 1) (c := cq)
    have bv1 := z1.far w.heap.size 3 (by omega) (.slice (some ⟨g', 0, none⟩) (n' + 1) cq)
    have hlg : g' < w.heap.size ∨ U.heap.size ≤ g' := by
      rcases hl with h | h
      · exact .inl (htw _ h).2
      · exact .inr h
    have ho3 : w'.ownsRow (w.heap.size + 2) 3 1 (.slice (some ⟨g1, 0, none⟩) (n - 1) c1) (n - 1) (intsV r) := row_grown ho2 hg (fun q e e2 => by
      have h1 := (htw _ e).2
      have e' : g1 = q := by simpa [Value.ownBlock] using e2
      omega)
    have hlt1 : g1 < U.heap.size := (ho2.lt g1 rfl).2
    have ho4 := row_set ho3 w.heap.size 3 (fun e => by have e' : g1 = w.heap.size := by simpa [Value.ownBlock] using e
                                                       omega) (.slice (some ⟨g', 0, none⟩) (n' + 1) cq)
    have hq4 := row_set ho' w.heap.size 3 (fun e => by have e' : g' = w.heap.size := by simpa [Value.ownBlock] using e
                                                       omega) (.slice (some ⟨g', 0, none⟩) (n' + 1) cq)
    have hB4 : Below B w (w'.setCell ⟨w.heap.size, 3, none⟩ (.slice (some ⟨g', 0, none⟩) (n' + 1) cq)) := bl_set1 ((hB2.mono hB).grown hg (by have := hB2.size; omega) (fun q e => (HR.out.two.lt q e).1)) w.heap.size 3 hB _
    have hRw : Rows2 B (w'.setCell ⟨w.heap.size, 3, none⟩ (.slice (some ⟨g', 0, none⟩) (n' + 1) cq)) ⟨some ⟨g1, 0, none⟩, n - 1, c1, some ⟨g', 0, none⟩, n' + 1, cq⟩ r (gs ++ [y]) := ⟨row_mono ho4 (by omega), hq4, fun q e e2 => by
      have e1 : g1 = q := by simpa [Value.ownBlock] using e
      have e3 : g' = q := by simpa [Value.ownBlock] using e2
      omega⟩
    obtain ⟨_, p0, p1, p2, p3, p4, p5, p6, pf⟩ := id x0
    obtain ⟨_, q0, q1, q2, q3, q4, q5, q6, qf⟩ := id y0
    obtain ⟨_, t0, t1, t2, t3, t4, t5, t6, tf⟩ := id z0
    obtain ⟨_, v0, v1, v2, v3, v4, v5, v6, vf⟩ := id bv0
    obtain ⟨_, r0, r1, r2, r3, r4, r5, r6, rf⟩ := bv1.alloc (.cells #[.int .i64 y] 3)
    obtain ⟨_, vz0, vz1, vz2, vz3, vz4, vz5, vz6, _⟩ := bv0.alloc (.cells #[.int .i64 y] 3)
    simp only at p0 p1 p2 p3 p4 p5 p6 q0 q1 q2 q3 q4 q5 q6 t0 t1 t2 t3 t4 t5 t6 v0 v1 v2 v3 v4 v5 v6 vz0 vz1 vz2 vz3 vz4 vz5 vz6
    have dq : ∀ o, (U.alloc o).cell? ⟨w.heap.size, 3, none⟩ = some (.slice a' n' c') := fun o => by rw [World.cell?_alloc_old _ _ _ (Nat.ne_of_lt (World.block_lt_of_cell? U _ q3))]; exact q3
    have HE := hidOf (pass_end (M := w.heap.size + 1) (y := y) hRw (fun e => by have e' : g1 = w.heap.size + 1 := by simpa [Value.ownBlock] using e
                                                                                omega) (fun e => by have e' : g' = w.heap.size + 1 := by simpa [Value.ownBlock] using e
                                                                                                    omega) bv1.lt (by omega) hB4 (.bool au) (.bool up) (.slice (some ⟨g1, 0, none⟩) (n - 1) c1) (.slice (some ⟨g', 0, none⟩) (n' + 1) cq) (.int .i64 st) (.int .i64 sp) (.int .i64 tk))
    have hsv : (w'.setCell ⟨w.heap.size, 3, none⟩ (.slice (some ⟨g', 0, none⟩) (n' + 1) cq)).heap.size = w'.heap.size := by simp
    have Hr := hidOf hr
    have hlz := bv1.lt
    clear ho1 hB1 hb1 x0 x1 X0 X1 HB y0 y1 hr2 ho2 hB2 hr ho' hg hl z0 z1 bv0 bv1 hlg ho3 ho4 hq4 hB4 hRw htw hnw HR S1 hs'
    go_wp2_with (at_builtin; refine wpList_append_run rfl _ _ 24 rfl _ _ _ rfl rfl Hr.out ?_)
    refine bodyPost_ret (v := .tuple #[.agg #[.bool au, .bool up, .slice (some ⟨g1, 0, none⟩) (n - 1) c1, .slice (some ⟨g', 0, none⟩) (n' + 1) cq, .int .i64 st, .int .i64 sp, .int .i64 tk], .slice (some ⟨w'.heap.size, 0, none⟩) 1 1]) (by simp [results, Try.results107, go_sem, r0, r1, r2, r3, r4, r5, r6]) rfl ?_
    rw [hsv] at HE
    exact ⟨⟨some ⟨g1, 0, none⟩, n - 1, c1, some ⟨g', 0, none⟩, n' + 1, cq⟩, _, 1, 1, rfl, HE.out.1, HE.out.2.1, HE.out.2.2.1, HE.out.2.2.2⟩
theorem l6Pass_any (B : Nat) (A : Na) (x : Et) (w : World) (hR : Rows2 B w A x.ln x.gs) (hB : B ≤ w.heap.size) (hn : A.n ≤ 2097152) (hn' : A.n' ≤ 2097152) (hsp : 0 ≤ x.sp ∧ x.sp ≤ 1000000000) :
    Calls Try.prog 107 #[.agg #[.bool x.au, .bool x.up, .slice A.a A.n A.c, .slice A.a' A.n' A.c', .int .i64 x.st, .int .i64 x.sp, .int .i64 x.tk]] w fun e w' => PassQ B w (passE x).1 (passE x).2 e w' := by
  obtain ⟨au, up, ln, gs, st, sp, tk⟩ := x
  cases ln with
  | nil =>
    cases up
    · exact l6Pass_nilf B A au gs st sp tk w hR hB hsp
    · exact l6Pass_nilt B A au gs st sp tk w hR hB hsp
  | cons y r =>
    have hl := hR.len.1
    have hp0 : 0 < A.n := by simp at hl; omega
    obtain ⟨ga, ca, hva, _, _⟩ := hR.one.form hp0
    obtain ⟨a, n, c, a', n', c'⟩ := A
    simp only at hva
    injection hva with h1 _ h3
    subst h1 h3
    exact l6Pass_cons0 B ga n c a' n' c' au up y r gs st sp tk w hR hB hn hn'
end Go.Proofs.Ytbhdjcggcgddfaa
