/-
  Walks of the specification's notifications: a telling of one is given 
-/
import Derived.Test.YtfgknbflgmblmaaZPq4
namespace Go.Proofs.Ytfgknbflgmblmaa
open Go.RowKit Pl Il
/-- A notification is handed back in rows of its own, and a number. -/
def NPassQ (B : Nat) (w : World) (y : Nt) (t : Int) (e : Ending) (w' : World) : Prop :=
  ∃ A' : Na, e = .returned (.tuple #[.agg #[.bool y.pm, .slice A'.a A'.n A'.c, .slice A'.a' A'.n' A'.c', .int .i64 y.on, .int .i64 y.sp, .int .i64 y.tk], .int .i64 t]) ∧ NRow B w' A' y ∧ Below B w w'
theorem grow_far {B s : Nat} {w w' : World} {v : Value} {n : Nat} {t : TypeId} {xs : List Value} {g : Option Nat} (h : w.ownsRow B t s v n xs) (hg : w.grownBy w' g) (hne : ∀ q, g = some q → v.ownBlock ≠ some q) : w'.ownsRow B t s v n xs := by
  refine h.kept (row := g) hg ?_
  cases e : g with
  | none => 
    cases e2 : v.ownBlock with
    | none => exact .inl rfl
    | some q => exact .inr (by simp)
  | some q => 
    cases e2 : v.ownBlock with
    | none => exact .inl rfl
    | some q2 => exact .inr (fun e' => hne q e (by rw [e2, e']))
theorem one_end {B M : Nat} {w V : World} {A2 : Na} {x : Nt} (hR : NRow B V A2 x) (h1 : (Value.slice A2.a A2.n A2.c).ownBlock ≠ some M) (h2 : (Value.slice A2.a' A2.n' A2.c').ownBlock ≠ some M) (hBM : B ≤ M) (hb : Below B w V) (y0 y1 y2 y3 y4 y5 : Value) :
    NRow B ((((((V.setCell ⟨M, 0, none⟩ y0).setCell ⟨M, 1, none⟩ y1).setCell ⟨M, 2, none⟩ y2).setCell ⟨M, 3, none⟩ y3).setCell ⟨M, 4, none⟩ y4).setCell ⟨M, 5, none⟩ y5) A2 x ∧ Below B w ((((((V.setCell ⟨M, 0, none⟩ y0).setCell ⟨M, 1, none⟩ y1).setCell ⟨M, 2, none⟩ y2).setCell ⟨M, 3, none⟩ y3).setCell ⟨M, 4, none⟩ y4).setCell ⟨M, 5, none⟩ y5) :=
  ⟨⟨own_set (own_set (own_set (own_set (own_set (own_set hR.one M 0 h1 y0) M 1 h1 y1) M 2 h1 y2) M 3 h1 y3) M 4 h1 y4) M 5 h1 y5,
    own_set (own_set (own_set (own_set (own_set (own_set hR.two M 0 h2 y0) M 1 h2 y1) M 2 h2 y2) M 3 h2 y3) M 4 h2 y4) M 5 h2 y5⟩, bl_set6' hb M hBM _ _ _ _ _ _⟩
theorem l5One_nilf (B : Nat) (A : Na) (gs : List (Int × Bool)) (on sp tk : Int) (w : World) (hR : NRow B w A ⟨false, [], gs, on, sp, tk⟩) (hB : B ≤ w.heap.size) (_hsp : 0 ≤ sp ∧ sp ≤ 1000000000) :
    Calls Try.prog 53 #[.agg #[.bool false, .slice A.a A.n A.c, .slice A.a' A.n' A.c', .int .i64 on, .int .i64 sp, .int .i64 tk]] w fun e w' => NPassQ B w ⟨true, [], gs, on, sp, tk⟩ (-1) e w' := by
  have hn0 : A.n = 0 := by have := hR.own.one.ints.len; simpa using this.symm
  have h0 : ¬ (0 : Int) < (A.n : Int) := by omega
  have hb : Below w.heap.size w ((w.alloc (.cells #[.bool true, .slice A.a A.n A.c, .slice A.a' A.n' A.c', .int .i64 on, .int .i64 sp, .int .i64 tk] 27)).alloc (.cells #[.bool true, .slice A.a A.n A.c, .slice A.a' A.n' A.c', .int .i64 on, .int .i64 sp, .int .i64 tk] 27)) := bl_alloc (bl_alloc (Below.refl _ _) _) _
  have HF := hidOf (And.intro (hR.keep hb) (hb.mono hB))
  clear hn0 hR hb
  go_enter Try.func53, Try.ntmps53
  go_wp2
  refine bodyPost_ret (v := .tuple #[.agg #[.bool true, .slice A.a A.n A.c, .slice A.a' A.n' A.c', .int .i64 on, .int .i64 sp, .int .i64 tk], .int .i64 (-1)]) (by simp [results, Try.results53, go_sem]) rfl ?_
  exact ⟨A, rfl, ⟨HF.out.1.one, HF.out.1.two⟩, HF.out.2⟩
theorem l5One_nilt (B : Nat) (A : Na) (gs : List (Int × Bool)) (on sp tk : Int) (w : World) (hR : NRow B w A ⟨true, [], gs, on, sp, tk⟩) (hB : B ≤ w.heap.size) (hsp : 0 ≤ sp ∧ sp ≤ 1000000000) :
    Calls Try.prog 53 #[.agg #[.bool true, .slice A.a A.n A.c, .slice A.a' A.n' A.c', .int .i64 on, .int .i64 sp, .int .i64 tk]] w fun e w' => NPassQ B w ⟨true, [], gs, on, sp + 1, tk⟩ (-1) e w' := by
  have hn0 : A.n = 0 := by have := hR.own.one.ints.len; simpa using this.symm
  have h0 : ¬ (0 : Int) < (A.n : Int) := by omega
  have hb : Below w.heap.size w ((w.alloc (.cells #[.bool true, .slice A.a A.n A.c, .slice A.a' A.n' A.c', .int .i64 on, .int .i64 (sp + 1), .int .i64 tk] 27)).alloc (.cells #[.bool true, .slice A.a A.n A.c, .slice A.a' A.n' A.c', .int .i64 on, .int .i64 (sp + 1), .int .i64 tk] 27)) := bl_alloc (bl_alloc (Below.refl _ _) _) _
  have HF := hidOf (And.intro (hR.keep hb) (hb.mono hB))
  clear hn0 hR hb
  go_enter Try.func53, Try.ntmps53
  go_wp2
  refine bodyPost_ret (v := .tuple #[.agg #[.bool true, .slice A.a A.n A.c, .slice A.a' A.n' A.c', .int .i64 on, .int .i64 (sp + 1), .int .i64 tk], .int .i64 (-1)]) (by simp [results, Try.results53, go_sem]) rfl ?_
  exact ⟨A, rfl, ⟨HF.out.1.one, HF.out.1.two⟩, HF.out.2⟩
set_option maxRecDepth 100000 in
set_option maxHeartbeats 2000000 in
theorem l5One_cons0 (B ga n c : Nat) (a' : Option Addr) (n' c' : Nat) (pm : Bool) (y : Int) (r : List Int) (gs : List (Int × Bool)) (on sp tk : Int) (w : World) (hR : NRow B w (⟨some ⟨ga, 0, none⟩, n, c, a', n', c'⟩ : Na) ⟨pm, y :: r, gs, on, sp, tk⟩) (hB : B ≤ w.heap.size) (hn : n ≤ 2097152) (hn' : n' ≤ 2097152) :
    Calls Try.prog 53 #[.agg #[.bool pm, .slice (some ⟨ga, 0, none⟩) n c, .slice a' n' c', .int .i64 on, .int .i64 sp, .int .i64 tk]] w fun e w' => NPassQ B w ⟨pm, r, gs ++ [(y, true)], on, sp, tk⟩ y e w' := by
  have hl := hR.own.one.ints.len
  have hp0 : 0 < n := by simp at hl; omega
  have hp : (0 : Int) < (n : Int) := by omega
  have hgl : ga < w.heap.size := (hR.one.lt ga rfl).2
  have hok := hR.cap
  simp only at hok
  have hcell : ∀ i, i < n → w.cell? ⟨ga, i, none⟩ = some (.int .i64 ((y :: r).getD i 0)) := by
    rcases hR.own.one.ints.row with h | ⟨b, off, e, _, hc⟩
    · simp only at h; omega
    · cases e; intro i hi; have := hc i hi; simpa using this
  have hI : IntsAt w (some ⟨ga, 0, none⟩) n (y :: r) := hR.own.one.ints
  generalize hW0 : w.alloc (.cells #[.bool pm, .slice (some ⟨ga, 0, none⟩) n c, .slice a' n' c', .int .i64 on, .int .i64 sp, .int .i64 tk] 27) = W0
  generalize hW1 : W0.alloc (.cells #[.bool false, .slice none 0 0, .slice none 0 0, .int .i64 0, .int .i64 0, .int .i64 0] 27) = W1
  have b0 : Below w.heap.size w W0 := by subst hW0; exact bl_alloc (Below.refl _ _) _
  have b1 : Below w.heap.size w W1 := by subst hW1; exact bl_alloc b0 _
  have s0 : W0.heap.size = w.heap.size + 1 := by subst hW0; simp
  have s1 : W1.heap.size = w.heap.size + 2 := by subst hW1; simp [s0]
  have x0 : NBox w.heap.size (⟨some ⟨ga, 0, none⟩, n, c, a', n', c'⟩ : Na) ⟨pm, y :: r, gs, on, sp, tk⟩ W1 := by subst hW1 hW0; exact (NBox.new w (⟨some ⟨ga, 0, none⟩, n, c, a', n', c'⟩ : Na) ⟨pm, y :: r, gs, on, sp, tk⟩ _).alloc _
  have x1 : NBox (w.heap.size + 1) Na.zero Nt.zero W1 := by subst hW1; rw [← s0]; exact NBox.newZ W0 _
  have k0 : W1.cell? ⟨ga, 0, none⟩ = some (.int .i64 y) := by rw [b1.cell (p := ⟨ga, 0, none⟩) hgl]; simpa using hcell 0 hp0
  have hI1 := ((hI.drop 1 hp0).keep b1)
  simp only [List.drop_succ_cons, List.drop_zero, Nat.zero_add] at hI1
  obtain ⟨_, p0, p1, p2, p3, p4, p5, _⟩ := id x0
  simp only at p0 p1 p2 p3 p4 p5
  have HI1 := hidOf hI1
  have HR := hidOf hR
  have X0 := hidOf x0
  have X1 := hidOf x1
  have HB := hidOf b1
  have S1 := hidOf s1
  clear hR hI hI1 x0 x1 b0 b1 s0 s1 hcell hl
  subst hW1 hW0
  have hm1 : (1 : Int) ≤ (n : Int) := by omega
  have hm3 : (1 : Int) ≤ (c : Int) := by omega
  have hm5 : (n : Int) ≤ (c : Int) := by omega
  have hm2 : ¬ (n : Int) < 1 := by omega
  by_cases hc1 : c = 1
  · have hn1 : n = 1 := by omega
    have hr0 : r = [] := by have h := HR.out.own.one.ints.len; simp only [List.length_cons] at h; exact List.length_eq_zero_iff.1 (by omega)
    subst hn1 hc1 hr0
    go_enter Try.func53, Try.ntmps53
    go_wp2_with fail
    refine (l2Copy_any _ 0 _ [] _ (IntsAt.nil _ _) (by omega)).mono ?_
    rintro e w1 ⟨g1, c1, rfl, ho1, hb1⟩
    rw [S1.out] at ho1
    have x0 := X0.out.keep hb1
    have x1 := X1.out.keep hb1
    have hB1 := bl_trans HB.out hb1
    have y0 := x0.set1 (a := some ⟨g1, 0, none⟩) (n := 0) (c := c1)
    have y1 := x1.far w.heap.size 1 (by omega) (.slice (some ⟨g1, 0, none⟩) (0) c1)
    have hg1 : w.heap.size + 2 ≤ g1 := (ho1.lt g1 rfl).1
    have htw := HR.out.two.lt
    have hnw : (Value.slice a' n' c').ownBlock ≠ some w.heap.size := fun e => by have := (htw _ e).2; omega
    have ho2 := own_set (B := w.heap.size + 2) ho1 w.heap.size 1 (fun e => by have e' : g1 = w.heap.size := by simpa [Value.ownBlock] using e
                                                                              omega) (.slice (some ⟨g1, 0, none⟩) (0) c1)
    have hr2 := own_set (ownsRow_keep HR.out.two hB1) w.heap.size 1 hnw (.slice (some ⟨g1, 0, none⟩) (0) c1)
    have hB2 := bl_set1' hB1 w.heap.size 1 (Nat.le_refl _) (.slice (some ⟨g1, 0, none⟩) (0) c1)
    generalize hU : w1.setCell ⟨w.heap.size, 1, none⟩ (.slice (some ⟨g1, 0, none⟩) (0) c1) = U at y0 y1 ho2 hr2 hB2
    have hsz := y1.lt
    obtain ⟨g', cq, w', hr, ho', hg, hl⟩ := append_gr2 B n' _ gs y true U hr2 (by have := hB2.size; omega) (by omega)
    have hs' := hg.size
    have z0 : NBox w.heap.size _ _ w' := y0.grownO hg hnw
    have z1 : NBox (w.heap.size + 1) _ _ w' := y1.grownO hg (fun e => by have := (htw _ e).2; omega)
    have bv0 := z0.set2 (a := some ⟨g', 0, none⟩) (n := n' + 1) (c := cq)
    have bv1 := z1.far w.heap.size 2 (by omega) (.slice (some ⟨g', 0, none⟩) (n' + 1) cq)
    have hlg : g' < w.heap.size ∨ U.heap.size ≤ g' := by
      rcases hl with h | h
      · exact .inl (htw _ h).2
      · exact .inr h
    have ho3 : w'.ownsRow (w.heap.size + 2) 3 1 (.slice (some ⟨g1, 0, none⟩) (0) c1) (0) (intsV []) := grow_far ho2 hg (fun q e e2 => by
      have h1 := (htw _ e).2
      have e' : g1 = q := by simpa [Value.ownBlock] using e2
      omega)
    have ho4 := own_set ho3 w.heap.size 2 (fun e => by have e' : g1 = w.heap.size := by simpa [Value.ownBlock] using e
                                                       omega) (.slice (some ⟨g', 0, none⟩) (n' + 1) cq)
    have hq4 := own_set ho' w.heap.size 2 (fun e => by have e' : g' = w.heap.size := by simpa [Value.ownBlock] using e
                                                       omega) (.slice (some ⟨g', 0, none⟩) (n' + 1) cq)
    have hB4 : Below B w (w'.setCell ⟨w.heap.size, 2, none⟩ (.slice (some ⟨g', 0, none⟩) (n' + 1) cq)) := bl_set1' ((hB2.mono hB).grown hg (by have := hB2.size; omega) (fun q e => (HR.out.two.lt q e).1)) w.heap.size 2 hB _
    have hRw : NRow B (w'.setCell ⟨w.heap.size, 2, none⟩ (.slice (some ⟨g', 0, none⟩) (n' + 1) cq)) ⟨some ⟨g1, 0, none⟩, 0, c1, some ⟨g', 0, none⟩, n' + 1, cq⟩ ⟨pm, [], gs ++ [(y, true)], on, sp, tk⟩ := ⟨own_mono1 ho4 (by omega), hq4⟩
    obtain ⟨_, p0, p1, p2, p3, p4, p5, pf⟩ := id x0
    obtain ⟨_, q0, q1, q2, q3, q4, q5, qf⟩ := id y0
    obtain ⟨_, t0, t1, t2, t3, t4, t5, tf⟩ := id z0
    obtain ⟨_, v0, v1, v2, v3, v4, v5, vf⟩ := id bv0
    obtain ⟨_, r0, r1, r2, r3, r4, r5, rf⟩ := id bv1
    simp only at p0 p1 p2 p3 p4 p5 q0 q1 q2 q3 q4 q5 t0 t1 t2 t3 t4 t5 v0 v1 v2 v3 v4 v5
    have dq : ∀ o, (U.alloc o).cell? ⟨w.heap.size, 2, none⟩ = some (.slice a' n' c') := fun o => by rw [World.cell?_alloc_old _ _ _ (Nat.ne_of_lt (World.block_lt_of_cell? U _ q2))]; exact q2
    have HE := hidOf (one_end (M := w.heap.size + 1) hRw (fun e => by have e' : g1 = w.heap.size + 1 := by simpa [Value.ownBlock] using e
                                                                      omega) (fun e => by have e' : g' = w.heap.size + 1 := by simpa [Value.ownBlock] using e
                                                                                          omega) (by omega) hB4 (.bool pm) (.slice (some ⟨g1, 0, none⟩) (0) c1) (.slice (some ⟨g', 0, none⟩) (n' + 1) cq) (.int .i64 on) (.int .i64 sp) (.int .i64 tk))
    have Hr := hidOf hr
    clear ho1 hB1 hb1 x0 x1 X0 X1 HB y0 y1 hr2 ho2 hB2 hr ho' hg hl z0 z1 bv0 bv1 hlg ho3 ho4 hq4 hB4 hRw htw hnw HR S1 hs'
    go_wp2_with (at_builtin; refine wpList_append_run rfl _ _ 25 rfl _ _ _ rfl rfl Hr.out ?_)
    refine bodyPost_ret (v := .tuple #[.agg #[.bool pm, .slice (some ⟨g1, 0, none⟩) (0) c1, .slice (some ⟨g', 0, none⟩) (n' + 1) cq, .int .i64 on, .int .i64 sp, .int .i64 tk], .int .i64 y]) (by simp [results, Try.results53, go_sem, r0, r1, r2, r3, r4, r5]) rfl ?_
    exact ⟨⟨some ⟨g1, 0, none⟩, 0, c1, some ⟨g', 0, none⟩, n' + 1, cq⟩, rfl, HE.out.1, HE.out.2⟩
  · have hcm : ¬ c = 1 := hc1
    have hcm' : ¬ 1 = c := by omega
    go_enter Try.func53, Try.ntmps53
    go_wp2_with fail
    refine (l2Copy_any (some ⟨ga, 1, none⟩) (n - 1) (c - 1) r _ HI1.out (by omega)).mono ?_
    rintro e w1 ⟨g1, c1, rfl, ho1, hb1⟩
    rw [S1.out] at ho1
    have x0 := X0.out.keep hb1
    have x1 := X1.out.keep hb1
    have hB1 := bl_trans HB.out hb1
    have y0 := x0.set1 (a := some ⟨g1, 0, none⟩) (n := n - 1) (c := c1)
    have y1 := x1.far w.heap.size 1 (by omega) (.slice (some ⟨g1, 0, none⟩) (n - 1) c1)
    have hg1 : w.heap.size + 2 ≤ g1 := (ho1.lt g1 rfl).1
    have htw := HR.out.two.lt
    have hnw : (Value.slice a' n' c').ownBlock ≠ some w.heap.size := fun e => by have := (htw _ e).2; omega
    have ho2 := own_set (B := w.heap.size + 2) ho1 w.heap.size 1 (fun e => by have e' : g1 = w.heap.size := by simpa [Value.ownBlock] using e
                                                                              omega) (.slice (some ⟨g1, 0, none⟩) (n - 1) c1)
    have hr2 := own_set (ownsRow_keep HR.out.two hB1) w.heap.size 1 hnw (.slice (some ⟨g1, 0, none⟩) (n - 1) c1)
    have hB2 := bl_set1' hB1 w.heap.size 1 (Nat.le_refl _) (.slice (some ⟨g1, 0, none⟩) (n - 1) c1)
    generalize hU : w1.setCell ⟨w.heap.size, 1, none⟩ (.slice (some ⟨g1, 0, none⟩) (n - 1) c1) = U at y0 y1 ho2 hr2 hB2
    have hsz := y1.lt
    obtain ⟨g', cq, w', hr, ho', hg, hl⟩ := append_gr2 B n' _ gs y true U hr2 (by have := hB2.size; omega) (by omega)
    have hs' := hg.size
    have z0 : NBox w.heap.size _ _ w' := y0.grownO hg hnw
    have z1 : NBox (w.heap.size + 1) _ _ w' := y1.grownO hg (fun e => by have := (htw _ e).2; omega)
    have bv0 := z0.set2 (a := some ⟨g', 0, none⟩) (n := n' + 1) (c := cq)
    have bv1 := z1.far w.heap.size 2 (by omega) (.slice (some ⟨g', 0, none⟩) (n' + 1) cq)
    have hlg : g' < w.heap.size ∨ U.heap.size ≤ g' := by
      rcases hl with h | h
      · exact .inl (htw _ h).2
      · exact .inr h
    have ho3 : w'.ownsRow (w.heap.size + 2) 3 1 (.slice (some ⟨g1, 0, none⟩) (n - 1) c1) (n - 1) (intsV r) := grow_far ho2 hg (fun q e e2 => by
      have h1 := (htw _ e).2
      have e' : g1 = q := by simpa [Value.ownBlock] using e2
      omega)
    have ho4 := own_set ho3 w.heap.size 2 (fun e => by have e' : g1 = w.heap.size := by simpa [Value.ownBlock] using e
                                                       omega) (.slice (some ⟨g', 0, none⟩) (n' + 1) cq)
    have hq4 := own_set ho' w.heap.size 2 (fun e => by have e' : g' = w.heap.size := by simpa [Value.ownBlock] using e
                                                       omega) (.slice (some ⟨g', 0, none⟩) (n' + 1) cq)
    have hB4 : Below B w (w'.setCell ⟨w.heap.size, 2, none⟩ (.slice (some ⟨g', 0, none⟩) (n' + 1) cq)) := bl_set1' ((hB2.mono hB).grown hg (by have := hB2.size; omega) (fun q e => (HR.out.two.lt q e).1)) w.heap.size 2 hB _
    have hRw : NRow B (w'.setCell ⟨w.heap.size, 2, none⟩ (.slice (some ⟨g', 0, none⟩) (n' + 1) cq)) ⟨some ⟨g1, 0, none⟩, n - 1, c1, some ⟨g', 0, none⟩, n' + 1, cq⟩ ⟨pm, r, gs ++ [(y, true)], on, sp, tk⟩ := ⟨own_mono1 ho4 (by omega), hq4⟩
    obtain ⟨_, p0, p1, p2, p3, p4, p5, pf⟩ := id x0
    obtain ⟨_, q0, q1, q2, q3, q4, q5, qf⟩ := id y0
    obtain ⟨_, t0, t1, t2, t3, t4, t5, tf⟩ := id z0
    obtain ⟨_, v0, v1, v2, v3, v4, v5, vf⟩ := id bv0
    obtain ⟨_, r0, r1, r2, r3, r4, r5, rf⟩ := id bv1
    simp only at p0 p1 p2 p3 p4 p5 q0 q1 q2 q3 q4 q5 t0 t1 t2 t3 t4 t5 v0 v1 v2 v3 v4 v5
    have dq : ∀ o, (U.alloc o).cell? ⟨w.heap.size, 2, none⟩ = some (.slice a' n' c') := fun o => by rw [World.cell?_alloc_old _ _ _ (Nat.ne_of_lt (World.block_lt_of_cell? U _ q2))]; exact q2
    have HE := hidOf (one_end (M := w.heap.size + 1) hRw (fun e => by have e' : g1 = w.heap.size + 1 := by simpa [Value.ownBlock] using e
                                                                      omega) (fun e => by have e' : g' = w.heap.size + 1 := by simpa [Value.ownBlock] using e
                                                                                          omega) (by omega) hB4 (.bool pm) (.slice (some ⟨g1, 0, none⟩) (n - 1) c1) (.slice (some ⟨g', 0, none⟩) (n' + 1) cq) (.int .i64 on) (.int .i64 sp) (.int .i64 tk))
    have Hr := hidOf hr
    clear ho1 hB1 hb1 x0 x1 X0 X1 HB y0 y1 hr2 ho2 hB2 hr ho' hg hl z0 z1 bv0 bv1 hlg ho3 ho4 hq4 hB4 hRw htw hnw HR S1 hs'
    go_wp2_with (at_builtin; refine wpList_append_run rfl _ _ 25 rfl _ _ _ rfl rfl Hr.out ?_)
    refine bodyPost_ret (v := .tuple #[.agg #[.bool pm, .slice (some ⟨g1, 0, none⟩) (n - 1) c1, .slice (some ⟨g', 0, none⟩) (n' + 1) cq, .int .i64 on, .int .i64 sp, .int .i64 tk], .int .i64 y]) (by simp [results, Try.results53, go_sem, r0, r1, r2, r3, r4, r5]) rfl ?_
    exact ⟨⟨some ⟨g1, 0, none⟩, n - 1, c1, some ⟨g', 0, none⟩, n' + 1, cq⟩, rfl, HE.out.1, HE.out.2⟩
theorem l5One_any (B : Nat) (A : Na) (x : Nt) (w : World) (hR : NRow B w A x) (hB : B ≤ w.heap.size) (hn : A.n ≤ 2097152) (hn' : A.n' ≤ 2097152) (hsp : 0 ≤ x.sp ∧ x.sp ≤ 1000000000) :
    Calls Try.prog 53 #[.agg #[.bool x.pm, .slice A.a A.n A.c, .slice A.a' A.n' A.c', .int .i64 x.on, .int .i64 x.sp, .int .i64 x.tk]] w fun e w' => NPassQ B w (oneM x).1 (oneM x).2 e w' := by
  obtain ⟨pm, ln, gs, on, sp, tk⟩ := x
  cases ln with
  | nil =>
    cases pm
    · exact l5One_nilf B A gs on sp tk w hR hB hsp
    · exact l5One_nilt B A gs on sp tk w hR hB hsp
  | cons y r =>
    have hl := hR.own.one.ints.len
    have hp0 : 0 < A.n := by simp at hl; omega
    obtain ⟨ga, ca, hva, _, _⟩ := hR.one.form hp0
    obtain ⟨a, n, c, a', n', c'⟩ := A
    simp only at hva
    injection hva with h1 _ h3
    subst h1 h3
    exact l5One_cons0 B ga n c a' n' c' pm y r gs on sp tk w hR hB hn hn'
end Go.Proofs.Ytfgknbflgmblmaa
