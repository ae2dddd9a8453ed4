/-
  The specification lets all go that wait at a cell.
-/
import Derived.Test.YtbhdjcggcgddfaaSpC5
import Derived.Test.YtbhdjcggcgddfaaCCe
import Derived.Test.YtbhdjcggcgddfaaLS
import Derived.Deep.RegionHeld3
namespace Go.Proofs.Ytbhdjcggcgddfaa
open Go.RowKit Pl Il

theorem nstep_append_ex {P : Program} {ops : Array Oper} {o : Oper} {a : Act} {w : World} {K : Act → World → Prop} {Q : Exit → Act → World → Prop} {E : Prop} {R : Value → World → Prop} (hgd : o.guard = none) (s x : Operand) (t : TypeId)
    (ho : o.op = .call { callee := .builtin .append, args := #[s, x], argTypes := #[t, t] }) (v u : Value) (hs : a.eval s = v) (hx : a.eval x = u)
    (hr : ∃ v' w', (Builtin.append_ #[t, t] o.type #[v, u]).run P w = .ok v' w' ∧ R v' w') (h : ∀ v' w', R v' w' → K (a.put o.dst v') w') :
    if Region.wanted o (yielded ops a.tmps) = true then Oper.wp P o a w K Q else E := by
  have hw : Region.wanted o (yielded ops a.tmps) = true := by simp [Region.wanted, hgd]
  rw [if_pos hw]
  obtain ⟨v', w', hrun, hR⟩ := hr
  unfold Oper.wp execOp
  simp only [ho, resolve, invoke, builtin, Sem.run_bind, Sem.run_pure, Result.andThen_ok, List.map_toArray, List.map_cons, List.map_nil, hs, hx, hrun]
  exact h v' w' hR
theorem nstep_append_run {P : Program} {ops : Array Oper} {o : Oper} {a : Act} {w w' : World} {K : Act → World → Prop} {Q : Exit → Act → World → Prop} {E : Prop} (hgd : o.guard = none) (s x : Operand) (t : TypeId)
    (ho : o.op = .call { callee := .builtin .append, args := #[s, x], argTypes := #[t, t] }) (v u v' : Value) (hs : a.eval s = v) (hx : a.eval x = u)
    (hr : (Builtin.append_ #[t, t] o.type #[v, u]).run P w = .ok v' w') (h : K (a.put o.dst v') w') :
    if Region.wanted o (yielded ops a.tmps) = true then Oper.wp P o a w K Q else E :=
  nstep_append_ex (R := fun v1 w1 => v1 = v' ∧ w1 = w') hgd s x t ho v u hs hx ⟨v', w', hr, rfl, rfl⟩ (fun _ _ h1 => by obtain ⟨rfl, rfl⟩ := h1; exact h)
/-- What l7Free holds on to. -/
abbrev FrS (w : World) (A : Na) (w' : World) : Prop := w'.cell? ⟨w.heap.size, 5, none⟩ = some (.slice A.a A.n A.c) ∧ Below w.heap.size w w'
/-- What l7Free hands back. -/
def FreeP (w : World) (A : Na) (x : Ct) (e : Ending) (w' : World) : Prop :=
  ∃ (a3 : Option Addr) (c3 g1 c1 : Nat), e = .returned (.tuple #[.agg #[.int .i64 x.kd, .int .i64 x.nu, .string x.tx, .int .i64 x.ve, .bool x.cl, .slice none 0 0, .slice a3 (A.n' + A.n) c3], .slice (some ⟨g1, 0, none⟩) A.n c1]) ∧ Rows2 w.heap.size w' ⟨none, 0, 0, a3, A.n' + A.n, c3⟩ [] (x.gs ++ x.ln) ∧ Owns w.heap.size w' g1 A.n c1 x.ln ∧ (Value.slice a3 (A.n' + A.n) c3).ownBlock ≠ some g1 ∧ Below w.heap.size w w'
set_option maxRecDepth 100000 in
set_option maxHeartbeats 2000000 in
theorem l7Free_any (A : Na) (x : Ct) (w : World) (hI : CIn w A x) (hn : A.n ≤ 2097152) (hn' : A.n' ≤ 2097152) :
    Calls Try.prog 131 #[.agg #[.int .i64 x.kd, .int .i64 x.nu, .string x.tx, .int .i64 x.ve, .bool x.cl, .slice A.a A.n A.c, .slice A.a' A.n' A.c']] w fun e w' => FreeP w A x e w' := by
  generalize hW0 : w.alloc (.cells #[.int .i64 x.kd, .int .i64 x.nu, .string x.tx, .int .i64 x.ve, .bool x.cl, .slice A.a A.n A.c, .slice A.a' A.n' A.c'] 58) = W0
  generalize hW1 : W0.alloc (.cells #[.int .i64 0, .int .i64 0, .string ⟨#[]⟩, .int .i64 0, .bool false, .slice none 0 0, .slice none 0 0] 58) = W1
  have b0 : Below w.heap.size w W0 := by subst hW0; exact bl_alloc (Below.refl _ _) _
  have b1 : Below w.heap.size w W1 := by subst hW1; exact bl_alloc b0 _
  have s0 : W0.heap.size = w.heap.size + 1 := by subst hW0; simp
  have s1 : W1.heap.size = w.heap.size + 2 := by subst hW1; simp [s0]
  have x0 : CBox w.heap.size A x W1 := by subst hW1 hW0; exact (CBox.new w A x _).alloc _
  have x1 : CBox (w.heap.size + 1) Na.zero Ct.zero W1 := by subst hW1; rw [← s0]; exact CBox.newZ W0 _
  have hI1 := hidOf (hI.keep b1)
  have HI := hidOf hI
  have X0 := hidOf x0
  have X1 := hidOf x1
  have HB := hidOf b1
  have S1 := hidOf s1
  clear hI x0 x1 b0 b1 s0 s1
  subst hW1 hW0
  go_enter Try.func131, Try.ntmps131
  go_wp2_with fail
  refine (l2Copy_any A.a A.n A.c x.ln _ hI1.out.ints hn).mono ?_
  rintro e w1 ⟨g1, c1, rfl, ho1, hb1⟩
  rw [S1.out] at ho1
  have x0 := X0.out.keep hb1
  have x1 := X1.out.keep hb1
  have hB1 := bl_trans HB.out hb1
  have hg1 := (owns_parts ho1).2.1
  have hg1' := (owns_parts ho1).2.2.1
  obtain ⟨_, p0, p1, p2, p3, p4, p5, p6, pf⟩ := id x0
  have hH : FrS w A w1 := ⟨p5, hB1⟩
  have HId := hidOf ((HI.out.keep hB1).keep (Below.refl _ w1).drew)
  have X0d := hidOf (x0.keep (Below.refl _ w1).drew)
  have X1d := hidOf (x1.keep (Below.refl _ w1).drew)
  have HO1 := hidOf (row_below ho1 (Below.refl _ w1).drew)
  have hs1 : w.heap.size + 2 ≤ w1.heap.size := Nat.le_of_lt (Nat.lt_of_le_of_lt hg1 hg1')
  clear ho1 hb1 x0 x1 HI X0 X1 HB hI1 S1
  go_wp2_with fail
  refine wp_region_noPanic ?_
  refine wp_region_held_drew (S := fun w' => FrS w A w') (by kernel_rfl) ⟨by simpa using p5, hB1.drew⟩ (fun hHeld => ?_)
  refine wpAnyH_take (i := 0) (v := ?_) rfl (by kernel_rfl) (by kernel_rfl) (by kernel_rfl) (fun _ _ _ h => h) (Or.inl ⟨by rfl, ?_⟩) (by assumption) ?_
  case refine_2 => (intro w hSw; (try dsimp only at hSw); go_simp; try with_reducible rfl)
  simp only [Act.put, List.getElem_toArray, List.getElem_cons_zero, List.setIfInBounds_toArray, List.set_cons_zero, List.set_cons_succ]
  refine wpAnyH_take (i := 3) (v := ?_) rfl (by kernel_rfl) (by kernel_rfl) (by kernel_rfl) (fun _ _ _ h => h) (Or.inl ⟨by rfl, ?_⟩) (by assumption) ?_
  case refine_2 => (intro w hSw; (try dsimp only at hSw); go_simp; try with_reducible rfl)
  simp only [Act.put, List.getElem_toArray, List.getElem_cons_zero, List.getElem_cons_succ, List.setIfInBounds_toArray, List.set_cons_zero, List.set_cons_succ]
  refine wpAnyH_take (i := 4) (v := ?_) rfl (by kernel_rfl) (by kernel_rfl) (by kernel_rfl) (fun _ _ _ h => h) (Or.inl ⟨by rfl, ?_⟩) (by assumption) ?_
  case refine_2 => (intro w hSw; (try dsimp only at hSw); go_simp; try with_reducible rfl)
  simp only [Act.put, List.getElem_toArray, List.getElem_cons_zero, List.getElem_cons_succ, List.setIfInBounds_toArray, List.set_cons_zero, List.set_cons_succ]
  refine wpAnyH_ready (rs := [1]) (by kernel_rfl) (by simp) ?_
  refine AllReadyH.cons rfl (fun K hK => ?_) AllReadyH.nil
  go_simp
  refine hK.out _ _ hHeld (fun hHeld => ?_)
  clear hK K
  refine wpAnyH_ready (rs := [2]) (by kernel_rfl) (by simp) ?_
  refine AllReadyH.cons rfl (fun K hK => ?_) AllReadyH.nil
  go_simp
  refine (l2Copy_any A.a' A.n' A.c' x.gs _ HId.out.grs hn').mono ?_
  rintro e w2 ⟨g2, c2, rfl, ho2, hb2⟩
  go_wp2_with fail
  have hS2 : FrS w A w2 := ⟨cellU hHeld.1 hb2, bl_trans hHeld.2 hb2⟩
  refine hK.out _ _ hS2 (fun hHeld => ?_)
  clear hK K
  have y0 := X0d.out.keep hb2
  have y1 := X1d.out.keep hb2
  have hr1 := row_below HO1.out hb2
  have hg2 := (owns_parts ho2).2.1
  have hg2' := (owns_parts ho2).2.2.1
  have hg2 : w1.heap.size ≤ g2 := hg2
  obtain ⟨a3, c3, w3, hr, ho3, hg3, hl3⟩ := append_ownS w1.heap.size A.n' (.slice (some ⟨g2, 0, none⟩) A.n' c2) x.gs A.a A.n A.c x.ln w2 ho2 (by omega) (HId.out.keep hb2).ints (by omega)
  have hlt3 := hg3.size
  have hw2 : w1.heap.size ≤ w2.heap.size := hb2.size
  have hg1w : g1 < w1.heap.size := hg1'
  have hneN : ∀ q, q < w1.heap.size → (Value.slice a3 (A.n' + A.n) c3).ownBlock ≠ some q := fun q hq e => by
    rcases hl3 q e with h | h
    · have e' : g2 = q := by simpa [Value.ownBlock] using h
      omega
    · omega
  have ne2 : ∀ q, q < w1.heap.size → (Value.slice (some ⟨g2, 0, none⟩) A.n' c2).ownBlock ≠ some q := fun q hq h => by
    have e' : g2 = q := by simpa [Value.ownBlock] using h
    omega
  have z0 : CBox w.heap.size A x w3 := y0.grownO hg3 (ne2 _ (by omega))
  have z1 : CBox (w.heap.size + 1) Na.zero Ct.zero w3 := y1.grownO hg3 (ne2 _ (by omega))
  have hge2 : ∀ q, (Value.slice (some ⟨g2, 0, none⟩) A.n' c2).ownBlock = some q → w.heap.size ≤ q := fun q e => by
    have e' : g2 = q := by simpa [Value.ownBlock] using e
    omega
  have hB3 : Below w.heap.size w w3 := hS2.2.grown hg3 (by omega) hge2
  have hr3 := row_grown hr1 hg3 (fun q e e1 => by
    have e' : g2 = q := by simpa [Value.ownBlock] using e
    have e2 : g1 = q := by simpa [Value.ownBlock] using e1
    omega)
  have hS3 : FrS w A w3 := ⟨z0.c5, hB3⟩
  refine wpAnyH_ready (rs := [5]) (by kernel_rfl) (by simp) ?_
  refine AllReadyH.cons rfl (fun K hK => ?_) AllReadyH.nil
  refine nstep_append_run (by rfl) _ _ 24 (by rfl) (.slice (some ⟨g2, 0, none⟩) A.n' c2) (.slice A.a A.n A.c) _ (by rfl) (by rfl) hr ?_
  refine hK.out _ _ hS3 (fun hHeld => ?_)
  clear hK K
  simp only [Act.put, List.getElem_toArray, List.getElem_cons_zero, List.getElem_cons_succ, List.setIfInBounds_toArray, List.set_cons_zero, List.set_cons_succ]
  refine wpAnyH_take (i := 6) (v := ?_) rfl (by kernel_rfl) (by kernel_rfl) (by kernel_rfl) (fun _ _ _ h => h) (Or.inl ⟨by rfl, ?_⟩) (by assumption) ?_
  case refine_2 => (intro w hSw; (try dsimp only at hSw); go_simp; try with_reducible rfl)
  simp only [Act.put, List.getElem_toArray, List.getElem_cons_zero, List.getElem_cons_succ, List.setIfInBounds_toArray, List.set_cons_zero, List.set_cons_succ]
  obtain ⟨_, t0, t1, t2, t3, t4, t5, t6, tf⟩ := id z0
  have u0 := z0.set6 (a := a3) (n := A.n' + A.n) (c := c3)
  have u1 := z1.far w.heap.size 6 (by omega) (.slice a3 (A.n' + A.n) c3)
  refine wpAnyH_ready (rs := [7]) (by kernel_rfl) (by simp) ?_
  refine AllReadyH.cons rfl (fun K hK => ?_) AllReadyH.nil
  go_simp
  refine hK.out _ _ ⟨u0.c5, bl_set1 hB3 w.heap.size 6 (Nat.le_refl _) _⟩ (fun hHeld => ?_)
  clear hK K
  refine wpAnyH_done (by kernel_rfl) ?_ _
  refine NoPanic.normal ?_
  have R3 : Rows2 (w.heap.size + 2) w3 ⟨none, 0, 0, a3, A.n' + A.n, c3⟩ [] (x.gs ++ x.ln) := ⟨⟨rfl, .inl ⟨rfl, rfl⟩⟩, row_mono ho3 (by omega), fun q e => by simp [Value.ownBlock] at e⟩
  have HF := hidOf (And.intro R3 (And.intro hr3 (And.intro (hneN g1 hg1w) hB3)))
  obtain ⟨_, v0, v1, v2, v3, v4, v5, v6, vf⟩ := id u0
  obtain ⟨_, r0, r1, r2, r3, r4, r5, r6, rf⟩ := id u1
  simp only at v0 v1 v2 v3 v4 v5 v6
  have hcN : (Value.slice a3 (A.n' + A.n) c3).ownBlock ≠ some w.heap.size := hneN _ (by omega)
  have HE := hidOf hcN
  clear hcN
  go_wp2
  refine bodyPost_ret (v := .tuple #[.agg #[.int .i64 x.kd, .int .i64 x.nu, .string x.tx, .int .i64 x.ve, .bool x.cl, .slice none 0 0, .slice a3 (A.n' + A.n) c3], .slice (some ⟨g1, 0, none⟩) A.n c1]) (by simp [results, Try.results131, go_sem, r0, r1, r2, r3, r4, r5, r6]) rfl ?_
  obtain ⟨F1, F2, F3, F4⟩ := HF.out
  have ng1 : (Value.slice (some ⟨g1, 0, none⟩) A.n c1).ownBlock ≠ some w.heap.size := fun e => by
    have e' : g1 = w.heap.size := by simpa [Value.ownBlock] using e
    omega
  have ng2 : (Value.slice (some ⟨g1, 0, none⟩) A.n c1).ownBlock ≠ some (w.heap.size + 1) := fun e => by
    have e' : g1 = w.heap.size + 1 := by simpa [Value.ownBlock] using e
    omega
  refine ⟨a3, c3, g1, c1, rfl, ?_, ?_, F3, ?_⟩
  · exact (((((((((F1.far w.heap.size 6 (by omega) _).far w.heap.size 5 (by omega) _).far (w.heap.size + 1) 0 (by omega) _).far (w.heap.size + 1) 1 (by omega) _).far (w.heap.size + 1) 2 (by omega) _).far (w.heap.size + 1) 3 (by omega) _).far (w.heap.size + 1) 4 (by omega) _).far (w.heap.size + 1) 5 (by omega) _).far (w.heap.size + 1) 6 (by omega) _).mono (by omega)
  · exact row_mono (row_set (row_set (row_set (row_set (row_set (row_set (row_set (row_set (row_set F2 w.heap.size 6 ng1 _) w.heap.size 5 ng1 _) (w.heap.size + 1) 0 ng2 _) (w.heap.size + 1) 1 ng2 _) (w.heap.size + 1) 2 ng2 _) (w.heap.size + 1) 3 ng2 _) (w.heap.size + 1) 4 ng2 _) (w.heap.size + 1) 5 ng2 _) (w.heap.size + 1) 6 ng2 _) (by omega)
  · exact bl_sC (bl_set1 (bl_set1 F4 w.heap.size 6 (Nat.le_refl _) _) w.heap.size 5 (Nat.le_refl _) _) (w.heap.size + 1) (by omega) _ _ _ _ _ _ _
end Go.Proofs.Ytbhdjcggcgddfaa
