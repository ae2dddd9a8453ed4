/-
  The specification lets all go that wait at a cell.
  The specification's Update.
-/
import Derived.Test.YtbhdjcggcgddfaaZFnExactUpdate11
import Derived.Test.YtbhdjcggcgddfaaZFnExactUpdate8
import Derived.Test.YtbhdjcggcgddfaaZFnExactUpdate3
import Derived.Deep.RegionHeld3
import Derived.Test.YtbhdjcggcgddfaaZFnExactUpdate12
namespace Go.Proofs.Ytbhdjcggcgddfaa
open Go.RowKit Pl Il

theorem nstep_append_ex {P : Program} {ops : Array Oper} {o : Oper} {a : Act} {w : World} {K : Act → World → Prop} {Q : Exit → Act → World → Prop} {E : Prop} {R : Value → World → Prop} (hgd : o.guard = none) (s x : Operand) (t : TypeId)
    (ho : o.op = .call { callee := .builtin .append, args := #[s, x], argTypes := #[t, t] }) (v u : Value) (hs : a.eval s = v) (hx : a.eval x = u)
    (hr : ∃ v' w', (Builtin.append_ #[t, t] o.type #[v, u]).run P w = .ok v' w' ∧ R v' w') (h : ∀ v' w', R v' w' → K (a.put o.dst v') w') :
    if Region.wanted o (yielded ops a.tmps) = true then Oper.wp P o a w K Q else E := by
  have hw : Region.wanted o (yielded ops a.tmps) = true := by simp [Region.wanted, hgd]
  rw [if_pos hw]
  obtain ⟨v', w', hrun, hR⟩ := hr
  unfold Oper.wp execOp
  simp only [ho, resolve, invoke, builtin, Sem.run_bind, Sem.run_pure, Result.andThen_ok, List.map_toArray, List.map_cons, List.map_nil, hs, hx, hrun]
  exact h v' w' hR
theorem nstep_append_run {P : Program} {ops : Array Oper} {o : Oper} {a : Act} {w w' : World} {K : Act → World → Prop} {Q : Exit → Act → World → Prop} {E : Prop} (hgd : o.guard = none) (s x : Operand) (t : TypeId)
    (ho : o.op = .call { callee := .builtin .append, args := #[s, x], argTypes := #[t, t] }) (v u v' : Value) (hs : a.eval s = v) (hx : a.eval x = u)
    (hr : (Builtin.append_ #[t, t] o.type #[v, u]).run P w = .ok v' w') (h : K (a.put o.dst v') w') :
    if Region.wanted o (yielded ops a.tmps) = true then Oper.wp P o a w K Q else E :=
  nstep_append_ex (R := fun v1 w1 => v1 = v' ∧ w1 = w') hgd s x t ho v u hs hx ⟨v', w', hr, rfl, rfl⟩ (fun _ _ h1 => by obtain ⟨rfl, rfl⟩ := h1; exact h)
/-- What l7Free holds on to. -/
abbrev FrS (w : World) (A : Na) (w' : World) : Prop := w'.cell? ⟨w.heap.size, 5, none⟩ = some (.slice A.a A.n A.c) ∧ Below w.heap.size w w'
/-- What l7Free hands back. -/
def FreeP (w : World) (A : Na) (x : Ct) (e : Ending) (w' : World) : Prop :=
  ∃ (a3 : Option Addr) (c3 g1 c1 : Nat), e = .returned (.tuple #[.agg #[.int .i64 x.kd, .int .i64 x.nu, .string x.tx, .int .i64 x.ve, .bool x.cl, .slice none 0 0, .slice a3 (A.n' + A.n) c3], .slice (some ⟨g1, 0, none⟩) A.n c1]) ∧ Rows2 w.heap.size w' ⟨none, 0, 0, a3, A.n' + A.n, c3⟩ [] (x.gs ++ x.ln) ∧ Owns w.heap.size w' g1 A.n c1 x.ln ∧ (Value.slice a3 (A.n' + A.n) c3).ownBlock ≠ some g1 ∧ Below w.heap.size w w'
set_option maxRecDepth 100000 in
set_option maxHeartbeats 2000000 in
theorem l7Free_any (A : Na) (x : Ct) (w : World) (hI : CIn w A x) (hn : A.n ≤ 2097152) (hn' : A.n' ≤ 2097152) :
    Calls Try.prog 131 #[.agg #[.int .i64 x.kd, .int .i64 x.nu, .string x.tx, .int .i64 x.ve, .bool x.cl, .slice A.a A.n A.c, .slice A.a' A.n' A.c']] w fun e w' => FreeP w A x e w' := by
  generalize hW0 : w.alloc (.cells #[.int .i64 x.kd, .int .i64 x.nu, .string x.tx, .int .i64 x.ve, .bool x.cl, .slice A.a A.n A.c, .slice A.a' A.n' A.c'] 58) = W0
  generalize hW1 : W0.alloc (.cells #[.int .i64 0, .int .i64 0, .string ⟨#[]⟩, .int .i64 0, .bool false, .slice none 0 0, .slice none 0 0] 58) = W1
  have b0 : Below w.heap.size w W0 := by subst hW0; exact bl_alloc (Below.refl _ _) _
  have b1 : Below w.heap.size w W1 := by subst hW1; exact bl_alloc b0 _
  have s0 : W0.heap.size = w.heap.size + 1 := by subst hW0; simp
  have s1 : W1.heap.size = w.heap.size + 2 := by subst hW1; simp [s0]
  have x0 : CBox w.heap.size A x W1 := by subst hW1 hW0; exact (CBox.new w A x _).alloc _
  have x1 : CBox (w.heap.size + 1) Na.zero Ct.zero W1 := by subst hW1; rw [← s0]; exact CBox.newZ W0 _
  have hI1 := hidOf (hI.keep b1)
  have HI := hidOf hI
  have X0 := hidOf x0
  have X1 := hidOf x1
  have HB := hidOf b1
  have S1 := hidOf s1
  clear hI x0 x1 b0 b1 s0 s1
  subst hW1 hW0
  go_enter Try.func131, Try.ntmps131
  go_wp2_with fail
  refine (l2Copy_any A.a A.n A.c x.ln _ hI1.out.ints hn).mono ?_
  rintro e w1 ⟨g1, c1, rfl, ho1, hb1⟩
  rw [S1.out] at ho1
  have x0 := X0.out.keep hb1
  have x1 := X1.out.keep hb1
  have hB1 := bl_trans HB.out hb1
  have hg1 := (owns_parts ho1).2.1
  have hg1' := (owns_parts ho1).2.2.1
  obtain ⟨_, p0, p1, p2, p3, p4, p5, p6, pf⟩ := id x0
  have hH : FrS w A w1 := ⟨p5, hB1⟩
  have HId := hidOf ((HI.out.keep hB1).keep (Below.refl _ w1).drew)
  have X0d := hidOf (x0.keep (Below.refl _ w1).drew)
  have X1d := hidOf (x1.keep (Below.refl _ w1).drew)
  have HO1 := hidOf (row_below ho1 (Below.refl _ w1).drew)
  have hs1 : w.heap.size + 2 ≤ w1.heap.size := Nat.le_of_lt (Nat.lt_of_le_of_lt hg1 hg1')
  clear ho1 hb1 x0 x1 HI X0 X1 HB hI1 S1
  go_wp2_with fail
  refine wp_region_noPanic ?_
  refine wp_region_held_drew (S := fun w' => FrS w A w') (by kernel_rfl) ⟨by simpa using p5, hB1.drew⟩ (fun hHeld => ?_)
  refine wpAnyH_take (i := 0) (v := ?_) rfl (by kernel_rfl) (by kernel_rfl) (by kernel_rfl) (fun _ _ _ h => h) (Or.inl ⟨by rfl, ?_⟩) (by assumption) ?_
  case refine_2 => (intro w hSw; (try dsimp only at hSw); go_simp; try with_reducible rfl)
  simp only [Act.put, List.getElem_toArray, List.getElem_cons_zero, List.setIfInBounds_toArray, List.set_cons_zero, List.set_cons_succ]
  refine wpAnyH_take (i := 3) (v := ?_) rfl (by kernel_rfl) (by kernel_rfl) (by kernel_rfl) (fun _ _ _ h => h) (Or.inl ⟨by rfl, ?_⟩) (by assumption) ?_
  case refine_2 => (intro w hSw; (try dsimp only at hSw); go_simp; try with_reducible rfl)
  simp only [Act.put, List.getElem_toArray, List.getElem_cons_zero, List.getElem_cons_succ, List.setIfInBounds_toArray, List.set_cons_zero, List.set_cons_succ]
  refine wpAnyH_take (i := 4) (v := ?_) rfl (by kernel_rfl) (by kernel_rfl) (by kernel_rfl) (fun _ _ _ h => h) (Or.inl ⟨by rfl, ?_⟩) (by assumption) ?_
  case refine_2 => (intro w hSw; (try dsimp only at hSw); go_simp; try with_reducible rfl)
  simp only [Act.put, List.getElem_toArray, List.getElem_cons_zero, List.getElem_cons_succ, List.setIfInBounds_toArray, List.set_cons_zero, List.set_cons_succ]
  refine wpAnyH_ready (rs := [1]) (by kernel_rfl) (by simp) ?_
  refine AllReadyH.cons rfl (fun K hK => ?_) AllReadyH.nil
  go_simp
  refine hK.out _ _ hHeld (fun hHeld => ?_)
  clear hK K
  refine wpAnyH_ready (rs := [2]) (by kernel_rfl) (by simp) ?_
  refine AllReadyH.cons rfl (fun K hK => ?_) AllReadyH.nil
  go_simp
  refine (l2Copy_any A.a' A.n' A.c' x.gs _ HId.out.grs hn').mono ?_
  rintro e w2 ⟨g2, c2, rfl, ho2, hb2⟩
  go_wp2_with fail
  have hS2 : FrS w A w2 := ⟨cellU hHeld.1 hb2, bl_trans hHeld.2 hb2⟩
  refine hK.out _ _ hS2 (fun hHeld => ?_)
  clear hK K
  have y0 := X0d.out.keep hb2
  have y1 := X1d.out.keep hb2
  have hr1 := row_below HO1.out hb2
  have hg2 := (owns_parts ho2).2.1
  have hg2' := (owns_parts ho2).2.2.1
  have hg2 : w1.heap.size ≤ g2 := hg2
  obtain ⟨a3, c3, w3, hr, ho3, hg3, hl3⟩ := append_ownS w1.heap.size A.n' (.slice (some ⟨g2, 0, none⟩) A.n' c2) x.gs A.a A.n A.c x.ln w2 ho2 (by omega) (HId.out.keep hb2).ints (by omega)
  have hlt3 := hg3.size
  have hw2 : w1.heap.size ≤ w2.heap.size := hb2.size
  have hg1w : g1 < w1.heap.size := hg1'
  have hneN : ∀ q, q < w1.heap.size → (Value.slice a3 (A.n' + A.n) c3).ownBlock ≠ some q := fun q hq e => by
    rcases hl3 q e with h | h
    · have e' : g2 = q := by simpa [Value.ownBlock] using h
      omega
    · omega
  have ne2 : ∀ q, q < w1.heap.size → (Value.slice (some ⟨g2, 0, none⟩) A.n' c2).ownBlock ≠ some q := fun q hq h => by
    have e' : g2 = q := by simpa [Value.ownBlock] using h
    omega
  have z0 : CBox w.heap.size A x w3 := y0.grownO hg3 (ne2 _ (by omega))
  have z1 : CBox (w.heap.size + 1) Na.zero Ct.zero w3 := y1.grownO hg3 (ne2 _ (by omega))
  have hge2 : ∀ q, (Value.slice (some ⟨g2, 0, none⟩) A.n' c2).ownBlock = some q → w.heap.size ≤ q := fun q e => by
    have e' : g2 = q := by simpa [Value.ownBlock] using e
    omega
  have hB3 : Below w.heap.size w w3 := hS2.2.grown hg3 (by omega) hge2
  have hr3 := row_grown hr1 hg3 (fun q e e1 => by
    have e' : g2 = q := by simpa [Value.ownBlock] using e
    have e2 : g1 = q := by simpa [Value.ownBlock] using e1
    omega)
  have hS3 : FrS w A w3 := ⟨z0.c5, hB3⟩
  refine wpAnyH_ready (rs := [5]) (by kernel_rfl) (by simp) ?_
  refine AllReadyH.cons rfl (fun K hK => ?_) AllReadyH.nil
  refine nstep_append_run (by rfl) _ _ 24 (by rfl) (.slice (some ⟨g2, 0, none⟩) A.n' c2) (.slice A.a A.n A.c) _ (by rfl) (by rfl) hr ?_
  refine hK.out _ _ hS3 (fun hHeld => ?_)
  clear hK K
  simp only [Act.put, List.getElem_toArray, List.getElem_cons_zero, List.getElem_cons_succ, List.setIfInBounds_toArray, List.set_cons_zero, List.set_cons_succ]
  refine wpAnyH_take (i := 6) (v := ?_) rfl (by kernel_rfl) (by kernel_rfl) (by kernel_rfl) (fun _ _ _ h => h) (Or.inl ⟨by rfl, ?_⟩) (by assumption) ?_
  case refine_2 => (intro w hSw; (try dsimp only at hSw); go_simp; try with_reducible rfl)
  simp only [Act.put, List.getElem_toArray, List.getElem_cons_zero, List.getElem_cons_succ, List.setIfInBounds_toArray, List.set_cons_zero, List.set_cons_succ]
  obtain ⟨_, t0, t1, t2, t3, t4, t5, t6, tf⟩ := id z0
  have u0 := z0.set6 (a := a3) (n := A.n' + A.n) (c := c3)
  have u1 := z1.far w.heap.size 6 (by omega) (.slice a3 (A.n' + A.n) c3)
  refine wpAnyH_ready (rs := [7]) (by kernel_rfl) (by simp) ?_
  refine AllReadyH.cons rfl (fun K hK => ?_) AllReadyH.nil
  go_simp
  refine hK.out _ _ ⟨u0.c5, bl_set1 hB3 w.heap.size 6 (Nat.le_refl _) _⟩ (fun hHeld => ?_)
  clear hK K
  refine wpAnyH_done (by kernel_rfl) ?_ _
  refine NoPanic.normal ?_
  have R3 : Rows2 (w.heap.size + 2) w3 ⟨none, 0, 0, a3, A.n' + A.n, c3⟩ [] (x.gs ++ x.ln) := ⟨⟨rfl, .inl ⟨rfl, rfl⟩⟩, row_mono ho3 (by omega), fun q e => by simp [Value.ownBlock] at e⟩
  have HF := hidOf (And.intro R3 (And.intro hr3 (And.intro (hneN g1 hg1w) hB3)))
  obtain ⟨_, v0, v1, v2, v3, v4, v5, v6, vf⟩ := id u0
  obtain ⟨_, r0, r1, r2, r3, r4, r5, r6, rf⟩ := id u1
  simp only at v0 v1 v2 v3 v4 v5 v6
  have hcN : (Value.slice a3 (A.n' + A.n) c3).ownBlock ≠ some w.heap.size := hneN _ (by omega)
  have HE := hidOf hcN
  clear hcN
  go_wp2
  refine bodyPost_ret (v := .tuple #[.agg #[.int .i64 x.kd, .int .i64 x.nu, .string x.tx, .int .i64 x.ve, .bool x.cl, .slice none 0 0, .slice a3 (A.n' + A.n) c3], .slice (some ⟨g1, 0, none⟩) A.n c1]) (by simp [results, Try.results131, go_sem, r0, r1, r2, r3, r4, r5, r6]) rfl ?_
  obtain ⟨F1, F2, F3, F4⟩ := HF.out
  have ng1 : (Value.slice (some ⟨g1, 0, none⟩) A.n c1).ownBlock ≠ some w.heap.size := fun e => by
    have e' : g1 = w.heap.size := by simpa [Value.ownBlock] using e
    omega
  have ng2 : (Value.slice (some ⟨g1, 0, none⟩) A.n c1).ownBlock ≠ some (w.heap.size + 1) := fun e => by
    have e' : g1 = w.heap.size + 1 := by simpa [Value.ownBlock] using e
    omega
  refine ⟨a3, c3, g1, c1, rfl, ?_, ?_, F3, ?_⟩
  · exact (((((((((F1.far w.heap.size 6 (by omega) _).far w.heap.size 5 (by omega) _).far (w.heap.size + 1) 0 (by omega) _).far (w.heap.size + 1) 1 (by omega) _).far (w.heap.size + 1) 2 (by omega) _).far (w.heap.size + 1) 3 (by omega) _).far (w.heap.size + 1) 4 (by omega) _).far (w.heap.size + 1) 5 (by omega) _).far (w.heap.size + 1) 6 (by omega) _).mono (by omega)
  · exact row_mono (row_set (row_set (row_set (row_set (row_set (row_set (row_set (row_set (row_set F2 w.heap.size 6 ng1 _) w.heap.size 5 ng1 _) (w.heap.size + 1) 0 ng2 _) (w.heap.size + 1) 1 ng2 _) (w.heap.size + 1) 2 ng2 _) (w.heap.size + 1) 3 ng2 _) (w.heap.size + 1) 4 ng2 _) (w.heap.size + 1) 5 ng2 _) (w.heap.size + 1) 6 ng2 _) (by omega)
  · exact bl_sC (bl_set1 (bl_set1 F4 w.heap.size 6 (Nat.le_refl _) _) w.heap.size 5 (Nat.le_refl _) _) (w.heap.size + 1) (by omega) _ _ _ _ _ _ _
end Go.Proofs.Ytbhdjcggcgddfaa
namespace Go.Proofs.Ytbhdjcggcgddfaa
open Go.RowKit Pl Il

theorem free_apart {a3 : Option Addr} {m c3 g1 n : Nat} (h : (Value.slice a3 m c3).ownBlock ≠ some g1) : Apart3 none 0 a3 m (some ⟨g1, 0, none⟩) n := by
  refine .inr fun b3 off3 e => ⟨.inl rfl, .inr fun b off e2 hb => ?_⟩
  cases e
  subst e2 hb
  exact h rfl
set_option maxRecDepth 100000 in
set_option maxHeartbeats 4000000 in
theorem specUpdate_any (A : Na) (x : Ct) (q : Int × Int × Int × ByteArray) (w : World) (hI : CIn w A x) (hn : A.n ≤ 2097152) (hn' : A.n' ≤ 2097152) (hok : A.ok) (hqs : q.2.2.2.size ≤ maxLen) :
    Calls Try.prog 72 #[.agg #[.int .i64 x.kd, .int .i64 x.nu, .string x.tx, .int .i64 x.ve, .bool x.cl, .slice A.a A.n A.c, .slice A.a' A.n' A.c'], .agg #[.int .i64 q.1, .int .i64 q.2.1, .int .i64 q.2.2.1, .string q.2.2.2]] w fun e w' => COutT w (updateM x q.1 q.2.1 q.2.2.1 q.2.2.2).1 (updateM x q.1 q.2.1 q.2.2.1 q.2.2.2).2.1 (updateM x q.1 q.2.1 q.2.2.1 q.2.2.2).2.2 e w' := by
  obtain ⟨rk, rn, rs, rb, hm⟩ : ∃ (rk rn : Int) (rs : ByteArray) (rb : Bool), changedM x.kd x.nu x.tx q.1 q.2.1 q.2.2.1 q.2.2.2 = (rk, rn, rs, rb) := ⟨_, _, _, _, rfl⟩
  have htx := hI.tx
  have HCh := hidOf (fun u => (specChanged_any x.kd x.nu x.tx q.1 q.2.1 q.2.2.1 q.2.2.2 u htx hqs).mono fun e w' (h : _ ∧ _) => (show e = .returned (.tuple #[.agg #[.int .i64 rk, .int .i64 rn, .string rs], .bool rb]) ∧ Below u.heap.size u w' from ⟨by have h1 := h.1; unfold ChP at h1; rw [hm] at h1; exact h1, h.2⟩))
  have HCM := hidOf hm
  clear hm hqs
  have hC := dctx_new q hI
  have s1 : (((w.alloc (.cells #[.int .i64 x.kd, .int .i64 x.nu, .string x.tx, .int .i64 x.ve, .bool x.cl, .slice A.a A.n A.c, .slice A.a' A.n' A.c'] 58)).alloc (.cells #[.int .i64 q.1, .int .i64 q.2.1, .int .i64 q.2.2.1, .string q.2.2.2] 62)).alloc (.cells #[.int .i64 0, .int .i64 0, .string ⟨#[]⟩, .int .i64 0, .bool false, .slice none 0 0, .slice none 0 0] 58)).heap.size = w.heap.size + 3 := by simp
  have HL1 := hidOf hI.ints.len
  have HL2 := hidOf hI.grs.len
  have HCp := hidOf (l7Copy_any A x _ hC.ninX hn hn')
  have HC := hidOf hC
  have S1 := hidOf s1
  clear hC s1 hI
  go_enter Try.func72, Try.ntmps72
  go_wp2_with fail
  refine (HCp.out).mono ?_
  rintro e w1 ⟨A1, rfl, hR, hb1⟩
  rw [S1.out] at hR
  have hC1 := HC.out.kp hb1
  have hS := cst_new (x := x) hR hC1.sz
  generalize hW2 : w1.alloc (.cells #[.int .i64 x.kd, .int .i64 x.nu, .string x.tx, .int .i64 x.ve, .bool x.cl, .slice A1.a A1.n A1.c, .slice A1.a' A1.n' A1.c'] 58) = W2 at hS
  have hb2 : Below w1.heap.size w1 W2 := by subst hW2; exact bl_alloc (Below.refl _ _) _
  have hC2 := hC1.kp hb2
  obtain ⟨_, p0, p1, p2, p3, p4, p5, p6, _⟩ := id hC2.box0
  obtain ⟨_, x0, x1, x2, x3, _⟩ := id hC2.chg
  have HS := hidOf hS
  have HC2 := hidOf hC2
  clear hR hb1 hC1 hb2 hC2 hS HC HCp S1
  go_wp2_with fail
  refine (HCh.out _).mono ?_
  rintro e w3 ⟨rfl, hb3⟩
  have hC3 := HC2.out.kp hb3
  have hS3 := HS.out.keep hb3
  generalize hN : w1.heap.size = N at *
  clear p0 p1 p2 p3 p4 p5 p6 x0 x1 x2 x3 hW2 hb3 HS HC2 HCh hN
  generalize hW4 : w3.alloc (.cells #[.int .i64 rk, .int .i64 rn, .string rs] 55) = W4
  have hb4 : Below w3.heap.size w3 W4 := by subst hW4; exact bl_alloc (Below.refl _ _) _
  have m4 : Box3 w3.heap.size (.int .i64 rk) (.int .i64 rn) (.string rs) W4 := by subst hW4; exact Box3.new w3 _ _ _ _
  have hC4 := hC3.kp hb4
  have hS4 := hS3.keep hb4
  have hNR : N < w3.heap.size := hS3.box.lt
  obtain ⟨_, p0, p1, p2, p3, p4, p5, p6, _⟩ := id hC4.box0
  have HS := hidOf hS4
  have HC2 := hidOf hC4
  have HM4 := hidOf m4
  have HNR := hidOf hNR
  clear hC3 hS3 hb4 hC4 hS4 m4 hNR
  go_wp2_with fail
  refine (specCellOk_any A x _ HC2.out.ninX hn hn' hok).mono ?_
  rintro e w5 ⟨rfl, hb5⟩
  have hC := HC2.out.kp hb5
  have hS := HS.out.keep hb5
  have hM := HM4.out.keep hb5
  generalize hRn : w3.heap.size = R at *
  clear p0 p1 p2 p3 p4 p5 p6 hW4 hb5 HS HC2 HM4 hRn
  obtain ⟨_, p0, p1, p2, p3, p4, p5, p6, _⟩ := id hC.box0
  obtain ⟨_, z0, z1, z2, z3, z4, z5, z6, zf⟩ := id hS.box
  obtain ⟨_, m0, m1, m2, mf⟩ := id hM
  have HC := hidOf hC
  have HS := hidOf hS
  have HMM := hidOf hM
  clear hC hS hM
  cases hokx : okC x
  · obtain ⟨_, r0, r1, r2, r3, r4, r5, r6, rf⟩ := id HC.out.box1
    have HF := hidOf (dst_fin (A' := A1) (y := x) HC.out HS.out.rows htx)
    have HR := hidOf (up_bad (kind := q.1) (k := q.2.1) (n := q.2.2.1) (s := q.2.2.2) hokx)
    clear HC HS hokx HCM HMM HNR
    go_wp2
    refine bodyPost_ret (v := .tuple #[.agg #[.int .i64 x.kd, .int .i64 x.nu, .string x.tx, .int .i64 x.ve, .bool x.cl, .slice A1.a A1.n A1.c, .slice A1.a' A1.n' A1.c'], .slice none 0 0, .int .i64 1]) (by simp [results, Try.results72, go_sem, r0, r1, r2, r3, r4, r5, r6]) rfl ?_
    rw [HR.out]
    exact ⟨A1, none, 0, 0, rfl, HF.out.1, HF.out.2.1, ⟨⟨rfl, .inl rfl⟩, .inl rfl⟩, .inl rfl, HF.out.2.2⟩
  have HBo := hidOf (okC_parts hokx)
  have HOK := hidOf hokx
  clear hokx
  obtain ⟨cb, hcb⟩ : ∃ cb : Bool, cb = x.cl := ⟨_, rfl⟩
  have c4 : w5.cell? ⟨w.heap.size, 4, none⟩ = some (.bool cb) := by rw [hcb]; exact p4
  have HQ := hidOf hcb
  clear hcb p4
  cases cb
  · cases rb
    · obtain ⟨_, r0, r1, r2, r3, r4, r5, r6, rf⟩ := id HC.out.box1
      have HF := hidOf (dst_fin (A' := A1) (y := x) HC.out HS.out.rows htx)
      have HR := hidOf (up_no HOK.out HQ.out.symm HCM.out)
      clear HC HS HCM HMM HNR HOK HBo HQ
      go_wp2
      refine bodyPost_ret (v := .tuple #[.agg #[.int .i64 x.kd, .int .i64 x.nu, .string x.tx, .int .i64 x.ve, .bool x.cl, .slice A1.a A1.n A1.c, .slice A1.a' A1.n' A1.c'], .slice none 0 0, .int .i64 1]) (by simp [results, Try.results72, go_sem, r0, r1, r2, r3, r4, r5, r6]) rfl ?_
      rw [HR.out]
      exact ⟨A1, none, 0, 0, rfl, HF.out.1, HF.out.2.1, ⟨⟨rfl, .inl rfl⟩, .inl rfl⟩, .inl rfl, HF.out.2.2⟩
    · have hvb := HBo.out.2.1
      by_cases hve : x.ve = 1000000000
      · have hge : (1000000000 : Int) ≤ x.ve := by omega
        obtain ⟨_, r0, r1, r2, r3, r4, r5, r6, rf⟩ := id HC.out.box1
        have HF := hidOf (dst_fin (A' := A1) (y := x) HC.out HS.out.rows htx)
        have HR := hidOf (up_full HOK.out HQ.out.symm HCM.out (.inl hve))
        clear HC HS HCM HMM HNR HOK HBo HQ hve
        go_wp2
        refine bodyPost_ret (v := .tuple #[.agg #[.int .i64 x.kd, .int .i64 x.nu, .string x.tx, .int .i64 x.ve, .bool x.cl, .slice A1.a A1.n A1.c, .slice A1.a' A1.n' A1.c'], .slice none 0 0, .int .i64 2]) (by simp [results, Try.results72, go_sem, r0, r1, r2, r3, r4, r5, r6]) rfl ?_
        rw [HR.out]
        exact ⟨A1, none, 0, 0, rfl, HF.out.1, HF.out.2.1, ⟨⟨rfl, .inl rfl⟩, .inl rfl⟩, .inl rfl, HF.out.2.2⟩
      · have hlt : ¬ (1000000000 : Int) ≤ x.ve := by omega
        by_cases hle : 32 < x.ln.length + x.gs.length
        · have h5 : (32 : Int) < (A.n : Int) + (A.n' : Int) := by have := HL1.out; have := HL2.out; omega
          obtain ⟨_, r0, r1, r2, r3, r4, r5, r6, rf⟩ := id HC.out.box1
          have HF := hidOf (dst_fin (A' := A1) (y := x) HC.out HS.out.rows htx)
          have HR := hidOf (up_full HOK.out HQ.out.symm HCM.out (.inr hle))
          clear HC HS HCM HMM HNR HOK HBo HQ hle hve
          go_wp2
          refine bodyPost_ret (v := .tuple #[.agg #[.int .i64 x.kd, .int .i64 x.nu, .string x.tx, .int .i64 x.ve, .bool x.cl, .slice A1.a A1.n A1.c, .slice A1.a' A1.n' A1.c'], .slice none 0 0, .int .i64 2]) (by simp [results, Try.results72, go_sem, r0, r1, r2, r3, r4, r5, r6]) rfl ?_
          rw [HR.out]
          exact ⟨A1, none, 0, 0, rfl, HF.out.1, HF.out.2.1, ⟨⟨rfl, .inl rfl⟩, .inl rfl⟩, .inl rfl, HF.out.2.2⟩
        · have h5 : ¬ (32 : Int) < (A.n : Int) + (A.n' : Int) := by have := HL1.out; have := HL2.out; omega
          have HR := hidOf (up_ok HOK.out HQ.out.symm HCM.out (by rintro (h | h); exact hve h; exact hle h))
          have hrs : rs.size ≤ maxLen := by
            have ho := ch_right HCM.out
            by_cases h1 : rk = 1
            · subst h1
              simp only [okB, if_true, Bool.and_eq_true, List.isEmpty_iff] at ho
              have hl : rs.data.toList = [] := by rw [← ByteArray.toList_eq]; exact ho.1
              have : rs.size = 0 := by rw [← ByteArray.size_data, ← Array.length_toList, hl]; rfl
              omega
            · by_cases h2 : rk = 2
              · subst h2
                have := (txt_bd ho).2
                unfold maxLen; omega
              · simp [okB, h1, h2] at ho
          have hvr : wrap64 (x.ve + 1) = x.ve + 1 := by unfold wrap64; omega
          have hS1 := HS.out.setc (y := { x with kd := rk }) 0 (.int .i64 rk) (HS.out.box.set0 (v := rk)) rfl rfl
          have hS2 := hS1.setc (y := { x with kd := rk, nu := rn }) 1 (.int .i64 rn) (hS1.box.set1 (v := rn)) rfl rfl
          have hS3 := hS2.setc (y := { x with kd := rk, nu := rn, tx := rs }) 2 (.string rs) (hS2.box.set2 (v := rs)) rfl rfl
          have hS4 := hS3.setc (y := { x with kd := rk, nu := rn, tx := rs, ve := x.ve + 1 }) 3 (.int .i64 (x.ve + 1)) (hS3.box.set3 (v := x.ve + 1)) rfl rfl
          have hge := HS.out.ge
          have hC4 := HC.out.keep (B := w.heap.size + 3) (bl_set1 (bl_set1 (bl_set1 (bl_set1 (Below.refl _ _) N 0 hge (.int .i64 rk)) N 1 hge (.int .i64 rn)) N 2 hge (.string rs)) N 3 hge (.int .i64 (x.ve + 1))) (Nat.le_refl _)
          obtain ⟨_, v0, v1, v2, v3, v4, v5, v6, vf⟩ := id hS4.box
          simp only at v0 v1 v2 v3 v4 v5 v6
          have hlen := hS4.rows.len
          simp only at hlen
          have hin : CIn _ A1 { x with kd := rk, nu := rn, tx := rs, ve := x.ve + 1 } := ⟨(row_own hS4.rows.one).1.ints, (row_own hS4.rows.two).1.ints, hrs⟩
          have HFr := hidOf (l7Free_any A1 { x with kd := rk, nu := rn, tx := rs, ve := x.ve + 1 } _ hin (by have := HL1.out; omega) (by have := HL2.out; omega))
          have HC4 := hidOf hC4
          clear hS1 hS2 hS3 hS4 hC4 hge HC HS HCM HOK HQ hle hve hlen hin HMM
          go_wp2_with fail
          refine (HFr.out).mono ?_
          rintro e w6 ⟨a3, c3, g1, c1, rfl, hR6, hO6, hne6, hb6⟩
          simp only at hR6 hO6 hne6
          have hC6 := HC4.out.kp hb6
          have hsz6 := HC4.out.sz
          have hb7 : Below w6.heap.size w6 (w6.alloc (.cells #[.int .i64 rk, .int .i64 rn, .string rs, .int .i64 (x.ve + 1), .bool x.cl, .slice none 0 0, .slice a3 (A1.n' + A1.n) c3] 58)) := bl_alloc (Below.refl _ _) _
          have hC7 := hC6.kp hb7
          have HF := hidOf (dst_finT (A' := ⟨none, 0, 0, a3, A1.n' + A1.n, c3⟩) (y := { x with kd := rk, nu := rn, tx := rs, ve := x.ve + 1, ln := [], gs := x.gs ++ x.ln }) hC7 ((hR6.keep hb7).mono hsz6) hrs ((owns_parts (row_mono (row_below hO6 hb7) hsz6)).2.2.2.2.2))
          obtain ⟨_, r0, r1, r2, r3, r4, r5, r6, rf⟩ := id hC7.box1
          have HA := hidOf (free_apart (n := A1.n) hne6)
          clear hC6 hC7 hb7 hb6 hR6 hO6 hne6 HC4 HFr hsz6
          go_wp2
          refine bodyPost_ret (v := .tuple #[.agg #[.int .i64 rk, .int .i64 rn, .string rs, .int .i64 (x.ve + 1), .bool x.cl, .slice none 0 0, .slice a3 (A1.n' + A1.n) c3], .slice (some ⟨g1, 0, none⟩) A1.n c1, .int .i64 0]) (by simp [results, Try.results72, go_sem, r0, r1, r2, r3, r4, r5, r6]) rfl ?_
          rw [HR.out]
          exact ⟨⟨none, 0, 0, a3, A1.n' + A1.n, c3⟩, some ⟨g1, 0, none⟩, A1.n, c1, rfl, HF.out.1, HF.out.2.1, HF.out.2.2.1, HA.out, HF.out.2.2.2⟩
  · obtain ⟨_, r0, r1, r2, r3, r4, r5, r6, rf⟩ := id HC.out.box1
    have HF := hidOf (dst_fin (A' := A1) (y := x) HC.out HS.out.rows htx)
    have HR := hidOf (up_over (kind := q.1) (k := q.2.1) (n := q.2.2.1) (s := q.2.2.2) HOK.out HQ.out.symm)
    clear HC HS HCM HMM HNR HOK HBo HQ
    go_wp2
    refine bodyPost_ret (v := .tuple #[.agg #[.int .i64 x.kd, .int .i64 x.nu, .string x.tx, .int .i64 x.ve, .bool x.cl, .slice A1.a A1.n A1.c, .slice A1.a' A1.n' A1.c'], .slice none 0 0, .int .i64 6]) (by simp [results, Try.results72, go_sem, r0, r1, r2, r3, r4, r5, r6]) rfl ?_
    rw [HR.out]
    exact ⟨A1, none, 0, 0, rfl, HF.out.1, HF.out.2.1, ⟨⟨rfl, .inl rfl⟩, .inl rfl⟩, .inl rfl, HF.out.2.2⟩
end Go.Proofs.Ytbhdjcggcgddfaa
