/-
  The program's pulling: the range over the reader
-/
import Derived.Test.YtdboaoejlkkoeaaGreatZPu38
namespace Go.Proofs.YtdboaoejlkkoeaaGreat
open Go.RowKit Go.Maps Pl Il Go.Shelf
attribute [local go_sem] Oper.semAt_some
theorem reader_any (b g o : Nat) (w : World) : Calls Tryz.prog 156 #[.pointer (some ⟨b, 0, none⟩), .pointer (some ⟨g, o, none⟩)] w fun e w' =>
    e = .returned (.func (.func 180) #[] #[.pointer (some ⟨w.heap.size, 0, none⟩), .pointer (some ⟨w.heap.size + 1, 0, none⟩)]) ∧ w' = (w.alloc (.cells #[.pointer (some ⟨b, 0, none⟩)] 96)).alloc (.cells #[.pointer (some ⟨g, o, none⟩)] 113) := by
  go_enter Tryz.func156, Tryz.ntmps156
  go_wp2
  all_goals go_ret
  all_goals exact ⟨rfl, rfl⟩
def PulW (C : PCn) (e : Ending) (w' : World) : Prop := ∃ (la : Option Addr) (lc : Nat), e = .returned (.tuple #[.slice la (pullL C.most C.v C.k).2.1.length lc, .int .i64 (pullL C.most C.v C.k).2.2]) ∧ PgB C (pullL C.most C.v C.k).1 w' ∧ RdOk (pullL C.most C.v C.k).1 C.k ∧ w'.ownsRow C.w.heap.size 53 6 (.slice la (pullL C.most C.v C.k).2.1.length lc) (pullL C.most C.v C.k).2.1.length (dflat (pullL C.most C.v C.k).2.1) ∧ Below C.B C.w w'
theorem PgB.belowN {C : PCn} {u : Rv} {W W' : World} (h : PgB C u W) (hC : PCk C) (hb : Below C.w.heap.size W W') : PgB C u W' := by
  obtain ⟨P, f, ys, h1, h2, h3, h4⟩ := h
  exact ⟨P, f, ys, h1.belowB hb ⟨hC.bB.2, hC.Al.1, hC.Al.2, fun q e => by
    have e' : C.g = q := by simpa [Value.ownBlock] using e
    rw [← e']; exact hC.gB.2, h4⟩, h2, h3, h4⟩
theorem pg_own {C : PCn} (hC : PCk C) {u : Rv} {l : List Td} {c : Int} {W W' : World} {row : Option Nat} (hB : PgB C u W) (hF : PgF C l c W) (hg : W.grownBy W' row) (hr : ∀ r, row = some r → C.w.heap.size + 5 ≤ r ∧ ∃ o : Obj, W.heap[r]? = some o ∧ o.isCells = false) : PgB C u W' ∧ PgF C l c W' := by
  have hs : C.w.heap.size ≤ W.heap.size := by have := hF.rs.lt; omega
  refine ⟨hB.belowN hC ((Below.refl _ _).grown hg hs fun r e => by have := (hr r e).1; omega), hF.grown hC hg (fun r e => ⟨by have := (hr r e).1; have := hC.bB; omega, .inr (hr r e).1⟩) fun r e la lc ho e2 => ?_⟩
  obtain ⟨_, o, ho1, ho2⟩ := hr r e
  obtain ⟨_, ⟨e3, _⟩ | ⟨g, cp, cur, e3, _, hgc, _⟩⟩ := ho
  · rw [e3] at e2; simp [Value.ownBlock] at e2
  · rw [e3] at e2
    have e4 : g = r := by simpa [Value.ownBlock] using e2
    subst e4
    rw [hgc] at ho1
    injection ho1 with ho1
    subst ho1
    simp [Obj.isCells] at ho2
theorem PgI.own {C : PCn} (hC : PCk C) : OwnFrom (C.w.heap.size + 5) (PgI C) := fun s W W' row h hg hr => by
  obtain ⟨h1, h2, h3, h4, h5⟩ := h
  obtain ⟨g1, g2⟩ := pg_own hC h3 h4 hg hr
  exact ⟨h1, h2, g1, g2, h5⟩
theorem PgX.own {C : PCn} (hC : PCk C) (c : Code) : OwnFrom (C.w.heap.size + 5) (PgX C c) := fun s W W' row h hg hr => by
  obtain ⟨h0, h1, h2, h3, h4, h5⟩ := h
  obtain ⟨g1, g2⟩ := pg_own hC h3 h4 hg hr
  exact ⟨h0, h1, h2, g1, g2, h5⟩
theorem PgF.out {C : PCn} {s : PSt} {W : World} (h1 : PulI C.most C.v C.k s.j s.u s.l s.c) (h2 : RdOk s.u C.k) (h3 : PgB C s.u W) (h4 : PgF C s.l s.c W) (he : s.c ≠ 0 ∨ C.most ≤ s.l.length) (hC : PCk C) {D : Nat} (hD : C.w.heap.size + 5 ≤ D) (hd : W.heap[D]? = some (.deferred (some []))) :
    ∃ (la : Option Addr) (ln lc : Nat) (c : Int), W.cell? ⟨C.w.heap.size + 1, 0, none⟩ = some (.slice la ln lc) ∧ W.cell? ⟨C.w.heap.size + 2, 0, none⟩ = some (.int .i64 c) ∧ PulW C (.returned (.tuple #[.slice la ln lc, .int .i64 c])) (W.drew.putObj D (.deferred none)) := by
  obtain ⟨la, lc, x1, x2⟩ := h4.li
  have hg := grownBy_putObj' W.drew D (.deferred none)
  have hd' : W.drew.heap[D]? = some (.deferred (some [])) := hd
  have hr : ∀ r, some D = some r → C.w.heap.size + 5 ≤ r ∧ ∃ o : Obj, W.drew.heap[r]? = some o ∧ o.isCells = false := fun r e => by
    injection e with e; subst e; exact ⟨hD, _, hd', rfl⟩
  have hW : Below W.heap.size W W.drew := (Below.refl _ _).drew
  obtain ⟨g1, g2⟩ := pg_own hC (h3.keep hW) (h4.keep hC hW) hg hr
  have hful := h1.full he
  obtain ⟨la', lc', y1, y2⟩ := g2.li
  have ez : (Value.slice la s.l.length lc) = .slice la' s.l.length lc' := by
    have a1 := (x1.keep hW).grown hg (fun e => by injection e with e; omega)
    have a2 := a1.cs 0 (by simp)
    have a3 := y1.cs 0 (by simp)
    rw [a3] at a2
    simpa using a2.symm
  refine ⟨la, s.l.length, lc, s.c, by simpa using x1.cs 0 (by simp), by simpa using h4.la.cs 0 (by simp), ?_⟩
  unfold PulW
  rw [hful]
  refine ⟨la, lc, rfl, g1, h2, ?_, g2.bel⟩
  rw [ez]
  exact rowM y2 (by omega)
theorem wpListIn_append_run {F : Fence} {n : Nat} {P : Program} {ops : Array Oper} {rest : List Oper} {o : Oper} {a : Act} {Q : Exit → Act → World → Prop} {w w' : World} (hgd : o.guard = none) (s x : Operand) (t : TypeId)
    (ho : o.op = .call { callee := .builtin .append, args := #[s, x], argTypes := #[t, t] }) (v u v' : Value) (hs : a.eval s = v) (hx : a.eval x = u)
    (hr : (Builtin.append_ #[t, t] o.type #[v, u]).run P w = .ok v' w') (h : wpListIn F n P ops Q rest (a.put o.dst v') w') : wpListIn F n P ops Q (o :: rest) a w := by
  refine wpListIn_plain hgd fun K hK => ?_
  unfold Oper.wpIn
  refine ⟨by simp [Oper.about, ho, resolve, Target.leads, Sem.run_pure], ?_⟩
  rw [Oper.semAt_plain F _ _ (by rw [ho]; intro c hc'; cases hc')]
  simp [execOp, ho, resolve, invoke, builtin, hs, hx, hr, Result.andThen]
  exact hK _ _ h
theorem PgF.setLast {C : PCn} {l : List Td} {c0 c : Int} {W : World} (h : PgF C l c0 W) (hC : PCk C) : PgF C l c (W.setCell ⟨C.w.heap.size + 2, 0, none⟩ (.int .i64 c)) := by
  obtain ⟨la, lc, h1, h2⟩ := h.li
  have hs := h.rs.lt
  have g : W.grownBy (W.setCell ⟨C.w.heap.size + 2, 0, none⟩ (.int .i64 c)) (some (C.w.heap.size + 2)) := grown_setC _ _ _ _
  exact ⟨h.mo.grown g (by simp), ⟨la, lc, h1.grown g (by simp), rowG h2 g fun r e e2 => by injection e with e; have := (row_lt h2 e2).1; omega⟩, by simpa using h.la.set 0 (by simp) (.int .i64 c), h.rb.grown g (by simp), h.rs.grown g (by simp), h.bel.grown g (by have := h.bel.size; have := hC.bB; omega) (fun r e => by injection e with e; have := hC.bB; omega)⟩
theorem PgB.setLow {C : PCn} {u : Rv} {W : World} (h : PgB C u W) (hC : PCk C) (i : Nat) (v : Value) (hi : C.w.heap.size ≤ W.heap.size) : PgB C u (W.setCell ⟨C.w.heap.size + i, 0, none⟩ v) :=
  h.belowN hC ((Below.refl _ _).grown (grown_setC _ _ _ _) hi fun r e => by injection e with e; omega)
theorem PgF.told {C : PCn} {l : List Td} {t : Td} {c : Int} {W w' : World} {v : Value} {a' : Option Addr} {c' : Nat} (h : PgF C l c W) (hC : PCk C) (hv : BoxL (C.w.heap.size + 1) [v] W) (ho : w'.ownsRow (C.w.heap.size + 5) 53 6 (.slice a' (l.length + 1) c') (l.length + 1) (dflat (l ++ [t])))
    (hg : W.grownBy w' v.ownBlock) : PgF C (l ++ [t]) c (w'.setCell ⟨C.w.heap.size + 1, 0, none⟩ (.slice a' (l.length + 1) c')) ∧ BoxL (C.w.heap.size + 1) [v] w' := by
  obtain ⟨la, lc, h1, h2⟩ := h.li
  have hs := h.rs.lt
  have ev : v = .slice la l.length lc := by
    have e1 := h1.cs 0 (by simp)
    have e2 := hv.cs 0 (by simp)
    rw [e1] at e2
    simpa using e2.symm
  rw [ev] at hg hv ⊢
  have hge : ∀ q, (Value.slice la l.length lc).ownBlock = some q → C.w.heap.size + 5 ≤ q := fun q e => (row_lt h2 e).1
  have g := grown_setC w' (C.w.heap.size + 1) 0 (.slice a' (l.length + 1) c')
  have ne : ∀ i, i < 5 → (Value.slice la l.length lc).ownBlock ≠ some (C.w.heap.size + i) := fun i hi e => by have := hge _ e; omega
  have k1 := h1.grown hg (ne 1 (by omega))
  have hl : (l ++ [t]).length = l.length + 1 := by simp
  have hb : Below C.B C.w w' := h.bel.grown hg (by have := h.bel.size; have := hC.bB; omega) fun q e => by have := hge q e; have := hC.bB; omega
  refine ⟨⟨(h.mo.grown hg (ne 0 (by omega))).grown g (by simp), ⟨a', c', by rw [hl]; simpa using k1.set 0 (by simp) (.slice a' (l.length + 1) c'), by rw [hl]; exact rowG ho g fun r e e2 => by injection e with e; have := (row_lt ho e2).1; omega⟩, (h.la.grown hg (ne 2 (by omega))).grown g (by simp), (h.rb.grown hg (ne 3 (by omega))).grown g (by simp), (h.rs.grown hg (ne 4 (by omega))).grown g (by simp), hb.grown g (by have := hb.size; have := hC.bB; omega) (fun r e => by injection e with e; have := hC.bB; omega)⟩, k1⟩
set_option maxRecDepth 100000 in
set_option maxHeartbeats 8000000 in
theorem pull_any (C : PCn) (hC : PCk C) (P : Nat → Tm) (f : Nat) (ys : List Sa) (hR : RBody C.B C.b C.A P f C.v (some ⟨C.g, 0, none⟩) C.sz C.sc ys C.w) (hyn : ∀ y, y ∈ ys → y.n ≤ 2097152) (hky : C.k < ys.length) (hrd : RdOk C.v C.k) :
  Calls Tryz.prog 102 #[.pointer (some ⟨C.b, 0, none⟩), .pointer (some ⟨C.g, C.k * 7, none⟩), .int .i64 (C.most : Int)] C.w fun e w' => PulW C e w' := by
 have hlow : ∀ y, y ∈ ys → ∀ q, (Value.slice y.a y.n y.c).ownBlock = some q → q < C.w.heap.size := hR.blks.2.2.2.2
 refine callsIn_wide.1 (callsIn_of_wp_marks (n := 4) Tryz.func102 rfl trivial ?_ rfl)
 simp only [Tryz.ntmps102, List.size_toArray, List.length_cons, List.length_nil, Nat.reduceAdd, Nat.reduceSub, Array.replicate_succ, Array.replicate_zero, List.push_toArray, List.append_toArray, List.nil_append, List.cons_append]
 refine wpIn_wide.2 ?_
 have HRe := hidOf (fun W => reader_any C.b C.g (C.k * 7) W)
 obtain ⟨U0, hU0⟩ : ∃ W, W = ((C.w.alloc (.cells #[.int .i64 (C.most : Int)] 3)).alloc (.cells #[.slice none 0 0] 48)).alloc (.cells #[.int .i64 0] 3) := ⟨_, rfl⟩
 have z0 : U0.heap.size = C.w.heap.size + 3 := by rw [hU0]; simp
 have B0 : Below C.w.heap.size C.w U0 := by rw [hU0]; exact bl_alloc (bl_alloc (bl_alloc (Below.refl _ _) _) _) _
 have X0 : BoxL C.w.heap.size [.int .i64 (C.most : Int)] U0 := by rw [hU0]; exact ((BoxL.new C.w [.int .i64 (C.most : Int)] _).alloc _).alloc _
 have X1 : BoxL (C.w.heap.size + 1) [.slice none 0 0] U0 := by rw [hU0]; exact (by simpa using BoxL.new (C.w.alloc (.cells #[.int .i64 (C.most : Int)] 3)) [.slice none 0 0] 48 : BoxL (C.w.heap.size + 1) [.slice none 0 0] _).alloc _
 have X2 : BoxL (C.w.heap.size + 2) [.int .i64 0] U0 := by rw [hU0]; simpa using BoxL.new ((C.w.alloc (.cells #[.int .i64 (C.most : Int)] 3)).alloc (.cells #[.slice none 0 0] 48)) [.int .i64 0] 3
 by_cases hm : C.most = 0
 ·have hmi : ((C.most : Int) == 0) = true := by simp [hm]
  have HD := hidOf (show PulW C (.returned (.tuple #[.slice none 0 0, .int .i64 0])) U0.drew from by
   unfold PulW
   rw [hm]
   exact ⟨none, 0, rfl, ⟨P, f, ys, hR.keep B0.drew, hyn, hky, hlow⟩, hrd, World.ownsRow_nil _ _ _ _, B0.drew.mono (by have := hC.bB; omega)⟩)
  have p1 : U0.cell? ⟨C.w.heap.size + 1, 0, none⟩ = some (.slice none 0 0) := by simpa using X1.cs 0 (by simp)
  have p2 : U0.cell? ⟨C.w.heap.size + 2, 0, none⟩ = some (.int .i64 0) := by simpa using X2.cs 0 (by simp)
  clear hR hyn hky hlow hrd hC z0 B0 X0 X1 X2 HRe hm
  go_upto_region 4 with fail
  rw [← hU0]
  clear hU0
  go_region
  go_wp2_with fail
  exact ⟨_, by simp [results, Tryz.results102, go_sem], HD.out⟩
 ·have hmi : ((C.most : Int) == 0) = false := by simp [hm]
  obtain ⟨U1, hU1⟩ : ∃ W, W = (U0.alloc (.cells #[.pointer (some ⟨C.b, 0, none⟩)] 96)).alloc (.cells #[.pointer (some ⟨C.g, C.k * 7, none⟩)] 113) := ⟨_, rfl⟩
  have z1 : U1.heap.size = C.w.heap.size + 5 := by rw [hU1]; simp; omega
  have b1 : Below U0.heap.size U0 U1 := by rw [hU1]; exact bl_alloc (bl_alloc (Below.refl _ _) _) _
  have X3 : BoxL (C.w.heap.size + 3) [.pointer (some ⟨C.b, 0, none⟩)] U1 := by rw [hU1, ← z0]; exact (BoxL.new U0 [.pointer (some ⟨C.b, 0, none⟩)] _).alloc _
  have X4 : BoxL (C.w.heap.size + 4) [.pointer (some ⟨C.g, C.k * 7, none⟩)] U1 := by
   rw [hU1, show C.w.heap.size + 4 = U0.heap.size + 1 by omega]
   simpa using BoxL.new (U0.alloc (.cells #[.pointer (some ⟨C.b, 0, none⟩)] 96)) [.pointer (some ⟨C.g, C.k * 7, none⟩)] 113
  have B1 := bl_trans B0 b1
  have hF : PgF C [] 0 U1 := ⟨X0.keep b1, ⟨none, 0, X1.keep b1, World.ownsRow_nil _ _ _ _⟩, X2.keep b1, X3, X4, B1.mono (by have := hC.bB; omega)⟩
  have hI : PgI C ⟨0, C.v, [], 0⟩ U1 := ⟨PulI.start _ _ _, hrd, ⟨P, f, ys, hR.keep B1, hyn, hky, hlow⟩, hF, fun _ => by show 0 < C.most; omega⟩
  have HC := hidOf hC
  have HI := hidOf hI
  have HZ := hidOf (And.intro z0 z1)
  clear hR hyn hky hlow hrd hC b1 B0 X0 X1 X2 X3 X4 B1 hF hI hm
  go_wp2_with fail
  rw [← hU0]
  refine (HRe.out _).mono ?_
  rintro e w1 ⟨rfl, rfl⟩
  rw [← hU1]
  clear hU0 hU1
  go_wp2_with fail
  refine wpIn_wide.1 (wpIn_rangeFunc_st (n := 4) rfl (by omega) (gf := 180) (lb := #[.pointer (some ⟨C.w.heap.size + 3, 0, none⟩), .pointer (some ⟨C.w.heap.size + 4, 0, none⟩)]) rfl trivial (enters_of Tryz.func180 (by kernel_rfl) rfl) (PgI C) (PgM C) (PgX C) (fun s => s.c ≠ 0) ⟨0, C.v, [], 0⟩ ?seq ?own ?ownX HI.out ?round ?done ?stop)
  case seq => rw [z1]; exact reader1_any C HC.out _ _ rfl
  case own => rw [z1]; exact PgI.own HC.out
  case ownX => intro c; rw [z1]; exact PgX.own HC.out c
  case round =>
   intro l s args W hl hlt hrec hM
   obtain ⟨hin, hrd, hB, l0, t, rfl, hl0, hlm, hF⟩ := hM
   refine ⟨rfl, ?_⟩
   have hC := HC.out
   obtain ⟨r0, hr0⟩ := hrec
   gi_wp2_with fail
   refine ⟨KeepsOthers.alloc _ _, fun r => ?_⟩
   obtain ⟨V, hV⟩ : ∃ V, V = (W.alloc (.cells #[.int .i64 t.kd, .int .i64 t.ms.1, .int .i64 t.ms.2.1, .string t.ms.2.2, .int .i64 t.ix, .int .i64 t.n] 53)).putObj l (.loop r) := ⟨_, rfl⟩
   have hll : C.w.heap.size + 5 ≤ l := by rw [z1] at hl; exact hl
   have hal : Below W.heap.size W (W.alloc (.cells #[.int .i64 t.kd, .int .i64 t.ms.1, .int .i64 t.ms.2.1, .string t.ms.2.2, .int .i64 t.ix, .int .i64 t.n] 53)) := bl_alloc (Below.refl _ _) _
   have hra : (W.alloc (.cells #[.int .i64 t.kd, .int .i64 t.ms.1, .int .i64 t.ms.2.1, .string t.ms.2.2, .int .i64 t.ix, .int .i64 t.n] 53)).heap[l]? = some (.loop r0) := (Below.heap_alloc _ _ _ hlt).trans hr0
   have hgr : (W.alloc (.cells #[.int .i64 t.kd, .int .i64 t.ms.1, .int .i64 t.ms.2.1, .string t.ms.2.2, .int .i64 t.ix, .int .i64 t.n] 53)).grownBy V (some l) := by rw [hV]; exact grownBy_putObj' _ _ _
   have hT : BoxL W.heap.size [.int .i64 t.kd, .int .i64 t.ms.1, .int .i64 t.ms.2.1, .string t.ms.2.2, .int .i64 t.ix, .int .i64 t.n] V := (BoxL.new W [.int .i64 t.kd, .int .i64 t.ms.1, .int .i64 t.ms.2.1, .string t.ms.2.2, .int .i64 t.ix, .int .i64 t.n] _).grown hgr (fun e => by injection e with e; omega)
   obtain ⟨hB1, hF1⟩ := pg_own hC (hB.keep hal) (hF.keep hC hal) hgr (fun q e => by injection e with e; subst e; exact ⟨hll, _, hra, rfl⟩)
   have hVs : W.heap.size < V.heap.size := hT.lt
   rw [← hV]
   clear hV hgr hra hr0 hal hB hF
   have hsW : C.w.heap.size + 5 ≤ W.heap.size := by omega
   obtain ⟨NT, hNT⟩ : ∃ NT, W.heap.size = NT := ⟨_, rfl⟩
   rw [hNT] at hT hVs hsW ⊢
   clear hNT hlt hl
   obtain ⟨j, u, ls, c⟩ := s
   simp only at hin hrd hB1 hl0 ⊢
   have q2 : V.cell? ⟨C.w.heap.size + 2, 0, none⟩ = some (.int .i64 0) := by simpa using hF1.la.cs 0 (by simp)
   have f2 := hF1.la.fr
   obtain ⟨V1, hV1⟩ : ∃ V1, V.setCell ⟨C.w.heap.size + 2, 0, none⟩ (.int .i64 c) = V1 := ⟨_, rfl⟩
   have hF2 : PgF C l0 c V1 := by rw [← hV1]; exact hF1.setLast hC
   have hB2 : PgB C u V1 := by rw [← hV1]; exact hB1.setLow hC 2 _ (by omega)
   have hK1 : KeepsOthers V V1 := by rw [← hV1]; exact KeepsOthers.setCell _ _ _
   have hT1 : BoxL NT [.int .i64 t.kd, .int .i64 t.ms.1, .int .i64 t.ms.2.1, .string t.ms.2.2, .int .i64 t.ix, .int .i64 t.n] V1 := by rw [← hV1]; exact hT.far _ _ (by omega) _
   have hs1 : V1.heap.size = V.heap.size := by rw [← hV1]; simp
   obtain ⟨la, lc, x1, x2⟩ := hF2.li
   have hw1 : (V1.cell? ⟨C.w.heap.size + 1, 0, none⟩ = some (.slice la l0.length lc)) ∧ V1.cell? ⟨C.w.heap.size, 0, none⟩ = some (.int .i64 (C.most : Int)) := ⟨by simpa using x1.cs 0 (by simp), by simpa using hF2.mo.cs 0 (by simp)⟩
   obtain ⟨p1, p0⟩ := hw1
   by_cases hc : c = 0
   ·subst hc
    rw [if_pos rfl] at hl0
    subst hl0
    obtain ⟨a9, c9, w9, hr9, ho9, hg9, hq9⟩ := append_td (C.w.heap.size + 5) l0.length (.slice la l0.length lc) l0 t V1 x2 (by omega) (by have := hC.mo; omega)
    obtain ⟨hF9, hX9⟩ := hF2.told hC x1 ho9 hg9
    obtain ⟨t0, t1, t2, t3, t4, t5⟩ := box6 hT1
    have hB9 : PgB C u (w9.setCell ⟨C.w.heap.size + 1, 0, none⟩ (.slice a9 (l0.length + 1) c9)) := (hB2.belowN hC ((Below.refl _ _).grown hg9 (by omega) fun q e => by have := (row_lt x2 e).1; omega)).setLow hC 1 _ (by have := hg9.size; omega)
    have hK9 : KeepsOthers V (w9.setCell ⟨C.w.heap.size + 1, 0, none⟩ (.slice a9 (l0.length + 1) c9)) := (hK1.trans (KeepsOthers.of_grownBy hg9 fun q o e ho => by
     obtain ⟨_, ⟨e3, _⟩ | ⟨g, cp, cur, e3, _, hgc, _⟩⟩ := x2
     ·rw [e3] at e; simp [Value.ownBlock] at e
     ·rw [e3] at e
      have e4 : g = q := by simpa [Value.ownBlock] using e
      subst e4
      rw [hgc] at ho
      injection ho with ho
      subst ho
      rfl)).trans (KeepsOthers.setCell _ _ _)
    have c9' := hX9.cs 0 (by simp)
    have f9 := hX9.fr
    have d1 : (w9.setCell ⟨C.w.heap.size + 1, 0, none⟩ (.slice a9 (l0.length + 1) c9)).cell? ⟨C.w.heap.size + 1, 0, none⟩ = some (.slice a9 (l0.length + 1) c9) := World.cell?_setCell_same _ _ _ (by simpa using c9')
    have d0 : (w9.setCell ⟨C.w.heap.size + 1, 0, none⟩ (.slice a9 (l0.length + 1) c9)).cell? ⟨C.w.heap.size, 0, none⟩ = some (.int .i64 (C.most : Int)) := by simpa using hF9.mo.cs 0 (by simp)
    rw [hs1] at hr9
    simp only [List.getElem_cons_zero] at c9'
    have HE := hidOf (And.intro hin (And.intro hrd (And.intro hB9 (And.intro hK9 (And.intro hF9 hlm)))))
    clear hin hrd hB9 hK9 hF9 hX9 hB2 hF2 x1 x2 ho9 hg9 hq9 hK1 hT hT1 hB1 hF1 hlm
    subst hV1
    obtain ⟨nn, hnn⟩ : ∃ nn, l0.length + 1 = nn := ⟨_, rfl⟩
    rw [hnn] at hr9 d0 d1 HE
    have HNN := hidOf hnn
    clear hnn
    by_cases hfull : nn = C.most
    ·have hfi : ((nn : Int) == (C.most : Int)) = true := by simp [hfull]
     have HF := hidOf hfull
     clear hfull
     gi_wp2_with (gi_at_builtin; refine wpListIn_append_run rfl _ _ 48 rfl _ _ _ rfl rfl hr9 ?_)
     obtain ⟨h1, h2, h3, h4, h5, h6⟩ := HE.out
     exact ⟨h4, rfl, h1, h2, h3, h5, rfl, by simp; rw [HNN.out]; exact HF.out⟩
    ·have hfi : ((nn : Int) == (C.most : Int)) = false := by simp; omega
     have HF := hidOf hfull
     clear hfull
     gi_wp2_with (gi_at_builtin; refine wpListIn_append_run rfl _ _ 48 rfl _ _ _ rfl rfl hr9 ?_)
     obtain ⟨h1, h2, h3, h4, h5, h6⟩ := HE.out
     exact ⟨h4, h1, h2, h3, h5, fun _ => by have := HF.out; have := HNN.out; simp; omega⟩
   ·rw [if_neg hc] at hl0
    subst hl0
    have hcb : (c == 0) = false := by simp [hc]
    have hne : ((ls.length : Int) == (C.most : Int)) = false := by simp; omega
    subst hV1
    gi_wp2_with fail
    exact ⟨hK1, hin, hrd, hB2, hF2, fun h => absurd h hc⟩
  case done =>
   intro D s W hD hS hIs hdf
   obtain ⟨h1, h2, h3, h4, h5⟩ := hIs
   obtain ⟨la, ln, lc, c, p1, p2, hP⟩ := PgF.out h1 h2 h3 h4 (.inl hS) HC.out (by rw [z1] at hD; exact hD) hdf
   have HP := hidOf hP
   have hdf' : W.drew.heap[D]? = some (.deferred (some [])) := hdf
   clear h1 h2 h3 h4 h5 hP hS hdf
   go_wp2_with fail
   go_region
   go_wp2_with fail
   refine ⟨by simp, .inl ⟨_, _, rfl, run_takeDeferred hdf', ?_⟩⟩
   exact ⟨_, by simp [results, Tryz.results102, go_sem], HP.out⟩
  case stop =>
   intro D c0 s W hD hX hdf
   obtain ⟨rfl, h1, h2, h3, h4, h5, h6⟩ := hX
   obtain ⟨la, ln, lc, c, p1, p2, hP⟩ := PgF.out h1 h2 h3 h4 (.inr (by omega)) HC.out (by rw [z1] at hD; exact hD) hdf
   have HP := hidOf hP
   have hdf' : W.drew.heap[D]? = some (.deferred (some [])) := hdf
   clear h1 h2 h3 h4 h5 h6 hP hdf
   refine wpIn_wide.2 ?_
   go_wp2_with fail
   go_region
   go_wp2_with fail
   refine ⟨by simp, .inl ⟨_, _, rfl, run_takeDeferred hdf', ?_⟩⟩
   exact ⟨_, by simp [results, Tryz.results102, go_sem], HP.out⟩
end Go.Proofs.YtdboaoejlkkoeaaGreat
