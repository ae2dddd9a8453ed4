/-
  The program's subscribe.
-/
import Derived.Test.YtihdglmiecifjaaGreatZRa49
import Derived.Deep.RegionHeld3
import Derived.Deep.CutRange
namespace Go.Proofs.YtihdglmiecifjaaGreat
open Go.RowKit Go.Maps Pl Il

theorem nstep_append_exV {P : Program} {ops : Array Oper} {o : Oper} {a : Act} {w : World} {K : Act → World → Prop} {Q : Exit → Act → World → Prop} {E : Prop} {R : Value → World → Prop} (hgd : o.guard = none) (s x : Operand) (t : TypeId)
    (ho : o.op = .call { callee := .builtin .append, args := #[s, x], argTypes := #[t, t] }) (v u : Value) (hs : a.eval s = v) (hx : a.eval x = u)
    (hr : ∃ v' w', (Builtin.append_ #[t, t] o.type #[v, u]).run P w = .ok v' w' ∧ R v' w') (h : ∀ v' w', R v' w' → K (a.put o.dst v') w') :
    if Region.wanted o (yielded ops a.tmps) = true then Oper.wp P o a w K Q else E := by
  have hw : Region.wanted o (yielded ops a.tmps) = true := by simp [Region.wanted, hgd]
  rw [if_pos hw]
  obtain ⟨v', w', hrun, hR⟩ := hr
  unfold Oper.wp execOp
  simp only [ho, resolve, invoke, builtin, Sem.run_bind, Sem.run_pure, Result.andThen_ok, List.map_toArray, List.map_cons, List.map_nil, hs, hx, hrun]
  exact h v' w' hR
theorem nstep_append_runV {P : Program} {ops : Array Oper} {o : Oper} {a : Act} {w w' : World} {K : Act → World → Prop} {Q : Exit → Act → World → Prop} {E : Prop} (hgd : o.guard = none) (s x : Operand) (t : TypeId)
    (ho : o.op = .call { callee := .builtin .append, args := #[s, x], argTypes := #[t, t] }) (v u v' : Value) (hs : a.eval s = v) (hx : a.eval x = u)
    (hr : (Builtin.append_ #[t, t] o.type #[v, u]).run P w = .ok v' w') (h : K (a.put o.dst v') w') :
    if Region.wanted o (yielded ops a.tmps) = true then Oper.wp P o a w K Q else E :=
  nstep_append_exV (R := fun v1 w1 => v1 = v' ∧ w1 = w') hgd s x t ho v u hs hx ⟨v', w', hr, rfl, rfl⟩ (fun _ _ h1 => by obtain ⟨rfl, rfl⟩ := h1; exact h)
/-- A body, a filter copied, a list of one, and the append. -/
theorem push_run {B b : Nat} {A : Na} {P : Nat → Tm} {f : Nat} {v : Rv} {sa : Option Addr} {s sc : Nat} {ys : List Sa} {u w2 : World} {a2 : Option Addr} {n c2 : Nat} {ts : List Tm} (h : RBody B b A P f v sa s sc ys u) (hb : Below u.heap.size u w2) (hs : s ≤ 2097152)
    (ho : w2.ownsRow u.heap.size 132 3 (.slice a2 n c2) n (qflat ts)) (hts : ∀ p, p ∈ ts → p.2.2.size ≤ maxLen) (st : Int) :
    ∃ (a' : Option Addr) (c' : Nat) (w' : World), (Builtin.append_ #[25, 25] 25 #[.slice sa s sc, .slice (some ⟨w2.heap.size, 0, none⟩) 1 1]).run Tryz.prog (w2.alloc (.cells #[.int .i64 v.nx, .int .i64 st, .int .i64 st, .int .i64 0, .int .i64 0, .int .i64 0, .slice a2 n c2] 41)) = .ok (.slice a' (s + 1) c') w' ∧
      RBody B b A P f { v with sb := v.sb ++ [newS v st ts] } a' (s + 1) c' (ys ++ [⟨newS v st ts, a2, n, c2⟩]) (w'.setCell ⟨b, 57, none⟩ (.slice a' (s + 1) c')) ∧ Below B u (w'.setCell ⟨b, 57, none⟩ (.slice a' (s + 1) c')) ∧ w'.cell? ⟨b, 57, none⟩ = some (.slice sa s sc) ∧ w'.frozen? ⟨b, 57, none⟩ = false := by
  obtain ⟨V, hV⟩ : ∃ V, w2.alloc (.cells #[.int .i64 v.nx, .int .i64 st, .int .i64 st, .int .i64 0, .int .i64 0, .int .i64 0, .slice a2 n c2] 41) = V := ⟨_, rfl⟩
  have b4 : Below w2.heap.size w2 V := by rw [← hV]; exact bl_alloc (Below.refl _ _) _
  have hBu : B ≤ u.heap.size := by have := h.wst.lt; have := h.wst.ge; omega
  have fl4 := ownsRow_keep ho b4
  have hK := (h.keep hb).keep b4
  have one : SubAt V (some ⟨w2.heap.size, 0, none⟩) 1 [⟨newS v st ts, a2, n, c2⟩] := by
    obtain ⟨a1, c1, e1, _, h1⟩ := ownF_of fl4 ts rfl hts
    cases e1
    have X4 := BoxL.new w2 (sC ⟨newS v st ts, a2, n, c2⟩) 41
    have X4 : BoxL w2.heap.size (sC ⟨newS v st ts, a2, n, c2⟩) V := by rw [← hV]; exact X4
    refine ⟨rfl, fun y hy => by rw [List.mem_singleton.1 hy]; exact h1.tm, .inr ⟨w2.heap.size, 0, rfl, X4.lt, fun i hi => ?_⟩⟩
    obtain rfl : i = 0 := by omega
    exact ⟨X4.cs 0 (by simp), X4.cs 1 (by simp), X4.cs 2 (by simp), X4.cs 3 (by simp), X4.cs 4 (by simp), X4.cs 5 (by simp), X4.cs 6 (by simp)⟩
  obtain ⟨a', c', w', hr, ho', hg, hl⟩ := append_subR B s (.slice sa s sc) ys (some ⟨w2.heap.size, 0, none⟩) 1 1 [⟨newS v st ts, a2, n, c2⟩] V hK.srow.sb (by have := hb.size; have := b4.size; omega) one (by omega)
  have hkb : w'.heap[b]? = V.heap[b]? := hg.block b hK.wst.lt (fun e => hK.nb.1 e.symm)
  have ul : ∀ {t z : Nat} {r : Value} {m : Nat} {xs : List Value} {q : Nat}, u.ownsRow B t z r m xs → (Value.slice a2 n c2).ownBlock = some q → r.ownBlock ≠ some q := fun hr e e' => by
    have h1 := (row_lt hr e').2
    have h2 := (row_lt ho e).1
    omega
  rw [hV]
  refine ⟨a', c', w', hr, hK.push (x := ⟨newS v st ts, a2, n, c2⟩) (rowM fl4 hBu) hts (fun q e => ⟨?_, ul h.srow.sb e, fun y hy => ul (h.srow.fl y hy) e, ul h.wst.rows.one e, ul h.wst.rows.two e⟩) ho' hg hl, ?_, ?_, ?_⟩
  · have h1 := (row_lt ho e).1
    have h2 := h.wst.lt
    omega
  · have h1 : Below B u V := (hb.mono hBu).trans (b4.mono (by have := hb.size; omega))
    have h2 : Below B u w' := h1.grown hg (by have := h1.size; omega) (fun j hj => (row_lt h.srow.sb hj).1)
    exact h2.setCell (p := ⟨b, 57, none⟩) h.wst.ge _
  · rw [World.cell?_of_block hkb]; exact hK.c57
  · rw [World.frozen?_of_block hkb]; exact hK.wst.fr 57
/-- What subscribe leaves. -/
def SbsP (B b f : Nat) (A : Na) (P : Nat → Tm) (v : Rv) (st : Int) (ts : List Tm) (s n : Nat) (ys : List Sa) (w : World) (e : Ending) (w' : World) : Prop := e = .returned (.int .i64 v.nx) ∧ ∃ (a' : Option Addr) (c' : Nat) (a2 : Option Addr) (c2 : Nat), RBody B b A P f ⟨v.cp, v.se, v.it, v.nx + 1, v.sb ++ [newS v st ts], v.ln, v.gs, v.cl⟩ a' (s + 1) c' (ys ++ [⟨newS v st ts, a2, n, c2⟩]) w' ∧ Below B w w'
set_option maxRecDepth 100000 in
set_option maxHeartbeats 8000000 in
theorem subscribe_any (B b : Nat) (A : Na) (P : Nat → Tm) (f : Nat) (v : Rv) (sa : Option Addr) (s sc : Nat) (ys : List Sa) (a : Option Addr) (n cap : Nat) (ts : List Tm) (st : Int) (w : World) (hR : RBody B b A P f v sa s sc ys w) (hs : s ≤ 2097152) (hI : TmAt w a n ts) (hn : n ≤ 2097152) (hnx : 0 ≤ v.nx ∧ v.nx ≤ 1000000000) :
    Calls Tryz.prog 129 #[.pointer (some ⟨b, 0, none⟩), .slice a n cap, .int .i64 st] w fun e w' => SbsP B b f A P v st ts s n ys w e w' := by
  have c56 := hR.c56
  have c57 := hR.c57
  have hge := hR.wst.ge
  have HR1 := hidOf (hR.keep (Below.refl _ _).drew)
  have HTs := hidOf hI.short
  have HCp := hidOf (copiedF_any a n cap ts w.drew (hI.keep (Below.refl _ _).drew) hn)
  have c57d := cellT c57 (Below.refl _ _).drew
  clear hR hI
  go_enter Tryz.func129, Tryz.ntmps129
  go_upto_region 2 with fail
  go_cut [7] from 8 (fun v7 wx => v7 = .int .i64 v.nx ∧ ∃ (a' : Option Addr) (c' : Nat) (a2 : Option Addr) (c2 : Nat), RBody B b A P f { v with sb := v.sb ++ [newS v st ts] } a' (s + 1) c' (ys ++ [⟨newS v st ts, a2, n, c2⟩]) wx ∧ Below B w wx)
  case first =>
    refine wp_region_noPanic ?_
    refine wp_region_held_drew (S := fun _ => True) (by kernel_rfl) True.intro (fun hHeld => ?_)
    refine wpAnyH_take (i := 0) (v := ?_) rfl (by kernel_rfl) (by kernel_rfl) (by kernel_rfl) (fun _ _ _ h => h) (Or.inl ⟨by rfl, ?_⟩) (by assumption) ?_
    case refine_2 => (intro w hSw; (try dsimp only at hSw); go_simp; try with_reducible rfl)
    simp only [Act.put, List.getElem_toArray, List.getElem_cons_zero, List.setIfInBounds_toArray, List.set_cons_zero, List.set_cons_succ]
    refine wpAnyH_take (i := 1) (v := ?_) rfl (by kernel_rfl) (by kernel_rfl) (by kernel_rfl) (fun _ _ _ h => h) (Or.inl ⟨by rfl, ?_⟩) (by assumption) ?_
    case refine_2 => (intro w hSw; (try dsimp only at hSw); go_simp; try with_reducible rfl)
    simp only [Act.put, zGA, zG0, zGC, zSA, zS0, zSC]
    refine wpAnyH_take (i := 2) (v := ?_) rfl (by kernel_rfl) (by kernel_rfl) (by kernel_rfl) (fun _ _ _ h => h) (Or.inl ⟨by rfl, ?_⟩) (by assumption) ?_
    case refine_2 => (intro w hSw; (try dsimp only at hSw); go_simp; try with_reducible rfl)
    simp only [Act.put, zGA, zG0, zGC, zSA, zS0, zSC]
    refine wpAnyH_take (i := 3) (v := ?_) rfl (by kernel_rfl) (by kernel_rfl) (by kernel_rfl) (fun _ _ _ h => h) (Or.inl ⟨by rfl, ?_⟩) (by assumption) ?_
    case refine_2 => (intro w hSw; (try dsimp only at hSw); go_simp; try with_reducible rfl)
    simp only [Act.put, zGA, zG0, zGC, zSA, zS0, zSC]
    refine wpAnyH_take (i := 5) (v := ?_) rfl (by kernel_rfl) (by kernel_rfl) (by kernel_rfl) (fun _ _ _ h => h) (Or.inl ⟨by rfl, ?_⟩) (by assumption) ?_
    case refine_2 => (intro w hSw; (try dsimp only at hSw); go_simp; try with_reducible rfl)
    simp only [Act.put, zGA, zG0, zGC, zSA, zS0, zSC]
    refine wpAnyH_take (i := 6) (v := ?_) rfl (by kernel_rfl) (by kernel_rfl) (by kernel_rfl) (fun _ _ _ h => h) (Or.inl ⟨by rfl, ?_⟩) (by assumption) ?_
    case refine_2 => (intro w hSw; (try dsimp only at hSw); go_simp; try with_reducible rfl)
    simp only [Act.put, zGA, zG0, zGC, zSA, zS0, zSC]
    refine wpAnyH_take (i := 7) (v := ?_) rfl (by kernel_rfl) (by kernel_rfl) (by kernel_rfl) (fun _ _ _ h => h) (Or.inl ⟨by rfl, ?_⟩) (by assumption) ?_
    case refine_2 => (intro w hSw; (try dsimp only at hSw); go_simp; try with_reducible rfl)
    simp only [Act.put, zGA, zG0, zGC, zSA, zS0, zSC]
    refine wpAnyH_take (i := 8) (v := ?_) rfl (by kernel_rfl) (by kernel_rfl) (by kernel_rfl) (fun _ _ _ h => h) (Or.inl ⟨by rfl, ?_⟩) (by assumption) ?_
    case refine_2 => (intro w hSw; (try dsimp only at hSw); go_simp; try with_reducible rfl)
    simp only [Act.put, zGA, zG0, zGC, zSA, zS0, zSC]
    refine wpAnyH_ready (rs := [4, 9]) (by kernel_rfl) (by simp) ?_
    refine AllReadyH.cons rfl (fun K hK => ?_) (AllReadyH.cons rfl (fun K hK => ?_) AllReadyH.nil)
    · go_simp
      refine hK.out _ _ True.intro (fun hHeld => ?_)
      clear hK K
      refine wpAnyH_ready (rs := [9]) (by kernel_rfl) (by simp) ?_
      refine AllReadyH.cons rfl (fun K hK => ?_) AllReadyH.nil
      go_simp
      refine (HCp.out).mono ?_
      rintro e w2 ⟨a2, c2, rfl, ho2, b2⟩
      go_wp2_with fail
      refine hK.out _ _ True.intro (fun hHeld => ?_)
      clear hK K
      obtain ⟨a3, c3, w3, hr3, body3, bel3, e57, fr57⟩ := push_run HR1.out b2 hs ho2 HTs.out st
      have d57 : w2.cell? ⟨b, 57, none⟩ = some (.slice sa s sc) := cellT c57 (bl_trans (Below.refl _ _).drew b2)
      have d57a := cellT d57 (bl_alloc (Below.refl _ _) (.cells #[.int .i64 v.nx, .int .i64 st, .int .i64 st, .int .i64 0, .int .i64 0, .int .i64 0, .slice a2 n c2] 41))
      have HB3 := hidOf body3
      have HBl3 := hidOf ((Below.refl B w).drew.trans bel3)
      clear body3 bel3
      refine wpAnyH_take (i := 10) (v := ?_) rfl (by kernel_rfl) (by kernel_rfl) (by kernel_rfl) (fun _ _ _ h => h) (Or.inl ⟨by rfl, ?_⟩) (by assumption) ?_
      case refine_2 => (intro w hSw; (try dsimp only at hSw); go_simp; try with_reducible rfl)
      simp only [Act.put, zGA, zG0, zGC, zSA, zS0, zSC]
      refine wpAnyH_ready (rs := [11]) (by kernel_rfl) (by simp) ?_
      refine AllReadyH.cons rfl (fun K hK => ?_) AllReadyH.nil
      go_simp
      refine hK.out _ _ True.intro (fun hHeld => ?_)
      clear hK K
      refine wpAnyH_ready (rs := [12]) (by kernel_rfl) (by simp) ?_
      refine AllReadyH.cons rfl (fun K hK => ?_) AllReadyH.nil
      refine nstep_append_runV (by rfl) _ _ 25 (by rfl) (.slice sa s sc) (.slice (some ⟨w2.heap.size, 0, none⟩) 1 1) _ (by rfl) (by rfl) hr3 ?_
      refine hK.out _ _ True.intro (fun hHeld => ?_)
      clear hK K
      simp only [Act.put, zGA, zG0, zGC, zSA, zS0, zSC]
      refine wpAnyH_take (i := 13) (v := ?_) rfl (by kernel_rfl) (by kernel_rfl) (by kernel_rfl) (fun _ _ _ h => h) (Or.inl ⟨by rfl, ?_⟩) (by assumption) ?_
      case refine_2 => (intro w hSw; (try dsimp only at hSw); go_simp; try with_reducible rfl)
      simp only [Act.put, zGA, zG0, zGC, zSA, zS0, zSC]
      refine wpAnyH_take (i := 14) (v := ?_) rfl (by kernel_rfl) (by kernel_rfl) (by kernel_rfl) (fun _ _ _ h => h) (Or.inl ⟨by rfl, ?_⟩) (by assumption) ?_
      case refine_2 => (intro w hSw; (try dsimp only at hSw); go_simp; try with_reducible rfl)
      simp only [Act.put, zGA, zG0, zGC, zSA, zS0, zSC]
      refine wpAnyH_ready (rs := [15]) (by kernel_rfl) (by simp) ?_
      refine AllReadyH.cons rfl (fun K hK => ?_) AllReadyH.nil
      go_simp
      refine hK.out _ _ True.intro (fun hHeld => ?_)
      clear hK K
      refine wpAnyH_done (by kernel_rfl) ?_ _
      refine NoPanic.normal ?_
      go_wp2_with fail
      go_meet
      exact ⟨rfl, a3, c3, a2, c2, HB3.out, HBl3.out⟩
    · go_simp
      refine (HCp.out).mono ?_
      rintro e w2 ⟨a2, c2, rfl, ho2, b2⟩
      go_wp2_with fail
      refine hK.out _ _ True.intro (fun hHeld => ?_)
      clear hK K
      obtain ⟨a3, c3, w3, hr3, body3, bel3, e57, fr57⟩ := push_run HR1.out b2 hs ho2 HTs.out st
      have d57 : w2.cell? ⟨b, 57, none⟩ = some (.slice sa s sc) := cellT c57 (bl_trans (Below.refl _ _).drew b2)
      have d57a := cellT d57 (bl_alloc (Below.refl _ _) (.cells #[.int .i64 v.nx, .int .i64 st, .int .i64 st, .int .i64 0, .int .i64 0, .int .i64 0, .slice a2 n c2] 41))
      have HB3 := hidOf body3
      have HBl3 := hidOf ((Below.refl B w).drew.trans bel3)
      clear body3 bel3
      refine wpAnyH_take (i := 10) (v := ?_) rfl (by kernel_rfl) (by kernel_rfl) (by kernel_rfl) (fun _ _ _ h => h) (Or.inl ⟨by rfl, ?_⟩) (by assumption) ?_
      case refine_2 => (intro w hSw; (try dsimp only at hSw); go_simp; try with_reducible rfl)
      simp only [Act.put, zGA, zG0, zGC, zSA, zS0, zSC]
      refine wpAnyH_ready (rs := [4, 11]) (by kernel_rfl) (by simp) ?_
      refine AllReadyH.cons rfl (fun K hK => ?_) (AllReadyH.cons rfl (fun K hK => ?_) AllReadyH.nil)
      · go_simp
        refine hK.out _ _ True.intro (fun hHeld => ?_)
        clear hK K
        refine wpAnyH_ready (rs := [11]) (by kernel_rfl) (by simp) ?_
        refine AllReadyH.cons rfl (fun K hK => ?_) AllReadyH.nil
        go_simp
        refine hK.out _ _ True.intro (fun hHeld => ?_)
        clear hK K
        refine wpAnyH_ready (rs := [12]) (by kernel_rfl) (by simp) ?_
        refine AllReadyH.cons rfl (fun K hK => ?_) AllReadyH.nil
        refine nstep_append_runV (by rfl) _ _ 25 (by rfl) (.slice sa s sc) (.slice (some ⟨w2.heap.size, 0, none⟩) 1 1) _ (by rfl) (by rfl) hr3 ?_
        refine hK.out _ _ True.intro (fun hHeld => ?_)
        clear hK K
        simp only [Act.put, zGA, zG0, zGC, zSA, zS0, zSC]
        refine wpAnyH_take (i := 13) (v := ?_) rfl (by kernel_rfl) (by kernel_rfl) (by kernel_rfl) (fun _ _ _ h => h) (Or.inl ⟨by rfl, ?_⟩) (by assumption) ?_
        case refine_2 => (intro w hSw; (try dsimp only at hSw); go_simp; try with_reducible rfl)
        simp only [Act.put, zGA, zG0, zGC, zSA, zS0, zSC]
        refine wpAnyH_take (i := 14) (v := ?_) rfl (by kernel_rfl) (by kernel_rfl) (by kernel_rfl) (fun _ _ _ h => h) (Or.inl ⟨by rfl, ?_⟩) (by assumption) ?_
        case refine_2 => (intro w hSw; (try dsimp only at hSw); go_simp; try with_reducible rfl)
        simp only [Act.put, zGA, zG0, zGC, zSA, zS0, zSC]
        refine wpAnyH_ready (rs := [15]) (by kernel_rfl) (by simp) ?_
        refine AllReadyH.cons rfl (fun K hK => ?_) AllReadyH.nil
        go_simp
        refine hK.out _ _ True.intro (fun hHeld => ?_)
        clear hK K
        refine wpAnyH_done (by kernel_rfl) ?_ _
        refine NoPanic.normal ?_
        go_wp2_with fail
        go_meet
        exact ⟨rfl, a3, c3, a2, c2, HB3.out, HBl3.out⟩
      · go_simp
        refine hK.out _ _ True.intro (fun hHeld => ?_)
        clear hK K
        refine wpAnyH_ready (rs := [4]) (by kernel_rfl) (by simp) ?_
        refine AllReadyH.cons rfl (fun K hK => ?_) AllReadyH.nil
        go_simp
        refine hK.out _ _ True.intro (fun hHeld => ?_)
        clear hK K
        refine wpAnyH_ready (rs := [12]) (by kernel_rfl) (by simp) ?_
        refine AllReadyH.cons rfl (fun K hK => ?_) AllReadyH.nil
        refine nstep_append_runV (by rfl) _ _ 25 (by rfl) (.slice sa s sc) (.slice (some ⟨w2.heap.size, 0, none⟩) 1 1) _ (by rfl) (by rfl) hr3 ?_
        refine hK.out _ _ True.intro (fun hHeld => ?_)
        clear hK K
        simp only [Act.put, zGA, zG0, zGC, zSA, zS0, zSC]
        refine wpAnyH_take (i := 13) (v := ?_) rfl (by kernel_rfl) (by kernel_rfl) (by kernel_rfl) (fun _ _ _ h => h) (Or.inl ⟨by rfl, ?_⟩) (by assumption) ?_
        case refine_2 => (intro w hSw; (try dsimp only at hSw); go_simp; try with_reducible rfl)
        simp only [Act.put, zGA, zG0, zGC, zSA, zS0, zSC]
        refine wpAnyH_take (i := 14) (v := ?_) rfl (by kernel_rfl) (by kernel_rfl) (by kernel_rfl) (fun _ _ _ h => h) (Or.inl ⟨by rfl, ?_⟩) (by assumption) ?_
        case refine_2 => (intro w hSw; (try dsimp only at hSw); go_simp; try with_reducible rfl)
        simp only [Act.put, zGA, zG0, zGC, zSA, zS0, zSC]
        refine wpAnyH_ready (rs := [15]) (by kernel_rfl) (by simp) ?_
        refine AllReadyH.cons rfl (fun K hK => ?_) AllReadyH.nil
        go_simp
        refine hK.out _ _ True.intro (fun hHeld => ?_)
        clear hK K
        refine wpAnyH_done (by kernel_rfl) ?_ _
        refine NoPanic.normal ?_
        go_wp2_with fail
        go_meet
        exact ⟨rfl, a3, c3, a2, c2, HB3.out, HBl3.out⟩
  case rest =>
    obtain ⟨rfl, a3, c3, a2, c2, body, bel⟩ := hcut
    have d56 := body.c56
    have df := body.wst.fr 56
    have hw1 : IntKind.i64.wrap (v.nx + 1) = v.nx + 1 := by rw [IntKind.wrap_i64]; omega
    have HB := hidOf (body.next (v.nx + 1))
    have HBl := hidOf (bel.setCell (p := ⟨b, 56, none⟩) hge (.int .i64 (v.nx + 1)))
    clear body bel c56 c57 c57d HCp HR1
    go_wp2_with fail
    go_ret
    exact ⟨rfl, a3, c3, a2, c2, HB.out, HBl.out⟩
end Go.Proofs.YtihdglmiecifjaaGreat
