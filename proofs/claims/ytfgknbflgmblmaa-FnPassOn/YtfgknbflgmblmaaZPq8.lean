/-
  Walks of the specification's notifications: a telling of one
  A notification in a variable of its own: a grant is appended, a number
  Walks of the specification's notifications: a telling of all
  Walks of the specification's notifications: who waits
-/
import Derived.Test.YtfgknbflgmblmaaZPq7
import Derived.Deep.RegionLaw
namespace Go.Proofs.Ytfgknbflgmblmaa
open Go.RowKit Pl Il
set_option maxRecDepth 100000 in
set_option maxHeartbeats 2000000 in
theorem specTellOne_anyR (A : Na) (x : Nt) (w : World) (hI : NIn w A x) (hn : A.n ≤ 2097152) (hn' : A.n' ≤ 2097152) (hok : A.n ≤ A.c) :
  Calls Try.prog 24 #[.agg #[.bool x.pm, .slice A.a A.n A.c, .slice A.a' A.n' A.c', .int .i64 x.on, .int .i64 x.sp, .int .i64 x.tk]] w fun e w' => NOutR w (tellOneM x).1 [.int .i64 (tellOneM x).2.1, .int .i64 (tellOneM x).2.2] e w' := by
 have hC := nctx_new hI
 have s1 : ((w.alloc (.cells #[.bool x.pm, .slice A.a A.n A.c, .slice A.a' A.n' A.c', .int .i64 x.on, .int .i64 x.sp, .int .i64 x.tk] 27)).alloc (.cells #[.bool false, .slice none 0 0, .slice none 0 0, .int .i64 0, .int .i64 0, .int .i64 0] 27)).heap.size = w.heap.size + 2 := by simp
 have HL1 := hidOf hI.ints.len
 have HL2 := hidOf hI.grs.len
 have HCp := hidOf (l5Copy_any A x _ hC.ninX hn hn')
 have HC := hidOf hC
 have S1 := hidOf s1
 clear hC s1 hI
 go_enter Try.func24, Try.ntmps24
 go_wp2_with fail
 refine (HCp.out).mono ?_
 rintro e w1 ⟨a1, c1, a2, c2, rfl, hR, hb1⟩
 rw [S1.out] at hR
 have hC1 := HC.out.kp hb1
 have hS := nsr_new hR hC1.sz
 generalize hW2 : w1.alloc (.cells #[.bool x.pm, .slice a1 A.n c1, .slice a2 A.n' c2, .int .i64 x.on, .int .i64 x.sp, .int .i64 x.tk] 27) = W2
 have hb2 : Below w1.heap.size w1 W2 := by subst hW2; exact bl_alloc (Below.refl _ _) _
 simp only at hS
 rw [hW2] at hS
 have hC2 := hC1.kp hb2
 obtain ⟨_, p0, p1, p2, p3, p4, p5, _⟩ := id hC2.box0
 have HS := hidOf hS
 have HC2 := hidOf hC2
 clear hR hb1 hC1 hb2 hC2 hS HC HCp
 go_wp2_with fail
 refine (specNotifyOk_any A x _ HC2.out.ninX hn hn' hok).mono ?_
 rintro e w3 ⟨rfl, hb3⟩
 have hC := HC2.out.kp hb3
 have hS := HS.out.keep hb3
 clear p0 p1 p2 p3 p4 p5 hW2 hb3 HS HC2
 obtain ⟨A1, hA1⟩ : ∃ A1 : Na, A1 = ⟨a1, A.n, c1, a2, A.n', c2⟩ := ⟨_, rfl⟩
 rw [← hA1] at hS
 have hAn : A1.n = A.n ∧ A1.n' = A.n' := by rw [hA1]; exact ⟨rfl, rfl⟩
 have HAn := hidOf hAn
 clear hA1 hAn
 generalize hN : w1.heap.size = N at *
 clear hN
 obtain ⟨_, p0, p1, p2, p3, p4, p5, _⟩ := id hC.box0
 obtain ⟨_, z0, z1, z2, z3, z4, z5, zf⟩ := id hS.box
 have HC := hidOf hC
 have HS := hidOf hS
 have HIX := hidOf hC.ninX
 clear hC hS
 cases hokx : okN x
 ·obtain ⟨_, r0, r1, r2, r3, r4, r5, rf⟩ := id HC.out.box1
  have HF := hidOf (nsr_finR (A' := A1) (y := x) HC.out HS.out.rows)
  have HR := hidOf (show tellOneM x = (x, -1, 1) by unfold tellOneM; rw [if_pos hokx])
  clear HC HS hokx
  go_wp2
  refine bodyPost_ret (v := .tuple #[.agg #[.bool x.pm, .slice A1.a A1.n A1.c, .slice A1.a' A1.n' A1.c', .int .i64 x.on, .int .i64 x.sp, .int .i64 x.tk], .int .i64 (-1), .int .i64 1]) (by simp [results, Try.results24, go_sem, r0, r1, r2, r3, r4, r5]) rfl ?_
  rw [HR.out]
  exact ⟨A1, rfl, HF.out⟩
 ·obtain ⟨k1, _, k3, k4, k5, k6, k7, k8⟩ := okN_parts hokx
  have HK8 := hidOf k8
  clear k8
  rw [HL1.out] at k3
  rw [HL2.out] at k4
  have HOK := hidOf hokx
  have HK1 := hidOf k1
  clear hokx k1
  by_cases t1 : (1000000000 : Int) ≤ x.on
  ·obtain ⟨_, r0, r1, r2, r3, r4, r5, rf⟩ := id HC.out.box1
   have HF := hidOf (nsr_finR (A' := A1) (y := x) HC.out HS.out.rows)
   have HR := hidOf (show tellOneM x = (x, -1, 2) by
    unfold tellOneM
    rw [if_neg (by rw [HOK.out]; simp), if_pos (by unfold fullOne; rw [HL1.out, HL2.out]; first | (simp; done) | (simp; omega))])
   clear HC HS 
   go_wp2
   refine bodyPost_ret (v := .tuple #[.agg #[.bool x.pm, .slice A1.a A1.n A1.c, .slice A1.a' A1.n' A1.c', .int .i64 x.on, .int .i64 x.sp, .int .i64 x.tk], .int .i64 (-1), .int .i64 2]) (by simp [results, Try.results24, go_sem, r0, r1, r2, r3, r4, r5]) rfl ?_
   rw [HR.out]
   exact ⟨A1, rfl, HF.out⟩
  ·by_cases t2 : (0 : Int) < (A.n : Int)
   ·by_cases t3 : (32 : Int) ≤ (A.n' : Int)
    ·obtain ⟨_, r0, r1, r2, r3, r4, r5, rf⟩ := id HC.out.box1
     have HF := hidOf (nsr_finR (A' := A1) (y := x) HC.out HS.out.rows)
     have HR := hidOf (show tellOneM x = (x, -1, 2) by
      unfold tellOneM
      rw [if_neg (by rw [HOK.out]; simp), if_pos (by unfold fullOne; rw [HL1.out, HL2.out]; first | (simp; done) | (simp; omega))])
     clear HC HS 
     go_wp2
     refine bodyPost_ret (v := .tuple #[.agg #[.bool x.pm, .slice A1.a A1.n A1.c, .slice A1.a' A1.n' A1.c', .int .i64 x.on, .int .i64 x.sp, .int .i64 x.tk], .int .i64 (-1), .int .i64 2]) (by simp [results, Try.results24, go_sem, r0, r1, r2, r3, r4, r5]) rfl ?_
     rw [HR.out]
     exact ⟨A1, rfl, HF.out⟩
    ·have hres : tellOneM x = ((oneM { x with on := x.on + 1 }).1, (oneM { x with on := x.on + 1 }).2, 0) := by
      unfold tellOneM
      rw [if_neg (by rw [HOK.out]; simp), if_neg (by unfold fullOne; rw [HL1.out, HL2.out]; first | (simp; done) | (simp; omega))]
     have hS2 := HS.out.setc (y := { x with on := x.on + 1 }) 3 (.int .i64 (x.on + 1)) (HS.out.box.set3 (v := x.on + 1)) rfl rfl
     have hC2 := HC.out.keep (HS.out.below (Below.refl (w.heap.size + 2) w3) 3 (.int .i64 (x.on + 1))) (Nat.le_refl _)
     have HS2 := hidOf hS2
     have HC2 := hidOf hC2
     have HRes := hidOf hres
     obtain ⟨_, v0, v1, v2, v3, v4, v5, vf⟩ := id hS2.box
     simp only at v0 v1 v2 v3 v4 v5
     clear hS2 hC2 hres HS HC 
     go_wp2_with fail
     refine (l5One_any (w.heap.size + 2) A1 { x with on := x.on + 1 } _ HS2.out.rows (HC2.out.sz) (by have := HAn.out; omega) (by have := HAn.out; omega) k6).mono ?_
     rintro e w4 ⟨A4, rfl, hR4, hb4⟩
     have hC4 := HC2.out.keep hb4 (Nat.le_refl _)
     generalize hy : (oneM { x with on := x.on + 1 }).1 = y at hR4
     generalize ht : (oneM { x with on := x.on + 1 }).2 = t
     have hrs : tellOneM x = (y, t, 0) := by rw [HRes.out, hy, ht]
     generalize hW5 : w4.alloc (.cells #[.bool y.pm, .slice A4.a A4.n A4.c, .slice A4.a' A4.n' A4.c', .int .i64 y.on, .int .i64 y.sp, .int .i64 y.tk] 27) = W5
     have b5 : Below w4.heap.size w4 W5 := by subst hW5; exact bl_alloc (Below.refl _ _) _
     have hC5 := hC4.kp b5
     have hR5 := hR4.keep b5
     have hB5 : NBox w4.heap.size A4 y W5 := by subst hW5; exact NBox.new w4 A4 y _
     obtain ⟨_, u0, u1, u2, u3, u4, u5, _⟩ := id hB5
     obtain ⟨_, r0, r1, r2, r3, r4, r5, rf⟩ := id hC5.box1
     have HF := hidOf (nsr_finR (A' := A4) (y := y) hC5 hR5)
     have HR := hidOf (hrs)
     clear HS2 HC2 HRes hR4 hC4 hb4 hy ht hrs p0 p1 p2 p3 p4 p5 hC5 hR5 hB5 b5 z0 z1 z2 z3 z4 z5 zf v0 v1 v2 v3 v4 v5 vf
     go_wp2
     refine bodyPost_ret (v := .tuple #[.agg #[.bool y.pm, .slice A4.a A4.n A4.c, .slice A4.a' A4.n' A4.c', .int .i64 y.on, .int .i64 y.sp, .int .i64 y.tk], .int .i64 t, .int .i64 0]) (by simp [results, Try.results24, go_sem, r0, r1, r2, r3, r4, r5]) rfl ?_
     rw [HR.out]
     exact ⟨A4, rfl, HF.out⟩
   ·have hres : tellOneM x = ((oneM { x with on := x.on + 1 }).1, (oneM { x with on := x.on + 1 }).2, 0) := by
     unfold tellOneM
     rw [if_neg (by rw [HOK.out]; simp), if_neg (by unfold fullOne; rw [HL1.out, HL2.out]; first | (simp; done) | (simp; omega))]
    have hS2 := HS.out.setc (y := { x with on := x.on + 1 }) 3 (.int .i64 (x.on + 1)) (HS.out.box.set3 (v := x.on + 1)) rfl rfl
    have hC2 := HC.out.keep (HS.out.below (Below.refl (w.heap.size + 2) w3) 3 (.int .i64 (x.on + 1))) (Nat.le_refl _)
    have HS2 := hidOf hS2
    have HC2 := hidOf hC2
    have HRes := hidOf hres
    obtain ⟨_, v0, v1, v2, v3, v4, v5, vf⟩ := id hS2.box
    simp only at v0 v1 v2 v3 v4 v5
    clear hS2 hC2 hres HS HC 
    go_wp2_with fail
    refine (l5One_any (w.heap.size + 2) A1 { x with on := x.on + 1 } _ HS2.out.rows (HC2.out.sz) (by have := HAn.out; omega) (by have := HAn.out; omega) k6).mono ?_
    rintro e w4 ⟨A4, rfl, hR4, hb4⟩
    have hC4 := HC2.out.keep hb4 (Nat.le_refl _)
    generalize hy : (oneM { x with on := x.on + 1 }).1 = y at hR4
    generalize ht : (oneM { x with on := x.on + 1 }).2 = t
    have hrs : tellOneM x = (y, t, 0) := by rw [HRes.out, hy, ht]
    generalize hW5 : w4.alloc (.cells #[.bool y.pm, .slice A4.a A4.n A4.c, .slice A4.a' A4.n' A4.c', .int .i64 y.on, .int .i64 y.sp, .int .i64 y.tk] 27) = W5
    have b5 : Below w4.heap.size w4 W5 := by subst hW5; exact bl_alloc (Below.refl _ _) _
    have hC5 := hC4.kp b5
    have hR5 := hR4.keep b5
    have hB5 : NBox w4.heap.size A4 y W5 := by subst hW5; exact NBox.new w4 A4 y _
    obtain ⟨_, u0, u1, u2, u3, u4, u5, _⟩ := id hB5
    obtain ⟨_, r0, r1, r2, r3, r4, r5, rf⟩ := id hC5.box1
    have HF := hidOf (nsr_finR (A' := A4) (y := y) hC5 hR5)
    have HR := hidOf (hrs)
    clear HS2 HC2 HRes hR4 hC4 hb4 hy ht hrs p0 p1 p2 p3 p4 p5 hC5 hR5 hB5 b5 z0 z1 z2 z3 z4 z5 zf v0 v1 v2 v3 v4 v5 vf
    go_wp2
    refine bodyPost_ret (v := .tuple #[.agg #[.bool y.pm, .slice A4.a A4.n A4.c, .slice A4.a' A4.n' A4.c', .int .i64 y.on, .int .i64 y.sp, .int .i64 y.tk], .int .i64 t, .int .i64 0]) (by simp [results, Try.results24, go_sem, r0, r1, r2, r3, r4, r5]) rfl ?_
    rw [HR.out]
    exact ⟨A4, rfl, HF.out⟩
open Go.RowKit Pl Il
theorem NRow.ne {B : Nat} {w : World} {A : Na} {x : Nt} (h : NRow B w A x) (q : Nat) (h1 : (Value.slice A.a A.n A.c).ownBlock = some q) : (Value.slice A.a' A.n' A.c').ownBlock ≠ some q := by
  intro h2
  obtain ⟨_, ⟨ea, en⟩ | ⟨g, cap, cur, ea, hB, hg, hr⟩⟩ := h.one
  · rw [ea] at h1; simp [Value.ownBlock] at h1
  obtain ⟨_, ⟨ea', en'⟩ | ⟨g', cap', cur', ea', hB', hg', hr'⟩⟩ := h.two
  · rw [ea'] at h2; simp [Value.ownBlock] at h2
  rw [ea] at h1
  rw [ea'] at h2
  have e1 : g = q := by simpa [Value.ownBlock] using h1
  have e2 : g' = q := by simpa [Value.ownBlock] using h2
  subst e1
  subst e2
  rw [hg] at hg'
  simp at hg'
/-- A grant is appended. -/
theorem NSr.grow {B N : Nat} {A : Na} {x : Nt} {w w' : World} {g' c' : Nat} {y : Int} {b : Bool} (h : NSr B N A x w) (ho : w'.ownsRow B 44 2 (.slice (some ⟨g', 0, none⟩) (A.n' + 1) c') (A.n' + 1) (gflat (x.gs ++ [(y, b)]))) (hg : w.grownBy w' (Value.slice A.a' A.n' A.c').ownBlock) (hl : (Value.slice A.a' A.n' A.c').ownBlock = some g' ∨ w.heap.size ≤ g') :
    NBox N A x w' ∧ NSr B N { A with a' := some ⟨g', 0, none⟩, n' := A.n' + 1, c' := c' } { x with gs := x.gs ++ [(y, b)] } (w'.setCell ⟨N, 2, none⟩ (.slice (some ⟨g', 0, none⟩) (A.n' + 1) c')) := by
  have hb := h.box.grownO hg h.ne2
  have hlt := h.box.lt
  have hne : (Value.slice (some ⟨g', 0, none⟩) (A.n' + 1) c').ownBlock ≠ some N := fun e => by
    have e' : g' = N := by simpa [Value.ownBlock] using e
    rcases hl with hl | hl
    · exact h.ne2 (by rw [hl, e'])
    · omega
  have h1 := grow_far h.rows.one hg (fun q e e2 => h.rows.ne q e2 e)
  exact ⟨hb, hb.set2.lists x.ln _, h.ge, ⟨own_set h1 N 2 h.ne1 _, own_set ho N 2 hne _⟩, h.ne1, hne⟩
/-- A number is appended to the line. -/
theorem NSr.join {B N : Nat} {A : Na} {x : Nt} {w w' : World} {g' c' : Nat} {y : Int} (h : NSr B N A x w) (ho : w'.ownsRow B 3 1 (.slice (some ⟨g', 0, none⟩) (A.n + 1) c') (A.n + 1) (intsV (x.ln ++ [y]))) (hg : w.grownBy w' (Value.slice A.a A.n A.c).ownBlock) (hl : (Value.slice A.a A.n A.c).ownBlock = some g' ∨ w.heap.size ≤ g') :
    NBox N A x w' ∧ NSr B N { A with a := some ⟨g', 0, none⟩, n := A.n + 1, c := c' } { x with ln := x.ln ++ [y] } (w'.setCell ⟨N, 1, none⟩ (.slice (some ⟨g', 0, none⟩) (A.n + 1) c')) := by
  have hb := h.box.grownO hg h.ne1
  have hlt := h.box.lt
  have hne : (Value.slice (some ⟨g', 0, none⟩) (A.n + 1) c').ownBlock ≠ some N := fun e => by
    have e' : g' = N := by simpa [Value.ownBlock] using e
    rcases hl with hl | hl
    · exact h.ne1 (by rw [hl, e'])
    · omega
  have h1 := grow_far h.rows.two hg (fun q e e2 => h.rows.ne q e e2)
  exact ⟨hb, hb.set1.lists _ x.gs, h.ge, ⟨own_set ho N 1 hne _, own_set h1 N 1 h.ne2 _⟩, hne, h.ne2⟩
theorem NCtx.grown {w : World} {A : Na} {x : Nt} {u u' : World} {g : Option Nat} (h : NCtx w A x u) (hg : u.grownBy u' g) (hq : ∀ q, g = some q → w.heap.size + 2 ≤ q) (N o : Nat) (hN : w.heap.size + 2 ≤ N) (v : Value) : NCtx w A x u' ∧ NCtx w A x (u'.setCell ⟨N, o, none⟩ v) := by
  have h1 : Below (w.heap.size + 2) u u' := (Below.refl _ _).grown hg h.sz hq
  exact ⟨h.keep h1 (Nat.le_refl _), h.keep (bl_set1' h1 N o hN v) (Nat.le_refl _)⟩
theorem own6 {B N m : Nat} {w : World} {a : Option Addr} {l : List Int} (h : Il.OwnAt B w a m l) (hN : N < B) (y0 y1 y2 y3 y4 y5 : Value) :
    Il.OwnAt B ((((((w.setCell ⟨N, 0, none⟩ y0).setCell ⟨N, 1, none⟩ y1).setCell ⟨N, 2, none⟩ y2).setCell ⟨N, 3, none⟩ y3).setCell ⟨N, 4, none⟩ y4).setCell ⟨N, 5, none⟩ y5) a m l :=
  (((((h.far N 0 hN y0).far N 1 hN y1).far N 2 hN y2).far N 3 hN y3).far N 4 hN y4).far N 5 hN y5
theorem nstep_append_ex {P : Program} {ops : Array Oper} {o : Oper} {a : Act} {w : World} {K : Act → World → Prop} {Q : Exit → Act → World → Prop} {E : Prop} {R : Value → World → Prop} (hgd : o.guard = none) (s x : Operand) (t : TypeId)
    (ho : o.op = .call { callee := .builtin .append, args := #[s, x], argTypes := #[t, t] }) (v u : Value) (hs : a.eval s = v) (hx : a.eval x = u)
    (hr : ∃ v' w', (Builtin.append_ #[t, t] o.type #[v, u]).run P w = .ok v' w' ∧ R v' w') (h : ∀ v' w', R v' w' → K (a.put o.dst v') w') :
    if Region.wanted o (yielded ops a.tmps) = true then Oper.wp P o a w K Q else E := by
  have hw : Region.wanted o (yielded ops a.tmps) = true := by simp [Region.wanted, hgd]
  rw [if_pos hw]
  obtain ⟨v', w', hrun, hR⟩ := hr
  unfold Oper.wp execOp
  simp only [ho, resolve, invoke, builtin, Sem.run_bind, Sem.run_pure, Result.andThen_ok, List.map_toArray, List.map_cons, List.map_nil, hs, hx, hrun]
  exact h v' w' hR
theorem nstep_append_run {P : Program} {ops : Array Oper} {o : Oper} {a : Act} {w w' : World} {K : Act → World → Prop} {Q : Exit → Act → World → Prop} {E : Prop} (hgd : o.guard = none) (s x : Operand) (t : TypeId)
    (ho : o.op = .call { callee := .builtin .append, args := #[s, x], argTypes := #[t, t] }) (v u v' : Value) (hs : a.eval s = v) (hx : a.eval x = u)
    (hr : (Builtin.append_ #[t, t] o.type #[v, u]).run P w = .ok v' w') (h : K (a.put o.dst v') w') :
    if Region.wanted o (yielded ops a.tmps) = true then Oper.wp P o a w K Q else E :=
  nstep_append_ex (R := fun v1 w1 => v1 = v' ∧ w1 = w') hgd s x t ho v u hs hx ⟨v', w', hr, rfl, rfl⟩ (fun _ _ h1 => by obtain ⟨rfl, rfl⟩ := h1; exact h)
open Go.RowKit Pl Il
theorem all_end {w : World} {A A' : Na} {x : Nt} {y : Nt} {N : Nat} {u w7 : World} {g7 n7 c7 : Nat} {l : List Int} (hC : NCtx w A x u) (hS : NSr (w.heap.size + 2) N A' y u) (ho : w7.ownsRow u.drew.heap.size 3 1 (.slice (some ⟨g7, 0, none⟩) n7 c7) n7 (intsV l)) (hb : Below u.drew.heap.size u.drew w7) :
  w7.cell? ⟨N, 0, none⟩ = some (.bool y.pm) ∧ w7.cell? ⟨N, 1, none⟩ = some (.slice A'.a A'.n A'.c) ∧ w7.cell? ⟨N, 2, none⟩ = some (.slice A'.a' A'.n' A'.c') ∧ w7.cell? ⟨N, 3, none⟩ = some (.int .i64 y.on) ∧ w7.cell? ⟨N, 4, none⟩ = some (.int .i64 y.sp) ∧ w7.cell? ⟨N, 5, none⟩ = some (.int .i64 y.tk) ∧
  w7.cell? ⟨w.heap.size + 1, 0, none⟩ = some (.bool false) ∧ w7.cell? ⟨w.heap.size + 1, 1, none⟩ = some (.slice none 0 0) ∧ w7.cell? ⟨w.heap.size + 1, 2, none⟩ = some (.slice none 0 0) ∧ w7.cell? ⟨w.heap.size + 1, 3, none⟩ = some (.int .i64 0) ∧ w7.cell? ⟨w.heap.size + 1, 4, none⟩ = some (.int .i64 0) ∧ w7.cell? ⟨w.heap.size + 1, 5, none⟩ = some (.int .i64 0) ∧ (∀ o, w7.frozen? ⟨w.heap.size + 1, o, none⟩ = false) ∧
  NRow w.heap.size ((((((w7.setCell ⟨w.heap.size + 1, 0, none⟩ (.bool y.pm)).setCell ⟨w.heap.size + 1, 1, none⟩ (.slice A'.a A'.n A'.c)).setCell ⟨w.heap.size + 1, 2, none⟩ (.slice A'.a' A'.n' A'.c')).setCell ⟨w.heap.size + 1, 3, none⟩ (.int .i64 y.on)).setCell ⟨w.heap.size + 1, 4, none⟩ (.int .i64 y.sp)).setCell ⟨w.heap.size + 1, 5, none⟩ (.int .i64 y.tk)) A' y ∧ A'.n ≤ A'.c ∧
  Il.OwnAt w.heap.size ((((((w7.setCell ⟨w.heap.size + 1, 0, none⟩ (.bool y.pm)).setCell ⟨w.heap.size + 1, 1, none⟩ (.slice A'.a A'.n A'.c)).setCell ⟨w.heap.size + 1, 2, none⟩ (.slice A'.a' A'.n' A'.c')).setCell ⟨w.heap.size + 1, 3, none⟩ (.int .i64 y.on)).setCell ⟨w.heap.size + 1, 4, none⟩ (.int .i64 y.sp)).setCell ⟨w.heap.size + 1, 5, none⟩ (.int .i64 y.tk)) (some ⟨g7, 0, none⟩) n7 l ∧ Apart3 A'.a A'.n A'.a' A'.n' (some ⟨g7, 0, none⟩) n7 ∧
  Below w.heap.size w ((((((w7.setCell ⟨w.heap.size + 1, 0, none⟩ (.bool y.pm)).setCell ⟨w.heap.size + 1, 1, none⟩ (.slice A'.a A'.n A'.c)).setCell ⟨w.heap.size + 1, 2, none⟩ (.slice A'.a' A'.n' A'.c')).setCell ⟨w.heap.size + 1, 3, none⟩ (.int .i64 y.on)).setCell ⟨w.heap.size + 1, 4, none⟩ (.int .i64 y.sp)).setCell ⟨w.heap.size + 1, 5, none⟩ (.int .i64 y.tk)) := by
 have hu : u.drew.heap.size = u.heap.size := rfl
 have hb' : Below u.heap.size u w7 := (Below.refl _ _).drew.trans hb
 have hS7 := hS.keep hb'
 have hC7 := hC.kp hb'
 have hsz := hC.sz
 obtain ⟨f1, f2, f3⟩ := nsr_finR hC7 hS7.rows
 obtain ⟨_, s0, s1, s2, s3, s4, s5, _⟩ := hS7.box
 obtain ⟨_, r0, r1, r2, r3, r4, r5, rf⟩ := hC7.box1
 have hg : u.heap.size ≤ g7 := (ho.lt g7 rfl).1
 refine ⟨s0, s1, s2, s3, s4, s5, r0, r1, r2, r3, r4, r5, rf, f1, f2, (own6 ((row_own ho).1.mono (by omega)) (B := w.heap.size + 2) (by omega) _ _ _ _ _ _).mono (by omega), .inr fun b off e => ⟨.inr fun b' off' e' hbb => ?_, .inr fun b' off' e' hbb => ?_⟩, f3⟩
 ·cases e
  have := (hS.rows.one.lt b' (by rw [e']; rfl)).2
  omega
 ·cases e
  have := (hS.rows.two.lt b' (by rw [e']; rfl)).2
  omega
set_option maxRecDepth 100000 in
set_option maxHeartbeats 2000000 in
theorem specTellAll_anyR (A : Na) (x : Nt) (w : World) (hI : NIn w A x) (hn : A.n ≤ 2097152) (hn' : A.n' ≤ 2097152) (hok : A.n ≤ A.c) :
  Calls Try.prog 35 #[.agg #[.bool x.pm, .slice A.a A.n A.c, .slice A.a' A.n' A.c', .int .i64 x.on, .int .i64 x.sp, .int .i64 x.tk]] w fun e w' => NOutTR w (tellAllM x).1 (tellAllM x).2.1 (tellAllM x).2.2 e w' := by
 have hC := nctx_new hI
 have s1 : ((w.alloc (.cells #[.bool x.pm, .slice A.a A.n A.c, .slice A.a' A.n' A.c', .int .i64 x.on, .int .i64 x.sp, .int .i64 x.tk] 27)).alloc (.cells #[.bool false, .slice none 0 0, .slice none 0 0, .int .i64 0, .int .i64 0, .int .i64 0] 27)).heap.size = w.heap.size + 2 := by simp
 have HL1 := hidOf hI.ints.len
 have HL2 := hidOf hI.grs.len
 have HCp := hidOf (l5Copy_any A x _ hC.ninX hn hn')
 have HC := hidOf hC
 have S1 := hidOf s1
 clear hC s1 hI
 go_enter Try.func35, Try.ntmps35
 go_wp2_with fail
 refine (HCp.out).mono ?_
 rintro e w1 ⟨a1, c1, a2, c2, rfl, hR, hb1⟩
 rw [S1.out] at hR
 have hC1 := HC.out.kp hb1
 have hS := nsr_new hR hC1.sz
 generalize hW2 : w1.alloc (.cells #[.bool x.pm, .slice a1 A.n c1, .slice a2 A.n' c2, .int .i64 x.on, .int .i64 x.sp, .int .i64 x.tk] 27) = W2
 have hb2 : Below w1.heap.size w1 W2 := by subst hW2; exact bl_alloc (Below.refl _ _) _
 simp only at hS
 rw [hW2] at hS
 have hC2 := hC1.kp hb2
 obtain ⟨_, p0, p1, p2, p3, p4, p5, _⟩ := id hC2.box0
 have HS := hidOf hS
 have HC2 := hidOf hC2
 clear hR hb1 hC1 hb2 hC2 hS HC HCp
 go_wp2_with fail
 refine (specNotifyOk_any A x _ HC2.out.ninX hn hn' hok).mono ?_
 rintro e w3 ⟨rfl, hb3⟩
 have hC := HC2.out.kp hb3
 have hS := HS.out.keep hb3
 clear p0 p1 p2 p3 p4 p5 hW2 hb3 HS HC2
 obtain ⟨A1, hA1⟩ : ∃ A1 : Na, A1 = ⟨a1, A.n, c1, a2, A.n', c2⟩ := ⟨_, rfl⟩
 rw [← hA1] at hS
 have hAn : A1.n = A.n ∧ A1.n' = A.n' := by rw [hA1]; exact ⟨rfl, rfl⟩
 have HAn := hidOf hAn
 clear hA1 hAn
 generalize hN : w1.heap.size = N at *
 clear hN
 obtain ⟨_, p0, p1, p2, p3, p4, p5, _⟩ := id hC.box0
 obtain ⟨_, z0, z1, z2, z3, z4, z5, zf⟩ := id hS.box
 have HC := hidOf hC
 have HS := hidOf hS
 have HIX := hidOf hC.ninX
 clear hC hS
 cases hokx : okN x
 ·obtain ⟨_, r0, r1, r2, r3, r4, r5, rf⟩ := id HC.out.box1
  have HF := hidOf (nsr_finR (A' := A1) (y := x) HC.out HS.out.rows)
  have HR := hidOf (show tellAllM x = (x, [], 1) by unfold tellAllM; rw [if_pos hokx])
  clear HC HS hokx
  go_wp2
  refine bodyPost_ret (v := .tuple #[.agg #[.bool x.pm, .slice A1.a A1.n A1.c, .slice A1.a' A1.n' A1.c', .int .i64 x.on, .int .i64 x.sp, .int .i64 x.tk], .slice none 0 0, .int .i64 1]) (by simp [results, Try.results35, go_sem, r0, r1, r2, r3, r4, r5]) rfl ?_
  rw [HR.out]
  exact ⟨A1, none, 0, 0, rfl, HF.out.1, HF.out.2.1, ⟨⟨rfl, .inl rfl⟩, .inl rfl⟩, .inl rfl, HF.out.2.2⟩
 ·obtain ⟨k1, _, k3, k4, k5, k6, k7, k8⟩ := okN_parts hokx
  have HK8 := hidOf k8
  clear k8
  rw [HL1.out] at k3
  rw [HL2.out] at k4
  have HOK := hidOf hokx
  have HK1 := hidOf k1
  clear hokx k1
  by_cases h4 : 32 < x.ln.length + x.gs.length
  ·have h5 : (32 : Int) < (A.n : Int) + (A.n' : Int) := by have := HL1.out; have := HL2.out; omega
   obtain ⟨_, r0, r1, r2, r3, r4, r5, rf⟩ := id HC.out.box1
   have HF := hidOf (nsr_finR (A' := A1) (y := x) HC.out HS.out.rows)
   have HR := hidOf (show tellAllM x = (x, [], 2) by
    unfold tellAllM
    rw [if_neg (by rw [HOK.out]; simp), if_pos h4])
   clear HC HS h4
   go_wp2
   refine bodyPost_ret (v := .tuple #[.agg #[.bool x.pm, .slice A1.a A1.n A1.c, .slice A1.a' A1.n' A1.c', .int .i64 x.on, .int .i64 x.sp, .int .i64 x.tk], .slice none 0 0, .int .i64 2]) (by simp [results, Try.results35, go_sem, r0, r1, r2, r3, r4, r5]) rfl ?_
   rw [HR.out]
   exact ⟨A1, none, 0, 0, rfl, HF.out.1, HF.out.2.1, ⟨⟨rfl, .inl rfl⟩, .inl rfl⟩, .inl rfl, HF.out.2.2⟩
  ·have h5 : ¬ (32 : Int) < (A.n : Int) + (A.n' : Int) := by have := HL1.out; have := HL2.out; omega
   have h5' : decide ((32 : Int) < (A.n : Int) + (A.n' : Int)) = false := by simp; omega
   have hres : tellAllM x = (allM x, x.ln, 0) := by
    unfold tellAllM
    rw [if_neg (by rw [HOK.out]; simp), if_neg h4]
   have HRes := hidOf hres
   have HI := hidOf HC.out.nin.ints
   clear hres h4 HIX z0 z1 z2 z3 z4 z5 zf p0 p1 p2 p3 p4 p5
   obtain ⟨_, p0, p1, p2, p3, p4, p5, _⟩ := id HC.out.box0
   go_wp2_with fail
   go_loopw [6] (fun i wr => ∃ (j : Nat) (A' : Na), j ≤ A.n ∧ i = .int .i64 j ∧ A'.n' = A.n' + j ∧ NSr (w.heap.size + 2) N A' { x with gs := x.gs ++ (x.ln.take j).map fun y => (y, false) } wr ∧ NCtx w A x wr) (fun i _ => A.n - (intOf i).toNat)
   case atStart => exact ⟨0, A1, Nat.zero_le _, rfl, HAn.out.2, by simpa using HS.out, HC.out⟩
   case round =>
    rename_i wr
    obtain ⟨j, A', hj, rfl, en', hS, hCr⟩ := hrel
    clear HS HC p0 p1 p2 p3 p4 p5
    obtain ⟨_, p0, p1, p2, p3, p4, p5, _⟩ := id hCr.box0
    obtain ⟨_, z0, z1, z2, z3, z4, z5, zf⟩ := id hS.box
    simp only at z0 z1 z2 z3 z4 z5
    by_cases hlt : j < A.n
    ·obtain ⟨_, h' | ⟨b, off, ea, hb, hcell⟩⟩ := hCr.ninX.ints
     ·omega
     have hjl : j < x.ln.length := by rw [HL1.out]; exact hlt
     have hc := hcell j hlt
     have htk : x.ln.take (j + 1) = x.ln.take j ++ [x.ln.getD j 0] := by
      rw [List.take_succ_eq_append_getElem hjl]; simp [List.getD, List.getElem?_eq_getElem hjl]
     generalize hy : x.ln.getD j 0 = y at hc htk
     have hSd := hS.keep (Below.refl wr.heap.size wr).drew
     have hCd := hCr.kp (Below.refl wr.heap.size wr).drew
     obtain ⟨g', c', w', hr, ho', hg', hl'⟩ := append_gr2 (w.heap.size + 2) A'.n' _ _ y false wr.drew hSd.rows.two hCd.sz (by omega)
     obtain ⟨hbx, hS2⟩ := hSd.grow ho' hg' hl'
     obtain ⟨hCx, hC2⟩ := hCd.grown hg' (fun q e => (hS.rows.two.lt q e).1) N 2 hS.ge (.slice (some ⟨g', 0, none⟩) (A'.n' + 1) c')
     obtain ⟨_, r0, r1, r2, r3, r4, r5, rf⟩ := hbx
     have dq : ∀ o, (wr.alloc o).cell? ⟨N, 2, none⟩ = some (.slice A'.a' A'.n' A'.c') := fun o => by rw [World.cell?_alloc_old _ _ _ (Nat.ne_of_lt (World.block_lt_of_cell? wr _ z2))]; exact z2
     have dp : ∀ o, (wr.alloc o).cell? ⟨w.heap.size, 1, none⟩ = some (.slice (some ⟨b, off, none⟩) A.n A.c) := fun o => by rw [World.cell?_alloc_old _ _ _ (Nat.ne_of_lt (World.block_lt_of_cell? wr _ p1))]; rw [← ea]; exact p1
     have dc : ∀ o, (wr.alloc o).cell? ⟨b, off + j, none⟩ = some (.int .i64 y) := fun o => by rw [World.cell?_alloc_old _ _ _ (Nat.ne_of_lt (World.block_lt_of_cell? wr _ hc))]; exact hc
     simp only at r0 r1 r2 r3 r4 r5
     have Hr := hidOf hr
     have HN : Hid (NSr (w.heap.size + 2) N { A' with a' := some ⟨g', 0, none⟩, n' := A'.n' + 1, c' := c' } { x with gs := x.gs ++ (x.ln.take (j + 1)).map fun y => (y, false) } (w'.setCell ⟨N, 2, none⟩ (.slice (some ⟨g', 0, none⟩) (A'.n' + 1) c'))) := by
      rw [htk, List.map_append, ← List.append_assoc]; exact hS2
     have HC2 := hidOf hC2
     have EN := hidOf en'
     have hji : (0 : Int) ≤ (j : Int) ∧ (j : Int) < (A.n : Int) := by omega
     rw [ea] at p1
     have Ea := hidOf ea
     clear hr ho' hg' hl' hS2 hCx hC2 hCr hS hSd hCd hcell htk hy en' ea
     go_wp2_with fail
     go_region_law (refine nstep_append_run (by rfl) _ _ 25 (by rfl) (.slice A'.a' A'.n' A'.c') (.slice (some ⟨wr.heap.size, 0, none⟩) 1 1) _ (by rfl) (by rfl) Hr.out ?_)
     all_goals
      go_wp2
      go_roundw
      case rel => exact ⟨j + 1, { A' with a' := some ⟨g', 0, none⟩, n' := A'.n' + 1, c' := c' }, by omega, by go_num, by have := EN.out; simp only; omega, HN.out, HC2.out⟩
      case measure => simp [intOf]; omega
    ·obtain rfl : j = A.n := by omega
     have hke : x.ln.take A.n = x.ln := List.take_of_length_le (by rw [HL1.out]; exact Nat.le_refl _)
     rw [hke] at hS
     have hS2 := hS.line (a := none) (n := 0) (c := 0) (xs := []) ⟨rfl, .inl ⟨rfl, rfl⟩⟩ (by simp [Value.ownBlock])
     have hC2 := hCr.keep (hS.below (Below.refl (w.heap.size + 2) wr) 1 (.slice none 0 0)) (Nat.le_refl _)
     have HI2 := hidOf hC2.ninX.ints
     have HS2 := hidOf hS2
     have HC2 := hidOf hC2
     obtain ⟨_, v0, v1, v2, v3, v4, v5, vf⟩ := id hS2.box
     obtain ⟨_, q0, q1, q2, q3, q4, q5, qf⟩ := id hC2.box0
     simp only at v0 v1 v2 v3 v4 v5
     have HCy := hidOf (l2Copy_any A.a A.n A.c x.ln _ (hC2.ninX.ints.keep (Below.refl _ _).drew) hn)
     clear hS hCr hS2 hC2 hke en'
     go_wp2_with fail
     first | (go_region_with (first
      | (go_at_call 73; refine (HCy.out).mono ?_; rintro e w7 ⟨g7, c7, rfl, ho7, hb7⟩; have hT := all_end HC2.out HS2.out ho7 hb7; obtain ⟨s0, s1, s2, s3, s4, s5, r0, r1, r2, r3, r4, r5, rf, hF⟩ := hT; have HF := hidOf hF; simp only at s0 s1 s2 s3 s4 s5; clear hF ho7 hb7))) | fail
     all_goals go_wp2
     all_goals refine bodyPost_ret (v := .tuple #[.agg #[.bool x.pm, .slice none 0 0, .slice A'.a' A'.n' A'.c', .int .i64 x.on, .int .i64 x.sp, .int .i64 x.tk], .slice (some ⟨g7, 0, none⟩) A.n c7, .int .i64 0]) (by simp [results, Try.results35, go_sem, r0, r1, r2, r3, r4, r5]) rfl ?_
     all_goals rw [HRes.out]
     all_goals exact ⟨{ A' with a := none, n := 0, c := 0 }, some ⟨g7, 0, none⟩, A.n, c7, rfl, HF.out⟩
open Go.RowKit Pl Il
set_option maxRecDepth 100000 in
set_option maxHeartbeats 2000000 in
theorem specAwait_anyR (A : Na) (x : Nt) (who : Int) (w : World) (hI : NIn w A x) (hn : A.n ≤ 2097152) (hn' : A.n' ≤ 2097152) (hok : A.n ≤ A.c) :
  Calls Try.prog 39 #[.agg #[.bool x.pm, .slice A.a A.n A.c, .slice A.a' A.n' A.c', .int .i64 x.on, .int .i64 x.sp, .int .i64 x.tk], .int .i64 who] w fun e w' => NOutR w (awaitM x who).1 [.int .i64 (awaitM x who).2] e w' := by
 have hC := nctx_new hI
 have s1 : ((w.alloc (.cells #[.bool x.pm, .slice A.a A.n A.c, .slice A.a' A.n' A.c', .int .i64 x.on, .int .i64 x.sp, .int .i64 x.tk] 27)).alloc (.cells #[.bool false, .slice none 0 0, .slice none 0 0, .int .i64 0, .int .i64 0, .int .i64 0] 27)).heap.size = w.heap.size + 2 := by simp
 have HL1 := hidOf hI.ints.len
 have HL2 := hidOf hI.grs.len
 have HCp := hidOf (l5Copy_any A x _ hC.ninX hn hn')
 have HC := hidOf hC
 have S1 := hidOf s1
 clear hC s1 hI
 go_enter Try.func39, Try.ntmps39
 go_wp2_with fail
 refine (HCp.out).mono ?_
 rintro e w1 ⟨a1, c1, a2, c2, rfl, hR, hb1⟩
 rw [S1.out] at hR
 have hC1 := HC.out.kp hb1
 have hS := nsr_new hR hC1.sz
 generalize hW2 : w1.alloc (.cells #[.bool x.pm, .slice a1 A.n c1, .slice a2 A.n' c2, .int .i64 x.on, .int .i64 x.sp, .int .i64 x.tk] 27) = W2
 have hb2 : Below w1.heap.size w1 W2 := by subst hW2; exact bl_alloc (Below.refl _ _) _
 simp only at hS
 rw [hW2] at hS
 have hC2 := hC1.kp hb2
 obtain ⟨_, p0, p1, p2, p3, p4, p5, _⟩ := id hC2.box0
 have HS := hidOf hS
 have HC2 := hidOf hC2
 clear hR hb1 hC1 hb2 hC2 hS HC HCp
 go_wp2_with fail
 refine (specNotifyOk_any A x _ HC2.out.ninX hn hn' hok).mono ?_
 rintro e w3 ⟨rfl, hb3⟩
 have hC := HC2.out.kp hb3
 have hS := HS.out.keep hb3
 clear p0 p1 p2 p3 p4 p5 hW2 hb3 HS HC2
 obtain ⟨A1, hA1⟩ : ∃ A1 : Na, A1 = ⟨a1, A.n, c1, a2, A.n', c2⟩ := ⟨_, rfl⟩
 rw [← hA1] at hS
 have hAn : A1.n = A.n ∧ A1.n' = A.n' := by rw [hA1]; exact ⟨rfl, rfl⟩
 have HAn := hidOf hAn
 clear hA1 hAn
 generalize hN : w1.heap.size = N at *
 clear hN
 obtain ⟨_, p0, p1, p2, p3, p4, p5, _⟩ := id hC.box0
 obtain ⟨_, z0, z1, z2, z3, z4, z5, zf⟩ := id hS.box
 have HC := hidOf hC
 have HS := hidOf hS
 have HIX := hidOf hC.ninX
 clear hC hS
 cases hokx : okN x
 ·obtain ⟨_, r0, r1, r2, r3, r4, r5, rf⟩ := id HC.out.box1
  have HF := hidOf (nsr_finR (A' := A1) (y := x) HC.out HS.out.rows)
  have HR := hidOf (show awaitM x who = (x, 1) by unfold awaitM; rw [if_pos (.inl hokx)])
  clear HC HS hokx
  go_wp2
  refine bodyPost_ret (v := .tuple #[.agg #[.bool x.pm, .slice A1.a A1.n A1.c, .slice A1.a' A1.n' A1.c', .int .i64 x.on, .int .i64 x.sp, .int .i64 x.tk], .int .i64 1]) (by simp [results, Try.results39, go_sem, r0, r1, r2, r3, r4, r5]) rfl ?_
  rw [HR.out]
  exact ⟨A1, rfl, HF.out⟩
 ·obtain ⟨k1, _, k3, k4, k5, k6, k7, k8⟩ := okN_parts hokx
  have HK8 := hidOf k8
  clear k8
  rw [HL1.out] at k3
  rw [HL2.out] at k4
  have HOK := hidOf hokx
  have HK1 := hidOf k1
  clear hokx k1
  go_wp2_with fail
  refine (client_any who _).mono ?_
  rintro e w4 ⟨rfl, rfl⟩
  cases hcl : clientL who
  ·obtain ⟨_, r0, r1, r2, r3, r4, r5, rf⟩ := id HC.out.box1
   have HF := hidOf (nsr_finR (A' := A1) (y := x) HC.out HS.out.rows)
   have HR := hidOf (show awaitM x who = (x, 1) by unfold awaitM; rw [if_pos (.inr hcl)])
   clear HC HS hcl
   go_wp2
   refine bodyPost_ret (v := .tuple #[.agg #[.bool x.pm, .slice A1.a A1.n A1.c, .slice A1.a' A1.n' A1.c', .int .i64 x.on, .int .i64 x.sp, .int .i64 x.tk], .int .i64 1]) (by simp [results, Try.results39, go_sem, r0, r1, r2, r3, r4, r5]) rfl ?_
   rw [HR.out]
   exact ⟨A1, rfl, HF.out⟩
  ·go_wp2_with fail
   refine (l2Has_any A.a A.n A.c x.ln who _ HIX.out.ints hn).mono ?_
   rintro e w5 ⟨rfl, rfl⟩
   cases hh1 : hasL x.ln who
   ·go_wp2_with fail
    refine (l5At_any A.a' A.n' A.c' x.gs who _ HIX.out.grs hn').mono ?_
    rintro e w6 ⟨rfl, rfl⟩
    cases hh2 : hasL (whosL x.gs) who
    ·rw [place_minus hh2]
     by_cases t1 : (1000000000 : Int) ≤ x.tk
     ·obtain ⟨_, r0, r1, r2, r3, r4, r5, rf⟩ := id HC.out.box1
      have HF := hidOf (nsr_finR (A' := A1) (y := x) HC.out HS.out.rows)
      have HR := hidOf (show awaitM x who = (x, 2) by unfold awaitM; rw [if_neg (by rw [HOK.out, hcl]; simp), if_neg (by unfold toldL; rw [hh1, hh2]; simp), if_pos (.inl t1)])
      clear HC HS 
      go_wp2
      refine bodyPost_ret (v := .tuple #[.agg #[.bool x.pm, .slice A1.a A1.n A1.c, .slice A1.a' A1.n' A1.c', .int .i64 x.on, .int .i64 x.sp, .int .i64 x.tk], .int .i64 2]) (by simp [results, Try.results39, go_sem, r0, r1, r2, r3, r4, r5]) rfl ?_
      rw [HR.out]
      exact ⟨A1, rfl, HF.out⟩
     ·cases hpm : x.pm
      ·by_cases t3 : (32 : Int) ≤ (A.n : Int)
       ·obtain ⟨_, r0, r1, r2, r3, r4, r5, rf⟩ := id HC.out.box1
        have HF := hidOf (nsr_finR (A' := A1) (y := x) HC.out HS.out.rows)
        have HR := hidOf (show awaitM x who = (x, 2) by unfold awaitM; rw [if_neg (by rw [HOK.out, hcl]; simp), if_neg (by unfold toldL; rw [hh1, hh2]; simp), if_pos (.inr ⟨hpm, by rw [HL1.out]; omega⟩)])
        clear HC HS 
        rw [hpm] at HF
        go_wp2
        refine bodyPost_ret (v := .tuple #[.agg #[.bool x.pm, .slice A1.a A1.n A1.c, .slice A1.a' A1.n' A1.c', .int .i64 x.on, .int .i64 x.sp, .int .i64 x.tk], .int .i64 2]) (by simp [results, Try.results39, go_sem, r0, r1, r2, r3, r4, r5, hpm]) rfl ?_
        rw [HR.out]
        exact ⟨A1, rfl, HF.out⟩
       ·have hf : ¬ (1000000000 ≤ x.tk ∨ x.pm = false ∧ 32 ≤ x.ln.length) := by rw [HL1.out]; rintro (h | ⟨_, h⟩) <;> omega
        obtain ⟨g', c', w', hr, ho', hg, hl⟩ := append_own1 (w.heap.size + 2) A1.n _ x.ln who w6 HS.out.rows.one HC.out.sz (by have := HAn.out; omega)
        obtain ⟨hbx, hS2⟩ := HS.out.join ho' hg hl
        have hCg : Below (w.heap.size + 2) w6 (w'.setCell ⟨N, 1, none⟩ (.slice (some ⟨g', 0, none⟩) (A1.n + 1) c')) := bl_set1' ((Below.refl _ _).grown hg HC.out.sz (fun q e => (HS.out.rows.one.lt q e).1)) N 1 HS.out.ge _
        have hC2 := HC.out.keep hCg (Nat.le_refl _)
        obtain ⟨_, u0, u1, u2, u3, u4, u5, uf⟩ := id hbx
        obtain ⟨_, y0, y1, y2, y3, y4, y5, yf⟩ := id hS2.box
        simp only at y0 y1 y2 y3 y4 y5
        have HRes := hidOf (show awaitM x who = ({ x with ln := x.ln ++ [who] }, 4) by unfold awaitM; rw [if_neg (by rw [HOK.out, hcl]; simp), if_neg (by unfold toldL; rw [hh1, hh2]; simp), if_neg hf, if_neg (by rw [hpm]; simp)])
        have Hr := hidOf hr
        have dq : ∀ o, (w6.alloc o).cell? ⟨N, 1, none⟩ = some (.slice A1.a A1.n A1.c) := fun o => by rw [World.cell?_alloc_old _ _ _ (Nat.ne_of_lt (World.block_lt_of_cell? w6 _ z1))]; exact z1
        obtain ⟨_, r0, r1, r2, r3, r4, r5, rf⟩ := id hC2.box1
        have HF := hidOf (nsr_finR (A' := ⟨some ⟨g', 0, none⟩, A1.n + 1, c', A1.a', A1.n', A1.c'⟩) (y := { x with ln := x.ln ++ [who] }) hC2 hS2.rows)
        have HR := hidOf (HRes.out)
        clear HC HS hS2 hC2 hCg hbx hr ho' hg hl HRes hf
        simp only at HF
        rw [hpm] at HF
        go_wp2_with (at_builtin; refine wpList_append_run rfl _ _ 24 rfl _ _ _ rfl rfl Hr.out ?_)
        refine bodyPost_ret (v := .tuple #[.agg #[.bool x.pm, .slice (some ⟨g', 0, none⟩) (A1.n + 1) c', .slice A1.a' A1.n' A1.c', .int .i64 x.on, .int .i64 x.sp, .int .i64 x.tk], .int .i64 4]) (by simp [results, Try.results39, go_sem, r0, r1, r2, r3, r4, r5, hpm]) rfl ?_
        rw [HR.out]
        exact ⟨⟨some ⟨g', 0, none⟩, A1.n + 1, c', A1.a', A1.n', A1.c'⟩, rfl, by simp only; rw [hpm]; exact HF.out⟩
      ·have hS2 := HS.out.setc (y := { x with pm := false }) 0 (.bool false) (HS.out.box.set0 (b := false)) rfl rfl
       have hS3 := hS2.setc (y := { x with pm := false, tk := x.tk + 1 }) 5 (.int .i64 (x.tk + 1)) (hS2.box.set5 (v := x.tk + 1)) rfl rfl
       have hC3 := HC.out.keep (HS.out.below (HS.out.below (Below.refl (w.heap.size + 2) w6) 0 (.bool false)) 5 (.int .i64 (x.tk + 1))) (Nat.le_refl _)
       obtain ⟨_, v0, v1, v2, v3, v4, v5, vf⟩ := id hS2.box
       obtain ⟨_, y0, y1, y2, y3, y4, y5, yf⟩ := id hS3.box
       simp only at v0 v1 v2 v3 v4 v5 y0 y1 y2 y3 y4 y5
       have HRes := hidOf (show awaitM x who = ({ x with pm := false, tk := x.tk + 1 }, 0) by unfold awaitM; rw [if_neg (by rw [HOK.out, hcl]; simp), if_neg (by unfold toldL; rw [hh1, hh2]; simp), if_neg (by rw [hpm]; simp; omega), if_pos hpm])
       obtain ⟨_, r0, r1, r2, r3, r4, r5, rf⟩ := id hC3.box1
       have HF := hidOf (nsr_finR (A' := A1) (y := { x with pm := false, tk := x.tk + 1 }) hC3 hS3.rows)
       have HR := hidOf (HRes.out)
       clear HC HS hS2 hS3 hC3 HRes
       go_wp2
       refine bodyPost_ret (v := .tuple #[.agg #[.bool false, .slice A1.a A1.n A1.c, .slice A1.a' A1.n' A1.c', .int .i64 x.on, .int .i64 x.sp, .int .i64 (x.tk + 1)], .int .i64 0]) (by simp [results, Try.results39, go_sem, r0, r1, r2, r3, r4, r5]) rfl ?_
       rw [HR.out]
       exact ⟨A1, rfl, HF.out⟩
    ·obtain ⟨pk, _, hpk⟩ := place_bound hh2
     rw [hpk]
     have hp' : ¬ (pk : Int) < 0 := by omega
     clear hpk
     obtain ⟨_, r0, r1, r2, r3, r4, r5, rf⟩ := id HC.out.box1
     have HF := hidOf (nsr_finR (A' := A1) (y := x) HC.out HS.out.rows)
     have HR := hidOf (show awaitM x who = (x, 5) by unfold awaitM toldL; rw [if_neg (by rw [HOK.out, hcl]; simp), if_pos (.inr hh2)])
     clear HC HS
     go_wp2
     refine bodyPost_ret (v := .tuple #[.agg #[.bool x.pm, .slice A1.a A1.n A1.c, .slice A1.a' A1.n' A1.c', .int .i64 x.on, .int .i64 x.sp, .int .i64 x.tk], .int .i64 5]) (by simp [results, Try.results39, go_sem, r0, r1, r2, r3, r4, r5]) rfl ?_
     rw [HR.out]
     exact ⟨A1, rfl, HF.out⟩
   ·obtain ⟨_, r0, r1, r2, r3, r4, r5, rf⟩ := id HC.out.box1
    have HF := hidOf (nsr_finR (A' := A1) (y := x) HC.out HS.out.rows)
    have HR := hidOf (show awaitM x who = (x, 5) by unfold awaitM toldL; rw [if_neg (by rw [HOK.out, hcl]; simp), if_pos (.inl hh1)])
    clear HC HS
    go_wp2
    refine bodyPost_ret (v := .tuple #[.agg #[.bool x.pm, .slice A1.a A1.n A1.c, .slice A1.a' A1.n' A1.c', .int .i64 x.on, .int .i64 x.sp, .int .i64 x.tk], .int .i64 5]) (by simp [results, Try.results39, go_sem, r0, r1, r2, r3, r4, r5]) rfl ?_
    rw [HR.out]
    exact ⟨A1, rfl, HF.out⟩
open Go.RowKit Pl Il
/-- While grants are copied: the argument's variable, the answer's, the list. -/
structure DropS (w : World) (A : Na) (x : Nt) (j : Nat) (l : List (Int × Bool)) (a : Option Addr) (m c : Nat) (u : World) : Prop where
  box0 : NBox w.heap.size A x u
  box1 : NBox (w.heap.size + 1) Na.zero Nt.zero u
  below : Below w.heap.size w u
  sz : w.heap.size + 2 ≤ u.heap.size
  row : u.ownsRow (w.heap.size + 2) 44 2 (.slice a m c) m (gflat l)
  len : m ≤ j
theorem DropS.keep {w : World} {A : Na} {x : Nt} {j : Nat} {l : List (Int × Bool)} {a : Option Addr} {m c : Nat} {u u' : World} (h : DropS w A x j l a m c u) (hb : Below u.heap.size u u') : DropS w A x j l a m c u' :=
  ⟨h.box0.keep hb, h.box1.keep hb, bl_trans h.below hb, Nat.le_trans h.sz hb.size, ownsRow_keep h.row hb, h.len⟩
theorem DropS.push {w : World} {A : Na} {x : Nt} {j : Nat} {l : List (Int × Bool)} {a : Option Addr} {m c g' c' : Nat} {u w' : World} {y : Int × Bool} (h : DropS w A x j l a m c u) (ho : w'.ownsRow (w.heap.size + 2) 44 2 (.slice (some ⟨g', 0, none⟩) (m + 1) c') (m + 1) (gflat (l ++ [y]))) (hg : u.grownBy w' (Value.slice a m c).ownBlock) : DropS w A x (j + 1) (l ++ [y]) (some ⟨g', 0, none⟩) (m + 1) c' w' :=
  ⟨h.box0.grownO hg (fun e => by have := (h.row.lt _ e).1; omega), h.box1.grownO hg (fun e => by have := (h.row.lt _ e).1; omega), h.below.grown hg (by have := h.sz; omega) (fun q e => by have := (h.row.lt q e).1; omega), Nat.le_trans h.sz hg.size, ho, by have := h.len; omega⟩
theorem DropS.fin {w : World} {A : Na} {x : Nt} {B j : Nat} {l : List (Int × Bool)} {a : Option Addr} {m c : Nat} {u : World} (h : DropS w A x j l a m c u) (hR : NRow B w A x) (hB : B ≤ w.heap.size) (y0 y1 y2 y3 y4 y5 : Value) :
    NRow B (((((((u.setCell ⟨w.heap.size, 2, none⟩ (.slice a m c)).setCell ⟨w.heap.size + 1, 0, none⟩ y0).setCell ⟨w.heap.size + 1, 1, none⟩ y1).setCell ⟨w.heap.size + 1, 2, none⟩ y2).setCell ⟨w.heap.size + 1, 3, none⟩ y3).setCell ⟨w.heap.size + 1, 4, none⟩ y4).setCell ⟨w.heap.size + 1, 5, none⟩ y5) ⟨A.a, A.n, A.c, a, m, c⟩ { x with gs := l } ∧
    Below w.heap.size w (((((((u.setCell ⟨w.heap.size, 2, none⟩ (.slice a m c)).setCell ⟨w.heap.size + 1, 0, none⟩ y0).setCell ⟨w.heap.size + 1, 1, none⟩ y1).setCell ⟨w.heap.size + 1, 2, none⟩ y2).setCell ⟨w.heap.size + 1, 3, none⟩ y3).setCell ⟨w.heap.size + 1, 4, none⟩ y4).setCell ⟨w.heap.size + 1, 5, none⟩ y5) := by
  have h1 : (Value.slice A.a A.n A.c).ownBlock ≠ some w.heap.size := fun e => by have := (hR.one.lt _ e).2; omega
  have h2 : (Value.slice a m c).ownBlock ≠ some w.heap.size := fun e => by have := (h.row.lt _ e).1; omega
  have h3 : (Value.slice A.a A.n A.c).ownBlock ≠ some (w.heap.size + 1) := fun e => by have := (hR.one.lt _ e).2; omega
  have h4 : (Value.slice a m c).ownBlock ≠ some (w.heap.size + 1) := fun e => by have := (h.row.lt _ e).1; omega
  have hr : NRow B u ⟨A.a, A.n, A.c, a, m, c⟩ { x with gs := l } := ⟨ownsRow_keep hR.one h.below, own_mono1 h.row (by omega)⟩
  have hf := (one_end (M := w.heap.size + 1) (w := w) (NRow.set hr w.heap.size 2 h1 h2 (.slice a m c)) h3 h4 (by omega) ((bl_set1' h.below w.heap.size 2 (Nat.le_refl _) (.slice a m c)).mono hB) y0 y1 y2 y3 y4 y5).1
  exact ⟨hf, bl_set6' (bl_set1' h.below w.heap.size 2 (Nat.le_refl _) (.slice a m c)) (w.heap.size + 1) (by omega) _ _ _ _ _ _⟩
/-- Those ahead of i, without the one at a place. -/
def dropTo (gs : List (Int × Bool)) (p : Int) : Nat → List (Int × Bool)
  | 0 => []
  | i + 1 => dropTo gs p i ++ (if (i : Int) = p then [] else [gg gs i])
theorem dropTo_less {gs : List (Int × Bool)} (hd : (whosL gs).Nodup) {who : Int} {p : Int} (hp : placeL (whosL gs) who = p) : ∀ i, i ≤ gs.length → dropTo gs p i = lessG (gs.take i) who
  | 0, _ => by simp [dropTo, lessG]
  | i + 1, h => by
    have ih := dropTo_less hd hp i (by omega)
    rw [dropTo, ih, take_gg (by omega), less_snoc]
    congr 1
    by_cases he : (gg gs i).1 = who
    · have h1 := (place_at hd (by omega : i < gs.length)).1 he
      rw [if_pos (by rw [← h1, hp]), if_pos (by simp [he])]
    · have h1 : ¬ placeL (whosL gs) who = (i : Int) := fun e => he ((place_at hd (by omega : i < gs.length)).2 e)
      rw [if_neg (by rw [← hp]; exact fun e => h1 e.symm), if_neg (by simp [he])]
set_option maxRecDepth 100000 in
set_option maxHeartbeats 2000000 in
theorem l5Drop_any (B : Nat) (A : Na) (x : Nt) (p : Int) (w : World) (hR : NRow B w A x) (hB : B ≤ w.heap.size) (hn' : A.n' ≤ 2097152) :
  Calls Try.prog 49 #[.agg #[.bool x.pm, .slice A.a A.n A.c, .slice A.a' A.n' A.c', .int .i64 x.on, .int .i64 x.sp, .int .i64 x.tk], .int .i64 p] w fun e w' => ∃ a' m c', e = .returned (.agg #[.bool x.pm, .slice A.a A.n A.c, .slice a' m c', .int .i64 x.on, .int .i64 x.sp, .int .i64 x.tk]) ∧ NRow B w' ⟨A.a, A.n, A.c, a', m, c'⟩ { x with gs := dropTo x.gs p x.gs.length } ∧ Below w.heap.size w w' := by
 have hL := hR.own.two.gr.len
 have hG := hR.own.two.gr
 generalize hW0 : w.alloc (.cells #[.bool x.pm, .slice A.a A.n A.c, .slice A.a' A.n' A.c', .int .i64 x.on, .int .i64 x.sp, .int .i64 x.tk] 27) = W0
 generalize hW1 : W0.alloc (.cells #[.bool false, .slice none 0 0, .slice none 0 0, .int .i64 0, .int .i64 0, .int .i64 0] 27) = W1
 have b0 : Below w.heap.size w W0 := by subst hW0; exact bl_alloc (Below.refl _ _) _
 have b1 : Below w.heap.size w W1 := by subst hW1; exact bl_alloc b0 _
 have s0 : W0.heap.size = w.heap.size + 1 := by subst hW0; simp
 have s1 : W1.heap.size = w.heap.size + 2 := by subst hW1; simp [s0]
 have x0 : NBox w.heap.size A x W1 := by subst hW1 hW0; exact (NBox.new w A x _).alloc _
 have x1 : NBox (w.heap.size + 1) Na.zero Nt.zero W1 := by subst hW1; rw [← s0]; exact NBox.newZ W0 _
 have hDS : DropS w A x 0 [] (some ⟨W1.heap.size, 0, none⟩) 0 0 (W1.alloc (.cells #[] 44)) := by
  have bE : Below W1.heap.size W1 (W1.alloc (.cells #[] 44)) := bl_alloc (Below.refl _ _) _
  exact ⟨x0.keep bE, x1.keep bE, bl_trans b1 bE, by have := bE.size; omega, own_mono1 (ownsG_empty W1) (by omega), by simp⟩
 have HD := hidOf hDS
 have HR := hidOf hR
 have HG := hidOf hG
 have HL := hidOf hL
 clear hR hG hL x0 x1 b0 b1 s0 hDS
 subst hW1 hW0
 have S1 := hidOf s1
 clear s1
 go_enter Try.func49, Try.ntmps49
 go_wp2_with fail
 go_loopw [5, 6] (fun l i wr => ∃ (j : Nat) (a : Option Addr) (m c : Nat), j ≤ A.n' ∧ i = .int .i64 j ∧ l = .slice a m c ∧ DropS w A x j (dropTo x.gs p j) a m c wr) (fun _ i _ => A.n' - (intOf i).toNat)
 case atStart => exact ⟨0, _, 0, 0, Nat.zero_le _, rfl, rfl, by have h := HD.out; rw [S1.out] at h; exact h⟩
 case round =>
  rename_i wr
  obtain ⟨j, a, m, c, hj, rfl, rfl, hS⟩ := hrel
  clear HD
  obtain ⟨_, p0, p1, p2, p3, p4, p5, pf⟩ := id hS.box0
  by_cases hlt : j < A.n'
  ·obtain ⟨_, h' | ⟨b, off, ea, hb, hcell⟩⟩ := (HG.out.keep hS.below)
   ·omega
   have hc := hcell j hlt
   have hjl : j < x.gs.length := by rw [HL.out]; exact hlt
   by_cases hp : (j : Int) = p
   ·have hp' : ((j : Int) != p) = false := by simp [hp]
    have hN : dropTo x.gs p (j + 1) = dropTo x.gs p j := by rw [dropTo, if_pos hp, List.append_nil]
    have HN : Hid (DropS w A x (j + 1) (dropTo x.gs p (j + 1)) a m c wr) := by rw [hN]; exact ⟨hS.box0, hS.box1, hS.below, hS.sz, hS.row, by have := hS.len; omega⟩
    have HP := hidOf hp
    clear hp hS hN hcell hc
    go_wp2
    go_roundw
    case rel => exact ⟨j + 1, a, m, c, by omega, by go_num, rfl, HN.out⟩
    case measure => simp [intOf]; omega
   ·have hp' : ((j : Int) != p) = true := by simp [hp]
    have hN : dropTo x.gs p (j + 1) = dropTo x.gs p j ++ [gg x.gs j] := by rw [dropTo, if_neg hp]
    generalize hy : gg x.gs j = y at hc hN
    obtain ⟨y1, y2⟩ := y
    obtain ⟨hc1, hc2⟩ := hc
    simp only at hc1 hc2
    obtain ⟨g', c', w', hr, ho', hg', hl'⟩ := append_gr2 (w.heap.size + 2) m _ _ y1 y2 wr hS.row hS.sz (by have := hS.len; omega)
    have HN : Hid (DropS w A x (j + 1) (dropTo x.gs p (j + 1)) (some ⟨g', 0, none⟩) (m + 1) c' w') := by rw [hN]; exact hS.push ho' hg'
    have Hr := hidOf hr
    have hji : (0 : Int) ≤ (j : Int) ∧ (j : Int) < (A.n' : Int) := by omega
    rw [ea] at p2
    have Ea := hidOf ea
    clear hp hS hN hcell hr ho' hg' hl' hy ea
    go_wp2_with (at_builtin; refine wpList_append_run rfl _ _ 25 rfl _ _ _ rfl rfl Hr.out ?_)
    go_roundw
    case rel => exact ⟨j + 1, some ⟨g', 0, none⟩, m + 1, c', by omega, by go_num, rfl, HN.out⟩
    case measure => simp [intOf]; omega
  ·obtain rfl : j = A.n' := by omega
   have hF := hS.fin HR.out hB (.bool x.pm) (.slice A.a A.n A.c) (.slice a m c) (.int .i64 x.on) (.int .i64 x.sp) (.int .i64 x.tk)
   rw [← HL.out] at hF
   obtain ⟨_, r0, r1, r2, r3, r4, r5, rf⟩ := id hS.box1
   obtain ⟨_, v0, v1, v2, v3, v4, v5, vf⟩ := hS.box0.set2 (a := a) (n := m) (c := c)
   obtain ⟨_, q0, q1, q2, q3, q4, q5, qf⟩ := hS.box1.far w.heap.size 2 (by omega) (.slice a m c)
   simp only at v0 v1 v2 v3 v4 v5
   have HF := hidOf hF
   clear hF hS
   go_wp2
   refine bodyPost_ret (v := .agg #[.bool x.pm, .slice A.a A.n A.c, .slice a m c, .int .i64 x.on, .int .i64 x.sp, .int .i64 x.tk]) (by simp [results, Try.results49, go_sem, q0, q1, q2, q3, q4, q5]) rfl ?_
   exact ⟨a, m, c, rfl, HF.out⟩
open Go.RowKit Pl Il
set_option maxRecDepth 100000 in
set_option maxHeartbeats 2000000 in
theorem specResume_anyR (A : Na) (x : Nt) (who : Int) (w : World) (hI : NIn w A x) (hn : A.n ≤ 2097152) (hn' : A.n' ≤ 2097152) (hok : A.n ≤ A.c) :
  Calls Try.prog 18 #[.agg #[.bool x.pm, .slice A.a A.n A.c, .slice A.a' A.n' A.c', .int .i64 x.on, .int .i64 x.sp, .int .i64 x.tk], .int .i64 who] w fun e w' => NOutR w (resumeM x who).1 [.int .i64 (resumeM x who).2] e w' := by
 have hC := nctx_new hI
 have s1 : ((w.alloc (.cells #[.bool x.pm, .slice A.a A.n A.c, .slice A.a' A.n' A.c', .int .i64 x.on, .int .i64 x.sp, .int .i64 x.tk] 27)).alloc (.cells #[.bool false, .slice none 0 0, .slice none 0 0, .int .i64 0, .int .i64 0, .int .i64 0] 27)).heap.size = w.heap.size + 2 := by simp
 have HL1 := hidOf hI.ints.len
 have HL2 := hidOf hI.grs.len
 have HCp := hidOf (l5Copy_any A x _ hC.ninX hn hn')
 have HC := hidOf hC
 have S1 := hidOf s1
 clear hC s1 hI
 go_enter Try.func18, Try.ntmps18
 go_wp2_with fail
 refine (HCp.out).mono ?_
 rintro e w1 ⟨a1, c1, a2, c2, rfl, hR, hb1⟩
 rw [S1.out] at hR
 have hC1 := HC.out.kp hb1
 have hS := nsr_new hR hC1.sz
 generalize hW2 : w1.alloc (.cells #[.bool x.pm, .slice a1 A.n c1, .slice a2 A.n' c2, .int .i64 x.on, .int .i64 x.sp, .int .i64 x.tk] 27) = W2
 have hb2 : Below w1.heap.size w1 W2 := by subst hW2; exact bl_alloc (Below.refl _ _) _
 simp only at hS
 rw [hW2] at hS
 have hC2 := hC1.kp hb2
 obtain ⟨_, p0, p1, p2, p3, p4, p5, _⟩ := id hC2.box0
 have HS := hidOf hS
 have HC2 := hidOf hC2
 clear hR hb1 hC1 hb2 hC2 hS HC HCp
 go_wp2_with fail
 refine (l5At_any A.a' A.n' A.c' x.gs who _ HC2.out.ninX.grs hn').mono ?_
 rintro e w2b ⟨rfl, rfl⟩
 go_wp2_with fail
 refine (specNotifyOk_any A x _ HC2.out.ninX hn hn' hok).mono ?_
 rintro e w3 ⟨rfl, hb3⟩
 have hC := HC2.out.kp hb3
 have hS := HS.out.keep hb3
 clear p0 p1 p2 p3 p4 p5 hW2 hb3 HS HC2
 obtain ⟨A1, hA1⟩ : ∃ A1 : Na, A1 = ⟨a1, A.n, c1, a2, A.n', c2⟩ := ⟨_, rfl⟩
 rw [← hA1] at hS
 have hAn : A1.n = A.n ∧ A1.n' = A.n' := by rw [hA1]; exact ⟨rfl, rfl⟩
 have HAn := hidOf hAn
 clear hA1 hAn
 generalize hN : w1.heap.size = N at *
 clear hN
 obtain ⟨_, p0, p1, p2, p3, p4, p5, _⟩ := id hC.box0
 obtain ⟨_, z0, z1, z2, z3, z4, z5, zf⟩ := id hS.box
 have HC := hidOf hC
 have HS := hidOf hS
 have HIX := hidOf hC.ninX
 clear hC hS
 cases hokx : okN x
 ·obtain ⟨_, r0, r1, r2, r3, r4, r5, rf⟩ := id HC.out.box1
  have HF := hidOf (nsr_finR (A' := A1) (y := x) HC.out HS.out.rows)
  have HR := hidOf (show resumeM x who = (x, 1) by unfold resumeM; rw [if_pos hokx])
  clear HC HS hokx
  go_wp2
  refine bodyPost_ret (v := .tuple #[.agg #[.bool x.pm, .slice A1.a A1.n A1.c, .slice A1.a' A1.n' A1.c', .int .i64 x.on, .int .i64 x.sp, .int .i64 x.tk], .int .i64 1]) (by simp [results, Try.results18, go_sem, r0, r1, r2, r3, r4, r5]) rfl ?_
  rw [HR.out]
  exact ⟨A1, rfl, HF.out⟩
 ·obtain ⟨k1, kg, k3, k4, k5, k6, k7, k8⟩ := okN_parts hokx
  have HK8 := hidOf k8
  clear k8
  rw [HL1.out] at k3
  rw [HL2.out] at k4
  have HOK := hidOf hokx
  have HK1 := hidOf k1
  clear hokx k1
  have HKg := hidOf (nodup_line kg)
  clear kg
  go_wp2_with fail
  refine (l2Has_any A.a A.n A.c x.ln who _ HIX.out.ints hn).mono ?_
  rintro e w6 ⟨rfl, rfl⟩
  cases hh1 : hasL x.ln who
  ·cases hh2 : hasL (whosL x.gs) who
   ·rw [place_minus hh2]
    obtain ⟨_, r0, r1, r2, r3, r4, r5, rf⟩ := id HC.out.box1
    have HF := hidOf (nsr_finR (A' := A1) (y := x) HC.out HS.out.rows)
    have HR := hidOf (show resumeM x who = (x, 3) by unfold resumeM; rw [if_neg (by rw [HOK.out]; simp), if_neg (by rw [hh1]; simp), if_pos (by unfold toldL; exact hh2)])
    clear HC HS
    go_wp2
    refine bodyPost_ret (v := .tuple #[.agg #[.bool x.pm, .slice A1.a A1.n A1.c, .slice A1.a' A1.n' A1.c', .int .i64 x.on, .int .i64 x.sp, .int .i64 x.tk], .int .i64 3]) (by simp [results, Try.results18, go_sem, r0, r1, r2, r3, r4, r5]) rfl ?_
    rw [HR.out]
    exact ⟨A1, rfl, HF.out⟩
   ·obtain ⟨pk, hpl, hpk⟩ := place_bound hh2
    rw [hpk]
    obtain ⟨_, h' | ⟨gb, goff, gea, _, gcell⟩⟩ := HIX.out.grs
    ·rw [whos_len, HL2.out, h'] at hpl; omega
    have hplg : pk < x.gs.length := by rw [whos_len] at hpl; exact hpl
    have hgc := (gcell pk (by rw [← HL2.out]; exact hplg)).2
    rw [gg_who HKg.out hplg hpk] at hgc
    simp only at hgc
    rw [gea] at p2
    have hji : (0 : Int) ≤ (pk : Int) ∧ (pk : Int) < (A.n' : Int) := by rw [HL2.out] at hplg; omega
    have hp' : ¬ (pk : Int) < 0 := by omega
    have HDl := hidOf (dropTo_less HKg.out hpk x.gs.length (Nat.le_refl _))
    rw [List.take_length] at HDl
    have Gea := hidOf gea
    have HPk := hidOf hpk
    clear gcell gea hpk hpl
    cases hone : oneOf x.gs who
    ·rw [hone] at hgc
     have HRes := hidOf (show resumeM x who = ({ x with gs := lessG x.gs who, tk := x.tk }, 0) by
      unfold resumeM
      rw [if_neg (by rw [HOK.out]; simp), if_neg (by rw [hh1]; simp), if_neg (by unfold toldL; rw [hh2]; simp), if_neg (by rw [hone]; simp), hone]
      simp [permI])
     have hS2 := HS.out
     have hC2 := HC.out
     have HS2 := hidOf hS2
     have HC2 := hidOf hC2
     clear HS HC hS2 hC2
     go_wp2_with fail
     refine (l5Drop_any (w.heap.size + 2) A1 x (pk : Int) _ HS2.out.rows HC2.out.sz (by have := HAn.out; omega)).mono ?_
     rintro e w9 ⟨a9, m9, c9, rfl, hR9, hb9⟩
     have hC9 := HC2.out.kp hb9
     try simp only at hR9
     rw [HDl.out] at hR9
     obtain ⟨_, r0, r1, r2, r3, r4, r5, rf⟩ := id hC9.box1
     have HF := hidOf (nsr_finR (A' := ⟨A1.a, A1.n, A1.c, a9, m9, c9⟩) (y := { x with gs := lessG x.gs who, tk := x.tk }) hC9 hR9)
     have HR := hidOf (HRes.out)
     clear HS2 HC2 HRes hC9 hR9 hb9 HDl
     go_wp2
     refine bodyPost_ret (v := .tuple #[.agg #[.bool x.pm, .slice A1.a A1.n A1.c, .slice a9 m9 c9, .int .i64 x.on, .int .i64 x.sp, .int .i64 x.tk], .int .i64 0]) (by simp [results, Try.results18, go_sem, r0, r1, r2, r3, r4, r5]) rfl ?_
     rw [HR.out]
     exact ⟨⟨A1.a, A1.n, A1.c, a9, m9, c9⟩, rfl, HF.out⟩
    ·rw [hone] at hgc
     by_cases t1 : (1000000000 : Int) ≤ x.tk
     ·obtain ⟨_, r0, r1, r2, r3, r4, r5, rf⟩ := id HC.out.box1
      have HF := hidOf (nsr_finR (A' := A1) (y := x) HC.out HS.out.rows)
      have HR := hidOf (show resumeM x who = (x, 2) by unfold resumeM; rw [if_neg (by rw [HOK.out]; simp), if_neg (by rw [hh1]; simp), if_neg (by unfold toldL; rw [hh2]; simp), if_pos ⟨hone, t1⟩])
      clear HC HS
      go_wp2
      refine bodyPost_ret (v := .tuple #[.agg #[.bool x.pm, .slice A1.a A1.n A1.c, .slice A1.a' A1.n' A1.c', .int .i64 x.on, .int .i64 x.sp, .int .i64 x.tk], .int .i64 2]) (by simp [results, Try.results18, go_sem, r0, r1, r2, r3, r4, r5]) rfl ?_
      rw [HR.out]
      exact ⟨A1, rfl, HF.out⟩
     ·have HRes := hidOf (show resumeM x who = ({ x with gs := lessG x.gs who, tk := (x.tk + 1) }, 0) by
       unfold resumeM
       rw [if_neg (by rw [HOK.out]; simp), if_neg (by rw [hh1]; simp), if_neg (by unfold toldL; rw [hh2]; simp), if_neg (by rw [hone]; simp; omega), hone]
       simp [permI])
      have hS2 := HS.out.setc (y := { x with tk := x.tk + 1 }) 5 (.int .i64 (x.tk + 1)) (HS.out.box.set5 (v := x.tk + 1)) rfl rfl
      have hC2 := HC.out.keep (HS.out.below (Below.refl (w.heap.size + 2) w6) 5 (.int .i64 (x.tk + 1))) (Nat.le_refl _)
      obtain ⟨_, v0, v1, v2, v3, v4, v5, vf⟩ := id hS2.box
      simp only at v0 v1 v2 v3 v4 v5
      have HS2 := hidOf hS2
      have HC2 := hidOf hC2
      clear HS HC hS2 hC2
      go_wp2_with fail
      refine (l5Drop_any (w.heap.size + 2) A1 { x with tk := x.tk + 1 } (pk : Int) _ HS2.out.rows HC2.out.sz (by have := HAn.out; omega)).mono ?_
      rintro e w9 ⟨a9, m9, c9, rfl, hR9, hb9⟩
      have hC9 := HC2.out.kp hb9
      try simp only at hR9
      rw [HDl.out] at hR9
      obtain ⟨_, r0, r1, r2, r3, r4, r5, rf⟩ := id hC9.box1
      have HF := hidOf (nsr_finR (A' := ⟨A1.a, A1.n, A1.c, a9, m9, c9⟩) (y := { x with gs := lessG x.gs who, tk := (x.tk + 1) }) hC9 hR9)
      have HR := hidOf (HRes.out)
      clear HS2 HC2 HRes hC9 hR9 hb9 HDl
      go_wp2
      refine bodyPost_ret (v := .tuple #[.agg #[.bool x.pm, .slice A1.a A1.n A1.c, .slice a9 m9 c9, .int .i64 x.on, .int .i64 x.sp, .int .i64 (x.tk + 1)], .int .i64 0]) (by simp [results, Try.results18, go_sem, r0, r1, r2, r3, r4, r5]) rfl ?_
      rw [HR.out]
      exact ⟨⟨A1.a, A1.n, A1.c, a9, m9, c9⟩, rfl, HF.out⟩
  ·obtain ⟨_, r0, r1, r2, r3, r4, r5, rf⟩ := id HC.out.box1
   have HF := hidOf (nsr_finR (A' := A1) (y := x) HC.out HS.out.rows)
   have HR := hidOf (show resumeM x who = (x, 4) by unfold resumeM; rw [if_neg (by rw [HOK.out]; simp), if_pos hh1])
   clear HC HS
   go_wp2
   refine bodyPost_ret (v := .tuple #[.agg #[.bool x.pm, .slice A1.a A1.n A1.c, .slice A1.a' A1.n' A1.c', .int .i64 x.on, .int .i64 x.sp, .int .i64 x.tk], .int .i64 4]) (by simp [results, Try.results18, go_sem, r0, r1, r2, r3, r4, r5]) rfl ?_
   rw [HR.out]
   exact ⟨A1, rfl, HF.out⟩
end Go.Proofs.Ytfgknbflgmblmaa
