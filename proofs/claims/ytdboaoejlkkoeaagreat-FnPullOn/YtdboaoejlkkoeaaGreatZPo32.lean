/-
  The specification's Subscribe
-/
import Derived.Test.YtdboaoejlkkoeaaGreatZPo29
namespace Go.Proofs.YtdboaoejlkkoeaaGreat
open Go.RowKit Go.Maps Pl Il
theorem nstep_append_exW {P : Program} {ops : Array Oper} {o : Oper} {a : Act} {w : World} {K : Act → World → Prop} {Q : Exit → Act → World → Prop} {E : Prop} {R : Value → World → Prop} (hgd : o.guard = none) (s x : Operand) (t : TypeId)
    (ho : o.op = .call { callee := .builtin .append, args := #[s, x], argTypes := #[t, t] }) (v u : Value) (hs : a.eval s = v) (hx : a.eval x = u)
    (hr : ∃ v' w', (Builtin.append_ #[t, t] o.type #[v, u]).run P w = .ok v' w' ∧ R v' w') (h : ∀ v' w', R v' w' → K (a.put o.dst v') w') :
    if Region.wanted o (yielded ops a.tmps) = true then Oper.wp P o a w K Q else E := by
  have hw : Region.wanted o (yielded ops a.tmps) = true := by simp [Region.wanted, hgd]
  rw [if_pos hw]
  obtain ⟨v', w', hrun, hR⟩ := hr
  unfold Oper.wp execOp
  simp only [ho, resolve, invoke, builtin, Sem.run_bind, Sem.run_pure, Result.andThen_ok, List.map_toArray, List.map_cons, List.map_nil, hs, hx, hrun]
  exact h v' w' hR
theorem nstep_append_runW {P : Program} {ops : Array Oper} {o : Oper} {a : Act} {w w' : World} {K : Act → World → Prop} {Q : Exit → Act → World → Prop} {E : Prop} (hgd : o.guard = none) (s x : Operand) (t : TypeId)
    (ho : o.op = .call { callee := .builtin .append, args := #[s, x], argTypes := #[t, t] }) (v u v' : Value) (hs : a.eval s = v) (hx : a.eval x = u)
    (hr : (Builtin.append_ #[t, t] o.type #[v, u]).run P w = .ok v' w') (h : K (a.put o.dst v') w') :
    if Region.wanted o (yielded ops a.tmps) = true then Oper.wp P o a w K Q else E :=
  nstep_append_exW (R := fun v1 w1 => v1 = v' ∧ w1 = w') hgd s x t ho v u hs hx ⟨v', w', hr, rfl, rfl⟩ (fun _ _ h1 => by obtain ⟨rfl, rfl⟩ := h1; exact h)
set_option maxRecDepth 100000 in
set_option maxHeartbeats 16000000 in
theorem specSbs_anyS : SbsDoneS 57 := by
 intro M v a n cap ts back w hI hm1 hcap hw hT hn
 have hm := hm1.mono (k' := 2097152) (by omega)
 obtain ⟨U0, hU0⟩ : ∃ W, W = (w.alloc (.cells #[.int .i64 v.cp, .int .i64 v.se, .slice M.ia M.i M.ic, .int .i64 v.nx, .slice M.sa M.s M.sc, .slice M.la M.l M.lc, .slice M.ga M.g M.gc, .bool v.cl] 28)).alloc (.cells #[.int .i64 0, .int .i64 0, .slice none 0 0, .int .i64 0, .slice none 0 0, .slice none 0 0, .slice none 0 0, .bool false] 28) := ⟨_, rfl⟩
 have B0 : Below w.heap.size w U0 := by rw [hU0]; exact bl_alloc (bl_alloc (Below.refl _ _) _) _
 have z0 : U0.heap.size = w.heap.size + 2 := by rw [hU0]; simp
 have A0 : BoxL w.heap.size (rC M v) U0 := by rw [hU0]; exact (BoxL.new w (rC M v) _).alloc _
 have R0 : BoxL (w.heap.size + 1) [.int .i64 0, .int .i64 0, .slice none 0 0, .int .i64 0, .slice none 0 0, .slice none 0 0, .slice none 0 0, .bool false] U0 := by
  rw [hU0]
  have h := BoxL.new (w.alloc (.cells (rC M v).toArray 28)) [.int .i64 0, .int .i64 0, .slice none 0 0, .int .i64 0, .slice none 0 0, .slice none 0 0, .slice none 0 0, .bool false] 28
  simpa using h
 have HC := hidOf (l9Copy_any M v U0 (hI.keep B0) hm)
 have p0 := A0.cs 0 (by simp)
 have p1 := A0.cs 1 (by simp)
 have p2 := A0.cs 2 (by simp)
 have p3 := A0.cs 3 (by simp)
 have p4 := A0.cs 4 (by simp)
 have p5 := A0.cs 5 (by simp)
 have p6 := A0.cs 6 (by simp)
 have p7 := A0.cs 7 (by simp)
 simp at p0 p1 p2 p3 p4 p5 p6 p7
 have HI := hidOf hI
 have HM := hidOf hm
 have HM1 := hidOf hm1
 have HT := hidOf hT
 have HK := hidOf (fun (u : World) (hu : RIn u M v) => specRingOk_any M v u hu hm1 hcap hw)
 have hml := hm.l
 have hmg := hm.g
 clear hI hm hm1 hcap hw hT
 go_enter Tryz.func57, Tryz.ntmps57
 go_upto_region 1 with fail
 rw [← hU0]
 clear hU0
 go_wp2_with fail
 refine (HC.out).mono ?_
 rintro e w1 ⟨M1, rfl, row1, le1, b1⟩
 rw [z0] at row1
 obtain ⟨U1, hU1⟩ : ∃ W, w1.alloc (.cells #[.int .i64 v.cp, .int .i64 v.se, .slice M1.ia M1.i M1.ic, .int .i64 v.nx, .slice M1.sa M1.s M1.sc, .slice M1.la M1.l M1.lc, .slice M1.ga M1.g M1.gc, .bool v.cl] 28) = W := ⟨_, rfl⟩
 have ba : Below w1.heap.size w1 U1 := by rw [← hU1]; exact bl_alloc (Below.refl _ _) _
 have A1 := (A0.keep b1).keep ba
 have R1 := (R0.keep b1).keep ba
 have K1 : BoxL w1.heap.size (rC M1 v) U1 := by rw [← hU1]; exact BoxL.new w1 (rC M1 v) _
 have row2 := row1.keep ba
 have B1 := bl_trans (bl_trans B0 b1) ba
 have hs1 : w.heap.size + 2 ≤ w1.heap.size := by have := b1.size; omega
 have nK : some w1.heap.size ∉ blkR M1 := row1.new (Nat.le_refl _)
 have HLe := hidOf (le1 _ HM.out)
 have HLe1 := hidOf (le1 _ HM1.out)
 clear A0 R0 p0 p1 p2 p3 p4 p5 p6 p7 row1 b1 B0 HC z0
 have p0 := A1.cs 0 (by simp)
 have p1 := A1.cs 1 (by simp)
 have p2 := A1.cs 2 (by simp)
 have p3 := A1.cs 3 (by simp)
 have p4 := A1.cs 4 (by simp)
 have p5 := A1.cs 5 (by simp)
 have p6 := A1.cs 6 (by simp)
 have p7 := A1.cs 7 (by simp)
 simp at p0 p1 p2 p3 p4 p5 p6 p7
 have HK1 := hidOf (HK.out U1 (HI.out.keep B1))
 obtain ⟨q, hq⟩ : ∃ q, okR restR v = q := ⟨_, rfl⟩
 rw [hq] at HK1
 have HQ := hidOf hq
 clear hq HK
 go_upto_region 2 with fail
 clear hU1
 go_wp2_with fail
 refine (HK1.out).mono ?_
 rintro e w2 ⟨rfl, b2⟩
 have A2 := A1.keep b2
 have R2 := R1.keep b2
 have K2 := K1.keep b2
 have row3 := row2.keep b2
 have B2 := bl_trans B1 b2
 clear A1 R1 K1 row2 B1 ba b2 HK1 p0 p1 p2 p3 p4 p5 p6 p7
 have p0 := A2.cs 0 (by simp)
 have p1 := A2.cs 1 (by simp)
 have p2 := A2.cs 2 (by simp)
 have p3 := A2.cs 3 (by simp)
 have p4 := A2.cs 4 (by simp)
 have p5 := A2.cs 5 (by simp)
 have p6 := A2.cs 6 (by simp)
 have p7 := A2.cs 7 (by simp)
 simp at p0 p1 p2 p3 p4 p5 p6 p7
 cases q
 ·skip
  have HE := hidOf (show RgIS w (sbsR v ts back) (sbsI v ts) (sbsC v ts) = RgIS w v (-1) 1 by
   have hc : sbsC v ts = 1 := by
    unfold sbsC
    exact if_neg (fun h => by rw [HQ.out] at h; simp at h)
   unfold sbsR sbsI
   rw [hc, if_neg (by decide), if_neg (by decide)])
  go_upto_region 3 with fail
  have o0 := K2.cs 0 (by simp)
  have o1 := K2.cs 1 (by simp)
  have o2 := K2.cs 2 (by simp)
  have o3 := K2.cs 3 (by simp)
  have o4 := K2.cs 4 (by simp)
  have o5 := K2.cs 5 (by simp)
  have o6 := K2.cs 6 (by simp)
  have o7 := K2.cs 7 (by simp)
  have r0 := R2.cs 0 (by simp)
  have r1 := R2.cs 1 (by simp)
  have r2 := R2.cs 2 (by simp)
  have r3 := R2.cs 3 (by simp)
  have r4 := R2.cs 4 (by simp)
  have r5 := R2.cs 5 (by simp)
  have r6 := R2.cs 6 (by simp)
  have r7 := R2.cs 7 (by simp)
  have rf := R2.fr
  simp at o0 o1 o2 o3 o4 o5 o6 o7 r0 r1 r2 r3 r4 r5 r6 r7
  obtain ⟨Z, hZ⟩ : ∃ Z, ((((((((w2.setCell ⟨w.heap.size + 1, 0, none⟩ (.int .i64 v.cp)).setCell ⟨w.heap.size + 1, 1, none⟩ (.int .i64 v.se)).setCell ⟨w.heap.size + 1, 2, none⟩ (.slice M1.ia M1.i M1.ic)).setCell ⟨w.heap.size + 1, 3, none⟩ (.int .i64 v.nx)).setCell ⟨w.heap.size + 1, 4, none⟩ (.slice M1.sa M1.s M1.sc)).setCell ⟨w.heap.size + 1, 5, none⟩ (.slice M1.la M1.l M1.lc)).setCell ⟨w.heap.size + 1, 6, none⟩ (.slice M1.ga M1.g M1.gc)).setCell ⟨w.heap.size + 1, 7, none⟩ (.bool v.cl)) = Z := ⟨_, rfl⟩
  have hZ2 : Z = setL w2 (w.heap.size + 1) 0 (rC M1 v) := by rw [← hZ]; rfl
  have XZ : BoxL (w.heap.size + 1) (rC M1 v) Z := by
   rw [← hZ]
   exact ((((((((R2.set 0 (by simp) _).set 1 (by simp) _).set 2 (by simp) _).set 3 (by simp) _).set 4 (by simp) _).set 5 (by simp) _).set 6 (by simp) _).set 7 (by simp) _)
  have HRZ := hidOf (show RRow w.heap.size Z M1 v by
   rw [hZ2]
   exact ((row3.grown (setL_grown ⟨rfl, rfl, rfl, Nat.le_refl _, fun _ _ _ => rfl⟩) (row3.out (by omega))).mono (B' := w.heap.size) (by omega)))
  have HBZ := hidOf (show Below w.heap.size w Z by rw [hZ2]; exact setL_below (by omega) B2)
  have HLZ := hidOf HLe.out
  have t0 := XZ.cs 0 (by simp)
  have t1 := XZ.cs 1 (by simp)
  have t2 := XZ.cs 2 (by simp)
  have t3 := XZ.cs 3 (by simp)
  have t4 := XZ.cs 4 (by simp)
  have t5 := XZ.cs 5 (by simp)
  have t6 := XZ.cs 6 (by simp)
  have t7 := XZ.cs 7 (by simp)
  simp at t0 t1 t2 t3 t4 t5 t6 t7
  clear hZ2 XZ K2 R2
  go_wp2_with fail
  clear hZ
  exact bodyPost_ret (v := .tuple #[.agg #[.int .i64 v.cp, .int .i64 v.se, .slice M1.ia M1.i M1.ic, .int .i64 v.nx, .slice M1.sa M1.s M1.sc, .slice M1.la M1.l M1.lc, .slice M1.ga M1.g M1.gc, .bool v.cl], .int .i64 (-1), .int .i64 1]) (by simp [results, Tryz.results57, go_sem, t0, t1, t2, t3, t4, t5, t6, t7]) rfl (show RgIS w (sbsR v ts back) (sbsI v ts) (sbsC v ts) _ _ by rw [HE.out]; exact ⟨M1, rfl, HRZ.out, HLZ.out, HBZ.out⟩)
 have HFk := hidOf (specFilterOk_any a n cap ts w2 (HT.out.keep B2) (by omega))
 obtain ⟨qf, hqf⟩ : ∃ q, okF ts = q := ⟨_, rfl⟩
 rw [hqf] at HFk
 have HQf := hidOf hqf
 clear hqf
 go_wp2_with fail
 refine (HFk.out).mono ?_
 rintro e w4 ⟨rfl, b4⟩
 have A4 := A2.keep b4
 have R4 := R2.keep b4
 have K4 := K2.keep b4
 have row4 := row3.keep b4
 have B4 := bl_trans B2 b4
 clear A2 R2 K2 row3 B2 b4 HFk p0 p1 p2 p3 p4 p5 p6 p7
 have p0 := A4.cs 0 (by simp)
 have p1 := A4.cs 1 (by simp)
 have p2 := A4.cs 2 (by simp)
 have p3 := A4.cs 3 (by simp)
 have p4 := A4.cs 4 (by simp)
 have p5 := A4.cs 5 (by simp)
 have p6 := A4.cs 6 (by simp)
 have p7 := A4.cs 7 (by simp)
 simp at p0 p1 p2 p3 p4 p5 p6 p7
 cases qf
 ·skip
  have HE := hidOf (show RgIS w (sbsR v ts back) (sbsI v ts) (sbsC v ts) = RgIS w v (-1) 1 by
   have hc : sbsC v ts = 1 := by
    unfold sbsC
    exact if_neg (fun h => by rw [HQf.out] at h; simp at h)
   unfold sbsR sbsI
   rw [hc, if_neg (by decide), if_neg (by decide)])
  go_upto_region 3 with fail
  have o0 := K4.cs 0 (by simp)
  have o1 := K4.cs 1 (by simp)
  have o2 := K4.cs 2 (by simp)
  have o3 := K4.cs 3 (by simp)
  have o4 := K4.cs 4 (by simp)
  have o5 := K4.cs 5 (by simp)
  have o6 := K4.cs 6 (by simp)
  have o7 := K4.cs 7 (by simp)
  have r0 := R4.cs 0 (by simp)
  have r1 := R4.cs 1 (by simp)
  have r2 := R4.cs 2 (by simp)
  have r3 := R4.cs 3 (by simp)
  have r4 := R4.cs 4 (by simp)
  have r5 := R4.cs 5 (by simp)
  have r6 := R4.cs 6 (by simp)
  have r7 := R4.cs 7 (by simp)
  have rf := R4.fr
  simp at o0 o1 o2 o3 o4 o5 o6 o7 r0 r1 r2 r3 r4 r5 r6 r7
  obtain ⟨Z, hZ⟩ : ∃ Z, ((((((((w4.setCell ⟨w.heap.size + 1, 0, none⟩ (.int .i64 v.cp)).setCell ⟨w.heap.size + 1, 1, none⟩ (.int .i64 v.se)).setCell ⟨w.heap.size + 1, 2, none⟩ (.slice M1.ia M1.i M1.ic)).setCell ⟨w.heap.size + 1, 3, none⟩ (.int .i64 v.nx)).setCell ⟨w.heap.size + 1, 4, none⟩ (.slice M1.sa M1.s M1.sc)).setCell ⟨w.heap.size + 1, 5, none⟩ (.slice M1.la M1.l M1.lc)).setCell ⟨w.heap.size + 1, 6, none⟩ (.slice M1.ga M1.g M1.gc)).setCell ⟨w.heap.size + 1, 7, none⟩ (.bool v.cl)) = Z := ⟨_, rfl⟩
  have hZ2 : Z = setL w4 (w.heap.size + 1) 0 (rC M1 v) := by rw [← hZ]; rfl
  have XZ : BoxL (w.heap.size + 1) (rC M1 v) Z := by
   rw [← hZ]
   exact ((((((((R4.set 0 (by simp) _).set 1 (by simp) _).set 2 (by simp) _).set 3 (by simp) _).set 4 (by simp) _).set 5 (by simp) _).set 6 (by simp) _).set 7 (by simp) _)
  have HRZ := hidOf (show RRow w.heap.size Z M1 v by
   rw [hZ2]
   exact ((row4.grown (setL_grown ⟨rfl, rfl, rfl, Nat.le_refl _, fun _ _ _ => rfl⟩) (row4.out (by omega))).mono (B' := w.heap.size) (by omega)))
  have HBZ := hidOf (show Below w.heap.size w Z by rw [hZ2]; exact setL_below (by omega) B4)
  have HLZ := hidOf HLe.out
  have t0 := XZ.cs 0 (by simp)
  have t1 := XZ.cs 1 (by simp)
  have t2 := XZ.cs 2 (by simp)
  have t3 := XZ.cs 3 (by simp)
  have t4 := XZ.cs 4 (by simp)
  have t5 := XZ.cs 5 (by simp)
  have t6 := XZ.cs 6 (by simp)
  have t7 := XZ.cs 7 (by simp)
  simp at t0 t1 t2 t3 t4 t5 t6 t7
  clear hZ2 XZ K4 R4
  go_wp2_with fail
  clear hZ
  exact bodyPost_ret (v := .tuple #[.agg #[.int .i64 v.cp, .int .i64 v.se, .slice M1.ia M1.i M1.ic, .int .i64 v.nx, .slice M1.sa M1.s M1.sc, .slice M1.la M1.l M1.lc, .slice M1.ga M1.g M1.gc, .bool v.cl], .int .i64 (-1), .int .i64 1]) (by simp [results, Tryz.results57, go_sem, t0, t1, t2, t3, t4, t5, t6, t7]) rfl (show RgIS w (sbsR v ts back) (sbsI v ts) (sbsC v ts) _ _ by rw [HE.out]; exact ⟨M1, rfl, HRZ.out, HLZ.out, HBZ.out⟩)
 have HOk := hidOf (And.intro HQ.out HQf.out)
 obtain ⟨qc, hqc⟩ : ∃ q, v.cl = q := ⟨_, rfl⟩
 rw [hqc] at p7
 cases qc
 case true =>
  have HCl := hidOf (show v.cl = true from hqc)
  clear hqc
  go_upto_region 5 with fail
  rw [← HCl.out] at p7
  have HE := hidOf (show RgIS w (sbsR v ts back) (sbsI v ts) (sbsC v ts) = RgIS w v (-1) 6 by
   have hc : sbsC v ts = 6 := by
    unfold sbsC
    rw [if_pos HOk.out, if_pos HCl.out]
   unfold sbsR sbsI
   rw [hc, if_neg (by decide), if_neg (by decide)])
  have o0 := K4.cs 0 (by simp)
  have o1 := K4.cs 1 (by simp)
  have o2 := K4.cs 2 (by simp)
  have o3 := K4.cs 3 (by simp)
  have o4 := K4.cs 4 (by simp)
  have o5 := K4.cs 5 (by simp)
  have o6 := K4.cs 6 (by simp)
  have o7 := K4.cs 7 (by simp)
  have r0 := R4.cs 0 (by simp)
  have r1 := R4.cs 1 (by simp)
  have r2 := R4.cs 2 (by simp)
  have r3 := R4.cs 3 (by simp)
  have r4 := R4.cs 4 (by simp)
  have r5 := R4.cs 5 (by simp)
  have r6 := R4.cs 6 (by simp)
  have r7 := R4.cs 7 (by simp)
  have rf := R4.fr
  simp at o0 o1 o2 o3 o4 o5 o6 o7 r0 r1 r2 r3 r4 r5 r6 r7
  obtain ⟨Z, hZ⟩ : ∃ Z, ((((((((w4.setCell ⟨w.heap.size + 1, 0, none⟩ (.int .i64 v.cp)).setCell ⟨w.heap.size + 1, 1, none⟩ (.int .i64 v.se)).setCell ⟨w.heap.size + 1, 2, none⟩ (.slice M1.ia M1.i M1.ic)).setCell ⟨w.heap.size + 1, 3, none⟩ (.int .i64 v.nx)).setCell ⟨w.heap.size + 1, 4, none⟩ (.slice M1.sa M1.s M1.sc)).setCell ⟨w.heap.size + 1, 5, none⟩ (.slice M1.la M1.l M1.lc)).setCell ⟨w.heap.size + 1, 6, none⟩ (.slice M1.ga M1.g M1.gc)).setCell ⟨w.heap.size + 1, 7, none⟩ (.bool v.cl)) = Z := ⟨_, rfl⟩
  have hZ2 : Z = setL w4 (w.heap.size + 1) 0 (rC M1 v) := by rw [← hZ]; rfl
  have XZ : BoxL (w.heap.size + 1) (rC M1 v) Z := by
   rw [← hZ]
   exact ((((((((R4.set 0 (by simp) _).set 1 (by simp) _).set 2 (by simp) _).set 3 (by simp) _).set 4 (by simp) _).set 5 (by simp) _).set 6 (by simp) _).set 7 (by simp) _)
  have HRZ := hidOf (show RRow w.heap.size Z M1 v by
   rw [hZ2]
   exact ((row4.grown (setL_grown ⟨rfl, rfl, rfl, Nat.le_refl _, fun _ _ _ => rfl⟩) (row4.out (by omega))).mono (B' := w.heap.size) (by omega)))
  have HBZ := hidOf (show Below w.heap.size w Z by rw [hZ2]; exact setL_below (by omega) B4)
  have HLZ := hidOf HLe.out
  have t0 := XZ.cs 0 (by simp)
  have t1 := XZ.cs 1 (by simp)
  have t2 := XZ.cs 2 (by simp)
  have t3 := XZ.cs 3 (by simp)
  have t4 := XZ.cs 4 (by simp)
  have t5 := XZ.cs 5 (by simp)
  have t6 := XZ.cs 6 (by simp)
  have t7 := XZ.cs 7 (by simp)
  simp at t0 t1 t2 t3 t4 t5 t6 t7
  clear hZ2 XZ K4 R4
  go_wp2_with fail
  clear hZ
  exact bodyPost_ret (v := .tuple #[.agg #[.int .i64 v.cp, .int .i64 v.se, .slice M1.ia M1.i M1.ic, .int .i64 v.nx, .slice M1.sa M1.s M1.sc, .slice M1.la M1.l M1.lc, .slice M1.ga M1.g M1.gc, .bool v.cl], .int .i64 (-1), .int .i64 6]) (by simp [results, Tryz.results57, go_sem, t0, t1, t2, t3, t4, t5, t6, t7]) rfl (show RgIS w (sbsR v ts back) (sbsI v ts) (sbsC v ts) _ _ by rw [HE.out]; exact ⟨M1, rfl, HRZ.out, HLZ.out, HBZ.out⟩)
 have HCl := hidOf (show v.cl = false from hqc)
 clear hqc
 go_upto_region 6 with fail
 rw [← HCl.out] at p7
 have HHd := hidOf (ok_head HQ.out)
 have HNx := hidOf (ok_next HQ.out)
 have hms : M.s = v.sb.length := by rw [← HI.out.sv]; have := HI.out.sb.len; simp [svs]; omega
 by_cases h12 : (12 : Int) ≤ (M.s : Int)
 ·have HE := hidOf (show RgIS w (sbsR v ts back) (sbsI v ts) (sbsC v ts) = RgIS w v (-1) 2 by
   have hc : sbsC v ts = 2 := by
    unfold sbsC
    rw [if_pos HOk.out, if_neg (by rw [HCl.out]; decide), if_pos (by omega)]
   unfold sbsR sbsI
   rw [hc, if_neg (by decide), if_neg (by decide)])
  go_upto_region 7 with fail
  have o0 := K4.cs 0 (by simp)
  have o1 := K4.cs 1 (by simp)
  have o2 := K4.cs 2 (by simp)
  have o3 := K4.cs 3 (by simp)
  have o4 := K4.cs 4 (by simp)
  have o5 := K4.cs 5 (by simp)
  have o6 := K4.cs 6 (by simp)
  have o7 := K4.cs 7 (by simp)
  have r0 := R4.cs 0 (by simp)
  have r1 := R4.cs 1 (by simp)
  have r2 := R4.cs 2 (by simp)
  have r3 := R4.cs 3 (by simp)
  have r4 := R4.cs 4 (by simp)
  have r5 := R4.cs 5 (by simp)
  have r6 := R4.cs 6 (by simp)
  have r7 := R4.cs 7 (by simp)
  have rf := R4.fr
  simp at o0 o1 o2 o3 o4 o5 o6 o7 r0 r1 r2 r3 r4 r5 r6 r7
  obtain ⟨Z, hZ⟩ : ∃ Z, ((((((((w4.setCell ⟨w.heap.size + 1, 0, none⟩ (.int .i64 v.cp)).setCell ⟨w.heap.size + 1, 1, none⟩ (.int .i64 v.se)).setCell ⟨w.heap.size + 1, 2, none⟩ (.slice M1.ia M1.i M1.ic)).setCell ⟨w.heap.size + 1, 3, none⟩ (.int .i64 v.nx)).setCell ⟨w.heap.size + 1, 4, none⟩ (.slice M1.sa M1.s M1.sc)).setCell ⟨w.heap.size + 1, 5, none⟩ (.slice M1.la M1.l M1.lc)).setCell ⟨w.heap.size + 1, 6, none⟩ (.slice M1.ga M1.g M1.gc)).setCell ⟨w.heap.size + 1, 7, none⟩ (.bool v.cl)) = Z := ⟨_, rfl⟩
  have hZ2 : Z = setL w4 (w.heap.size + 1) 0 (rC M1 v) := by rw [← hZ]; rfl
  have XZ : BoxL (w.heap.size + 1) (rC M1 v) Z := by
   rw [← hZ]
   exact ((((((((R4.set 0 (by simp) _).set 1 (by simp) _).set 2 (by simp) _).set 3 (by simp) _).set 4 (by simp) _).set 5 (by simp) _).set 6 (by simp) _).set 7 (by simp) _)
  have HRZ := hidOf (show RRow w.heap.size Z M1 v by
   rw [hZ2]
   exact ((row4.grown (setL_grown ⟨rfl, rfl, rfl, Nat.le_refl _, fun _ _ _ => rfl⟩) (row4.out (by omega))).mono (B' := w.heap.size) (by omega)))
  have HBZ := hidOf (show Below w.heap.size w Z by rw [hZ2]; exact setL_below (by omega) B4)
  have HLZ := hidOf HLe.out
  have t0 := XZ.cs 0 (by simp)
  have t1 := XZ.cs 1 (by simp)
  have t2 := XZ.cs 2 (by simp)
  have t3 := XZ.cs 3 (by simp)
  have t4 := XZ.cs 4 (by simp)
  have t5 := XZ.cs 5 (by simp)
  have t6 := XZ.cs 6 (by simp)
  have t7 := XZ.cs 7 (by simp)
  simp at t0 t1 t2 t3 t4 t5 t6 t7
  clear hZ2 XZ K4 R4
  go_wp2_with fail
  clear hZ
  exact bodyPost_ret (v := .tuple #[.agg #[.int .i64 v.cp, .int .i64 v.se, .slice M1.ia M1.i M1.ic, .int .i64 v.nx, .slice M1.sa M1.s M1.sc, .slice M1.la M1.l M1.lc, .slice M1.ga M1.g M1.gc, .bool v.cl], .int .i64 (-1), .int .i64 2]) (by simp [results, Tryz.results57, go_sem, t0, t1, t2, t3, t4, t5, t6, t7]) rfl (show RgIS w (sbsR v ts back) (sbsI v ts) (sbsC v ts) _ _ by rw [HE.out]; exact ⟨M1, rfl, HRZ.out, HLZ.out, HBZ.out⟩)
 by_cases hnx : (1000000000 : Int) ≤ v.nx
 ·have HE := hidOf (show RgIS w (sbsR v ts back) (sbsI v ts) (sbsC v ts) = RgIS w v (-1) 2 by
   have hc : sbsC v ts = 2 := by
    unfold sbsC
    rw [if_pos HOk.out, if_neg (by rw [HCl.out]; decide), if_pos (by omega)]
   unfold sbsR sbsI
   rw [hc, if_neg (by decide), if_neg (by decide)])
  go_upto_region 7 with fail
  have o0 := K4.cs 0 (by simp)
  have o1 := K4.cs 1 (by simp)
  have o2 := K4.cs 2 (by simp)
  have o3 := K4.cs 3 (by simp)
  have o4 := K4.cs 4 (by simp)
  have o5 := K4.cs 5 (by simp)
  have o6 := K4.cs 6 (by simp)
  have o7 := K4.cs 7 (by simp)
  have r0 := R4.cs 0 (by simp)
  have r1 := R4.cs 1 (by simp)
  have r2 := R4.cs 2 (by simp)
  have r3 := R4.cs 3 (by simp)
  have r4 := R4.cs 4 (by simp)
  have r5 := R4.cs 5 (by simp)
  have r6 := R4.cs 6 (by simp)
  have r7 := R4.cs 7 (by simp)
  have rf := R4.fr
  simp at o0 o1 o2 o3 o4 o5 o6 o7 r0 r1 r2 r3 r4 r5 r6 r7
  obtain ⟨Z, hZ⟩ : ∃ Z, ((((((((w4.setCell ⟨w.heap.size + 1, 0, none⟩ (.int .i64 v.cp)).setCell ⟨w.heap.size + 1, 1, none⟩ (.int .i64 v.se)).setCell ⟨w.heap.size + 1, 2, none⟩ (.slice M1.ia M1.i M1.ic)).setCell ⟨w.heap.size + 1, 3, none⟩ (.int .i64 v.nx)).setCell ⟨w.heap.size + 1, 4, none⟩ (.slice M1.sa M1.s M1.sc)).setCell ⟨w.heap.size + 1, 5, none⟩ (.slice M1.la M1.l M1.lc)).setCell ⟨w.heap.size + 1, 6, none⟩ (.slice M1.ga M1.g M1.gc)).setCell ⟨w.heap.size + 1, 7, none⟩ (.bool v.cl)) = Z := ⟨_, rfl⟩
  have hZ2 : Z = setL w4 (w.heap.size + 1) 0 (rC M1 v) := by rw [← hZ]; rfl
  have XZ : BoxL (w.heap.size + 1) (rC M1 v) Z := by
   rw [← hZ]
   exact ((((((((R4.set 0 (by simp) _).set 1 (by simp) _).set 2 (by simp) _).set 3 (by simp) _).set 4 (by simp) _).set 5 (by simp) _).set 6 (by simp) _).set 7 (by simp) _)
  have HRZ := hidOf (show RRow w.heap.size Z M1 v by
   rw [hZ2]
   exact ((row4.grown (setL_grown ⟨rfl, rfl, rfl, Nat.le_refl _, fun _ _ _ => rfl⟩) (row4.out (by omega))).mono (B' := w.heap.size) (by omega)))
  have HBZ := hidOf (show Below w.heap.size w Z by rw [hZ2]; exact setL_below (by omega) B4)
  have HLZ := hidOf HLe.out
  have t0 := XZ.cs 0 (by simp)
  have t1 := XZ.cs 1 (by simp)
  have t2 := XZ.cs 2 (by simp)
  have t3 := XZ.cs 3 (by simp)
  have t4 := XZ.cs 4 (by simp)
  have t5 := XZ.cs 5 (by simp)
  have t6 := XZ.cs 6 (by simp)
  have t7 := XZ.cs 7 (by simp)
  simp at t0 t1 t2 t3 t4 t5 t6 t7
  clear hZ2 XZ K4 R4
  go_wp2_with fail
  clear hZ
  exact bodyPost_ret (v := .tuple #[.agg #[.int .i64 v.cp, .int .i64 v.se, .slice M1.ia M1.i M1.ic, .int .i64 v.nx, .slice M1.sa M1.s M1.sc, .slice M1.la M1.l M1.lc, .slice M1.ga M1.g M1.gc, .bool v.cl], .int .i64 (-1), .int .i64 2]) (by simp [results, Tryz.results57, go_sem, t0, t1, t2, t3, t4, t5, t6, t7]) rfl (show RgIS w (sbsR v ts back) (sbsI v ts) (sbsC v ts) _ _ by rw [HE.out]; exact ⟨M1, rfl, HRZ.out, HLZ.out, HBZ.out⟩)
 have HC0 := hidOf (show sbsC v ts = 0 by
  unfold sbsC
  rw [if_pos HOk.out, if_neg (by rw [HCl.out]; decide), if_neg (by omega)])
 clear hms
 go_upto_region 8 with fail
 clear h12 hnx
 cases back
 ·skip
  have HSb := hidOf (show n ≤ 1048576 from hn)
  have T4 := HT.out.keep B4
  have hKlt : w1.heap.size < w4.heap.size := K4.lt
  have b0a : Below w4.heap.size w4 (w4.drew.alloc (.cells #[] 132)) := bl_alloc (Below.refl _ _).drew _
  have ho0 : (w4.drew.alloc (.cells #[] 132)).ownsRow w4.heap.size 132 3 (.slice (some ⟨w4.heap.size, 0, none⟩) 0 0) 0 (qflat []) := ⟨rfl, .inr ⟨w4.heap.size, 0, #[], rfl, Nat.le_refl _, heap_alloc_new w4.drew _, Nat.le_refl _, Nat.zero_le _, rfl, rfl⟩⟩
  obtain ⟨a2, c2, V2, hr2, ho2, hgr2, hq2⟩ := append_tmR w4.heap.size 0 _ [] a n cap ts _ ho0 b0a.size (T4.keep b0a) (by omega)
  rw [Nat.zero_add, List.nil_append] at ho2
  rw [Nat.zero_add] at hr2 hq2
  have bV2 : Below w4.heap.size w4 V2 := b0a.grown hgr2 b0a.size (fun j hj => (World.ownsRow.lt ho0 j hj).1)
  obtain ⟨V2a, hV2a⟩ : ∃ V, V2.alloc (.cells #[.int .i64 v.nx, .int .i64 (v.se), .int .i64 (v.se), .int .i64 0, .int .i64 0, .int .i64 0, .slice a2 n c2] 41) = V := ⟨_, rfl⟩
  have b4 : Below V2.heap.size V2 V2a := by rw [← hV2a]; exact bl_alloc (Below.refl _ _) _
  have bV2a := bl_trans bV2 b4
  have fl4 := ownsRow_keep ho2 b4
  have one : SubAt V2a (some ⟨V2.heap.size, 0, none⟩) 1 [⟨newS v (v.se) ts, a2, n, c2⟩] := by
   obtain ⟨a1, c1, e1, _, h1⟩ := ownF_of fl4 ts rfl HT.out.short
   cases e1
   have X4 : BoxL V2.heap.size (sC ⟨newS v (v.se) ts, a2, n, c2⟩) V2a := by rw [← hV2a]; exact BoxL.new V2 (sC ⟨newS v (v.se) ts, a2, n, c2⟩) 41
   refine ⟨rfl, fun y hy => by rw [List.mem_singleton.1 hy]; exact h1.tm, .inr ⟨V2.heap.size, 0, rfl, X4.lt, fun i hi => ?_⟩⟩
   obtain rfl : i = 0 := by omega
   exact ⟨X4.cs 0 (by simp), X4.cs 1 (by simp), X4.cs 2 (by simp), X4.cs 3 (by simp), X4.cs 4 (by simp), X4.cs 5 (by simp), X4.cs 6 (by simp)⟩
  have rowA := row4.keep bV2a
  have hms1 : M1.s ≤ 1048576 := HLe1.out.s
  obtain ⟨a3, c3, V3, hr3, ho3, hgr3, hq3⟩ := append_subR (w.heap.size + 2) M1.s (.slice M1.sa M1.s M1.sc) M1.xs (some ⟨V2.heap.size, 0, none⟩) 1 1 [⟨newS v (v.se) ts, a2, n, c2⟩] V2a rowA.sb (by have := bV2a.size; omega) one (by omega)
  have rowB := rowA.push (x := ⟨newS v (v.se) ts, a2, n, c2⟩) (rowM fl4 (by omega)) HT.out.short (fun q e hm => by have h1 := (row_lt ho2 e).1; have h2 := (row4.blk q hm).2; omega) ho3 hgr3 hq3
  have gn : ∀ N, N < w.heap.size + 2 → (Value.slice M1.sa M1.s M1.sc).ownBlock ≠ some N := fun N hN e => by have := (row_lt rowA.sb e).1; omega
  have nKs : (Value.slice M1.sa M1.s M1.sc).ownBlock ≠ some w1.heap.size := fun e => nK (by rw [← e]; simp [blkR])
  have K5 := (K4.keep bV2a).grown hgr3 nKs
  have R5 := (R4.keep bV2a).grown hgr3 (gn _ (by omega))
  have A5 := (A4.keep bV2a).grown hgr3 (gn _ (by omega))
  have B5 : Below w.heap.size w V3 := (bl_trans B4 bV2a).grown hgr3 (by have := (bl_trans B4 bV2a).size; omega) (fun j hj => by have := (row_lt rowA.sb hj).1; omega)
  have nK5 : some w1.heap.size ∉ blkR { M1 with sa := a3, s := M1.s + 1, sc := c3, xs := M1.xs ++ [⟨newS v (v.se) ts, a2, n, c2⟩] } := fun hm => by
   have hm0 := nK
   unfold blkR at hm hm0
   simp only [List.mem_cons, List.map_append, List.mem_append] at hm hm0
   rcases hm with h | h | h | h | h | h
   ·exact hm0 (.inl h)
   ·rcases hq3 _ h.symm with k | k
    ·exact nKs k
    ·have := bV2a.size; omega
   ·exact hm0 (.inr (.inr (.inl h)))
   ·exact hm0 (.inr (.inr (.inr (.inl h))))
   ·exact hm0 (.inr (.inr (.inr (.inr h))))
   ·have e : some w1.heap.size = (Value.slice a2 n c2).ownBlock := by simpa using h
    have := (row_lt ho2 e.symm).1
    omega
  obtain ⟨U7, hU7⟩ : ∃ U, V3.setCell ⟨w1.heap.size, 4, none⟩ (.slice a3 (M1.s + 1) c3) = U := ⟨_, rfl⟩
  have k4 := K4.cs 4 (by simp)
  have k4e := K5.cs 4 (by simp)
  have a3c := A4.cs 3 (by simp)
  have a5c := A5.cs 3 (by simp)
  simp at k4 k4e a3c a5c
  have k4d := cellT k4 (Below.refl _ _).drew
  have k4a := cellT k4 b0a
  have k4b := cellT k4 bV2
  have k4c := cellT k4 bV2a
  have kf3 := K5.fr
  have hS0 : w4.cell? ⟨w.heap.size, 3, none⟩ = some (.int .i64 v.nx) ∧ True := ⟨a3c, True.intro⟩
  have hS6 : (w4.drew.alloc (.cells #[] 132)).cell? ⟨w.heap.size, 3, none⟩ = some (.int .i64 v.nx) ∧ True := ⟨cellT a3c b0a, True.intro⟩
  have hS8 : V2.cell? ⟨w.heap.size, 3, none⟩ = some (.int .i64 v.nx) ∧ True := ⟨cellT a3c bV2, True.intro⟩
  have hS10 : V2a.cell? ⟨w.heap.size, 3, none⟩ = some (.int .i64 v.nx) ∧ True := ⟨cellT a3c bV2a, True.intro⟩
  have hS11 : V3.cell? ⟨w.heap.size, 3, none⟩ = some (.int .i64 v.nx) ∧ True := ⟨a5c, True.intro⟩
  have K7 := K5.set 4 (by simp) (.slice a3 (M1.s + 1) c3)
  rw [hU7] at K7
  have R7 : BoxL (w.heap.size + 1) [.int .i64 0, .int .i64 0, .slice none 0 0, .int .i64 0, .slice none 0 0, .slice none 0 0, .slice none 0 0, .bool false] U7 := by rw [← hU7]; exact R5.far _ _ (by omega) _
  have A7 : BoxL w.heap.size (rC M v) U7 := by rw [← hU7]; exact A5.far _ _ (by omega) _
  have B7 : Below w.heap.size w U7 := by rw [← hU7]; exact bl_setB B5 _ _ (by omega) _
  have row7 : RRow (w.heap.size + 2) U7 { M1 with sa := a3, s := M1.s + 1, sc := c3, xs := M1.xs ++ [⟨newS v (v.se) ts, a2, n, c2⟩] } { v with sb := v.sb ++ [newS v (v.se) ts] } := by rw [← hU7]; exact rowB.grown (grown_setC _ _ _ _) nK5
  have a7c := A7.cs 3 (by simp)
  simp at a7c
  have hS13 : U7.cell? ⟨w.heap.size, 3, none⟩ = some (.int .i64 v.nx) ∧ True := ⟨a7c, True.intro⟩
  rw [← hV2a] at hr3 k4c hS10
  have hsz4 : w4.drew.heap.size = w4.heap.size := rfl
  have HK7 := hidOf K7
  have HR7 := hidOf R7
  have HA7 := hidOf A7
  have HB7 := hidOf B7
  have HRo7 := hidOf row7
  have HNK := hidOf nK5
  have HMs := hidOf hms1
  clear T4 b0a ho0 ho2 hgr2 hq2 bV2 hV2a b4 bV2a fl4 one rowA ho3 hgr3 hq3 rowB gn nKs K5 R5 A5 B5 nK5 K7 R7 A7 B7 row7 a3c a5c a7c K4 R4 A4 B4 row4 hms1
  go_upto_region 11 with fail
  go_cut [10] from 43 (fun v10 wx => v10 = .int .i64 (v.se) ∧ wx = U7)
  case first =>
   refine wp_region_noPanic ?_
   refine wp_region_held_drew (S := fun w' => w'.cell? ⟨w.heap.size, 3, none⟩ = some (.int .i64 v.nx) ∧ True) (by kernel_rfl) hS0 (fun hHeld => ?_)
   refine tK 0 ?_ rfl (by kernel_rfl) (by rfl) ?_ (by assumption) (fun _ _ _ h => h) ?_
   case refine_2 => (intro w hSw; (try dsimp only at hSw); go_simp; try with_reducible rfl)
   simp only [Act.put, List.getElem_toArray, List.getElem_cons_zero, List.setIfInBounds_toArray, List.set_cons_zero, List.set_cons_succ]
   refine tR 2 ?_
   refine tR 3 ?_
   refine tR 4 ?_
   refine tR 5 ?_
   refine tR 7 ?_
   refine wpAnyH_ready (rs := [1, 6]) (by kernel_rfl) (by simp) ?_
   refine AllReadyH.cons rfl (fun K hK => ?_) (AllReadyH.cons rfl (fun K hK => ?_) AllReadyH.nil)
   ·go_simp
    refine hK.out _ _ hHeld (fun hHeld => ?_)
    clear hK K
    refine tW 6 (fun K hK => ?_)
    go_simp
    refine hK.out _ _ hS6 (fun hHeld => ?_)
    clear hK K
    refine tW 8 (fun K hK => ?_)
    refine nstep_append_runW (by rfl) _ _ 39 (by rfl) (.slice (some ⟨w4.heap.size, 0, none⟩) 0 0) (.slice a n cap) _ (by rfl) (by rfl) hr2 ?_
    refine hK.out _ _ hS8 (fun hHeld => ?_)
    clear hK K
    simp only [Act.put, zGA, zG0, zGC, zSA, zS0, zSC]
    refine tR 9 ?_
    refine tW 10 (fun K hK => ?_)
    go_simp
    refine hK.out _ _ hS10 (fun hHeld => ?_)
    clear hK K
    refine tW 11 (fun K hK => ?_)
    refine nstep_append_runW (by rfl) _ _ 25 (by rfl) (.slice M1.sa M1.s M1.sc) (.slice (some ⟨V2.heap.size, 0, none⟩) 1 1) _ (by rfl) (by rfl) hr3 ?_
    refine hK.out _ _ hS11 (fun hHeld => ?_)
    clear hK K
    simp only [Act.put, zGA, zG0, zGC, zSA, zS0, zSC]
    refine tR 12 ?_
    refine tW 13 (fun K hK => ?_)
    go_simp
    refine hK.out _ _ hS13 (fun hHeld => ?_)
    clear hK K
    refine wpAnyH_done (by kernel_rfl) ?_ _
    refine NoPanic.normal ?_
    go_wp2_with fail
    go_meet
    exact ⟨rfl, rfl⟩
   ·go_simp
    refine hK.out _ _ hS6 (fun hHeld => ?_)
    clear hK K
    refine wpAnyH_ready (rs := [1, 8]) (by kernel_rfl) (by simp) ?_
    refine AllReadyH.cons rfl (fun K hK => ?_) (AllReadyH.cons rfl (fun K hK => ?_) AllReadyH.nil)
    ·go_simp
     refine hK.out _ _ hHeld (fun hHeld => ?_)
     clear hK K
     refine tW 8 (fun K hK => ?_)
     refine nstep_append_runW (by rfl) _ _ 39 (by rfl) (.slice (some ⟨w4.heap.size, 0, none⟩) 0 0) (.slice a n cap) _ (by rfl) (by rfl) hr2 ?_
     refine hK.out _ _ hS8 (fun hHeld => ?_)
     clear hK K
     simp only [Act.put, zGA, zG0, zGC, zSA, zS0, zSC]
     refine tR 9 ?_
     refine tW 10 (fun K hK => ?_)
     go_simp
     refine hK.out _ _ hS10 (fun hHeld => ?_)
     clear hK K
     refine tW 11 (fun K hK => ?_)
     refine nstep_append_runW (by rfl) _ _ 25 (by rfl) (.slice M1.sa M1.s M1.sc) (.slice (some ⟨V2.heap.size, 0, none⟩) 1 1) _ (by rfl) (by rfl) hr3 ?_
     refine hK.out _ _ hS11 (fun hHeld => ?_)
     clear hK K
     simp only [Act.put, zGA, zG0, zGC, zSA, zS0, zSC]
     refine tR 12 ?_
     refine tW 13 (fun K hK => ?_)
     go_simp
     refine hK.out _ _ hS13 (fun hHeld => ?_)
     clear hK K
     refine wpAnyH_done (by kernel_rfl) ?_ _
     refine NoPanic.normal ?_
     go_wp2_with fail
     go_meet
     exact ⟨rfl, rfl⟩
    ·refine nstep_append_runW (by rfl) _ _ 39 (by rfl) (.slice (some ⟨w4.heap.size, 0, none⟩) 0 0) (.slice a n cap) _ (by rfl) (by rfl) hr2 ?_
     refine hK.out _ _ hS8 (fun hHeld => ?_)
     clear hK K
     simp only [Act.put, zGA, zG0, zGC, zSA, zS0, zSC]
     refine tR 9 ?_
     refine wpAnyH_ready (rs := [1, 10]) (by kernel_rfl) (by simp) ?_
     refine AllReadyH.cons rfl (fun K hK => ?_) (AllReadyH.cons rfl (fun K hK => ?_) AllReadyH.nil)
     ·go_simp
      refine hK.out _ _ hHeld (fun hHeld => ?_)
      clear hK K
      refine tW 10 (fun K hK => ?_)
      go_simp
      refine hK.out _ _ hS10 (fun hHeld => ?_)
      clear hK K
      refine tW 11 (fun K hK => ?_)
      refine nstep_append_runW (by rfl) _ _ 25 (by rfl) (.slice M1.sa M1.s M1.sc) (.slice (some ⟨V2.heap.size, 0, none⟩) 1 1) _ (by rfl) (by rfl) hr3 ?_
      refine hK.out _ _ hS11 (fun hHeld => ?_)
      clear hK K
      simp only [Act.put, zGA, zG0, zGC, zSA, zS0, zSC]
      refine tR 12 ?_
      refine tW 13 (fun K hK => ?_)
      go_simp
      refine hK.out _ _ hS13 (fun hHeld => ?_)
      clear hK K
      refine wpAnyH_done (by kernel_rfl) ?_ _
      refine NoPanic.normal ?_
      go_wp2_with fail
      go_meet
      exact ⟨rfl, rfl⟩
     ·go_simp
      refine hK.out _ _ hS10 (fun hHeld => ?_)
      clear hK K
      refine tW 1 (fun K hK => ?_)
      go_simp
      refine hK.out _ _ hHeld (fun hHeld => ?_)
      clear hK K
      refine tW 11 (fun K hK => ?_)
      refine nstep_append_runW (by rfl) _ _ 25 (by rfl) (.slice M1.sa M1.s M1.sc) (.slice (some ⟨V2.heap.size, 0, none⟩) 1 1) _ (by rfl) (by rfl) hr3 ?_
      refine hK.out _ _ hS11 (fun hHeld => ?_)
      clear hK K
      simp only [Act.put, zGA, zG0, zGC, zSA, zS0, zSC]
      refine tR 12 ?_
      refine tW 13 (fun K hK => ?_)
      go_simp
      refine hK.out _ _ hS13 (fun hHeld => ?_)
      clear hK K
      refine wpAnyH_done (by kernel_rfl) ?_ _
      refine NoPanic.normal ?_
      go_wp2_with fail
      go_meet
      exact ⟨rfl, rfl⟩
  case rest =>
   obtain ⟨rfl, hwc⟩ := hcut
   obtain rfl : U7 = wc := hwc.symm
   clear hwc hU7 k4 k4d k4a k4b k4c k4e kf3 hr2 hr3 hS0 hS6 hS8 hS10 hS11 hS13
   obtain ⟨M2, hM2⟩ : ∃ M2 : Rm, { M1 with sa := a3, s := M1.s + 1, sc := c3, xs := M1.xs ++ [⟨newS v (v.se) ts, a2, n, c2⟩] } = M2 := ⟨_, rfl⟩
   obtain ⟨v5, hv5⟩ : ∃ v5 : Rv, (⟨v.cp, v.se, v.it, v.nx + 1, v.sb ++ [newS v (v.se) ts], v.ln, v.gs, v.cl⟩ : Rv) = v5 := ⟨_, rfl⟩
   have hw1 : IntKind.i64.wrap (v.nx + 1) = v.nx + 1 := by rw [IntKind.wrap_i64]; have := HNx.out; omega
   have k3 := HK7.out.cs 3 (by simp)
   have kf := HK7.out.fr
   simp at k3
   obtain ⟨U8, hU8⟩ : ∃ U, U7.setCell ⟨w1.heap.size, 3, none⟩ (.int .i64 (v.nx + 1)) = U := ⟨_, rfl⟩
   have K8 : BoxL w1.heap.size (rC M2 v5) U8 := by rw [← hU8, ← hM2, ← hv5]; exact HK7.out.set 3 (by simp) _
   have R8 : BoxL (w.heap.size + 1) [.int .i64 0, .int .i64 0, .slice none 0 0, .int .i64 0, .slice none 0 0, .slice none 0 0, .slice none 0 0, .bool false] U8 := by rw [← hU8]; exact HR7.out.far _ _ (by omega) _
   have A8 : BoxL w.heap.size (rC M v) U8 := by rw [← hU8]; exact HA7.out.far _ _ (by omega) _
   have B8 : Below w.heap.size w U8 := by rw [← hU8]; exact bl_setB HB7.out _ _ (by omega) _
   have row8 : RRow (w.heap.size + 2) U8 M2 v5 := by
    have h : RRow (w.heap.size + 2) U8 { M1 with sa := a3, s := M1.s + 1, sc := c3, xs := M1.xs ++ [⟨newS v (v.se) ts, a2, n, c2⟩] } { v with sb := v.sb ++ [newS v (v.se) ts] } := by rw [← hU8]; exact HRo7.out.grown (grown_setC _ _ _ _) HNK.out
    rw [← hM2, ← hv5]
    exact ⟨h.it, h.its, h.sb, h.fl, h.fls, h.sv, h.ln, h.gs, h.apt⟩
   have HL8 := hidOf (show RLe M2 2097152 by
    rw [← hM2]
    have h := HLe.out
    have h1 := HMs.out
    have h2 := HSb.out
    refine ⟨h.i, by show M1.s + 1 ≤ _; omega, fun y hy => ?_, h.l, h.g⟩
    rcases List.mem_append.1 hy with hy | hy
    ·exact h.f y hy
    ·rw [List.mem_singleton.1 hy]
     show n ≤ 2097152
     omega)
   have HE := hidOf (show RgIS w (sbsR v ts false) (sbsI v ts) (sbsC v ts) = RgIS w v5 v.nx 0 by
    have hc := HC0.out
    unfold sbsR sbsI
    rw [hc, if_pos rfl, if_pos rfl, ← hv5]
    rfl)
   have p3 := A8.cs 3 (by simp)
   simp at p3
   have p3d := cellT p3 (Below.refl _ _).drew
   have hs1' := hs1
   clear HK7 HR7 HA7 HB7 HRo7 HNK hM2 hv5
   go_upto_region 13 with fail
   clear hU8 k3 kf
   have o0 := K8.cs 0 (by simp)
   have o1 := K8.cs 1 (by simp)
   have o2 := K8.cs 2 (by simp)
   have o3 := K8.cs 3 (by simp)
   have o4 := K8.cs 4 (by simp)
   have o5 := K8.cs 5 (by simp)
   have o6 := K8.cs 6 (by simp)
   have o7 := K8.cs 7 (by simp)
   have r0 := R8.cs 0 (by simp)
   have r1 := R8.cs 1 (by simp)
   have r2 := R8.cs 2 (by simp)
   have r3 := R8.cs 3 (by simp)
   have r4 := R8.cs 4 (by simp)
   have r5 := R8.cs 5 (by simp)
   have r6 := R8.cs 6 (by simp)
   have r7 := R8.cs 7 (by simp)
   have rf := R8.fr
   simp at o0 o1 o2 o3 o4 o5 o6 o7 r0 r1 r2 r3 r4 r5 r6 r7
   obtain ⟨Z, hZ⟩ : ∃ Z, ((((((((U8.setCell ⟨w.heap.size + 1, 0, none⟩ (.int .i64 v5.cp)).setCell ⟨w.heap.size + 1, 1, none⟩ (.int .i64 v5.se)).setCell ⟨w.heap.size + 1, 2, none⟩ (.slice M2.ia M2.i M2.ic)).setCell ⟨w.heap.size + 1, 3, none⟩ (.int .i64 v5.nx)).setCell ⟨w.heap.size + 1, 4, none⟩ (.slice M2.sa M2.s M2.sc)).setCell ⟨w.heap.size + 1, 5, none⟩ (.slice M2.la M2.l M2.lc)).setCell ⟨w.heap.size + 1, 6, none⟩ (.slice M2.ga M2.g M2.gc)).setCell ⟨w.heap.size + 1, 7, none⟩ (.bool v5.cl)) = Z := ⟨_, rfl⟩
   have hZ2 : Z = setL U8 (w.heap.size + 1) 0 (rC M2 v5) := by rw [← hZ]; rfl
   have XZ : BoxL (w.heap.size + 1) (rC M2 v5) Z := by
    rw [← hZ]
    exact ((((((((R8.set 0 (by simp) _).set 1 (by simp) _).set 2 (by simp) _).set 3 (by simp) _).set 4 (by simp) _).set 5 (by simp) _).set 6 (by simp) _).set 7 (by simp) _)
   have HRZ := hidOf (show RRow w.heap.size Z M2 v5 by
    rw [hZ2]
    exact ((row8.grown (setL_grown ⟨rfl, rfl, rfl, Nat.le_refl _, fun _ _ _ => rfl⟩) (row8.out (by omega))).mono (B' := w.heap.size) (by omega)))
   have HBZ := hidOf (show Below w.heap.size w Z by rw [hZ2]; exact setL_below (by omega) B8)
   have HLZ := hidOf HL8.out
   have t0 := XZ.cs 0 (by simp)
   have t1 := XZ.cs 1 (by simp)
   have t2 := XZ.cs 2 (by simp)
   have t3 := XZ.cs 3 (by simp)
   have t4 := XZ.cs 4 (by simp)
   have t5 := XZ.cs 5 (by simp)
   have t6 := XZ.cs 6 (by simp)
   have t7 := XZ.cs 7 (by simp)
   simp at t0 t1 t2 t3 t4 t5 t6 t7
   have AZ : BoxL w.heap.size (rC M v) Z := by
    rw [← hZ]
    exact (((((((A8.far _ _ (by omega) _).far _ _ (by omega) _).far _ _ (by omega) _).far _ _ (by omega) _).far _ _ (by omega) _).far _ _ (by omega) _).far _ _ (by omega) _).far _ _ (by omega) _
   have z3 := AZ.cs 3 (by simp)
   simp at z3
   have hSZ : Z.drew.cell? ⟨w.heap.size, 3, none⟩ = some (.int .i64 v.nx) ∧ True := ⟨cellT z3 (Below.refl _ _).drew, True.intro⟩
   have hS0 : U8.cell? ⟨w.heap.size, 3, none⟩ = some (.int .i64 v.nx) ∧ True := ⟨p3, True.intro⟩
   clear AZ A8 z3
   clear hZ2 XZ K8 R8
   refine wp_region_noPanic ?_
   refine wp_region_held_drew (S := fun W => W.cell? ⟨w.heap.size, 3, none⟩ = some (.int .i64 v.nx) ∧ True) (by kernel_rfl) hS0 (fun hHeld => ?_)
   refine tR 1 ?_
   refine tR 2 ?_
   refine tW 0 (fun K hK => ?_)
   go_simp
   refine hK.out _ _ hHeld (fun hHeld => ?_)
   clear hK K
   refine tW 3 (fun K hK => ?_)
   go_simp
   refine hK.out _ _ hSZ (fun hHeld => ?_)
   clear hK K
   refine tR 4 ?_
   refine tR 5 ?_
   refine wpAnyH_done (by kernel_rfl) ?_ _
   refine NoPanic.normal ?_
   go_wp2_with fail
   clear hZ
   exact bodyPost_ret (v := .tuple #[.agg #[.int .i64 v5.cp, .int .i64 v5.se, .slice M2.ia M2.i M2.ic, .int .i64 v5.nx, .slice M2.sa M2.s M2.sc, .slice M2.la M2.l M2.lc, .slice M2.ga M2.g M2.gc, .bool v5.cl], .int .i64 (v.nx), .int .i64 0]) (by simp [results, Tryz.results57, go_sem, t0, t1, t2, t3, t4, t5, t6, t7]) rfl (show RgIS w (sbsR v ts false) (sbsI v ts) (sbsC v ts) _ _ by rw [HE.out]; exact ⟨M2, rfl, HRZ.out.keep (Below.refl _ _).drew, HLZ.out, bl_trans HBZ.out (Below.refl _ _).drew⟩)
 ·go_upto_region 10 with fail
  have HOl := hidOf (l9Oldest_any M v w4 (HI.out.keep B4) HM.out HHd.out.2.1 HHd.out.1)
  go_wp2_with fail
  refine (HOl.out).mono ?_
  rintro e w6 ⟨rfl, b6⟩
  have A6 := A4.keep b6
  have R6 := R4.keep b6
  have K6 := K4.keep b6
  have row6 := row4.keep b6
  have B6 := bl_trans B4 b6
  clear A4 R4 K4 row4 B4 b6 HOl p0 p1 p2 p3 p4 p5 p6 p7
  have HSb := hidOf (show n ≤ 1048576 from hn)
  have T4 := HT.out.keep B6
  have hKlt : w1.heap.size < w6.heap.size := K6.lt
  have b0a : Below w6.heap.size w6 (w6.drew.alloc (.cells #[] 132)) := bl_alloc (Below.refl _ _).drew _
  have ho0 : (w6.drew.alloc (.cells #[] 132)).ownsRow w6.heap.size 132 3 (.slice (some ⟨w6.heap.size, 0, none⟩) 0 0) 0 (qflat []) := ⟨rfl, .inr ⟨w6.heap.size, 0, #[], rfl, Nat.le_refl _, heap_alloc_new w6.drew _, Nat.le_refl _, Nat.zero_le _, rfl, rfl⟩⟩
  obtain ⟨a2, c2, V2, hr2, ho2, hgr2, hq2⟩ := append_tmR w6.heap.size 0 _ [] a n cap ts _ ho0 b0a.size (T4.keep b0a) (by omega)
  rw [Nat.zero_add, List.nil_append] at ho2
  rw [Nat.zero_add] at hr2 hq2
  have bV2 : Below w6.heap.size w6 V2 := b0a.grown hgr2 b0a.size (fun j hj => (World.ownsRow.lt ho0 j hj).1)
  obtain ⟨V2a, hV2a⟩ : ∃ V, V2.alloc (.cells #[.int .i64 v.nx, .int .i64 (oldR v), .int .i64 (oldR v), .int .i64 0, .int .i64 0, .int .i64 0, .slice a2 n c2] 41) = V := ⟨_, rfl⟩
  have b4 : Below V2.heap.size V2 V2a := by rw [← hV2a]; exact bl_alloc (Below.refl _ _) _
  have bV2a := bl_trans bV2 b4
  have fl4 := ownsRow_keep ho2 b4
  have one : SubAt V2a (some ⟨V2.heap.size, 0, none⟩) 1 [⟨newS v (oldR v) ts, a2, n, c2⟩] := by
   obtain ⟨a1, c1, e1, _, h1⟩ := ownF_of fl4 ts rfl HT.out.short
   cases e1
   have X4 : BoxL V2.heap.size (sC ⟨newS v (oldR v) ts, a2, n, c2⟩) V2a := by rw [← hV2a]; exact BoxL.new V2 (sC ⟨newS v (oldR v) ts, a2, n, c2⟩) 41
   refine ⟨rfl, fun y hy => by rw [List.mem_singleton.1 hy]; exact h1.tm, .inr ⟨V2.heap.size, 0, rfl, X4.lt, fun i hi => ?_⟩⟩
   obtain rfl : i = 0 := by omega
   exact ⟨X4.cs 0 (by simp), X4.cs 1 (by simp), X4.cs 2 (by simp), X4.cs 3 (by simp), X4.cs 4 (by simp), X4.cs 5 (by simp), X4.cs 6 (by simp)⟩
  have rowA := row6.keep bV2a
  have hms1 : M1.s ≤ 1048576 := HLe1.out.s
  obtain ⟨a3, c3, V3, hr3, ho3, hgr3, hq3⟩ := append_subR (w.heap.size + 2) M1.s (.slice M1.sa M1.s M1.sc) M1.xs (some ⟨V2.heap.size, 0, none⟩) 1 1 [⟨newS v (oldR v) ts, a2, n, c2⟩] V2a rowA.sb (by have := bV2a.size; omega) one (by omega)
  have rowB := rowA.push (x := ⟨newS v (oldR v) ts, a2, n, c2⟩) (rowM fl4 (by omega)) HT.out.short (fun q e hm => by have h1 := (row_lt ho2 e).1; have h2 := (row6.blk q hm).2; omega) ho3 hgr3 hq3
  have gn : ∀ N, N < w.heap.size + 2 → (Value.slice M1.sa M1.s M1.sc).ownBlock ≠ some N := fun N hN e => by have := (row_lt rowA.sb e).1; omega
  have nKs : (Value.slice M1.sa M1.s M1.sc).ownBlock ≠ some w1.heap.size := fun e => nK (by rw [← e]; simp [blkR])
  have K5 := (K6.keep bV2a).grown hgr3 nKs
  have R5 := (R6.keep bV2a).grown hgr3 (gn _ (by omega))
  have A5 := (A6.keep bV2a).grown hgr3 (gn _ (by omega))
  have B5 : Below w.heap.size w V3 := (bl_trans B6 bV2a).grown hgr3 (by have := (bl_trans B6 bV2a).size; omega) (fun j hj => by have := (row_lt rowA.sb hj).1; omega)
  have nK5 : some w1.heap.size ∉ blkR { M1 with sa := a3, s := M1.s + 1, sc := c3, xs := M1.xs ++ [⟨newS v (oldR v) ts, a2, n, c2⟩] } := fun hm => by
   have hm0 := nK
   unfold blkR at hm hm0
   simp only [List.mem_cons, List.map_append, List.mem_append] at hm hm0
   rcases hm with h | h | h | h | h | h
   ·exact hm0 (.inl h)
   ·rcases hq3 _ h.symm with k | k
    ·exact nKs k
    ·have := bV2a.size; omega
   ·exact hm0 (.inr (.inr (.inl h)))
   ·exact hm0 (.inr (.inr (.inr (.inl h))))
   ·exact hm0 (.inr (.inr (.inr (.inr h))))
   ·have e : some w1.heap.size = (Value.slice a2 n c2).ownBlock := by simpa using h
    have := (row_lt ho2 e.symm).1
    omega
  obtain ⟨U7, hU7⟩ : ∃ U, V3.setCell ⟨w1.heap.size, 4, none⟩ (.slice a3 (M1.s + 1) c3) = U := ⟨_, rfl⟩
  have k4 := K6.cs 4 (by simp)
  have k4e := K5.cs 4 (by simp)
  have a3c := A6.cs 3 (by simp)
  have a5c := A5.cs 3 (by simp)
  simp at k4 k4e a3c a5c
  have k4d := cellT k4 (Below.refl _ _).drew
  have k4a := cellT k4 b0a
  have k4b := cellT k4 bV2
  have k4c := cellT k4 bV2a
  have kf3 := K5.fr
  have hS0 : w6.cell? ⟨w.heap.size, 3, none⟩ = some (.int .i64 v.nx) ∧ True := ⟨a3c, True.intro⟩
  have hS6 : (w6.drew.alloc (.cells #[] 132)).cell? ⟨w.heap.size, 3, none⟩ = some (.int .i64 v.nx) ∧ True := ⟨cellT a3c b0a, True.intro⟩
  have hS8 : V2.cell? ⟨w.heap.size, 3, none⟩ = some (.int .i64 v.nx) ∧ True := ⟨cellT a3c bV2, True.intro⟩
  have hS10 : V2a.cell? ⟨w.heap.size, 3, none⟩ = some (.int .i64 v.nx) ∧ True := ⟨cellT a3c bV2a, True.intro⟩
  have hS11 : V3.cell? ⟨w.heap.size, 3, none⟩ = some (.int .i64 v.nx) ∧ True := ⟨a5c, True.intro⟩
  have K7 := K5.set 4 (by simp) (.slice a3 (M1.s + 1) c3)
  rw [hU7] at K7
  have R7 : BoxL (w.heap.size + 1) [.int .i64 0, .int .i64 0, .slice none 0 0, .int .i64 0, .slice none 0 0, .slice none 0 0, .slice none 0 0, .bool false] U7 := by rw [← hU7]; exact R5.far _ _ (by omega) _
  have A7 : BoxL w.heap.size (rC M v) U7 := by rw [← hU7]; exact A5.far _ _ (by omega) _
  have B7 : Below w.heap.size w U7 := by rw [← hU7]; exact bl_setB B5 _ _ (by omega) _
  have row7 : RRow (w.heap.size + 2) U7 { M1 with sa := a3, s := M1.s + 1, sc := c3, xs := M1.xs ++ [⟨newS v (oldR v) ts, a2, n, c2⟩] } { v with sb := v.sb ++ [newS v (oldR v) ts] } := by rw [← hU7]; exact rowB.grown (grown_setC _ _ _ _) nK5
  have a7c := A7.cs 3 (by simp)
  simp at a7c
  have hS13 : U7.cell? ⟨w.heap.size, 3, none⟩ = some (.int .i64 v.nx) ∧ True := ⟨a7c, True.intro⟩
  rw [← hV2a] at hr3 k4c hS10
  have hsz4 : w6.drew.heap.size = w6.heap.size := rfl
  have HK7 := hidOf K7
  have HR7 := hidOf R7
  have HA7 := hidOf A7
  have HB7 := hidOf B7
  have HRo7 := hidOf row7
  have HNK := hidOf nK5
  have HMs := hidOf hms1
  clear T4 b0a ho0 ho2 hgr2 hq2 bV2 hV2a b4 bV2a fl4 one rowA ho3 hgr3 hq3 rowB gn nKs K5 R5 A5 B5 nK5 K7 R7 A7 B7 row7 a3c a5c a7c K6 R6 A6 B6 row6 hms1
  go_upto_region 11 with fail
  go_cut [10] from 43 (fun v10 wx => v10 = .int .i64 (oldR v) ∧ wx = U7)
  case first =>
   refine wp_region_noPanic ?_
   refine wp_region_held_drew (S := fun w' => w'.cell? ⟨w.heap.size, 3, none⟩ = some (.int .i64 v.nx) ∧ True) (by kernel_rfl) hS0 (fun hHeld => ?_)
   refine tK 0 ?_ rfl (by kernel_rfl) (by rfl) ?_ (by assumption) (fun _ _ _ h => h) ?_
   case refine_2 => (intro w hSw; (try dsimp only at hSw); go_simp; try with_reducible rfl)
   simp only [Act.put, List.getElem_toArray, List.getElem_cons_zero, List.setIfInBounds_toArray, List.set_cons_zero, List.set_cons_succ]
   refine tR 2 ?_
   refine tR 3 ?_
   refine tR 4 ?_
   refine tR 5 ?_
   refine tR 7 ?_
   refine wpAnyH_ready (rs := [1, 6]) (by kernel_rfl) (by simp) ?_
   refine AllReadyH.cons rfl (fun K hK => ?_) (AllReadyH.cons rfl (fun K hK => ?_) AllReadyH.nil)
   ·go_simp
    refine hK.out _ _ hHeld (fun hHeld => ?_)
    clear hK K
    refine tW 6 (fun K hK => ?_)
    go_simp
    refine hK.out _ _ hS6 (fun hHeld => ?_)
    clear hK K
    refine tW 8 (fun K hK => ?_)
    refine nstep_append_runW (by rfl) _ _ 39 (by rfl) (.slice (some ⟨w6.heap.size, 0, none⟩) 0 0) (.slice a n cap) _ (by rfl) (by rfl) hr2 ?_
    refine hK.out _ _ hS8 (fun hHeld => ?_)
    clear hK K
    simp only [Act.put, zGA, zG0, zGC, zSA, zS0, zSC]
    refine tR 9 ?_
    refine tW 10 (fun K hK => ?_)
    go_simp
    refine hK.out _ _ hS10 (fun hHeld => ?_)
    clear hK K
    refine tW 11 (fun K hK => ?_)
    refine nstep_append_runW (by rfl) _ _ 25 (by rfl) (.slice M1.sa M1.s M1.sc) (.slice (some ⟨V2.heap.size, 0, none⟩) 1 1) _ (by rfl) (by rfl) hr3 ?_
    refine hK.out _ _ hS11 (fun hHeld => ?_)
    clear hK K
    simp only [Act.put, zGA, zG0, zGC, zSA, zS0, zSC]
    refine tR 12 ?_
    refine tW 13 (fun K hK => ?_)
    go_simp
    refine hK.out _ _ hS13 (fun hHeld => ?_)
    clear hK K
    refine wpAnyH_done (by kernel_rfl) ?_ _
    refine NoPanic.normal ?_
    go_wp2_with fail
    go_meet
    exact ⟨rfl, rfl⟩
   ·go_simp
    refine hK.out _ _ hS6 (fun hHeld => ?_)
    clear hK K
    refine wpAnyH_ready (rs := [1, 8]) (by kernel_rfl) (by simp) ?_
    refine AllReadyH.cons rfl (fun K hK => ?_) (AllReadyH.cons rfl (fun K hK => ?_) AllReadyH.nil)
    ·go_simp
     refine hK.out _ _ hHeld (fun hHeld => ?_)
     clear hK K
     refine tW 8 (fun K hK => ?_)
     refine nstep_append_runW (by rfl) _ _ 39 (by rfl) (.slice (some ⟨w6.heap.size, 0, none⟩) 0 0) (.slice a n cap) _ (by rfl) (by rfl) hr2 ?_
     refine hK.out _ _ hS8 (fun hHeld => ?_)
     clear hK K
     simp only [Act.put, zGA, zG0, zGC, zSA, zS0, zSC]
     refine tR 9 ?_
     refine tW 10 (fun K hK => ?_)
     go_simp
     refine hK.out _ _ hS10 (fun hHeld => ?_)
     clear hK K
     refine tW 11 (fun K hK => ?_)
     refine nstep_append_runW (by rfl) _ _ 25 (by rfl) (.slice M1.sa M1.s M1.sc) (.slice (some ⟨V2.heap.size, 0, none⟩) 1 1) _ (by rfl) (by rfl) hr3 ?_
     refine hK.out _ _ hS11 (fun hHeld => ?_)
     clear hK K
     simp only [Act.put, zGA, zG0, zGC, zSA, zS0, zSC]
     refine tR 12 ?_
     refine tW 13 (fun K hK => ?_)
     go_simp
     refine hK.out _ _ hS13 (fun hHeld => ?_)
     clear hK K
     refine wpAnyH_done (by kernel_rfl) ?_ _
     refine NoPanic.normal ?_
     go_wp2_with fail
     go_meet
     exact ⟨rfl, rfl⟩
    ·refine nstep_append_runW (by rfl) _ _ 39 (by rfl) (.slice (some ⟨w6.heap.size, 0, none⟩) 0 0) (.slice a n cap) _ (by rfl) (by rfl) hr2 ?_
     refine hK.out _ _ hS8 (fun hHeld => ?_)
     clear hK K
     simp only [Act.put, zGA, zG0, zGC, zSA, zS0, zSC]
     refine tR 9 ?_
     refine wpAnyH_ready (rs := [1, 10]) (by kernel_rfl) (by simp) ?_
     refine AllReadyH.cons rfl (fun K hK => ?_) (AllReadyH.cons rfl (fun K hK => ?_) AllReadyH.nil)
     ·go_simp
      refine hK.out _ _ hHeld (fun hHeld => ?_)
      clear hK K
      refine tW 10 (fun K hK => ?_)
      go_simp
      refine hK.out _ _ hS10 (fun hHeld => ?_)
      clear hK K
      refine tW 11 (fun K hK => ?_)
      refine nstep_append_runW (by rfl) _ _ 25 (by rfl) (.slice M1.sa M1.s M1.sc) (.slice (some ⟨V2.heap.size, 0, none⟩) 1 1) _ (by rfl) (by rfl) hr3 ?_
      refine hK.out _ _ hS11 (fun hHeld => ?_)
      clear hK K
      simp only [Act.put, zGA, zG0, zGC, zSA, zS0, zSC]
      refine tR 12 ?_
      refine tW 13 (fun K hK => ?_)
      go_simp
      refine hK.out _ _ hS13 (fun hHeld => ?_)
      clear hK K
      refine wpAnyH_done (by kernel_rfl) ?_ _
      refine NoPanic.normal ?_
      go_wp2_with fail
      go_meet
      exact ⟨rfl, rfl⟩
     ·go_simp
      refine hK.out _ _ hS10 (fun hHeld => ?_)
      clear hK K
      refine tW 1 (fun K hK => ?_)
      go_simp
      refine hK.out _ _ hHeld (fun hHeld => ?_)
      clear hK K
      refine tW 11 (fun K hK => ?_)
      refine nstep_append_runW (by rfl) _ _ 25 (by rfl) (.slice M1.sa M1.s M1.sc) (.slice (some ⟨V2.heap.size, 0, none⟩) 1 1) _ (by rfl) (by rfl) hr3 ?_
      refine hK.out _ _ hS11 (fun hHeld => ?_)
      clear hK K
      simp only [Act.put, zGA, zG0, zGC, zSA, zS0, zSC]
      refine tR 12 ?_
      refine tW 13 (fun K hK => ?_)
      go_simp
      refine hK.out _ _ hS13 (fun hHeld => ?_)
      clear hK K
      refine wpAnyH_done (by kernel_rfl) ?_ _
      refine NoPanic.normal ?_
      go_wp2_with fail
      go_meet
      exact ⟨rfl, rfl⟩
  case rest =>
   obtain ⟨rfl, hwc⟩ := hcut
   obtain rfl : U7 = wc := hwc.symm
   clear hwc hU7 k4 k4d k4a k4b k4c k4e kf3 hr2 hr3 hS0 hS6 hS8 hS10 hS11 hS13
   obtain ⟨M2, hM2⟩ : ∃ M2 : Rm, { M1 with sa := a3, s := M1.s + 1, sc := c3, xs := M1.xs ++ [⟨newS v (oldR v) ts, a2, n, c2⟩] } = M2 := ⟨_, rfl⟩
   obtain ⟨v5, hv5⟩ : ∃ v5 : Rv, (⟨v.cp, v.se, v.it, v.nx + 1, v.sb ++ [newS v (oldR v) ts], v.ln, v.gs, v.cl⟩ : Rv) = v5 := ⟨_, rfl⟩
   have hw1 : IntKind.i64.wrap (v.nx + 1) = v.nx + 1 := by rw [IntKind.wrap_i64]; have := HNx.out; omega
   have k3 := HK7.out.cs 3 (by simp)
   have kf := HK7.out.fr
   simp at k3
   obtain ⟨U8, hU8⟩ : ∃ U, U7.setCell ⟨w1.heap.size, 3, none⟩ (.int .i64 (v.nx + 1)) = U := ⟨_, rfl⟩
   have K8 : BoxL w1.heap.size (rC M2 v5) U8 := by rw [← hU8, ← hM2, ← hv5]; exact HK7.out.set 3 (by simp) _
   have R8 : BoxL (w.heap.size + 1) [.int .i64 0, .int .i64 0, .slice none 0 0, .int .i64 0, .slice none 0 0, .slice none 0 0, .slice none 0 0, .bool false] U8 := by rw [← hU8]; exact HR7.out.far _ _ (by omega) _
   have A8 : BoxL w.heap.size (rC M v) U8 := by rw [← hU8]; exact HA7.out.far _ _ (by omega) _
   have B8 : Below w.heap.size w U8 := by rw [← hU8]; exact bl_setB HB7.out _ _ (by omega) _
   have row8 : RRow (w.heap.size + 2) U8 M2 v5 := by
    have h : RRow (w.heap.size + 2) U8 { M1 with sa := a3, s := M1.s + 1, sc := c3, xs := M1.xs ++ [⟨newS v (oldR v) ts, a2, n, c2⟩] } { v with sb := v.sb ++ [newS v (oldR v) ts] } := by rw [← hU8]; exact HRo7.out.grown (grown_setC _ _ _ _) HNK.out
    rw [← hM2, ← hv5]
    exact ⟨h.it, h.its, h.sb, h.fl, h.fls, h.sv, h.ln, h.gs, h.apt⟩
   have HL8 := hidOf (show RLe M2 2097152 by
    rw [← hM2]
    have h := HLe.out
    have h1 := HMs.out
    have h2 := HSb.out
    refine ⟨h.i, by show M1.s + 1 ≤ _; omega, fun y hy => ?_, h.l, h.g⟩
    rcases List.mem_append.1 hy with hy | hy
    ·exact h.f y hy
    ·rw [List.mem_singleton.1 hy]
     show n ≤ 2097152
     omega)
   have HE := hidOf (show RgIS w (sbsR v ts true) (sbsI v ts) (sbsC v ts) = RgIS w v5 v.nx 0 by
    have hc := HC0.out
    unfold sbsR sbsI
    rw [hc, if_pos rfl, if_pos rfl, ← hv5]
    rfl)
   have p3 := A8.cs 3 (by simp)
   simp at p3
   have p3d := cellT p3 (Below.refl _ _).drew
   have hs1' := hs1
   clear HK7 HR7 HA7 HB7 HRo7 HNK hM2 hv5
   go_upto_region 13 with fail
   clear hU8 k3 kf
   have o0 := K8.cs 0 (by simp)
   have o1 := K8.cs 1 (by simp)
   have o2 := K8.cs 2 (by simp)
   have o3 := K8.cs 3 (by simp)
   have o4 := K8.cs 4 (by simp)
   have o5 := K8.cs 5 (by simp)
   have o6 := K8.cs 6 (by simp)
   have o7 := K8.cs 7 (by simp)
   have r0 := R8.cs 0 (by simp)
   have r1 := R8.cs 1 (by simp)
   have r2 := R8.cs 2 (by simp)
   have r3 := R8.cs 3 (by simp)
   have r4 := R8.cs 4 (by simp)
   have r5 := R8.cs 5 (by simp)
   have r6 := R8.cs 6 (by simp)
   have r7 := R8.cs 7 (by simp)
   have rf := R8.fr
   simp at o0 o1 o2 o3 o4 o5 o6 o7 r0 r1 r2 r3 r4 r5 r6 r7
   obtain ⟨Z, hZ⟩ : ∃ Z, ((((((((U8.setCell ⟨w.heap.size + 1, 0, none⟩ (.int .i64 v5.cp)).setCell ⟨w.heap.size + 1, 1, none⟩ (.int .i64 v5.se)).setCell ⟨w.heap.size + 1, 2, none⟩ (.slice M2.ia M2.i M2.ic)).setCell ⟨w.heap.size + 1, 3, none⟩ (.int .i64 v5.nx)).setCell ⟨w.heap.size + 1, 4, none⟩ (.slice M2.sa M2.s M2.sc)).setCell ⟨w.heap.size + 1, 5, none⟩ (.slice M2.la M2.l M2.lc)).setCell ⟨w.heap.size + 1, 6, none⟩ (.slice M2.ga M2.g M2.gc)).setCell ⟨w.heap.size + 1, 7, none⟩ (.bool v5.cl)) = Z := ⟨_, rfl⟩
   have hZ2 : Z = setL U8 (w.heap.size + 1) 0 (rC M2 v5) := by rw [← hZ]; rfl
   have XZ : BoxL (w.heap.size + 1) (rC M2 v5) Z := by
    rw [← hZ]
    exact ((((((((R8.set 0 (by simp) _).set 1 (by simp) _).set 2 (by simp) _).set 3 (by simp) _).set 4 (by simp) _).set 5 (by simp) _).set 6 (by simp) _).set 7 (by simp) _)
   have HRZ := hidOf (show RRow w.heap.size Z M2 v5 by
    rw [hZ2]
    exact ((row8.grown (setL_grown ⟨rfl, rfl, rfl, Nat.le_refl _, fun _ _ _ => rfl⟩) (row8.out (by omega))).mono (B' := w.heap.size) (by omega)))
   have HBZ := hidOf (show Below w.heap.size w Z by rw [hZ2]; exact setL_below (by omega) B8)
   have HLZ := hidOf HL8.out
   have t0 := XZ.cs 0 (by simp)
   have t1 := XZ.cs 1 (by simp)
   have t2 := XZ.cs 2 (by simp)
   have t3 := XZ.cs 3 (by simp)
   have t4 := XZ.cs 4 (by simp)
   have t5 := XZ.cs 5 (by simp)
   have t6 := XZ.cs 6 (by simp)
   have t7 := XZ.cs 7 (by simp)
   simp at t0 t1 t2 t3 t4 t5 t6 t7
   have AZ : BoxL w.heap.size (rC M v) Z := by
    rw [← hZ]
    exact (((((((A8.far _ _ (by omega) _).far _ _ (by omega) _).far _ _ (by omega) _).far _ _ (by omega) _).far _ _ (by omega) _).far _ _ (by omega) _).far _ _ (by omega) _).far _ _ (by omega) _
   have z3 := AZ.cs 3 (by simp)
   simp at z3
   have hSZ : Z.drew.cell? ⟨w.heap.size, 3, none⟩ = some (.int .i64 v.nx) ∧ True := ⟨cellT z3 (Below.refl _ _).drew, True.intro⟩
   have hS0 : U8.cell? ⟨w.heap.size, 3, none⟩ = some (.int .i64 v.nx) ∧ True := ⟨p3, True.intro⟩
   clear AZ A8 z3
   clear hZ2 XZ K8 R8
   refine wp_region_noPanic ?_
   refine wp_region_held_drew (S := fun W => W.cell? ⟨w.heap.size, 3, none⟩ = some (.int .i64 v.nx) ∧ True) (by kernel_rfl) hS0 (fun hHeld => ?_)
   refine tR 1 ?_
   refine tR 2 ?_
   refine tW 0 (fun K hK => ?_)
   go_simp
   refine hK.out _ _ hHeld (fun hHeld => ?_)
   clear hK K
   refine tW 3 (fun K hK => ?_)
   go_simp
   refine hK.out _ _ hSZ (fun hHeld => ?_)
   clear hK K
   refine tR 4 ?_
   refine tR 5 ?_
   refine wpAnyH_done (by kernel_rfl) ?_ _
   refine NoPanic.normal ?_
   go_wp2_with fail
   clear hZ
   exact bodyPost_ret (v := .tuple #[.agg #[.int .i64 v5.cp, .int .i64 v5.se, .slice M2.ia M2.i M2.ic, .int .i64 v5.nx, .slice M2.sa M2.s M2.sc, .slice M2.la M2.l M2.lc, .slice M2.ga M2.g M2.gc, .bool v5.cl], .int .i64 (v.nx), .int .i64 0]) (by simp [results, Tryz.results57, go_sem, t0, t1, t2, t3, t4, t5, t6, t7]) rfl (show RgIS w (sbsR v ts true) (sbsI v ts) (sbsC v ts) _ _ by rw [HE.out]; exact ⟨M2, rfl, HRZ.out.keep (Below.refl _ _).drew, HLZ.out, bl_trans HBZ.out (Below.refl _ _).drew⟩)
end Go.Proofs.YtdboaoejlkkoeaaGreat
