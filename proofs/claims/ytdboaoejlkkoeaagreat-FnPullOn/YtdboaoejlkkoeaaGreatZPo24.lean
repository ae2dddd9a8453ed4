/-
  The specification's ring: a subscriber reads once
-/
import Derived.Test.YtdboaoejlkkoeaaGreatZPo23
namespace Go.Proofs.YtdboaoejlkkoeaaGreat
open Go.RowKit Go.Maps Pl Il
theorem boxT2 (w : World) (o o' : Obj) (vs : List Value) (t : TypeId) : BoxL (w.heap.size + 1 + 1) vs (((w.alloc o).alloc o').alloc (.cells vs.toArray t)) := by
  have h := BoxL.new ((w.alloc o).alloc o') vs t
  simpa using h
theorem boxT1 (w : World) (o : Obj) (vs : List Value) (t : TypeId) : BoxL (w.heap.size + 1) vs ((w.alloc o).alloc (.cells vs.toArray t)) := by
  have h := BoxL.new (w.alloc o) vs t
  simpa using h
def curAt (N o : Nat) (w : World) : Int := match w.cell? ⟨N, o, none⟩ with | some (.int _ z) => z | _ => 0
structure RdL (w : World) (N1 N2 NS g : Nat) (M : Rm) (v : Rv) (x : Sa) (s : Sb) (u : World) : Prop where
  bA : BoxL w.heap.size [.int .i64 v.cp, .int .i64 v.se, .slice M.ia M.i M.ic, .int .i64 v.nx, .slice (some ⟨g, 0, none⟩) M.s M.sc, .slice M.la M.l M.lc, .slice M.ga M.g M.gc, .bool v.cl] u
  bR : BoxL N1 [.int .i64 0, .int .i64 0, .slice none 0 0, .int .i64 0, .slice none 0 0, .slice none 0 0, .slice none 0 0, .bool false] u
  bT : BoxL N2 [.int .i64 0, .int .i64 0, .int .i64 0, .string ⟨#[]⟩, .int .i64 0, .int .i64 0] u
  bS : BoxL NS (sC ⟨s, x.a, x.n, x.c⟩) u
  bel : Below w.heap.size w u
theorem RdL.keep {w : World} {N1 N2 NS g : Nat} {M : Rm} {v : Rv} {x : Sa} {s : Sb} {u u' : World} (h : RdL w N1 N2 NS g M v x s u) (hb : Below u.heap.size u u') : RdL w N1 N2 NS g M v x s u' := ⟨h.bA.keep hb, h.bR.keep hb, h.bT.keep hb, h.bS.keep hb, bl_trans h.bel hb⟩
theorem RdL.set {w : World} {N1 N2 NS g : Nat} {M : Rm} {v : Rv} {x : Sa} {s s' : Sb} {u : World} (h : RdL w N1 N2 NS g M v x s u) (i : Nat) (z : Value) (hi : i < 7) (he : (sC ⟨s, x.a, x.n, x.c⟩).set i z = sC ⟨s', x.a, x.n, x.c⟩) (hn : w.heap.size < NS ∧ N1 < NS ∧ N2 < NS) : RdL w N1 N2 NS g M v x s' (u.setCell ⟨NS, i, none⟩ z) :=
  ⟨h.bA.far _ _ (by omega) _, h.bR.far _ _ (by omega) _, h.bT.far _ _ (by omega) _, by rw [← he]; exact h.bS.set i (by simpa using hi) z, bl_setB h.bel _ _ (by omega) _⟩
set_option maxRecDepth 100000 in
set_option maxHeartbeats 16000000 in
theorem l9Read_any (B : Nat) (M : Rm) (v : Rv) (k : Nat) (w : World) (hR : RRow B w M v) (hk : RdOk v k) (hm : RLe M 2097152) :
  Calls Tryz.prog 104 #[.agg #[.int .i64 v.cp, .int .i64 v.se, .slice M.ia M.i M.ic, .int .i64 v.nx, .slice M.sa M.s M.sc, .slice M.la M.l M.lc, .slice M.ga M.g M.gc, .bool v.cl], .int .i64 (k : Int)] w fun e w' => RdP B w M v k e w' := by
 obtain ⟨g, hg, hs, hkx⟩ := hR.sub_row hk.lt
 obtain ⟨x, hx⟩ : ∃ x, sg M.xs k = x := ⟨_, rfl⟩
 have hsv : v.sb.getD k Sb0 = x.s := by rw [← hR.sv, sg_svs2 hkx, hx]
 obtain ⟨W0, hW0⟩ : ∃ W, W = ((w.alloc (.cells #[.int .i64 v.cp, .int .i64 v.se, .slice M.ia M.i M.ic, .int .i64 v.nx, .slice (some ⟨g, 0, none⟩) M.s M.sc, .slice M.la M.l M.lc, .slice M.ga M.g M.gc, .bool v.cl] 28)).alloc (.cells #[.int .i64 0, .int .i64 0, .slice none 0 0, .int .i64 0, .slice none 0 0, .slice none 0 0, .slice none 0 0, .bool false] 28)).alloc (.cells #[.int .i64 0, .int .i64 0, .int .i64 0, .string ⟨#[]⟩, .int .i64 0, .int .i64 0] 53) := ⟨_, rfl⟩
 have B0 : Below w.heap.size w W0 := by rw [hW0]; exact bl_alloc (bl_alloc (bl_alloc (Below.refl _ _) _) _) _
 have z0 : W0.heap.size = w.heap.size + 3 := by rw [hW0]; simp
 have A0 : BoxL w.heap.size [.int .i64 v.cp, .int .i64 v.se, .slice M.ia M.i M.ic, .int .i64 v.nx, .slice (some ⟨g, 0, none⟩) M.s M.sc, .slice M.la M.l M.lc, .slice M.ga M.g M.gc, .bool v.cl] W0 := by rw [hW0]; exact ((BoxL.new w [.int .i64 v.cp, .int .i64 v.se, .slice M.ia M.i M.ic, .int .i64 v.nx, .slice (some ⟨g, 0, none⟩) M.s M.sc, .slice M.la M.l M.lc, .slice M.ga M.g M.gc, .bool v.cl] _).alloc _).alloc _
 have R0 : BoxL (w.heap.size + 1) [.int .i64 0, .int .i64 0, .slice none 0 0, .int .i64 0, .slice none 0 0, .slice none 0 0, .slice none 0 0, .bool false] W0 := by rw [hW0]; exact (boxT1 w _ [.int .i64 0, .int .i64 0, .slice none 0 0, .int .i64 0, .slice none 0 0, .slice none 0 0, .slice none 0 0, .bool false] _).alloc _
 have T0 : BoxL (w.heap.size + 1 + 1) [.int .i64 0, .int .i64 0, .int .i64 0, .string ⟨#[]⟩, .int .i64 0, .int .i64 0] W0 := by rw [hW0]; exact boxT2 w _ _ [.int .i64 0, .int .i64 0, .int .i64 0, .string ⟨#[]⟩, .int .i64 0, .int .i64 0] _
 have hgl := row_lt (q := g) hR.sb (by rw [hg]; rfl)
 have hsb0 : W0.ownsRow B 41 7 (.slice (some ⟨g, 0, none⟩) M.s M.sc) M.s (sflat M.xs) := by have h := (hR.keep B0).sb; rw [hg] at h; exact h
 have c0 : W0.cell? ⟨g, k * 7, none⟩ = some (.int .i64 x.s.id) := by have h := row_cell hsb0 hkx (r := 0) (by omega); rw [hx] at h; exact h
 have c1 : W0.cell? ⟨g, k * 7 + 1, none⟩ = some (.int .i64 x.s.st) := by have h := row_cell hsb0 hkx (r := 1) (by omega); rw [hx] at h; exact h
 have c2 : W0.cell? ⟨g, k * 7 + 2, none⟩ = some (.int .i64 x.s.cu) := by have h := row_cell hsb0 hkx (r := 2) (by omega); rw [hx] at h; exact h
 have c3 : W0.cell? ⟨g, k * 7 + 3, none⟩ = some (.int .i64 x.s.gt) := by have h := row_cell hsb0 hkx (r := 3) (by omega); rw [hx] at h; exact h
 have c4 : W0.cell? ⟨g, k * 7 + 4, none⟩ = some (.int .i64 x.s.lo) := by have h := row_cell hsb0 hkx (r := 4) (by omega); rw [hx] at h; exact h
 have c5 : W0.cell? ⟨g, k * 7 + 5, none⟩ = some (.int .i64 x.s.pa) := by have h := row_cell hsb0 hkx (r := 5) (by omega); rw [hx] at h; exact h
 have c6 : W0.cell? ⟨g, k * 7 + 6, none⟩ = some (.slice x.a x.n x.c) := by have h := row_cell hsb0 hkx (r := 6) (by omega); rw [hx] at h; exact h
 have p4 : W0.cell? ⟨w.heap.size, 4, none⟩ = some (.slice (some ⟨g, 0, none⟩) M.s M.sc) := A0.cs 4 (by simp)
 have hki : (k : Int) < (M.s : Int) := by omega
 have hkn : k < M.s := by omega
 obtain ⟨V1, hV1⟩ : ∃ V, V = W0.alloc (.cells #[.int .i64 x.s.id, .int .i64 x.s.st, .int .i64 x.s.cu, .int .i64 x.s.gt, .int .i64 x.s.lo, .int .i64 x.s.pa, .slice x.a x.n x.c] 41) := ⟨_, rfl⟩
 have bV1 : Below W0.heap.size W0 V1 := by rw [hV1]; exact bl_alloc (Below.refl _ _) _
 have S1 : BoxL W0.heap.size (sC ⟨x.s, x.a, x.n, x.c⟩) V1 := by rw [hV1]; exact BoxL.new W0 (sC x) _
 have hnm := hk.nm
 rw [hsv] at hnm
 have hcp := hk.cp
 have hse := hk.se
 have hlen : v.it.length = M.i := by have h := hR.it.1; rw [length_qflat] at h; omega
 have HNM := hidOf (And.intro hnm (And.intro hcp hse))
 have HLen := hidOf hlen
 have HR := hidOf hR
 have HX := hidOf hx
 have HKX := hidOf hkx
 have HSV := hidOf hsv
 have HK := hidOf hk
 have HM := hidOf hm
 have HGl := hidOf hgl
 have hw1 : IntKind.i64.wrap (v.se - v.cp) = v.se - v.cp := by rw [IntKind.wrap_i64]; omega
 have hw2 : IntKind.i64.wrap (v.se - v.cp - x.s.cu) = v.se - v.cp - x.s.cu := by rw [IntKind.wrap_i64]; omega
 rw [hg]
 have HG := hidOf hg
 have HZ0 := hidOf z0
 clear z0 hR hk hm hx hkx hsv hgl hsb0 hnm hcp hse hlen hg hs
 go_enter Tryz.func104, Tryz.ntmps104
 go_upto_region 1 with fail
 rw [← hW0]
 clear hW0
 generalize hN1 : w.heap.size + 1 = N1 at R0 T0 ⊢
 generalize hN2 : N1 + 1 = N2 at T0 ⊢
 go_upto_region 2 with fail
 rw [← hV1]
 clear hV1 c0 c1 c2 c3 c4 c5 c6 p4
 generalize hNS : W0.heap.size = NS at S1 ⊢
 have z0 := HZ0.out
 have HNS := hidOf (show w.heap.size < NS ∧ N1 < NS ∧ N2 < NS by omega)
 have HN12 := hidOf (show N1 ≠ N2 ∧ N2 ≠ N1 by omega)
 have HNge := hidOf (show w.heap.size ≤ N1 ∧ w.heap.size ≤ N2 by omega)
 have HGn := hidOf (show g ≠ w.heap.size ∧ g ≠ N1 ∧ g ≠ N2 ∧ g ≠ NS by have h := HGl.out; omega)
 have n12 : ¬ N1 = N2 := HN12.out.1
 have n21 : ¬ N2 = N1 := HN12.out.2
 have L1 : RdL w N1 N2 NS g M v x x.s V1 := ⟨A0.keep bV1, R0.keep bV1, T0.keep bV1, S1, bl_trans B0 bV1⟩
 clear hNS hN2 hN1 S1 A0 R0 T0 B0 bV1 z0
 have p0 : V1.cell? ⟨w.heap.size, 0, none⟩ = some (.int .i64 v.cp) := L1.bA.cs 0 (by simp)
 have p1 : V1.cell? ⟨w.heap.size, 1, none⟩ = some (.int .i64 v.se) := L1.bA.cs 1 (by simp)
 have p2 : V1.cell? ⟨w.heap.size, 2, none⟩ = some (.slice M.ia M.i M.ic) := L1.bA.cs 2 (by simp)
 have s2 : V1.cell? ⟨NS, 2, none⟩ = some (.int .i64 x.s.cu) := L1.bS.cs 2 (by simp)
 obtain ⟨gn, hgn⟩ : ∃ gn, v.se - v.cp - x.s.cu = gn := ⟨_, rfl⟩
 rw [hgn] at hw2
 have HGN := hidOf hgn
 by_cases hgp : 0 < gn
 ·go_upto_region 4 with fail
  clear p0 p1 p2 s2 hw1 hw2 hgn
  have hgp2 := hidOf (read_lost (v := v) (s := x.s) HGN.out hgp)
  have hw3 : IntKind.i64.wrap (x.s.cu + gn) = x.s.cu + gn := by have h := HNM.out; have h2 := HGN.out; rw [IntKind.wrap_i64]; omega
  have hw4 : IntKind.i64.wrap (x.s.lo + gn) = x.s.lo + gn := by have h := HNM.out; have h2 := HGN.out; rw [IntKind.wrap_i64]; omega
  have s2 : V1.cell? ⟨NS, 2, none⟩ = some (.int .i64 x.s.cu) := L1.bS.cs 2 (by simp)
  have sf := L1.bS.fr
  obtain ⟨U2, hU2⟩ : ∃ U, V1.setCell ⟨NS, 2, none⟩ (Value.int .i64 (x.s.cu + gn)) = U := ⟨_, rfl⟩
  have LU2 : RdL w N1 N2 NS g M v x { x.s with cu := x.s.cu + gn } U2 := by rw [← hU2]; exact L1.set 2 _ (by omega) rfl HNS.out
  go_upto_region 5 with fail
  try rw [hU2]
  clear hU2 s2 sf L1
  have s4 : U2.cell? ⟨NS, 4, none⟩ = some (.int .i64 x.s.lo) := LU2.bS.cs 4 (by simp)
  have sf := LU2.bS.fr
  obtain ⟨U3, hU3⟩ : ∃ U, U2.setCell ⟨NS, 4, none⟩ (Value.int .i64 (x.s.lo + gn)) = U := ⟨_, rfl⟩
  have LU3 : RdL w N1 N2 NS g M v x (lostS x.s gn) U3 := by rw [← hU3]; exact LU2.set 4 _ (by omega) rfl HNS.out
  go_upto_region 6 with fail
  try rw [hU3]
  clear hU3 s4 sf LU2 hw3 hw4
  have HBU := hidOf LU3.bel
  have hsbU : U3.ownsRow B 41 7 (.slice (some ⟨g, 0, none⟩) M.s M.sc) M.s (sflat M.xs) := by have h := (HR.out.keep HBU.out).sb; rw [HG.out] at h; exact h
  have c0 : U3.cell? ⟨g, k * 7, none⟩ = some (.int .i64 x.s.id) := by have h := row_cell hsbU HKX.out (r := 0) (by omega); rw [HX.out] at h; exact h
  have c1 : U3.cell? ⟨g, k * 7 + 1, none⟩ = some (.int .i64 x.s.st) := by have h := row_cell hsbU HKX.out (r := 1) (by omega); rw [HX.out] at h; exact h
  have c2 : U3.cell? ⟨g, k * 7 + 2, none⟩ = some (.int .i64 x.s.cu) := by have h := row_cell hsbU HKX.out (r := 2) (by omega); rw [HX.out] at h; exact h
  have c3 : U3.cell? ⟨g, k * 7 + 3, none⟩ = some (.int .i64 x.s.gt) := by have h := row_cell hsbU HKX.out (r := 3) (by omega); rw [HX.out] at h; exact h
  have c4 : U3.cell? ⟨g, k * 7 + 4, none⟩ = some (.int .i64 x.s.lo) := by have h := row_cell hsbU HKX.out (r := 4) (by omega); rw [HX.out] at h; exact h
  have c5 : U3.cell? ⟨g, k * 7 + 5, none⟩ = some (.int .i64 x.s.pa) := by have h := row_cell hsbU HKX.out (r := 5) (by omega); rw [HX.out] at h; exact h
  have c6 : U3.cell? ⟨g, k * 7 + 6, none⟩ = some (.slice x.a x.n x.c) := by have h := row_cell hsbU HKX.out (r := 6) (by omega); rw [HX.out] at h; exact h
  have fg := fun o => World.ownsRow.frozenAt hsbU o
  have p4 : U3.cell? ⟨w.heap.size, 4, none⟩ = some (.slice (some ⟨g, 0, none⟩) M.s M.sc) := LU3.bA.cs 4 (by simp)
  have s0 : U3.cell? ⟨NS, 0, none⟩ = some (.int .i64 x.s.id) := LU3.bS.cs 0 (by simp)
  have s1 : U3.cell? ⟨NS, 1, none⟩ = some (.int .i64 x.s.st) := LU3.bS.cs 1 (by simp)
  have s2 : U3.cell? ⟨NS, 2, none⟩ = some (.int .i64 (x.s.cu + gn)) := LU3.bS.cs 2 (by simp)
  have s3 : U3.cell? ⟨NS, 3, none⟩ = some (.int .i64 (x.s.gt)) := LU3.bS.cs 3 (by simp)
  have s4 : U3.cell? ⟨NS, 4, none⟩ = some (.int .i64 (x.s.lo + gn)) := LU3.bS.cs 4 (by simp)
  have s5 : U3.cell? ⟨NS, 5, none⟩ = some (.int .i64 (x.s.pa)) := LU3.bS.cs 5 (by simp)
  have s6 : U3.cell? ⟨NS, 6, none⟩ = some (.slice x.a x.n x.c) := LU3.bS.cs 6 (by simp)
  obtain ⟨Y, hY⟩ : ∃ Y, (((((((U3.setCell ⟨g, k * 7, none⟩ (.int .i64 x.s.id)).setCell ⟨g, k * 7 + 1, none⟩ (.int .i64 x.s.st)).setCell ⟨g, k * 7 + 2, none⟩ (.int .i64 (x.s.cu + gn))).setCell ⟨g, k * 7 + 3, none⟩ (.int .i64 (x.s.gt))).setCell ⟨g, k * 7 + 4, none⟩ (.int .i64 (x.s.lo + gn))).setCell ⟨g, k * 7 + 5, none⟩ (.int .i64 (x.s.pa))).setCell ⟨g, k * 7 + 6, none⟩ (.slice x.a x.n x.c)) = Y := ⟨_, rfl⟩
  have hY2 : Y = setL U3 g (k * 7) (sC ⟨lostS x.s gn, x.a, x.n, x.c⟩) := by rw [← hY]; rfl
  have grY : U3.grownBy Y (some g) := by rw [hY2]; exact setL_grown ⟨rfl, rfl, rfl, Nat.le_refl _, fun _ _ _ => rfl⟩
  have AY := LU3.bA.grown grY (fun e => HGn.out.1 (by injection e))
  have RY := LU3.bR.grown grY (fun e => HGn.out.2.1 (by injection e))
  have TY := LU3.bT.grown grY (fun e => HGn.out.2.2.1 (by injection e))
  have SY := LU3.bS.grown grY (fun e => HGn.out.2.2.2 (by injection e))
  have HY2 := hidOf hY2
  clear hY2 grY hsbU
  go_upto_region 7 with fail
  try rw [hY]
  clear hY c0 c1 c2 c3 c4 c5 c6 s0 s1 s2 s3 s4 s5 s6 p4 fg
  have p0 : Y.cell? ⟨w.heap.size, 0, none⟩ = some (.int .i64 v.cp) := by have h := AY.cs 0 (by simp); exact h
  have p1 : Y.cell? ⟨w.heap.size, 1, none⟩ = some (.int .i64 v.se) := by have h := AY.cs 1 (by simp); exact h
  have p2 : Y.cell? ⟨w.heap.size, 2, none⟩ = some (.slice M.ia M.i M.ic) := by have h := AY.cs 2 (by simp); exact h
  have p3 : Y.cell? ⟨w.heap.size, 3, none⟩ = some (.int .i64 v.nx) := by have h := AY.cs 3 (by simp); exact h
  have p4 : Y.cell? ⟨w.heap.size, 4, none⟩ = some (.slice (some ⟨g, 0, none⟩) M.s M.sc) := by have h := AY.cs 4 (by simp); exact h
  have p5 : Y.cell? ⟨w.heap.size, 5, none⟩ = some (.slice M.la M.l M.lc) := by have h := AY.cs 5 (by simp); exact h
  have p6 : Y.cell? ⟨w.heap.size, 6, none⟩ = some (.slice M.ga M.g M.gc) := by have h := AY.cs 6 (by simp); exact h
  have p7 : Y.cell? ⟨w.heap.size, 7, none⟩ = some (.bool v.cl) := by have h := AY.cs 7 (by simp); exact h
  obtain ⟨r0, r1, r2, r3, r4, r5, r6, r7⟩ := box8 RY
  have rf := RY.fr
  obtain ⟨u0, u1, u2, u3, u4, u5⟩ := box6 TY
  have uf := TY.fr
  obtain ⟨Zz, hZ⟩ : ∃ Z, ((((((((((((((Y.setCell ⟨N1, 0, none⟩ (.int .i64 v.cp)).setCell ⟨N1, 1, none⟩ (.int .i64 v.se)).setCell ⟨N1, 2, none⟩ (.slice M.ia M.i M.ic)).setCell ⟨N1, 3, none⟩ (.int .i64 v.nx)).setCell ⟨N1, 4, none⟩ (.slice (some ⟨g, 0, none⟩) M.s M.sc)).setCell ⟨N1, 5, none⟩ (.slice M.la M.l M.lc)).setCell ⟨N1, 6, none⟩ (.slice M.ga M.g M.gc)).setCell ⟨N1, 7, none⟩ (.bool v.cl)).setCell ⟨N2, 0, none⟩ (.int .i64 2)).setCell ⟨N2, 1, none⟩ (.int .i64 0)).setCell ⟨N2, 2, none⟩ (.int .i64 0)).setCell ⟨N2, 3, none⟩ (.string ⟨#[]⟩)).setCell ⟨N2, 4, none⟩ (.int .i64 0)).setCell ⟨N2, 5, none⟩ (.int .i64 gn)) = Z := ⟨_, rfl⟩
  have hZ2 : Zz = setL (setL Y N1 0 [.int .i64 v.cp, .int .i64 v.se, .slice M.ia M.i M.ic, .int .i64 v.nx, .slice (some ⟨g, 0, none⟩) M.s M.sc, .slice M.la M.l M.lc, .slice M.ga M.g M.gc, .bool v.cl]) N2 0 [.int .i64 2, .int .i64 0, .int .i64 0, .string ⟨#[]⟩, .int .i64 0, .int .i64 gn] := by rw [← hZ]; rfl
  have XZ0 : BoxL N1 [.int .i64 v.cp, .int .i64 v.se, .slice M.ia M.i M.ic, .int .i64 v.nx, .slice (some ⟨g, 0, none⟩) M.s M.sc, .slice M.la M.l M.lc, .slice M.ga M.g M.gc, .bool v.cl] Zz := by rw [hZ2]; exact (RY.setAll (us := [.int .i64 v.cp, .int .i64 v.se, .slice M.ia M.i M.ic, .int .i64 v.nx, .slice (some ⟨g, 0, none⟩) M.s M.sc, .slice M.la M.l M.lc, .slice M.ga M.g M.gc, .bool v.cl]) rfl).setFar HN12.out.1
  have TZ0 : BoxL N2 [.int .i64 2, .int .i64 0, .int .i64 0, .string ⟨#[]⟩, .int .i64 0, .int .i64 gn] Zz := by rw [hZ2]; exact (TY.setFar HN12.out.2).setAll (us := [.int .i64 2, .int .i64 0, .int .i64 0, .string ⟨#[]⟩, .int .i64 0, .int .i64 gn]) rfl
  have bZ0 : Below w.heap.size Y Zz := by rw [hZ2]; exact setL_below HNge.out.2 (setL_below HNge.out.1 (Below.refl _ _))
  have XZ : BoxL N1 [.int .i64 v.cp, .int .i64 v.se, .slice M.ia M.i M.ic, .int .i64 v.nx, .slice (some ⟨g, 0, none⟩) M.s M.sc, .slice M.la M.l M.lc, .slice M.ga M.g M.gc, .bool v.cl] Zz := XZ0
  have TZ : BoxL N2 [.int .i64 2, .int .i64 0, .int .i64 0, .string ⟨#[]⟩, .int .i64 0, .int .i64 gn] Zz := TZ0
  have bZ : Below w.heap.size Y Zz := bZ0
  obtain ⟨t0, t1, t2, t3, t4, t5, t6, t7⟩ := box8 XZ
  obtain ⟨o0, o1, o2, o3, o4, o5⟩ := box6 TZ
  have HBZ := hidOf bZ
  clear hZ2 XZ TZ XZ0 TZ0 bZ0 RY TY AY SY bZ
  go_wp2_with fail
  clear hZ
  exact bodyPost_ret (v := .tuple #[.agg #[.int .i64 v.cp, .int .i64 v.se, .slice M.ia M.i M.ic, .int .i64 v.nx, .slice (some ⟨g, 0, none⟩) M.s M.sc, .slice M.la M.l M.lc, .slice M.ga M.g M.gc, .bool v.cl], .agg #[.int .i64 2, .int .i64 0, .int .i64 0, .string ⟨#[]⟩, .int .i64 0, .int .i64 gn], .int .i64 0]) (by simp [results, Tryz.results104, go_sem, t0, t1, t2, t3, t4, t5, t6, t7, o0, o1, o2, o3, o4, o5]) rfl (RdP.mk HR.out HG.out HKX.out HBU.out (by rw [HX.out, ← HY2.out]; exact HBZ.out) (by rw [HX.out]; rfl) (s' := lostS x.s gn) (td := ⟨2, (0, 0, noT), 0, gn⟩) (c := 0) (by rw [HSV.out]; exact hgp2.out.1) (by rw [HSV.out]; exact hgp2.out.2.1) (by rw [HSV.out]; exact hgp2.out.2.2) (by rw [HG.out] <;> rfl))
 ·obtain ⟨fs, hfs⟩ : ∃ fs, v.se - (M.i : Int) = fs := ⟨_, rfl⟩
  have hwfs : IntKind.i64.wrap fs = fs := by have h := HNM.out; have h2 := HM.out.i; rw [IntKind.wrap_i64]; omega
  have HFS := hidOf hfs
  have HNG := hidOf (show ¬ 0 < goneN v x.s by unfold goneN; rw [hgn]; exact hgp)
  have HTL := hidOf (show ((tailR v x.s).length : Int) = v.se - x.s.cu by have h := tail_len HK.out (by rw [HSV.out]; have h := HNG.out; omega); rw [HSV.out] at h; exact h)
  have HOl := hidOf (show oldR v ≤ x.s.cu by have h := old_le_cu HK.out (by rw [HSV.out]; have h := HNG.out; omega); rw [HSV.out] at h; exact h)
  have HL1 := hidOf L1
  clear L1
  go_wp2_with fail
  clear p0 p1 p2 s2 hw1 hw2 hgn hfs hwfs hgp
  go_loopw [] (fun wr => ∃ j : Nat, j ≤ (tailR v x.s).length ∧ (∀ i, i < j → pasR x.s.fl (qg (tailR v x.s) i) = false) ∧ RdL w N1 N2 NS g M v x (passS x.s j) wr) (fun wr => (v.se - curAt NS 2 wr).toNat)
  case atStart => exact ⟨0, Nat.zero_le _, fun i hi => absurd hi (Nat.not_lt_zero _), by rw [pass_zero]; exact HL1.out⟩
  case round =>
   rename_i wr
   obtain ⟨j, hj, hnp, hL⟩ := hrel
   clear HL1
   have s2 : wr.cell? ⟨NS, 2, none⟩ = some (.int .i64 (x.s.cu + (j : Int))) := hL.bS.cs 2 (by simp)
   have p1 : wr.cell? ⟨w.heap.size, 1, none⟩ = some (.int .i64 v.se) := hL.bA.cs 1 (by simp)
   have hcur : curAt NS 2 wr = x.s.cu + (j : Int) := by unfold curAt; rw [s2]
   have HCur := hidOf hcur
   have HJ := hidOf (show x.s.cu + (j : Int) ≤ v.se by have h := HTL.out; omega)
   clear hcur
   by_cases hlt : x.s.cu + (j : Int) < v.se
   ·have hjl : j < (tailR v x.s).length := by have h := HTL.out; omega
    obtain ⟨ix, hix⟩ : ∃ i : Nat, (x.s.cu - (v.se - v.it.length)).toNat + j = i := ⟨_, rfl⟩
    have hixl : ix < M.i := by have h := HLen.out; have h2 := HOl.out; have h3 := HK.out.ol; omega
    have hixi : x.s.cu + (j : Int) - fs = (ix : Int) := by have h := HLen.out; have h2 := HOl.out; have h3 := HK.out.ol; have h4 := HFS.out; omega
    have hwix : IntKind.i64.wrap (ix : Int) = (ix : Int) := by have h := HM.out.i; rw [IntKind.wrap_i64]; omega
    have hixl2 : (ix : Int) < (M.i : Int) := by omega
    have hmq : qg v.it ix = qg (tailR v x.s) j := by have h := tail_at HK.out (by rw [HSV.out]; have h := HNG.out; omega) (j := j); rw [HSV.out] at h; rw [h, hix]
    obtain ⟨⟨m1, m2, m3⟩, hmm⟩ : ∃ m, qg v.it ix = m := ⟨_, rfl⟩
    obtain ⟨bi, hia, _, i0, i1, i2⟩ := (HR.out.keep hL.bel).item hixl
    rw [hmm] at i0 i1 i2
    have HMj := hidOf (show qg (tailR v x.s) j = (m1, m2, m3) by rw [← hmq, hmm])
    have hokb : okB m1 m2 m3 = true := by have h := HK.out.ms (qg v.it ix) (qg_mem (by have h := HLen.out; omega)); rw [hmm] at h; exact h
    have p2 : wr.cell? ⟨w.heap.size, 2, none⟩ = some (.slice (some ⟨bi, 0, none⟩) M.i M.ic) := by rw [← hia]; exact hL.bA.cs 2 (by simp)
    obtain ⟨V2, hV2⟩ : ∃ V, V = wr.alloc (.cells #[.int .i64 m1, .int .i64 m2, .string m3] 30) := ⟨_, rfl⟩
    have bV2 : Below wr.heap.size wr V2 := by rw [hV2]; exact bl_alloc (Below.refl _ _) _
    have bM2 : BoxL wr.heap.size [.int .i64 m1, .int .i64 m2, .string m3] V2 := by rw [hV2]; exact BoxL.new wr [.int .i64 m1, .int .i64 m2, .string m3] _
    have L2 := hL.keep bV2
    have hNMge := hL.bS.lt
    have hwge := hL.bel.size
    have HOk := hidOf hokb
    clear hmq hmm hia hokb hix
    go_upto_region 11 with fail
    rw [← hV2]
    clear hV2 i0 i1 i2 p2 hixl hixi hwix hixl2 p1 s2 hL
    generalize hNM : wr.heap.size = NM at bM2 ⊢
    have HNM2 := hidOf (show NS < NM ∧ w.heap.size ≤ NM by omega)
    clear hNM hNMge hwge bV2
    have s2 : V2.cell? ⟨NS, 2, none⟩ = some (.int .i64 (x.s.cu + (j : Int))) := L2.bS.cs 2 (by simp)
    have sf := L2.bS.fr
    have hw3 : IntKind.i64.wrap (x.s.cu + (j : Int) + 1) = x.s.cu + (j : Int) + 1 := by have h := HNM.out; have h2 := HJ.out; rw [IntKind.wrap_i64]; omega
    obtain ⟨U3, hU3⟩ : ∃ U, V2.setCell ⟨NS, 2, none⟩ (Value.int .i64 (x.s.cu + (j : Int) + 1)) = U := ⟨_, rfl⟩
    have LU3 : RdL w N1 N2 NS g M v x { passS x.s j with cu := x.s.cu + (j : Int) + 1 } U3 := by rw [← hU3]; exact L2.set 2 _ (by omega) rfl HNS.out
    have bM3 : BoxL NM [.int .i64 m1, .int .i64 m2, .string m3] U3 := by rw [← hU3]; exact bM2.far _ _ (by have := HNM2.out; omega) _
    go_upto_region 12 with fail
    try rw [hU3]
    clear hU3 s2 sf hw3 L2 bM2
    have HCl := hidOf (l8Left_any x.a x.n x.c x.s.fl m1 m2 m3 U3 ((HR.out.keep LU3.bel).own.rin.sb.fil x (by rw [← HX.out]; exact sg_mem HKX.out)) (by have h := HK.out.fl; rw [HSV.out] at h; exact h) HOk.out)
    obtain ⟨q, hq⟩ : ∃ q, passP x.s.fl (bdOf m1 m2 m3) = q := ⟨_, rfl⟩
    rw [hq] at HCl
    have HQ := hidOf hq
    have s6 : U3.cell? ⟨NS, 6, none⟩ = some (.slice x.a x.n x.c) := LU3.bS.cs 6 (by simp)
    have mm0 : U3.cell? ⟨NM, 0, none⟩ = some (.int .i64 m1) := bM3.cs 0 (by simp)
    have mm1 : U3.cell? ⟨NM, 1, none⟩ = some (.int .i64 m2) := bM3.cs 1 (by simp)
    have mm2 : U3.cell? ⟨NM, 2, none⟩ = some (.string m3) := bM3.cs 2 (by simp)
    clear hq
    go_wp2_with fail
    refine (HCl.out).mono ?_
    rintro e w4 ⟨rfl, hb4⟩
    have L4 := LU3.keep hb4
    have bM4 := bM3.keep hb4
    clear s6 mm0 mm1 mm2 LU3 bM3 hb4 HCl
    cases q
    ·have s5 : w4.cell? ⟨NS, 5, none⟩ = some (.int .i64 (x.s.pa + (j : Int))) := L4.bS.cs 5 (by simp)
     have sf := L4.bS.fr
     have hw6 : IntKind.i64.wrap (x.s.pa + (j : Int) + 1) = x.s.pa + (j : Int) + 1 := by have h := HNM.out; have h2 := HJ.out; rw [IntKind.wrap_i64]; omega
     obtain ⟨U6, hU6⟩ : ∃ U, w4.setCell ⟨NS, 5, none⟩ (Value.int .i64 (x.s.pa + (j : Int) + 1)) = U := ⟨_, rfl⟩
     have LU6 : RdL w N1 N2 NS g M v x { passS x.s j with cu := x.s.cu + (j : Int) + 1, pa := x.s.pa + (j : Int) + 1 } U6 := by rw [← hU6]; exact L4.set 5 _ (by omega) rfl HNS.out
     have HL6 := hidOf (show RdL w N1 N2 NS g M v x (passS x.s ((j + 1 : Nat) : Int)) U6 by
      have e : ({ passS x.s j with cu := x.s.cu + (j : Int) + 1, pa := x.s.pa + (j : Int) + 1 } : Sb) = passS x.s ((j + 1 : Nat) : Int) := by
       unfold passS
       simp only [Int.natCast_add, Int.natCast_one, Int.add_assoc]
      rw [← e]; exact LU6)
     have hcu6 : curAt NS 2 U6 = x.s.cu + (j : Int) + 1 := by
      unfold curAt
      rw [show U6.cell? ⟨NS, 2, none⟩ = some (.int .i64 (x.s.cu + (j : Int) + 1)) from LU6.bS.cs 2 (by simp)]
     have HC6 := hidOf hcu6
     clear LU6 L4 bM4 hcu6
     go_wp2_with fail
     try rw [hU6]
     go_roundw
     case rel => exact ⟨j + 1, hjl, fun i hi => by
      rcases Nat.lt_or_eq_of_le (Nat.le_of_lt_succ hi) with h | h
      ·exact hnp i h
      ·rw [h, HMj.out]; exact HQ.out, HL6.out⟩
     case measure => rw [HC6.out, HCur.out]; omega
    ·have hq : pasR x.s.fl (m1, m2, m3) = true := HQ.out
     have HGt := hidOf (read_got (by have h := HNG.out; omega) hjl hnp (by rw [HMj.out]; exact hq))
     have s3 : w4.cell? ⟨NS, 3, none⟩ = some (.int .i64 x.s.gt) := L4.bS.cs 3 (by simp)
     have sf := L4.bS.fr
     have hw6 : IntKind.i64.wrap (x.s.gt + 1) = x.s.gt + 1 := by have h := HNM.out; rw [IntKind.wrap_i64]; omega
     obtain ⟨U6, hU6⟩ : ∃ U, w4.setCell ⟨NS, 3, none⟩ (Value.int .i64 (x.s.gt + 1)) = U := ⟨_, rfl⟩
     have LU6 : RdL w N1 N2 NS g M v x (gotS x.s j) U6 := by rw [← hU6]; exact L4.set 3 _ (by omega) rfl HNS.out
     have bM6 : BoxL NM [.int .i64 m1, .int .i64 m2, .string m3] U6 := by rw [← hU6]; exact bM4.far _ _ (by have := HNM2.out; omega) _
     go_upto_region 14 with fail
     try rw [hU6]
     clear hU6 s3 sf L4 hw6 bM4
     have HBU := hidOf LU6.bel
     have hsbU : U6.ownsRow B 41 7 (.slice (some ⟨g, 0, none⟩) M.s M.sc) M.s (sflat M.xs) := by have h := (HR.out.keep HBU.out).sb; rw [HG.out] at h; exact h
     have c0 : U6.cell? ⟨g, k * 7, none⟩ = some (.int .i64 x.s.id) := by have h := row_cell hsbU HKX.out (r := 0) (by omega); rw [HX.out] at h; exact h
     have c1 : U6.cell? ⟨g, k * 7 + 1, none⟩ = some (.int .i64 x.s.st) := by have h := row_cell hsbU HKX.out (r := 1) (by omega); rw [HX.out] at h; exact h
     have c2 : U6.cell? ⟨g, k * 7 + 2, none⟩ = some (.int .i64 x.s.cu) := by have h := row_cell hsbU HKX.out (r := 2) (by omega); rw [HX.out] at h; exact h
     have c3 : U6.cell? ⟨g, k * 7 + 3, none⟩ = some (.int .i64 x.s.gt) := by have h := row_cell hsbU HKX.out (r := 3) (by omega); rw [HX.out] at h; exact h
     have c4 : U6.cell? ⟨g, k * 7 + 4, none⟩ = some (.int .i64 x.s.lo) := by have h := row_cell hsbU HKX.out (r := 4) (by omega); rw [HX.out] at h; exact h
     have c5 : U6.cell? ⟨g, k * 7 + 5, none⟩ = some (.int .i64 x.s.pa) := by have h := row_cell hsbU HKX.out (r := 5) (by omega); rw [HX.out] at h; exact h
     have c6 : U6.cell? ⟨g, k * 7 + 6, none⟩ = some (.slice x.a x.n x.c) := by have h := row_cell hsbU HKX.out (r := 6) (by omega); rw [HX.out] at h; exact h
     have fg := fun o => World.ownsRow.frozenAt hsbU o
     have p4 : U6.cell? ⟨w.heap.size, 4, none⟩ = some (.slice (some ⟨g, 0, none⟩) M.s M.sc) := LU6.bA.cs 4 (by simp)
     have s0 : U6.cell? ⟨NS, 0, none⟩ = some (.int .i64 x.s.id) := LU6.bS.cs 0 (by simp)
     have s1 : U6.cell? ⟨NS, 1, none⟩ = some (.int .i64 x.s.st) := LU6.bS.cs 1 (by simp)
     have s2 : U6.cell? ⟨NS, 2, none⟩ = some (.int .i64 (x.s.cu + (j : Int) + 1)) := LU6.bS.cs 2 (by simp)
     have s3 : U6.cell? ⟨NS, 3, none⟩ = some (.int .i64 (x.s.gt + 1)) := LU6.bS.cs 3 (by simp)
     have s4 : U6.cell? ⟨NS, 4, none⟩ = some (.int .i64 (x.s.lo)) := LU6.bS.cs 4 (by simp)
     have s5 : U6.cell? ⟨NS, 5, none⟩ = some (.int .i64 (x.s.pa + (j : Int))) := LU6.bS.cs 5 (by simp)
     have s6 : U6.cell? ⟨NS, 6, none⟩ = some (.slice x.a x.n x.c) := LU6.bS.cs 6 (by simp)
     obtain ⟨Y, hY⟩ : ∃ Y, (((((((U6.setCell ⟨g, k * 7, none⟩ (.int .i64 x.s.id)).setCell ⟨g, k * 7 + 1, none⟩ (.int .i64 x.s.st)).setCell ⟨g, k * 7 + 2, none⟩ (.int .i64 (x.s.cu + (j : Int) + 1))).setCell ⟨g, k * 7 + 3, none⟩ (.int .i64 (x.s.gt + 1))).setCell ⟨g, k * 7 + 4, none⟩ (.int .i64 (x.s.lo))).setCell ⟨g, k * 7 + 5, none⟩ (.int .i64 (x.s.pa + (j : Int)))).setCell ⟨g, k * 7 + 6, none⟩ (.slice x.a x.n x.c)) = Y := ⟨_, rfl⟩
     have hY2 : Y = setL U6 g (k * 7) (sC ⟨gotS x.s j, x.a, x.n, x.c⟩) := by rw [← hY]; rfl
     have grY : U6.grownBy Y (some g) := by rw [hY2]; exact setL_grown ⟨rfl, rfl, rfl, Nat.le_refl _, fun _ _ _ => rfl⟩
     have AY := LU6.bA.grown grY (fun e => HGn.out.1 (by injection e))
     have RY := LU6.bR.grown grY (fun e => HGn.out.2.1 (by injection e))
     have TY := LU6.bT.grown grY (fun e => HGn.out.2.2.1 (by injection e))
     have SY := LU6.bS.grown grY (fun e => HGn.out.2.2.2 (by injection e))
     have MY := bM6.grown grY (fun e => by have h := HNM2.out; have h2 := HGl.out; injection e with e; omega)
     have HYs := hidOf (show w.heap.size ≤ Y.heap.size from Nat.le_trans HBU.out.size grY.size)
     have HY2 := hidOf hY2
     clear hY2 grY hsbU
     go_upto_region 15 with fail
     try rw [hY]
     clear hY c0 c1 c2 c3 c4 c5 c6 s0 s1 s2 s3 s4 s5 s6 p4 fg
     have p0 : Y.cell? ⟨w.heap.size, 0, none⟩ = some (.int .i64 v.cp) := by have h := AY.cs 0 (by simp); exact h
     have p1 : Y.cell? ⟨w.heap.size, 1, none⟩ = some (.int .i64 v.se) := by have h := AY.cs 1 (by simp); exact h
     have p2 : Y.cell? ⟨w.heap.size, 2, none⟩ = some (.slice M.ia M.i M.ic) := by have h := AY.cs 2 (by simp); exact h
     have p3 : Y.cell? ⟨w.heap.size, 3, none⟩ = some (.int .i64 v.nx) := by have h := AY.cs 3 (by simp); exact h
     have p4 : Y.cell? ⟨w.heap.size, 4, none⟩ = some (.slice (some ⟨g, 0, none⟩) M.s M.sc) := by have h := AY.cs 4 (by simp); exact h
     have p5 : Y.cell? ⟨w.heap.size, 5, none⟩ = some (.slice M.la M.l M.lc) := by have h := AY.cs 5 (by simp); exact h
     have p6 : Y.cell? ⟨w.heap.size, 6, none⟩ = some (.slice M.ga M.g M.gc) := by have h := AY.cs 6 (by simp); exact h
     have p7 : Y.cell? ⟨w.heap.size, 7, none⟩ = some (.bool v.cl) := by have h := AY.cs 7 (by simp); exact h
     obtain ⟨r0, r1, r2, r3, r4, r5, r6, r7⟩ := box8 RY
     have rf := RY.fr
     obtain ⟨u0, u1, u2, u3, u4, u5⟩ := box6 TY
     have uf := TY.fr
     have e1 : ¬ NM = N1 := by have h := HNM2.out; have h2 := HNS.out; omega
     have e2 : ¬ N1 = NM := by have h := HNM2.out; have h2 := HNS.out; omega
     have e3 : ¬ NM = N2 := by have h := HNM2.out; have h2 := HNS.out; omega
     have e4 : ¬ N2 = NM := by have h := HNM2.out; have h2 := HNS.out; omega
     have e5 : ¬ NS = N1 := by have h2 := HNS.out; omega
     have e6 : ¬ N1 = NS := by have h2 := HNS.out; omega
     have e7 : ¬ NS = N2 := by have h2 := HNS.out; omega
     have e8 : ¬ N2 = NS := by have h2 := HNS.out; omega
     have mm0 : Y.cell? ⟨NM, 0, none⟩ = some (.int .i64 m1) := MY.cs 0 (by simp)
     have mm1 : Y.cell? ⟨NM, 1, none⟩ = some (.int .i64 m2) := MY.cs 1 (by simp)
     have mm2 : Y.cell? ⟨NM, 2, none⟩ = some (.string m3) := MY.cs 2 (by simp)
     have s2 : Y.cell? ⟨NS, 2, none⟩ = some (.int .i64 (x.s.cu + (j : Int) + 1)) := SY.cs 2 (by simp)
     have hw8 : wrap64 (x.s.cu + (j : Int)) = x.s.cu + (j : Int) := by have h := HNM.out; have h2 := HJ.out; unfold wrap64; omega
     obtain ⟨Zz, hZ⟩ : ∃ Z, ((((((((((((((Y.setCell ⟨N1, 0, none⟩ (.int .i64 v.cp)).setCell ⟨N1, 1, none⟩ (.int .i64 v.se)).setCell ⟨N1, 2, none⟩ (.slice M.ia M.i M.ic)).setCell ⟨N1, 3, none⟩ (.int .i64 v.nx)).setCell ⟨N1, 4, none⟩ (.slice (some ⟨g, 0, none⟩) M.s M.sc)).setCell ⟨N1, 5, none⟩ (.slice M.la M.l M.lc)).setCell ⟨N1, 6, none⟩ (.slice M.ga M.g M.gc)).setCell ⟨N1, 7, none⟩ (.bool v.cl)).setCell ⟨N2, 0, none⟩ (.int .i64 1)).setCell ⟨N2, 1, none⟩ (.int .i64 m1)).setCell ⟨N2, 2, none⟩ (.int .i64 m2)).setCell ⟨N2, 3, none⟩ (.string m3)).setCell ⟨N2, 4, none⟩ (.int .i64 (x.s.cu + (j : Int)))).setCell ⟨N2, 5, none⟩ (.int .i64 0)) = Z := ⟨_, rfl⟩
     have hZ2 : Zz = setL (setL Y N1 0 [.int .i64 v.cp, .int .i64 v.se, .slice M.ia M.i M.ic, .int .i64 v.nx, .slice (some ⟨g, 0, none⟩) M.s M.sc, .slice M.la M.l M.lc, .slice M.ga M.g M.gc, .bool v.cl]) N2 0 [.int .i64 1, .int .i64 m1, .int .i64 m2, .string m3, .int .i64 (x.s.cu + (j : Int)), .int .i64 0] := by rw [← hZ]; rfl
     have XZ0 : BoxL N1 [.int .i64 v.cp, .int .i64 v.se, .slice M.ia M.i M.ic, .int .i64 v.nx, .slice (some ⟨g, 0, none⟩) M.s M.sc, .slice M.la M.l M.lc, .slice M.ga M.g M.gc, .bool v.cl] Zz := by rw [hZ2]; exact (RY.setAll (us := [.int .i64 v.cp, .int .i64 v.se, .slice M.ia M.i M.ic, .int .i64 v.nx, .slice (some ⟨g, 0, none⟩) M.s M.sc, .slice M.la M.l M.lc, .slice M.ga M.g M.gc, .bool v.cl]) rfl).setFar HN12.out.1
     have TZ0 : BoxL N2 [.int .i64 1, .int .i64 m1, .int .i64 m2, .string m3, .int .i64 (x.s.cu + (j : Int)), .int .i64 0] Zz := by rw [hZ2]; exact (TY.setFar HN12.out.2).setAll (us := [.int .i64 1, .int .i64 m1, .int .i64 m2, .string m3, .int .i64 (x.s.cu + (j : Int)), .int .i64 0]) rfl
     have bZ0 : Below w.heap.size Y Zz := by rw [hZ2]; exact setL_below HNge.out.2 (setL_below HNge.out.1 (Below.refl _ _))
     have XZ : BoxL N1 [.int .i64 v.cp, .int .i64 v.se, .slice M.ia M.i M.ic, .int .i64 v.nx, .slice (some ⟨g, 0, none⟩) M.s M.sc, .slice M.la M.l M.lc, .slice M.ga M.g M.gc, .bool v.cl] Zz.drew := XZ0.keep (Below.refl _ _).drew
     have TZ : BoxL N2 [.int .i64 1, .int .i64 m1, .int .i64 m2, .string m3, .int .i64 (x.s.cu + (j : Int)), .int .i64 0] Zz.drew := TZ0.keep (Below.refl _ _).drew
     have bZ : Below w.heap.size Y Zz.drew := bZ0.drew
     obtain ⟨t0, t1, t2, t3, t4, t5, t6, t7⟩ := box8 XZ
     obtain ⟨o0, o1, o2, o3, o4, o5⟩ := box6 TZ
     have HBZ := hidOf bZ
     clear hZ2 XZ TZ XZ0 TZ0 bZ0 RY TY AY SY bZ
     go_region
     try rw [hw8]
     try rw [hZ]
     go_wp2_with fail
     clear hZ
     exact bodyPost_ret (v := .tuple #[.agg #[.int .i64 v.cp, .int .i64 v.se, .slice M.ia M.i M.ic, .int .i64 v.nx, .slice (some ⟨g, 0, none⟩) M.s M.sc, .slice M.la M.l M.lc, .slice M.ga M.g M.gc, .bool v.cl], .agg #[.int .i64 1, .int .i64 m1, .int .i64 m2, .string m3, .int .i64 (x.s.cu + (j : Int)), .int .i64 0], .int .i64 0]) (by simp [results, Tryz.results104, go_sem, t0, t1, t2, t3, t4, t5, t6, t7, o0, o1, o2, o3, o4, o5]) rfl (RdP.mk HR.out HG.out HKX.out HBU.out (by rw [HX.out, ← HY2.out]; exact HBZ.out) (by rw [HX.out]; rfl) (s' := gotS x.s j) (td := ⟨1, (m1, m2, m3), x.s.cu + (j : Int), 0⟩) (c := 0) (by rw [HSV.out]; exact (show readS v x.s = gotS x.s j ∧ readT v x.s = ⟨1, (m1, m2, m3), x.s.cu + (j : Int), 0⟩ ∧ readC v x.s = 0 by have h := HGt.out; rw [HMj.out] at h; exact h).1) (by rw [HSV.out]; exact (show readS v x.s = gotS x.s j ∧ readT v x.s = ⟨1, (m1, m2, m3), x.s.cu + (j : Int), 0⟩ ∧ readC v x.s = 0 by have h := HGt.out; rw [HMj.out] at h; exact h).2.1) (by rw [HSV.out]; exact (show readS v x.s = gotS x.s j ∧ readT v x.s = ⟨1, (m1, m2, m3), x.s.cu + (j : Int), 0⟩ ∧ readC v x.s = 0 by have h := HGt.out; rw [HMj.out] at h; exact h).2.2) (by rw [HG.out] <;> rfl))
   ·have hje : j = (tailR v x.s).length := by have h := HTL.out; omega
    have HNo2 := hidOf (read_none (by have h := HNG.out; omega) hje hnp)
    clear hje hj hnp
    cases hcl : v.cl
    ·have HCL := hidOf hcl
     clear hcl
     go_upto_region 17 with fail
     clear s2 p1
     have HBU := hidOf hL.bel
     have hsbU : wr.ownsRow B 41 7 (.slice (some ⟨g, 0, none⟩) M.s M.sc) M.s (sflat M.xs) := by have h := (HR.out.keep HBU.out).sb; rw [HG.out] at h; exact h
     have c0 : wr.cell? ⟨g, k * 7, none⟩ = some (.int .i64 x.s.id) := by have h := row_cell hsbU HKX.out (r := 0) (by omega); rw [HX.out] at h; exact h
     have c1 : wr.cell? ⟨g, k * 7 + 1, none⟩ = some (.int .i64 x.s.st) := by have h := row_cell hsbU HKX.out (r := 1) (by omega); rw [HX.out] at h; exact h
     have c2 : wr.cell? ⟨g, k * 7 + 2, none⟩ = some (.int .i64 x.s.cu) := by have h := row_cell hsbU HKX.out (r := 2) (by omega); rw [HX.out] at h; exact h
     have c3 : wr.cell? ⟨g, k * 7 + 3, none⟩ = some (.int .i64 x.s.gt) := by have h := row_cell hsbU HKX.out (r := 3) (by omega); rw [HX.out] at h; exact h
     have c4 : wr.cell? ⟨g, k * 7 + 4, none⟩ = some (.int .i64 x.s.lo) := by have h := row_cell hsbU HKX.out (r := 4) (by omega); rw [HX.out] at h; exact h
     have c5 : wr.cell? ⟨g, k * 7 + 5, none⟩ = some (.int .i64 x.s.pa) := by have h := row_cell hsbU HKX.out (r := 5) (by omega); rw [HX.out] at h; exact h
     have c6 : wr.cell? ⟨g, k * 7 + 6, none⟩ = some (.slice x.a x.n x.c) := by have h := row_cell hsbU HKX.out (r := 6) (by omega); rw [HX.out] at h; exact h
     have fg := fun o => World.ownsRow.frozenAt hsbU o
     have p4 : wr.cell? ⟨w.heap.size, 4, none⟩ = some (.slice (some ⟨g, 0, none⟩) M.s M.sc) := hL.bA.cs 4 (by simp)
     have s0 : wr.cell? ⟨NS, 0, none⟩ = some (.int .i64 x.s.id) := hL.bS.cs 0 (by simp)
     have s1 : wr.cell? ⟨NS, 1, none⟩ = some (.int .i64 x.s.st) := hL.bS.cs 1 (by simp)
     have s2 : wr.cell? ⟨NS, 2, none⟩ = some (.int .i64 (x.s.cu + (j : Int))) := hL.bS.cs 2 (by simp)
     have s3 : wr.cell? ⟨NS, 3, none⟩ = some (.int .i64 (x.s.gt)) := hL.bS.cs 3 (by simp)
     have s4 : wr.cell? ⟨NS, 4, none⟩ = some (.int .i64 (x.s.lo)) := hL.bS.cs 4 (by simp)
     have s5 : wr.cell? ⟨NS, 5, none⟩ = some (.int .i64 (x.s.pa + (j : Int))) := hL.bS.cs 5 (by simp)
     have s6 : wr.cell? ⟨NS, 6, none⟩ = some (.slice x.a x.n x.c) := hL.bS.cs 6 (by simp)
     obtain ⟨Y, hY⟩ : ∃ Y, (((((((wr.setCell ⟨g, k * 7, none⟩ (.int .i64 x.s.id)).setCell ⟨g, k * 7 + 1, none⟩ (.int .i64 x.s.st)).setCell ⟨g, k * 7 + 2, none⟩ (.int .i64 (x.s.cu + (j : Int)))).setCell ⟨g, k * 7 + 3, none⟩ (.int .i64 (x.s.gt))).setCell ⟨g, k * 7 + 4, none⟩ (.int .i64 (x.s.lo))).setCell ⟨g, k * 7 + 5, none⟩ (.int .i64 (x.s.pa + (j : Int)))).setCell ⟨g, k * 7 + 6, none⟩ (.slice x.a x.n x.c)) = Y := ⟨_, rfl⟩
     have hY2 : Y = setL wr g (k * 7) (sC ⟨passS x.s j, x.a, x.n, x.c⟩) := by rw [← hY]; rfl
     have grY : wr.grownBy Y (some g) := by rw [hY2]; exact setL_grown ⟨rfl, rfl, rfl, Nat.le_refl _, fun _ _ _ => rfl⟩
     have AY := hL.bA.grown grY (fun e => HGn.out.1 (by injection e))
     have RY := hL.bR.grown grY (fun e => HGn.out.2.1 (by injection e))
     have TY := hL.bT.grown grY (fun e => HGn.out.2.2.1 (by injection e))
     have SY := hL.bS.grown grY (fun e => HGn.out.2.2.2 (by injection e))
     have HY2 := hidOf hY2
     clear hY2 grY hsbU
     go_upto_region 18 with fail
     try rw [hY]
     clear hY c0 c1 c2 c3 c4 c5 c6 s0 s1 s2 s3 s4 s5 s6 p4 fg
     have p0 : Y.cell? ⟨w.heap.size, 0, none⟩ = some (.int .i64 v.cp) := by have h := AY.cs 0 (by simp); exact h
     have p1 : Y.cell? ⟨w.heap.size, 1, none⟩ = some (.int .i64 v.se) := by have h := AY.cs 1 (by simp); exact h
     have p2 : Y.cell? ⟨w.heap.size, 2, none⟩ = some (.slice M.ia M.i M.ic) := by have h := AY.cs 2 (by simp); exact h
     have p3 : Y.cell? ⟨w.heap.size, 3, none⟩ = some (.int .i64 v.nx) := by have h := AY.cs 3 (by simp); exact h
     have p4 : Y.cell? ⟨w.heap.size, 4, none⟩ = some (.slice (some ⟨g, 0, none⟩) M.s M.sc) := by have h := AY.cs 4 (by simp); exact h
     have p5 : Y.cell? ⟨w.heap.size, 5, none⟩ = some (.slice M.la M.l M.lc) := by have h := AY.cs 5 (by simp); exact h
     have p6 : Y.cell? ⟨w.heap.size, 6, none⟩ = some (.slice M.ga M.g M.gc) := by have h := AY.cs 6 (by simp); exact h
     have p7 : Y.cell? ⟨w.heap.size, 7, none⟩ = some (.bool false) := by have h := AY.cs 7 (by simp); rw [← HCL.out]; exact h
     obtain ⟨r0, r1, r2, r3, r4, r5, r6, r7⟩ := box8 RY
     have rf := RY.fr
     obtain ⟨u0, u1, u2, u3, u4, u5⟩ := box6 TY
     have uf := TY.fr
     obtain ⟨Zz, hZ⟩ : ∃ Z, ((((((((((((((Y.setCell ⟨N1, 0, none⟩ (.int .i64 v.cp)).setCell ⟨N1, 1, none⟩ (.int .i64 v.se)).setCell ⟨N1, 2, none⟩ (.slice M.ia M.i M.ic)).setCell ⟨N1, 3, none⟩ (.int .i64 v.nx)).setCell ⟨N1, 4, none⟩ (.slice (some ⟨g, 0, none⟩) M.s M.sc)).setCell ⟨N1, 5, none⟩ (.slice M.la M.l M.lc)).setCell ⟨N1, 6, none⟩ (.slice M.ga M.g M.gc)).setCell ⟨N1, 7, none⟩ (.bool false)).setCell ⟨N2, 0, none⟩ (.int .i64 0)).setCell ⟨N2, 1, none⟩ (.int .i64 0)).setCell ⟨N2, 2, none⟩ (.int .i64 0)).setCell ⟨N2, 3, none⟩ (.string ⟨#[]⟩)).setCell ⟨N2, 4, none⟩ (.int .i64 0)).setCell ⟨N2, 5, none⟩ (.int .i64 0)) = Z := ⟨_, rfl⟩
     have hZ2 : Zz = setL (setL Y N1 0 [.int .i64 v.cp, .int .i64 v.se, .slice M.ia M.i M.ic, .int .i64 v.nx, .slice (some ⟨g, 0, none⟩) M.s M.sc, .slice M.la M.l M.lc, .slice M.ga M.g M.gc, .bool false]) N2 0 [.int .i64 0, .int .i64 0, .int .i64 0, .string ⟨#[]⟩, .int .i64 0, .int .i64 0] := by rw [← hZ]; rfl
     have XZ0 : BoxL N1 [.int .i64 v.cp, .int .i64 v.se, .slice M.ia M.i M.ic, .int .i64 v.nx, .slice (some ⟨g, 0, none⟩) M.s M.sc, .slice M.la M.l M.lc, .slice M.ga M.g M.gc, .bool false] Zz := by rw [hZ2]; exact (RY.setAll (us := [.int .i64 v.cp, .int .i64 v.se, .slice M.ia M.i M.ic, .int .i64 v.nx, .slice (some ⟨g, 0, none⟩) M.s M.sc, .slice M.la M.l M.lc, .slice M.ga M.g M.gc, .bool false]) rfl).setFar HN12.out.1
     have TZ0 : BoxL N2 [.int .i64 0, .int .i64 0, .int .i64 0, .string ⟨#[]⟩, .int .i64 0, .int .i64 0] Zz := by rw [hZ2]; exact (TY.setFar HN12.out.2).setAll (us := [.int .i64 0, .int .i64 0, .int .i64 0, .string ⟨#[]⟩, .int .i64 0, .int .i64 0]) rfl
     have bZ0 : Below w.heap.size Y Zz := by rw [hZ2]; exact setL_below HNge.out.2 (setL_below HNge.out.1 (Below.refl _ _))
     have XZ : BoxL N1 [.int .i64 v.cp, .int .i64 v.se, .slice M.ia M.i M.ic, .int .i64 v.nx, .slice (some ⟨g, 0, none⟩) M.s M.sc, .slice M.la M.l M.lc, .slice M.ga M.g M.gc, .bool false] Zz := XZ0
     have TZ : BoxL N2 [.int .i64 0, .int .i64 0, .int .i64 0, .string ⟨#[]⟩, .int .i64 0, .int .i64 0] Zz := TZ0
     have bZ : Below w.heap.size Y Zz := bZ0
     obtain ⟨t0, t1, t2, t3, t4, t5, t6, t7⟩ := box8 XZ
     obtain ⟨o0, o1, o2, o3, o4, o5⟩ := box6 TZ
     have HBZ := hidOf bZ
     clear hZ2 XZ TZ XZ0 TZ0 bZ0 RY TY AY SY bZ
     go_wp2_with fail
     clear hZ
     exact bodyPost_ret (v := .tuple #[.agg #[.int .i64 v.cp, .int .i64 v.se, .slice M.ia M.i M.ic, .int .i64 v.nx, .slice (some ⟨g, 0, none⟩) M.s M.sc, .slice M.la M.l M.lc, .slice M.ga M.g M.gc, .bool false], .agg #[.int .i64 0, .int .i64 0, .int .i64 0, .string ⟨#[]⟩, .int .i64 0, .int .i64 0], .int .i64 4]) (by simp [results, Tryz.results104, go_sem, t0, t1, t2, t3, t4, t5, t6, t7, o0, o1, o2, o3, o4, o5]) rfl (RdP.mk HR.out HG.out HKX.out HBU.out (by rw [HX.out, ← HY2.out]; exact HBZ.out) (by rw [HX.out]; rfl) (s' := passS x.s j) (td := Td0) (c := 4) (by rw [HSV.out]; exact (show readS v x.s = passS x.s j ∧ readT v x.s = Td0 ∧ readC v x.s = 4 by have h := HNo2.out; rw [HCL.out] at h; exact h).1) (by rw [HSV.out]; exact (show readS v x.s = passS x.s j ∧ readT v x.s = Td0 ∧ readC v x.s = 4 by have h := HNo2.out; rw [HCL.out] at h; exact h).2.1) (by rw [HSV.out]; exact (show readS v x.s = passS x.s j ∧ readT v x.s = Td0 ∧ readC v x.s = 4 by have h := HNo2.out; rw [HCL.out] at h; exact h).2.2) (by rw [HG.out, HCL.out] <;> rfl))
    ·have HCL := hidOf hcl
     clear hcl
     go_upto_region 17 with fail
     clear s2 p1
     have HBU := hidOf hL.bel
     have hsbU : wr.ownsRow B 41 7 (.slice (some ⟨g, 0, none⟩) M.s M.sc) M.s (sflat M.xs) := by have h := (HR.out.keep HBU.out).sb; rw [HG.out] at h; exact h
     have c0 : wr.cell? ⟨g, k * 7, none⟩ = some (.int .i64 x.s.id) := by have h := row_cell hsbU HKX.out (r := 0) (by omega); rw [HX.out] at h; exact h
     have c1 : wr.cell? ⟨g, k * 7 + 1, none⟩ = some (.int .i64 x.s.st) := by have h := row_cell hsbU HKX.out (r := 1) (by omega); rw [HX.out] at h; exact h
     have c2 : wr.cell? ⟨g, k * 7 + 2, none⟩ = some (.int .i64 x.s.cu) := by have h := row_cell hsbU HKX.out (r := 2) (by omega); rw [HX.out] at h; exact h
     have c3 : wr.cell? ⟨g, k * 7 + 3, none⟩ = some (.int .i64 x.s.gt) := by have h := row_cell hsbU HKX.out (r := 3) (by omega); rw [HX.out] at h; exact h
     have c4 : wr.cell? ⟨g, k * 7 + 4, none⟩ = some (.int .i64 x.s.lo) := by have h := row_cell hsbU HKX.out (r := 4) (by omega); rw [HX.out] at h; exact h
     have c5 : wr.cell? ⟨g, k * 7 + 5, none⟩ = some (.int .i64 x.s.pa) := by have h := row_cell hsbU HKX.out (r := 5) (by omega); rw [HX.out] at h; exact h
     have c6 : wr.cell? ⟨g, k * 7 + 6, none⟩ = some (.slice x.a x.n x.c) := by have h := row_cell hsbU HKX.out (r := 6) (by omega); rw [HX.out] at h; exact h
     have fg := fun o => World.ownsRow.frozenAt hsbU o
     have p4 : wr.cell? ⟨w.heap.size, 4, none⟩ = some (.slice (some ⟨g, 0, none⟩) M.s M.sc) := hL.bA.cs 4 (by simp)
     have s0 : wr.cell? ⟨NS, 0, none⟩ = some (.int .i64 x.s.id) := hL.bS.cs 0 (by simp)
     have s1 : wr.cell? ⟨NS, 1, none⟩ = some (.int .i64 x.s.st) := hL.bS.cs 1 (by simp)
     have s2 : wr.cell? ⟨NS, 2, none⟩ = some (.int .i64 (x.s.cu + (j : Int))) := hL.bS.cs 2 (by simp)
     have s3 : wr.cell? ⟨NS, 3, none⟩ = some (.int .i64 (x.s.gt)) := hL.bS.cs 3 (by simp)
     have s4 : wr.cell? ⟨NS, 4, none⟩ = some (.int .i64 (x.s.lo)) := hL.bS.cs 4 (by simp)
     have s5 : wr.cell? ⟨NS, 5, none⟩ = some (.int .i64 (x.s.pa + (j : Int))) := hL.bS.cs 5 (by simp)
     have s6 : wr.cell? ⟨NS, 6, none⟩ = some (.slice x.a x.n x.c) := hL.bS.cs 6 (by simp)
     obtain ⟨Y, hY⟩ : ∃ Y, (((((((wr.setCell ⟨g, k * 7, none⟩ (.int .i64 x.s.id)).setCell ⟨g, k * 7 + 1, none⟩ (.int .i64 x.s.st)).setCell ⟨g, k * 7 + 2, none⟩ (.int .i64 (x.s.cu + (j : Int)))).setCell ⟨g, k * 7 + 3, none⟩ (.int .i64 (x.s.gt))).setCell ⟨g, k * 7 + 4, none⟩ (.int .i64 (x.s.lo))).setCell ⟨g, k * 7 + 5, none⟩ (.int .i64 (x.s.pa + (j : Int)))).setCell ⟨g, k * 7 + 6, none⟩ (.slice x.a x.n x.c)) = Y := ⟨_, rfl⟩
     have hY2 : Y = setL wr g (k * 7) (sC ⟨passS x.s j, x.a, x.n, x.c⟩) := by rw [← hY]; rfl
     have grY : wr.grownBy Y (some g) := by rw [hY2]; exact setL_grown ⟨rfl, rfl, rfl, Nat.le_refl _, fun _ _ _ => rfl⟩
     have AY := hL.bA.grown grY (fun e => HGn.out.1 (by injection e))
     have RY := hL.bR.grown grY (fun e => HGn.out.2.1 (by injection e))
     have TY := hL.bT.grown grY (fun e => HGn.out.2.2.1 (by injection e))
     have SY := hL.bS.grown grY (fun e => HGn.out.2.2.2 (by injection e))
     have HY2 := hidOf hY2
     clear hY2 grY hsbU
     go_upto_region 18 with fail
     try rw [hY]
     clear hY c0 c1 c2 c3 c4 c5 c6 s0 s1 s2 s3 s4 s5 s6 p4 fg
     have p0 : Y.cell? ⟨w.heap.size, 0, none⟩ = some (.int .i64 v.cp) := by have h := AY.cs 0 (by simp); exact h
     have p1 : Y.cell? ⟨w.heap.size, 1, none⟩ = some (.int .i64 v.se) := by have h := AY.cs 1 (by simp); exact h
     have p2 : Y.cell? ⟨w.heap.size, 2, none⟩ = some (.slice M.ia M.i M.ic) := by have h := AY.cs 2 (by simp); exact h
     have p3 : Y.cell? ⟨w.heap.size, 3, none⟩ = some (.int .i64 v.nx) := by have h := AY.cs 3 (by simp); exact h
     have p4 : Y.cell? ⟨w.heap.size, 4, none⟩ = some (.slice (some ⟨g, 0, none⟩) M.s M.sc) := by have h := AY.cs 4 (by simp); exact h
     have p5 : Y.cell? ⟨w.heap.size, 5, none⟩ = some (.slice M.la M.l M.lc) := by have h := AY.cs 5 (by simp); exact h
     have p6 : Y.cell? ⟨w.heap.size, 6, none⟩ = some (.slice M.ga M.g M.gc) := by have h := AY.cs 6 (by simp); exact h
     have p7 : Y.cell? ⟨w.heap.size, 7, none⟩ = some (.bool true) := by have h := AY.cs 7 (by simp); rw [← HCL.out]; exact h
     obtain ⟨r0, r1, r2, r3, r4, r5, r6, r7⟩ := box8 RY
     have rf := RY.fr
     obtain ⟨u0, u1, u2, u3, u4, u5⟩ := box6 TY
     have uf := TY.fr
     obtain ⟨Zz, hZ⟩ : ∃ Z, ((((((((((((((Y.setCell ⟨N1, 0, none⟩ (.int .i64 v.cp)).setCell ⟨N1, 1, none⟩ (.int .i64 v.se)).setCell ⟨N1, 2, none⟩ (.slice M.ia M.i M.ic)).setCell ⟨N1, 3, none⟩ (.int .i64 v.nx)).setCell ⟨N1, 4, none⟩ (.slice (some ⟨g, 0, none⟩) M.s M.sc)).setCell ⟨N1, 5, none⟩ (.slice M.la M.l M.lc)).setCell ⟨N1, 6, none⟩ (.slice M.ga M.g M.gc)).setCell ⟨N1, 7, none⟩ (.bool true)).setCell ⟨N2, 0, none⟩ (.int .i64 0)).setCell ⟨N2, 1, none⟩ (.int .i64 0)).setCell ⟨N2, 2, none⟩ (.int .i64 0)).setCell ⟨N2, 3, none⟩ (.string ⟨#[]⟩)).setCell ⟨N2, 4, none⟩ (.int .i64 0)).setCell ⟨N2, 5, none⟩ (.int .i64 0)) = Z := ⟨_, rfl⟩
     have hZ2 : Zz = setL (setL Y N1 0 [.int .i64 v.cp, .int .i64 v.se, .slice M.ia M.i M.ic, .int .i64 v.nx, .slice (some ⟨g, 0, none⟩) M.s M.sc, .slice M.la M.l M.lc, .slice M.ga M.g M.gc, .bool true]) N2 0 [.int .i64 0, .int .i64 0, .int .i64 0, .string ⟨#[]⟩, .int .i64 0, .int .i64 0] := by rw [← hZ]; rfl
     have XZ0 : BoxL N1 [.int .i64 v.cp, .int .i64 v.se, .slice M.ia M.i M.ic, .int .i64 v.nx, .slice (some ⟨g, 0, none⟩) M.s M.sc, .slice M.la M.l M.lc, .slice M.ga M.g M.gc, .bool true] Zz := by rw [hZ2]; exact (RY.setAll (us := [.int .i64 v.cp, .int .i64 v.se, .slice M.ia M.i M.ic, .int .i64 v.nx, .slice (some ⟨g, 0, none⟩) M.s M.sc, .slice M.la M.l M.lc, .slice M.ga M.g M.gc, .bool true]) rfl).setFar HN12.out.1
     have TZ0 : BoxL N2 [.int .i64 0, .int .i64 0, .int .i64 0, .string ⟨#[]⟩, .int .i64 0, .int .i64 0] Zz := by rw [hZ2]; exact (TY.setFar HN12.out.2).setAll (us := [.int .i64 0, .int .i64 0, .int .i64 0, .string ⟨#[]⟩, .int .i64 0, .int .i64 0]) rfl
     have bZ0 : Below w.heap.size Y Zz := by rw [hZ2]; exact setL_below HNge.out.2 (setL_below HNge.out.1 (Below.refl _ _))
     have XZ : BoxL N1 [.int .i64 v.cp, .int .i64 v.se, .slice M.ia M.i M.ic, .int .i64 v.nx, .slice (some ⟨g, 0, none⟩) M.s M.sc, .slice M.la M.l M.lc, .slice M.ga M.g M.gc, .bool true] Zz := XZ0
     have TZ : BoxL N2 [.int .i64 0, .int .i64 0, .int .i64 0, .string ⟨#[]⟩, .int .i64 0, .int .i64 0] Zz := TZ0
     have bZ : Below w.heap.size Y Zz := bZ0
     obtain ⟨t0, t1, t2, t3, t4, t5, t6, t7⟩ := box8 XZ
     obtain ⟨o0, o1, o2, o3, o4, o5⟩ := box6 TZ
     have HBZ := hidOf bZ
     clear hZ2 XZ TZ XZ0 TZ0 bZ0 RY TY AY SY bZ
     go_wp2_with fail
     clear hZ
     exact bodyPost_ret (v := .tuple #[.agg #[.int .i64 v.cp, .int .i64 v.se, .slice M.ia M.i M.ic, .int .i64 v.nx, .slice (some ⟨g, 0, none⟩) M.s M.sc, .slice M.la M.l M.lc, .slice M.ga M.g M.gc, .bool true], .agg #[.int .i64 0, .int .i64 0, .int .i64 0, .string ⟨#[]⟩, .int .i64 0, .int .i64 0], .int .i64 6]) (by simp [results, Tryz.results104, go_sem, t0, t1, t2, t3, t4, t5, t6, t7, o0, o1, o2, o3, o4, o5]) rfl (RdP.mk HR.out HG.out HKX.out HBU.out (by rw [HX.out, ← HY2.out]; exact HBZ.out) (by rw [HX.out]; rfl) (s' := passS x.s j) (td := Td0) (c := 6) (by rw [HSV.out]; exact (show readS v x.s = passS x.s j ∧ readT v x.s = Td0 ∧ readC v x.s = 6 by have h := HNo2.out; rw [HCL.out] at h; exact h).1) (by rw [HSV.out]; exact (show readS v x.s = passS x.s j ∧ readT v x.s = Td0 ∧ readC v x.s = 6 by have h := HNo2.out; rw [HCL.out] at h; exact h).2.1) (by rw [HSV.out]; exact (show readS v x.s = passS x.s j ∧ readT v x.s = Td0 ∧ readC v x.s = 6 by have h := HNo2.out; rw [HCL.out] at h; exact h).2.2) (by rw [HG.out, HCL.out] <;> rfl))
end Go.Proofs.YtdboaoejlkkoeaaGreat
