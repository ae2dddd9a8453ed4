/-
  The program's SkipTo
-/
import Derived.Test.YtihdglmiecifjaaGreatZRs39
namespace Go.Proofs.YtihdglmiecifjaaGreat
open Go.RowKit Go.Maps Pl Il
set_option maxRecDepth 100000 in
set_option maxHeartbeats 16000000 in
theorem implSkip_any : SkipDone 43 := by
 intro M v id num w hI hm1 hcap hw hid hnum
 have hm := hm1.mono (k' := 2097152) (by omega)
 obtain ⟨U0, hU0⟩ : ∃ W, W = (w.alloc (.cells #[.int .i64 v.cp, .int .i64 v.se, .slice M.ia M.i M.ic, .int .i64 v.nx, .slice M.sa M.s M.sc, .slice M.la M.l M.lc, .slice M.ga M.g M.gc, .bool v.cl] 28)).alloc (.cells #[.int .i64 0, .int .i64 0, .slice none 0 0, .int .i64 0, .slice none 0 0, .slice none 0 0, .slice none 0 0, .bool false] 28) := ⟨_, rfl⟩
 have B0 : Below w.heap.size w U0 := by rw [hU0]; exact bl_alloc (bl_alloc (Below.refl _ _) _) _
 have z0 : U0.heap.size = w.heap.size + 2 := by rw [hU0]; simp
 have A0 : BoxL w.heap.size (rC M v) U0 := by rw [hU0]; exact (BoxL.new w (rC M v) _).alloc _
 have R0 : BoxL (w.heap.size + 1) [.int .i64 0, .int .i64 0, .slice none 0 0, .int .i64 0, .slice none 0 0, .slice none 0 0, .slice none 0 0, .bool false] U0 := by
  rw [hU0]
  have h := BoxL.new (w.alloc (.cells (rC M v).toArray 28)) [.int .i64 0, .int .i64 0, .slice none 0 0, .int .i64 0, .slice none 0 0, .slice none 0 0, .slice none 0 0, .bool false] 28
  simpa using h
 have HK := hidOf (bodyToRead_any M v id U0 (hI.keep B0) hm1 hcap hw hid)
 have p0 := A0.cs 0 (by simp)
 have p1 := A0.cs 1 (by simp)
 have p2 := A0.cs 2 (by simp)
 have p3 := A0.cs 3 (by simp)
 have p4 := A0.cs 4 (by simp)
 have p5 := A0.cs 5 (by simp)
 have p6 := A0.cs 6 (by simp)
 have p7 := A0.cs 7 (by simp)
 simp at p0 p1 p2 p3 p4 p5 p6 p7
 have HI := hidOf hI
 have HM := hidOf hm
 have HCap := hidOf hcap
 clear hI hm hm1 hcap hw hid hnum
 go_enter Tryz.func43, Tryz.ntmps43
 go_upto_region 1 with fail
 rw [← hU0]
 clear hU0
 go_wp2_with fail
 refine (HK.out).mono ?_
 rintro e w1 hbt
 clear HK p0 p1 p2 p3 p4 p5 p6 p7
 rcases hbt with ⟨hq, rfl, b1⟩ | ⟨hq, hat, rfl, b1⟩ | ⟨hq, hat, hhas, rfl, b1⟩ | ⟨hq, hat, hhas, b, A, P, f, sa, sc, ys, rfl, body, hAn, hAn', hyn, b1⟩
 all_goals
  have A1 := A0.keep b1
  have R1 := R0.keep b1
  have B1 := bl_trans B0 b1
  have hs1 : w.heap.size + 2 ≤ w1.heap.size := by have := b1.size; omega
  have HZ0 := hidOf z0
  clear A0 R0 B0 z0
 ·have HQ := hidOf hq
  clear hq b1
  have p0 := A1.cs 0 (by simp)
  have p1 := A1.cs 1 (by simp)
  have p2 := A1.cs 2 (by simp)
  have p3 := A1.cs 3 (by simp)
  have p4 := A1.cs 4 (by simp)
  have p5 := A1.cs 5 (by simp)
  have p6 := A1.cs 6 (by simp)
  have p7 := A1.cs 7 (by simp)
  simp at p0 p1 p2 p3 p4 p5 p6 p7
  have HE := hidOf (show RgP w (skipG v id num) (skipC v id num) = RgP w v 1 by
   unfold skipG skipC
   rw [if_neg (by rw [HQ.out]; simp), if_neg (by rw [HQ.out]; simp)])
  have HC := hidOf (copiedRing_any M v w1 (HI.out.keep B1) HM.out)
  go_wp2_with fail
  refine (HC.out).mono ?_
  rintro e w2 ⟨M2, rfl, row2, le2, b2⟩
  have row3 := row2.mono (B' := w.heap.size + 2) hs1
  have R2 := R1.keep b2
  have B2 := bl_trans B1 b2
  clear A1 R1 p0 p1 p2 p3 p4 p5 p6 p7
  have r0 := R2.cs 0 (by simp)
  have r1 := R2.cs 1 (by simp)
  have r2 := R2.cs 2 (by simp)
  have r3 := R2.cs 3 (by simp)
  have r4 := R2.cs 4 (by simp)
  have r5 := R2.cs 5 (by simp)
  have r6 := R2.cs 6 (by simp)
  have r7 := R2.cs 7 (by simp)
  have rf := R2.fr
  simp at r0 r1 r2 r3 r4 r5 r6 r7
  obtain ⟨Z, hZ⟩ : ∃ Z, ((((((((w2.setCell ⟨w.heap.size + 1, 0, none⟩ (.int .i64 v.cp)).setCell ⟨w.heap.size + 1, 1, none⟩ (.int .i64 v.se)).setCell ⟨w.heap.size + 1, 2, none⟩ (.slice M2.ia M2.i M2.ic)).setCell ⟨w.heap.size + 1, 3, none⟩ (.int .i64 v.nx)).setCell ⟨w.heap.size + 1, 4, none⟩ (.slice M2.sa M2.s M2.sc)).setCell ⟨w.heap.size + 1, 5, none⟩ (.slice M2.la M2.l M2.lc)).setCell ⟨w.heap.size + 1, 6, none⟩ (.slice M2.ga M2.g M2.gc)).setCell ⟨w.heap.size + 1, 7, none⟩ (.bool v.cl)) = Z := ⟨_, rfl⟩
  have hZ2 : Z = setL w2 (w.heap.size + 1) 0 [.int .i64 v.cp, .int .i64 v.se, .slice M2.ia M2.i M2.ic, .int .i64 v.nx, .slice M2.sa M2.s M2.sc, .slice M2.la M2.l M2.lc, .slice M2.ga M2.g M2.gc, .bool v.cl] := by rw [← hZ]; rfl
  have XZ : BoxL (w.heap.size + 1) [.int .i64 v.cp, .int .i64 v.se, .slice M2.ia M2.i M2.ic, .int .i64 v.nx, .slice M2.sa M2.s M2.sc, .slice M2.la M2.l M2.lc, .slice M2.ga M2.g M2.gc, .bool v.cl] Z := by
   rw [← hZ]
   exact ((((((((R2.set 0 (by simp) _).set 1 (by simp) _).set 2 (by simp) _).set 3 (by simp) _).set 4 (by simp) _).set 5 (by simp) _).set 6 (by simp) _).set 7 (by simp) _)
  have HRZ := hidOf (show ROwn w.heap.size Z M2 v by
   rw [hZ2]
   exact ((row3.grown (setL_grown ⟨rfl, rfl, rfl, Nat.le_refl _, fun _ _ _ => rfl⟩) (row3.out (by omega))).mono (B' := w.heap.size) (by omega)).own)
  have HBZ := hidOf (show Below w.heap.size w Z by rw [hZ2]; exact setL_below (by omega) B2)
  have HLZ := hidOf (show RLe M2 2097152 from le2 _ HM.out)
  have t0 := XZ.cs 0 (by simp)
  have t1 := XZ.cs 1 (by simp)
  have t2 := XZ.cs 2 (by simp)
  have t3 := XZ.cs 3 (by simp)
  have t4 := XZ.cs 4 (by simp)
  have t5 := XZ.cs 5 (by simp)
  have t6 := XZ.cs 6 (by simp)
  have t7 := XZ.cs 7 (by simp)
  simp at t0 t1 t2 t3 t4 t5 t6 t7
  clear hZ2 XZ R2
  go_wp2_with fail
  clear hZ
  exact bodyPost_ret (v := .tuple #[.agg #[.int .i64 v.cp, .int .i64 v.se, .slice M2.ia M2.i M2.ic, .int .i64 v.nx, .slice M2.sa M2.s M2.sc, .slice M2.la M2.l M2.lc, .slice M2.ga M2.g M2.gc, .bool v.cl], .int .i64 1]) (by simp [results, Tryz.results43, go_sem, t0, t1, t2, t3, t4, t5, t6, t7]) rfl (show RgP w (skipG v id num) (skipC v id num) _ _ by rw [HE.out]; exact ⟨M2, rfl, HRZ.out, HLZ.out, HBZ.out⟩)
 ·have HQ := hidOf hq
  have HA := hidOf hat
  clear hq hat b1
  have p0 := A1.cs 0 (by simp)
  have p1 := A1.cs 1 (by simp)
  have p2 := A1.cs 2 (by simp)
  have p3 := A1.cs 3 (by simp)
  have p4 := A1.cs 4 (by simp)
  have p5 := A1.cs 5 (by simp)
  have p6 := A1.cs 6 (by simp)
  have p7 := A1.cs 7 (by simp)
  simp at p0 p1 p2 p3 p4 p5 p6 p7
  have HE := hidOf (show RgP w (skipG v id num) (skipC v id num) = RgP w v 3 by
   unfold skipG skipC
   rw [if_pos HQ.out, if_pos HQ.out, if_pos HA.out, if_pos HA.out])
  have HC := hidOf (copiedRing_any M v w1 (HI.out.keep B1) HM.out)
  go_wp2_with fail
  refine (HC.out).mono ?_
  rintro e w2 ⟨M2, rfl, row2, le2, b2⟩
  have row3 := row2.mono (B' := w.heap.size + 2) hs1
  have R2 := R1.keep b2
  have B2 := bl_trans B1 b2
  clear A1 R1 p0 p1 p2 p3 p4 p5 p6 p7
  have r0 := R2.cs 0 (by simp)
  have r1 := R2.cs 1 (by simp)
  have r2 := R2.cs 2 (by simp)
  have r3 := R2.cs 3 (by simp)
  have r4 := R2.cs 4 (by simp)
  have r5 := R2.cs 5 (by simp)
  have r6 := R2.cs 6 (by simp)
  have r7 := R2.cs 7 (by simp)
  have rf := R2.fr
  simp at r0 r1 r2 r3 r4 r5 r6 r7
  obtain ⟨Z, hZ⟩ : ∃ Z, ((((((((w2.setCell ⟨w.heap.size + 1, 0, none⟩ (.int .i64 v.cp)).setCell ⟨w.heap.size + 1, 1, none⟩ (.int .i64 v.se)).setCell ⟨w.heap.size + 1, 2, none⟩ (.slice M2.ia M2.i M2.ic)).setCell ⟨w.heap.size + 1, 3, none⟩ (.int .i64 v.nx)).setCell ⟨w.heap.size + 1, 4, none⟩ (.slice M2.sa M2.s M2.sc)).setCell ⟨w.heap.size + 1, 5, none⟩ (.slice M2.la M2.l M2.lc)).setCell ⟨w.heap.size + 1, 6, none⟩ (.slice M2.ga M2.g M2.gc)).setCell ⟨w.heap.size + 1, 7, none⟩ (.bool v.cl)) = Z := ⟨_, rfl⟩
  have hZ2 : Z = setL w2 (w.heap.size + 1) 0 [.int .i64 v.cp, .int .i64 v.se, .slice M2.ia M2.i M2.ic, .int .i64 v.nx, .slice M2.sa M2.s M2.sc, .slice M2.la M2.l M2.lc, .slice M2.ga M2.g M2.gc, .bool v.cl] := by rw [← hZ]; rfl
  have XZ : BoxL (w.heap.size + 1) [.int .i64 v.cp, .int .i64 v.se, .slice M2.ia M2.i M2.ic, .int .i64 v.nx, .slice M2.sa M2.s M2.sc, .slice M2.la M2.l M2.lc, .slice M2.ga M2.g M2.gc, .bool v.cl] Z := by
   rw [← hZ]
   exact ((((((((R2.set 0 (by simp) _).set 1 (by simp) _).set 2 (by simp) _).set 3 (by simp) _).set 4 (by simp) _).set 5 (by simp) _).set 6 (by simp) _).set 7 (by simp) _)
  have HRZ := hidOf (show ROwn w.heap.size Z M2 v by
   rw [hZ2]
   exact ((row3.grown (setL_grown ⟨rfl, rfl, rfl, Nat.le_refl _, fun _ _ _ => rfl⟩) (row3.out (by omega))).mono (B' := w.heap.size) (by omega)).own)
  have HBZ := hidOf (show Below w.heap.size w Z by rw [hZ2]; exact setL_below (by omega) B2)
  have HLZ := hidOf (show RLe M2 2097152 from le2 _ HM.out)
  have t0 := XZ.cs 0 (by simp)
  have t1 := XZ.cs 1 (by simp)
  have t2 := XZ.cs 2 (by simp)
  have t3 := XZ.cs 3 (by simp)
  have t4 := XZ.cs 4 (by simp)
  have t5 := XZ.cs 5 (by simp)
  have t6 := XZ.cs 6 (by simp)
  have t7 := XZ.cs 7 (by simp)
  simp at t0 t1 t2 t3 t4 t5 t6 t7
  clear hZ2 XZ R2
  go_wp2_with fail
  clear hZ
  exact bodyPost_ret (v := .tuple #[.agg #[.int .i64 v.cp, .int .i64 v.se, .slice M2.ia M2.i M2.ic, .int .i64 v.nx, .slice M2.sa M2.s M2.sc, .slice M2.la M2.l M2.lc, .slice M2.ga M2.g M2.gc, .bool v.cl], .int .i64 3]) (by simp [results, Tryz.results43, go_sem, t0, t1, t2, t3, t4, t5, t6, t7]) rfl (show RgP w (skipG v id num) (skipC v id num) _ _ by rw [HE.out]; exact ⟨M2, rfl, HRZ.out, HLZ.out, HBZ.out⟩)
 ·have HQ := hidOf hq
  have HA := hidOf hat
  have HH := hidOf hhas
  clear hq hat hhas b1
  have p0 := A1.cs 0 (by simp)
  have p1 := A1.cs 1 (by simp)
  have p2 := A1.cs 2 (by simp)
  have p3 := A1.cs 3 (by simp)
  have p4 := A1.cs 4 (by simp)
  have p5 := A1.cs 5 (by simp)
  have p6 := A1.cs 6 (by simp)
  have p7 := A1.cs 7 (by simp)
  simp at p0 p1 p2 p3 p4 p5 p6 p7
  have HE := hidOf (show RgP w (skipG v id num) (skipC v id num) = RgP w v 5 by
   unfold skipG skipC
   rw [if_pos HQ.out, if_pos HQ.out, if_neg HA.out, if_neg HA.out, if_pos HH.out, if_pos HH.out])
  have HC := hidOf (copiedRing_any M v w1 (HI.out.keep B1) HM.out)
  go_wp2_with fail
  refine (HC.out).mono ?_
  rintro e w2 ⟨M2, rfl, row2, le2, b2⟩
  have row3 := row2.mono (B' := w.heap.size + 2) hs1
  have R2 := R1.keep b2
  have B2 := bl_trans B1 b2
  clear A1 R1 p0 p1 p2 p3 p4 p5 p6 p7
  have r0 := R2.cs 0 (by simp)
  have r1 := R2.cs 1 (by simp)
  have r2 := R2.cs 2 (by simp)
  have r3 := R2.cs 3 (by simp)
  have r4 := R2.cs 4 (by simp)
  have r5 := R2.cs 5 (by simp)
  have r6 := R2.cs 6 (by simp)
  have r7 := R2.cs 7 (by simp)
  have rf := R2.fr
  simp at r0 r1 r2 r3 r4 r5 r6 r7
  obtain ⟨Z, hZ⟩ : ∃ Z, ((((((((w2.setCell ⟨w.heap.size + 1, 0, none⟩ (.int .i64 v.cp)).setCell ⟨w.heap.size + 1, 1, none⟩ (.int .i64 v.se)).setCell ⟨w.heap.size + 1, 2, none⟩ (.slice M2.ia M2.i M2.ic)).setCell ⟨w.heap.size + 1, 3, none⟩ (.int .i64 v.nx)).setCell ⟨w.heap.size + 1, 4, none⟩ (.slice M2.sa M2.s M2.sc)).setCell ⟨w.heap.size + 1, 5, none⟩ (.slice M2.la M2.l M2.lc)).setCell ⟨w.heap.size + 1, 6, none⟩ (.slice M2.ga M2.g M2.gc)).setCell ⟨w.heap.size + 1, 7, none⟩ (.bool v.cl)) = Z := ⟨_, rfl⟩
  have hZ2 : Z = setL w2 (w.heap.size + 1) 0 [.int .i64 v.cp, .int .i64 v.se, .slice M2.ia M2.i M2.ic, .int .i64 v.nx, .slice M2.sa M2.s M2.sc, .slice M2.la M2.l M2.lc, .slice M2.ga M2.g M2.gc, .bool v.cl] := by rw [← hZ]; rfl
  have XZ : BoxL (w.heap.size + 1) [.int .i64 v.cp, .int .i64 v.se, .slice M2.ia M2.i M2.ic, .int .i64 v.nx, .slice M2.sa M2.s M2.sc, .slice M2.la M2.l M2.lc, .slice M2.ga M2.g M2.gc, .bool v.cl] Z := by
   rw [← hZ]
   exact ((((((((R2.set 0 (by simp) _).set 1 (by simp) _).set 2 (by simp) _).set 3 (by simp) _).set 4 (by simp) _).set 5 (by simp) _).set 6 (by simp) _).set 7 (by simp) _)
  have HRZ := hidOf (show ROwn w.heap.size Z M2 v by
   rw [hZ2]
   exact ((row3.grown (setL_grown ⟨rfl, rfl, rfl, Nat.le_refl _, fun _ _ _ => rfl⟩) (row3.out (by omega))).mono (B' := w.heap.size) (by omega)).own)
  have HBZ := hidOf (show Below w.heap.size w Z by rw [hZ2]; exact setL_below (by omega) B2)
  have HLZ := hidOf (show RLe M2 2097152 from le2 _ HM.out)
  have t0 := XZ.cs 0 (by simp)
  have t1 := XZ.cs 1 (by simp)
  have t2 := XZ.cs 2 (by simp)
  have t3 := XZ.cs 3 (by simp)
  have t4 := XZ.cs 4 (by simp)
  have t5 := XZ.cs 5 (by simp)
  have t6 := XZ.cs 6 (by simp)
  have t7 := XZ.cs 7 (by simp)
  simp at t0 t1 t2 t3 t4 t5 t6 t7
  clear hZ2 XZ R2
  go_wp2_with fail
  clear hZ
  exact bodyPost_ret (v := .tuple #[.agg #[.int .i64 v.cp, .int .i64 v.se, .slice M2.ia M2.i M2.ic, .int .i64 v.nx, .slice M2.sa M2.s M2.sc, .slice M2.la M2.l M2.lc, .slice M2.ga M2.g M2.gc, .bool v.cl], .int .i64 5]) (by simp [results, Tryz.results43, go_sem, t0, t1, t2, t3, t4, t5, t6, t7]) rfl (show RgP w (skipG v id num) (skipC v id num) _ _ by rw [HE.out]; exact ⟨M2, rfl, HRZ.out, HLZ.out, HBZ.out⟩)
 ·have HQ := hidOf hq
  have HA := hidOf hat
  have HH := hidOf hhas
  obtain ⟨hlt, hk⟩ := at_lt hat
  obtain ⟨k, hkk⟩ : ∃ k, (atR v.sb id).toNat = k := ⟨_, rfl⟩
  rw [hkk] at hlt hk
  have HKK := hidOf hkk
  obtain ⟨g, rfl, hsl, hky⟩ := body.sub_row hlt
  have hhd := ok_head HQ.out
  have hnm := ok_nums HQ.out hlt
  have HS := hidOf (sub_any U0.heap.size b A P f v g M.s sc ys id w1 body HM.out.s k hk (by omega))
  obtain ⟨x, hxx⟩ : ∃ x, sg ys k = x := ⟨_, rfl⟩
  have hsx : v.sb.getD k Sb0 = x.s := by rw [← body.sv, sg_svs2 hky, hxx]
  rw [hsx] at hnm
  have HX := hidOf hxx
  have HSX := hidOf hsx
  have HBo := hidOf body
  have HHd := hidOf hhd
  have HLt := hidOf hlt
  have HAn := hidOf (And.intro hAn hAn')
  have HSl := hidOf hsl
  clear hq hat hhas hkk hxx hsx body hhd hlt hAn hAn' hsl hk
  go_wp2_with fail
  refine (HS.out).mono ?_
  rintro e w2 ⟨rfl, b2⟩
  have body2 := HBo.out.keep b2
  have A2 := A1.keep b2
  have R2 := R1.keep b2
  have B2 := bl_trans B1 b2
  have c2 : w2.cell? ⟨g, k * 7 + 2, none⟩ = some (.int .i64 x.s.cu) := by rw [row_cell body2.srow.sb hky (by omega), HX.out]; rfl
  have hs2 : w.heap.size + 2 ≤ w2.heap.size := by have := b2.size; omega
  have HB2 := hidOf body2
  clear A1 R1 B1 b1 HS body2 HBo
  have p0 := A2.cs 0 (by simp)
  have p1 := A2.cs 1 (by simp)
  have p2 := A2.cs 2 (by simp)
  have p3 := A2.cs 3 (by simp)
  have p4 := A2.cs 4 (by simp)
  have p5 := A2.cs 5 (by simp)
  have p6 := A2.cs 6 (by simp)
  have p7 := A2.cs 7 (by simp)
  simp at p0 p1 p2 p3 p4 p5 p6 p7
  by_cases hov : num < x.s.cu ∨ v.se < num
  ·have HE := hidOf (show RgP w (skipG v id num) (skipC v id num) = RgP w v 6 by
    unfold skipG skipC
    rw [HKK.out, HSX.out, if_pos HQ.out, if_pos HQ.out, if_neg (show ¬ atR v.sb id < 0 by have h := HA.out; omega), if_neg (show ¬ atR v.sb id < 0 by have h := HA.out; omega), if_neg (show ¬ (hasL v.ln id || hasL v.gs id) = true by rw [HH.out]; simp), if_neg (show ¬ (hasL v.ln id || hasL v.gs id) = true by rw [HH.out]; simp), if_pos hov, if_pos hov])
   have HC := hidOf (copiedRing_any M v w2 (HI.out.keep B2) HM.out)
   by_cases ho1 : num < x.s.cu
   ·have HOv := hidOf hov
    clear hov
    go_wp2_with fail
    refine (HC.out).mono ?_
    rintro e w3 ⟨M2, rfl, row2, le2, b3⟩
    have row3 := row2.mono (B' := w.heap.size + 2) hs2
    have R3 := R2.keep b3
    have B3 := bl_trans B2 b3
    clear A2 R2 p0 p1 p2 p3 p4 p5 p6 p7
    have r0 := R3.cs 0 (by simp)
    have r1 := R3.cs 1 (by simp)
    have r2 := R3.cs 2 (by simp)
    have r3 := R3.cs 3 (by simp)
    have r4 := R3.cs 4 (by simp)
    have r5 := R3.cs 5 (by simp)
    have r6 := R3.cs 6 (by simp)
    have r7 := R3.cs 7 (by simp)
    have rf := R3.fr
    simp at r0 r1 r2 r3 r4 r5 r6 r7
    obtain ⟨Z, hZ⟩ : ∃ Z, ((((((((w3.setCell ⟨w.heap.size + 1, 0, none⟩ (.int .i64 v.cp)).setCell ⟨w.heap.size + 1, 1, none⟩ (.int .i64 v.se)).setCell ⟨w.heap.size + 1, 2, none⟩ (.slice M2.ia M2.i M2.ic)).setCell ⟨w.heap.size + 1, 3, none⟩ (.int .i64 v.nx)).setCell ⟨w.heap.size + 1, 4, none⟩ (.slice M2.sa M2.s M2.sc)).setCell ⟨w.heap.size + 1, 5, none⟩ (.slice M2.la M2.l M2.lc)).setCell ⟨w.heap.size + 1, 6, none⟩ (.slice M2.ga M2.g M2.gc)).setCell ⟨w.heap.size + 1, 7, none⟩ (.bool v.cl)) = Z := ⟨_, rfl⟩
    have hZ2 : Z = setL w3 (w.heap.size + 1) 0 [.int .i64 v.cp, .int .i64 v.se, .slice M2.ia M2.i M2.ic, .int .i64 v.nx, .slice M2.sa M2.s M2.sc, .slice M2.la M2.l M2.lc, .slice M2.ga M2.g M2.gc, .bool v.cl] := by rw [← hZ]; rfl
    have XZ : BoxL (w.heap.size + 1) [.int .i64 v.cp, .int .i64 v.se, .slice M2.ia M2.i M2.ic, .int .i64 v.nx, .slice M2.sa M2.s M2.sc, .slice M2.la M2.l M2.lc, .slice M2.ga M2.g M2.gc, .bool v.cl] Z := by
     rw [← hZ]
     exact ((((((((R3.set 0 (by simp) _).set 1 (by simp) _).set 2 (by simp) _).set 3 (by simp) _).set 4 (by simp) _).set 5 (by simp) _).set 6 (by simp) _).set 7 (by simp) _)
    have HRZ := hidOf (show ROwn w.heap.size Z M2 v by
     rw [hZ2]
     exact ((row3.grown (setL_grown ⟨rfl, rfl, rfl, Nat.le_refl _, fun _ _ _ => rfl⟩) (row3.out (by omega))).mono (B' := w.heap.size) (by omega)).own)
    have HBZ := hidOf (show Below w.heap.size w Z by rw [hZ2]; exact setL_below (by omega) B3)
    have HLZ := hidOf (show RLe M2 2097152 from le2 _ HM.out)
    have t0 := XZ.cs 0 (by simp)
    have t1 := XZ.cs 1 (by simp)
    have t2 := XZ.cs 2 (by simp)
    have t3 := XZ.cs 3 (by simp)
    have t4 := XZ.cs 4 (by simp)
    have t5 := XZ.cs 5 (by simp)
    have t6 := XZ.cs 6 (by simp)
    have t7 := XZ.cs 7 (by simp)
    simp at t0 t1 t2 t3 t4 t5 t6 t7
    clear hZ2 XZ R3
    go_wp2_with fail
    clear hZ
    exact bodyPost_ret (v := .tuple #[.agg #[.int .i64 v.cp, .int .i64 v.se, .slice M2.ia M2.i M2.ic, .int .i64 v.nx, .slice M2.sa M2.s M2.sc, .slice M2.la M2.l M2.lc, .slice M2.ga M2.g M2.gc, .bool v.cl], .int .i64 6]) (by simp [results, Tryz.results43, go_sem, t0, t1, t2, t3, t4, t5, t6, t7]) rfl (show RgP w (skipG v id num) (skipC v id num) _ _ by rw [HE.out]; exact ⟨M2, rfl, HRZ.out, HLZ.out, HBZ.out⟩)
   ·have ho2 : v.se < num := by omega
    have HOv := hidOf hov
    clear hov
    go_wp2_with fail
    refine (HC.out).mono ?_
    rintro e w3 ⟨M2, rfl, row2, le2, b3⟩
    have row3 := row2.mono (B' := w.heap.size + 2) hs2
    have R3 := R2.keep b3
    have B3 := bl_trans B2 b3
    clear A2 R2 p0 p1 p2 p3 p4 p5 p6 p7
    have r0 := R3.cs 0 (by simp)
    have r1 := R3.cs 1 (by simp)
    have r2 := R3.cs 2 (by simp)
    have r3 := R3.cs 3 (by simp)
    have r4 := R3.cs 4 (by simp)
    have r5 := R3.cs 5 (by simp)
    have r6 := R3.cs 6 (by simp)
    have r7 := R3.cs 7 (by simp)
    have rf := R3.fr
    simp at r0 r1 r2 r3 r4 r5 r6 r7
    obtain ⟨Z, hZ⟩ : ∃ Z, ((((((((w3.setCell ⟨w.heap.size + 1, 0, none⟩ (.int .i64 v.cp)).setCell ⟨w.heap.size + 1, 1, none⟩ (.int .i64 v.se)).setCell ⟨w.heap.size + 1, 2, none⟩ (.slice M2.ia M2.i M2.ic)).setCell ⟨w.heap.size + 1, 3, none⟩ (.int .i64 v.nx)).setCell ⟨w.heap.size + 1, 4, none⟩ (.slice M2.sa M2.s M2.sc)).setCell ⟨w.heap.size + 1, 5, none⟩ (.slice M2.la M2.l M2.lc)).setCell ⟨w.heap.size + 1, 6, none⟩ (.slice M2.ga M2.g M2.gc)).setCell ⟨w.heap.size + 1, 7, none⟩ (.bool v.cl)) = Z := ⟨_, rfl⟩
    have hZ2 : Z = setL w3 (w.heap.size + 1) 0 [.int .i64 v.cp, .int .i64 v.se, .slice M2.ia M2.i M2.ic, .int .i64 v.nx, .slice M2.sa M2.s M2.sc, .slice M2.la M2.l M2.lc, .slice M2.ga M2.g M2.gc, .bool v.cl] := by rw [← hZ]; rfl
    have XZ : BoxL (w.heap.size + 1) [.int .i64 v.cp, .int .i64 v.se, .slice M2.ia M2.i M2.ic, .int .i64 v.nx, .slice M2.sa M2.s M2.sc, .slice M2.la M2.l M2.lc, .slice M2.ga M2.g M2.gc, .bool v.cl] Z := by
     rw [← hZ]
     exact ((((((((R3.set 0 (by simp) _).set 1 (by simp) _).set 2 (by simp) _).set 3 (by simp) _).set 4 (by simp) _).set 5 (by simp) _).set 6 (by simp) _).set 7 (by simp) _)
    have HRZ := hidOf (show ROwn w.heap.size Z M2 v by
     rw [hZ2]
     exact ((row3.grown (setL_grown ⟨rfl, rfl, rfl, Nat.le_refl _, fun _ _ _ => rfl⟩) (row3.out (by omega))).mono (B' := w.heap.size) (by omega)).own)
    have HBZ := hidOf (show Below w.heap.size w Z by rw [hZ2]; exact setL_below (by omega) B3)
    have HLZ := hidOf (show RLe M2 2097152 from le2 _ HM.out)
    have t0 := XZ.cs 0 (by simp)
    have t1 := XZ.cs 1 (by simp)
    have t2 := XZ.cs 2 (by simp)
    have t3 := XZ.cs 3 (by simp)
    have t4 := XZ.cs 4 (by simp)
    have t5 := XZ.cs 5 (by simp)
    have t6 := XZ.cs 6 (by simp)
    have t7 := XZ.cs 7 (by simp)
    simp at t0 t1 t2 t3 t4 t5 t6 t7
    clear hZ2 XZ R3
    go_wp2_with fail
    clear hZ
    exact bodyPost_ret (v := .tuple #[.agg #[.int .i64 v.cp, .int .i64 v.se, .slice M2.ia M2.i M2.ic, .int .i64 v.nx, .slice M2.sa M2.s M2.sc, .slice M2.la M2.l M2.lc, .slice M2.ga M2.g M2.gc, .bool v.cl], .int .i64 6]) (by simp [results, Tryz.results43, go_sem, t0, t1, t2, t3, t4, t5, t6, t7]) rfl (show RgP w (skipG v id num) (skipC v id num) _ _ by rw [HE.out]; exact ⟨M2, rfl, HRZ.out, HLZ.out, HBZ.out⟩)
  ·have ho1 : ¬ num < x.s.cu := by omega
   have ho2 : ¬ v.se < num := by omega
   obtain ⟨d, hd, ho, htr⟩ := skip_first (num := num) HQ.out HLt.out (by rw [HSX.out]; omega) HB2.out.se
   have HSk := hidOf (skip_any U0.heap.size b A P f v g M.s sc ys k num w2 HB2.out HM.out.s hky HHd.out.2.1 HHd.out.1 (by rw [HX.out]; omega) d hd ho)
   obtain ⟨v5, hv5⟩ : ∃ v5 : Rv, { skipV v k num with it := v.it.drop d } = v5 := ⟨_, rfl⟩
   rw [hv5] at HSk
   have HE := hidOf (show RgP w (skipG v id num) (skipC v id num) = RgP w v5 0 by
    unfold skipG skipC
    rw [HKK.out, HSX.out, if_pos HQ.out, if_pos HQ.out, if_neg (show ¬ atR v.sb id < 0 by have h := HA.out; omega), if_neg (show ¬ atR v.sb id < 0 by have h := HA.out; omega), if_neg (show ¬ (hasL v.ln id || hasL v.gs id) = true by rw [HH.out]; simp), if_neg (show ¬ (hasL v.ln id || hasL v.gs id) = true by rw [HH.out]; simp), if_neg hov, if_neg hov, htr, hv5])
   have HI5 := hidOf (show v5.it.length ≤ 16 by rw [← hv5]; have := HHd.out.2.2.2.1; show (v.it.drop d).length ≤ 16; rw [List.length_drop]; omega)
   clear hd ho htr hv5 hov
   go_wp2_with fail
   refine (HSk.out).mono ?_
   rintro e w3 ⟨rfl, P', ys', body3, hyn3, b3⟩
   have HC4 := hidOf (ring_anyQ U0.heap.size b A P' (f + d) v5 (some ⟨g, 0, none⟩) M.s sc ys' w3 body3)
   have R3 := R2.below b3 (by have := HZ0.out; omega)
   have B3 : Below w.heap.size w w3 := bl_trans2 B2 b3 (by have := HZ0.out; omega)
   clear A2 R2 p0 p1 p2 p3 p4 p5 p6 p7 HSk body3 HB2 c2
   go_wp2_with fail
   refine (HC4.out).mono ?_
   rintro e w4 ⟨g6, hg6, rfl, row4, b4⟩
   have row5 := row4.mono (B' := w.heap.size + 2) (by have := HZ0.out; omega)
   have R4 := R3.keep b4
   have B4 := bl_trans B3 b4
   have le5 : RLe (⟨some ⟨g6, 0, none⟩, v5.it.length, v5.it.length, some ⟨g, 0, none⟩, M.s, sc, ys', A.a, A.n, A.c, A.a', A.n', A.c'⟩ : Rm) 2097152 := by
    have h := HM.out
    have h1 := HAn.out
    have h2 := HI5.out
    exact ⟨by show v5.it.length ≤ _; omega, h.s, fun y hy => by
     obtain ⟨x2, hx2, e2⟩ := hyn3 y hy
     obtain ⟨x3, hx3, e3⟩ := hyn x2 hx2
     rw [e2, e3]
     exact h.f x3 hx3, by show A.n ≤ _; rw [h1.1]; exact h.l, by show A.n' ≤ _; rw [h1.2]; exact h.g⟩
   have HL5 := hidOf le5
   clear R3 B3 HC4 row4 le5
   have r0 := R4.cs 0 (by simp)
   have r1 := R4.cs 1 (by simp)
   have r2 := R4.cs 2 (by simp)
   have r3 := R4.cs 3 (by simp)
   have r4 := R4.cs 4 (by simp)
   have r5 := R4.cs 5 (by simp)
   have r6 := R4.cs 6 (by simp)
   have r7 := R4.cs 7 (by simp)
   have rf := R4.fr
   simp at r0 r1 r2 r3 r4 r5 r6 r7
   obtain ⟨Z, hZ⟩ : ∃ Z, ((((((((w4.setCell ⟨w.heap.size + 1, 0, none⟩ (.int .i64 v5.cp)).setCell ⟨w.heap.size + 1, 1, none⟩ (.int .i64 v5.se)).setCell ⟨w.heap.size + 1, 2, none⟩ (.slice (some ⟨g6, 0, none⟩) v5.it.length v5.it.length)).setCell ⟨w.heap.size + 1, 3, none⟩ (.int .i64 v5.nx)).setCell ⟨w.heap.size + 1, 4, none⟩ (.slice (some ⟨g, 0, none⟩) M.s sc)).setCell ⟨w.heap.size + 1, 5, none⟩ (.slice A.a A.n A.c)).setCell ⟨w.heap.size + 1, 6, none⟩ (.slice A.a' A.n' A.c')).setCell ⟨w.heap.size + 1, 7, none⟩ (.bool v5.cl)) = Z := ⟨_, rfl⟩
   have hZ2 : Z = setL w4 (w.heap.size + 1) 0 [.int .i64 v5.cp, .int .i64 v5.se, .slice (some ⟨g6, 0, none⟩) v5.it.length v5.it.length, .int .i64 v5.nx, .slice (some ⟨g, 0, none⟩) M.s sc, .slice A.a A.n A.c, .slice A.a' A.n' A.c', .bool v5.cl] := by rw [← hZ]; rfl
   have XZ : BoxL (w.heap.size + 1) [.int .i64 v5.cp, .int .i64 v5.se, .slice (some ⟨g6, 0, none⟩) v5.it.length v5.it.length, .int .i64 v5.nx, .slice (some ⟨g, 0, none⟩) M.s sc, .slice A.a A.n A.c, .slice A.a' A.n' A.c', .bool v5.cl] Z := by
    rw [← hZ]
    exact ((((((((R4.set 0 (by simp) _).set 1 (by simp) _).set 2 (by simp) _).set 3 (by simp) _).set 4 (by simp) _).set 5 (by simp) _).set 6 (by simp) _).set 7 (by simp) _)
   have HRZ := hidOf (show ROwn w.heap.size Z (⟨some ⟨g6, 0, none⟩, v5.it.length, v5.it.length, some ⟨g, 0, none⟩, M.s, sc, ys', A.a, A.n, A.c, A.a', A.n', A.c'⟩ : Rm) v5 by
    rw [hZ2]
    exact ((row5.grown (setL_grown ⟨rfl, rfl, rfl, Nat.le_refl _, fun _ _ _ => rfl⟩) (row5.out (by omega))).mono (B' := w.heap.size) (by omega)).own)
   have HBZ := hidOf (show Below w.heap.size w Z by rw [hZ2]; exact setL_below (by omega) B4)
   have HLZ := hidOf (show RLe (⟨some ⟨g6, 0, none⟩, v5.it.length, v5.it.length, some ⟨g, 0, none⟩, M.s, sc, ys', A.a, A.n, A.c, A.a', A.n', A.c'⟩ : Rm) 2097152 from HL5.out)
   have t0 := XZ.cs 0 (by simp)
   have t1 := XZ.cs 1 (by simp)
   have t2 := XZ.cs 2 (by simp)
   have t3 := XZ.cs 3 (by simp)
   have t4 := XZ.cs 4 (by simp)
   have t5 := XZ.cs 5 (by simp)
   have t6 := XZ.cs 6 (by simp)
   have t7 := XZ.cs 7 (by simp)
   simp at t0 t1 t2 t3 t4 t5 t6 t7
   clear hZ2 XZ R4
   go_wp2_with fail
   clear hZ
   exact bodyPost_ret (v := .tuple #[.agg #[.int .i64 v5.cp, .int .i64 v5.se, .slice (some ⟨g6, 0, none⟩) v5.it.length v5.it.length, .int .i64 v5.nx, .slice (some ⟨g, 0, none⟩) M.s sc, .slice A.a A.n A.c, .slice A.a' A.n' A.c', .bool v5.cl], .int .i64 0]) (by simp [results, Tryz.results43, go_sem, t0, t1, t2, t3, t4, t5, t6, t7]) rfl (show RgP w (skipG v id num) (skipC v id num) _ _ by rw [HE.out]; exact ⟨(⟨some ⟨g6, 0, none⟩, v5.it.length, v5.it.length, some ⟨g, 0, none⟩, M.s, sc, ys', A.a, A.n, A.c, A.a', A.n', A.c'⟩ : Rm), rfl, HRZ.out, HLZ.out, HBZ.out⟩)
end Go.Proofs.YtihdglmiecifjaaGreat
