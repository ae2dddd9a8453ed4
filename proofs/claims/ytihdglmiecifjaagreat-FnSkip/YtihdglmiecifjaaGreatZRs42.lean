/-
  The specification's SkipTo
-/
import Derived.Test.YtihdglmiecifjaaGreatZRs19
namespace Go.Proofs.YtihdglmiecifjaaGreat
open Go.RowKit Go.Maps Pl Il
set_option maxRecDepth 100000 in
set_option maxHeartbeats 16000000 in
theorem specSkip_any : SkipDone 44 := by
  intro M v id num w hI hm1 hcap hw hid hnum
  have hm := hm1.mono (k' := 2097152) (by omega)
  obtain ⟨U0, hU0⟩ : ∃ W, W = (w.alloc (.cells #[.int .i64 v.cp, .int .i64 v.se, .slice M.ia M.i M.ic, .int .i64 v.nx, .slice M.sa M.s M.sc, .slice M.la M.l M.lc, .slice M.ga M.g M.gc, .bool v.cl] 28)).alloc (.cells #[.int .i64 0, .int .i64 0, .slice none 0 0, .int .i64 0, .slice none 0 0, .slice none 0 0, .slice none 0 0, .bool false] 28) := ⟨_, rfl⟩
  have B0 : Below w.heap.size w U0 := by rw [hU0]; exact bl_alloc (bl_alloc (Below.refl _ _) _) _
  have z0 : U0.heap.size = w.heap.size + 2 := by rw [hU0]; simp
  have A0 : BoxL w.heap.size (rC M v) U0 := by rw [hU0]; exact (BoxL.new w (rC M v) _).alloc _
  have R0 : BoxL (w.heap.size + 1) [.int .i64 0, .int .i64 0, .slice none 0 0, .int .i64 0, .slice none 0 0, .slice none 0 0, .slice none 0 0, .bool false] U0 := by
    rw [hU0]
    have h := BoxL.new (w.alloc (.cells (rC M v).toArray 28)) [.int .i64 0, .int .i64 0, .slice none 0 0, .int .i64 0, .slice none 0 0, .slice none 0 0, .slice none 0 0, .bool false] 28
    simpa using h
  have HC := hidOf (l9Copy_any M v U0 (hI.keep B0) hm)
  have p0 := A0.cs 0 (by simp)
  have p1 := A0.cs 1 (by simp)
  have p2 := A0.cs 2 (by simp)
  have p3 := A0.cs 3 (by simp)
  have p4 := A0.cs 4 (by simp)
  have p5 := A0.cs 5 (by simp)
  have p6 := A0.cs 6 (by simp)
  have p7 := A0.cs 7 (by simp)
  simp at p0 p1 p2 p3 p4 p5 p6 p7
  have HI := hidOf hI
  have HM := hidOf hm
  have HK := hidOf (fun (u : World) (hu : RIn u M v) => specRingOk_any M v u hu hm1 hcap hw)
  have hml := hm.l
  have hmg := hm.g
  clear hI hm hm1 hcap hw hid hnum
  go_enter Tryz.func44, Tryz.ntmps44
  go_upto_region 1 with fail
  rw [← hU0]
  clear hU0
  go_wp2_with fail
  refine (HC.out).mono ?_
  rintro e w1 ⟨M1, rfl, row1, le1, b1⟩
  rw [z0] at row1
  obtain ⟨U1, hU1⟩ : ∃ W, w1.alloc (.cells #[.int .i64 v.cp, .int .i64 v.se, .slice M1.ia M1.i M1.ic, .int .i64 v.nx, .slice M1.sa M1.s M1.sc, .slice M1.la M1.l M1.lc, .slice M1.ga M1.g M1.gc, .bool v.cl] 28) = W := ⟨_, rfl⟩
  have ba : Below w1.heap.size w1 U1 := by rw [← hU1]; exact bl_alloc (Below.refl _ _) _
  have A1 := (A0.keep b1).keep ba
  have R1 := (R0.keep b1).keep ba
  have K1 : BoxL w1.heap.size (rC M1 v) U1 := by rw [← hU1]; exact BoxL.new w1 (rC M1 v) _
  have row2 := row1.keep ba
  have B1 := bl_trans (bl_trans B0 b1) ba
  have hs1 : w.heap.size + 2 ≤ w1.heap.size := by have := b1.size; omega
  have nK : some w1.heap.size ∉ blkR M1 := row1.new (Nat.le_refl _)
  have HLe := hidOf (le1 _ HM.out)
  have HAt := hidOf (l9At_any M v id U1 (HI.out.keep B1) HM.out)
  clear A0 R0 p0 p1 p2 p3 p4 p5 p6 p7 row1 b1 B0 HC z0
  have p0 := A1.cs 0 (by simp)
  have p1 := A1.cs 1 (by simp)
  have p2 := A1.cs 2 (by simp)
  have p3 := A1.cs 3 (by simp)
  have p4 := A1.cs 4 (by simp)
  have p5 := A1.cs 5 (by simp)
  have p6 := A1.cs 6 (by simp)
  have p7 := A1.cs 7 (by simp)
  simp at p0 p1 p2 p3 p4 p5 p6 p7
  obtain ⟨at', hat⟩ : ∃ a, atR v.sb id = a := ⟨_, rfl⟩
  rw [hat] at HAt
  have HAe := hidOf hat
  clear hat
  go_upto_region 2 with fail
  clear hU1
  go_wp2_with fail
  refine (HAt.out).mono ?_
  rintro e w2 ⟨rfl, b2⟩
  have A2 := A1.keep b2
  have R2 := R1.keep b2
  have K2 := K1.keep b2
  have row3 := row2.keep b2
  have B2 := bl_trans B1 b2
  have HK1 := hidOf (HK.out w2 (HI.out.keep B2))
  obtain ⟨q, hq⟩ : ∃ q, okR restR v = q := ⟨_, rfl⟩
  rw [hq] at HK1
  have HQ := hidOf hq
  clear hq A1 R1 K1 row2 B1 ba b2 HAt HK p0 p1 p2 p3 p4 p5 p6 p7
  have p0 := A2.cs 0 (by simp)
  have p1 := A2.cs 1 (by simp)
  have p2 := A2.cs 2 (by simp)
  have p3 := A2.cs 3 (by simp)
  have p4 := A2.cs 4 (by simp)
  have p5 := A2.cs 5 (by simp)
  have p6 := A2.cs 6 (by simp)
  have p7 := A2.cs 7 (by simp)
  simp at p0 p1 p2 p3 p4 p5 p6 p7
  go_wp2_with fail
  refine (HK1.out).mono ?_
  rintro e w4 ⟨rfl, b4⟩
  have A4 := A2.keep b4
  have R4 := R2.keep b4
  have K4 := K2.keep b4
  have row4 := row3.keep b4
  have B4 := bl_trans B2 b4
  clear A2 R2 K2 row3 B2 b4 HK1 p0 p1 p2 p3 p4 p5 p6 p7
  cases q
  · have HE := hidOf (show RgP w (skipG v id num) (skipC v id num) = RgP w v 1 by unfold skipG skipC; rw [if_neg (by rw [HQ.out]; simp), if_neg (by rw [HQ.out]; simp)])
    have o0 := K4.cs 0 (by simp)
    have o1 := K4.cs 1 (by simp)
    have o2 := K4.cs 2 (by simp)
    have o3 := K4.cs 3 (by simp)
    have o4 := K4.cs 4 (by simp)
    have o5 := K4.cs 5 (by simp)
    have o6 := K4.cs 6 (by simp)
    have o7 := K4.cs 7 (by simp)
    have r0 := R4.cs 0 (by simp)
    have r1 := R4.cs 1 (by simp)
    have r2 := R4.cs 2 (by simp)
    have r3 := R4.cs 3 (by simp)
    have r4 := R4.cs 4 (by simp)
    have r5 := R4.cs 5 (by simp)
    have r6 := R4.cs 6 (by simp)
    have r7 := R4.cs 7 (by simp)
    have rf := R4.fr
    simp at o0 o1 o2 o3 o4 o5 o6 o7 r0 r1 r2 r3 r4 r5 r6 r7
    obtain ⟨Z, hZ⟩ : ∃ Z, ((((((((w4.setCell ⟨w.heap.size + 1, 0, none⟩ (.int .i64 v.cp)).setCell ⟨w.heap.size + 1, 1, none⟩ (.int .i64 v.se)).setCell ⟨w.heap.size + 1, 2, none⟩ (.slice M1.ia M1.i M1.ic)).setCell ⟨w.heap.size + 1, 3, none⟩ (.int .i64 v.nx)).setCell ⟨w.heap.size + 1, 4, none⟩ (.slice M1.sa M1.s M1.sc)).setCell ⟨w.heap.size + 1, 5, none⟩ (.slice M1.la M1.l M1.lc)).setCell ⟨w.heap.size + 1, 6, none⟩ (.slice M1.ga M1.g M1.gc)).setCell ⟨w.heap.size + 1, 7, none⟩ (.bool v.cl)) = Z := ⟨_, rfl⟩
    have hZ2 : Z = setL w4 (w.heap.size + 1) 0 (rC M1 v) := by rw [← hZ]; rfl
    have XZ : BoxL (w.heap.size + 1) (rC M1 v) Z := by
      rw [← hZ]
      exact ((((((((R4.set 0 (by simp) _).set 1 (by simp) _).set 2 (by simp) _).set 3 (by simp) _).set 4 (by simp) _).set 5 (by simp) _).set 6 (by simp) _).set 7 (by simp) _)
    have HRZ := hidOf (show ROwn w.heap.size Z M1 v by
      rw [hZ2]
      exact ((row4.grown (setL_grown ⟨rfl, rfl, rfl, Nat.le_refl _, fun _ _ _ => rfl⟩) (row4.out (by omega))).mono (B' := w.heap.size) (by omega)).own)
    have HBZ := hidOf (show Below w.heap.size w Z by rw [hZ2]; exact setL_below (by omega) B4)
    have HLZ := hidOf HLe.out
    have t0 := XZ.cs 0 (by simp)
    have t1 := XZ.cs 1 (by simp)
    have t2 := XZ.cs 2 (by simp)
    have t3 := XZ.cs 3 (by simp)
    have t4 := XZ.cs 4 (by simp)
    have t5 := XZ.cs 5 (by simp)
    have t6 := XZ.cs 6 (by simp)
    have t7 := XZ.cs 7 (by simp)
    simp at t0 t1 t2 t3 t4 t5 t6 t7
    clear hZ2 XZ K4 R4
    go_wp2_with fail
    clear hZ
    exact bodyPost_ret (v := .tuple #[.agg #[.int .i64 v.cp, .int .i64 v.se, .slice M1.ia M1.i M1.ic, .int .i64 v.nx, .slice M1.sa M1.s M1.sc, .slice M1.la M1.l M1.lc, .slice M1.ga M1.g M1.gc, .bool v.cl], .int .i64 1]) (by simp [results, Tryz.results44, go_sem, t0, t1, t2, t3, t4, t5, t6, t7]) rfl (show RgP w (skipG v id num) (skipC v id num) _ _ by rw [HE.out]; exact ⟨M1, rfl, HRZ.out, HLZ.out, HBZ.out⟩)
  by_cases hneg : at' < 0
  · have HE := hidOf (show RgP w (skipG v id num) (skipC v id num) = RgP w v 3 by
      unfold skipG skipC
      rw [if_pos HQ.out, if_pos HQ.out, HAe.out, if_pos hneg, if_pos hneg])
    have o0 := K4.cs 0 (by simp)
    have o1 := K4.cs 1 (by simp)
    have o2 := K4.cs 2 (by simp)
    have o3 := K4.cs 3 (by simp)
    have o4 := K4.cs 4 (by simp)
    have o5 := K4.cs 5 (by simp)
    have o6 := K4.cs 6 (by simp)
    have o7 := K4.cs 7 (by simp)
    have r0 := R4.cs 0 (by simp)
    have r1 := R4.cs 1 (by simp)
    have r2 := R4.cs 2 (by simp)
    have r3 := R4.cs 3 (by simp)
    have r4 := R4.cs 4 (by simp)
    have r5 := R4.cs 5 (by simp)
    have r6 := R4.cs 6 (by simp)
    have r7 := R4.cs 7 (by simp)
    have rf := R4.fr
    simp at o0 o1 o2 o3 o4 o5 o6 o7 r0 r1 r2 r3 r4 r5 r6 r7
    obtain ⟨Z, hZ⟩ : ∃ Z, ((((((((w4.setCell ⟨w.heap.size + 1, 0, none⟩ (.int .i64 v.cp)).setCell ⟨w.heap.size + 1, 1, none⟩ (.int .i64 v.se)).setCell ⟨w.heap.size + 1, 2, none⟩ (.slice M1.ia M1.i M1.ic)).setCell ⟨w.heap.size + 1, 3, none⟩ (.int .i64 v.nx)).setCell ⟨w.heap.size + 1, 4, none⟩ (.slice M1.sa M1.s M1.sc)).setCell ⟨w.heap.size + 1, 5, none⟩ (.slice M1.la M1.l M1.lc)).setCell ⟨w.heap.size + 1, 6, none⟩ (.slice M1.ga M1.g M1.gc)).setCell ⟨w.heap.size + 1, 7, none⟩ (.bool v.cl)) = Z := ⟨_, rfl⟩
    have hZ2 : Z = setL w4 (w.heap.size + 1) 0 (rC M1 v) := by rw [← hZ]; rfl
    have XZ : BoxL (w.heap.size + 1) (rC M1 v) Z := by
      rw [← hZ]
      exact ((((((((R4.set 0 (by simp) _).set 1 (by simp) _).set 2 (by simp) _).set 3 (by simp) _).set 4 (by simp) _).set 5 (by simp) _).set 6 (by simp) _).set 7 (by simp) _)
    have HRZ := hidOf (show ROwn w.heap.size Z M1 v by
      rw [hZ2]
      exact ((row4.grown (setL_grown ⟨rfl, rfl, rfl, Nat.le_refl _, fun _ _ _ => rfl⟩) (row4.out (by omega))).mono (B' := w.heap.size) (by omega)).own)
    have HBZ := hidOf (show Below w.heap.size w Z by rw [hZ2]; exact setL_below (by omega) B4)
    have HLZ := hidOf HLe.out
    have t0 := XZ.cs 0 (by simp)
    have t1 := XZ.cs 1 (by simp)
    have t2 := XZ.cs 2 (by simp)
    have t3 := XZ.cs 3 (by simp)
    have t4 := XZ.cs 4 (by simp)
    have t5 := XZ.cs 5 (by simp)
    have t6 := XZ.cs 6 (by simp)
    have t7 := XZ.cs 7 (by simp)
    simp at t0 t1 t2 t3 t4 t5 t6 t7
    clear hZ2 XZ K4 R4
    go_wp2_with fail
    clear hZ
    exact bodyPost_ret (v := .tuple #[.agg #[.int .i64 v.cp, .int .i64 v.se, .slice M1.ia M1.i M1.ic, .int .i64 v.nx, .slice M1.sa M1.s M1.sc, .slice M1.la M1.l M1.lc, .slice M1.ga M1.g M1.gc, .bool v.cl], .int .i64 3]) (by simp [results, Tryz.results44, go_sem, t0, t1, t2, t3, t4, t5, t6, t7]) rfl (show RgP w (skipG v id num) (skipC v id num) _ _ by rw [HE.out]; exact ⟨M1, rfl, HRZ.out, HLZ.out, HBZ.out⟩)
  have HA := hidOf (show ¬ atR v.sb id < 0 by rw [HAe.out]; exact hneg)
  have p5 := A4.cs 5 (by simp)
  have p6 := A4.cs 6 (by simp)
  simp at p5 p6
  have H1 := hidOf (l2Has_any M.la M.l M.lc v.ln id w4 (HI.out.keep B4).ln hml)
  have H2 := hidOf (l2Has_any M.ga M.g M.gc v.gs id w4 (HI.out.keep B4).gs hmg)
  obtain ⟨a, ha⟩ : ∃ a, hasL v.ln id = a := ⟨_, rfl⟩
  obtain ⟨bb, hb⟩ : ∃ b, hasL v.gs id = b := ⟨_, rfl⟩
  rw [ha] at H1
  rw [hb] at H2
  have HHa := hidOf ha
  have HHb := hidOf hb
  clear ha hb
  have HE5 := hidOf (show (a || bb) = true → RgP w (skipG v id num) (skipC v id num) = RgP w v 5 from fun h => by
    unfold skipG skipC
    rw [if_pos HQ.out, if_pos HQ.out, if_neg HA.out, if_neg HA.out, if_pos (by rw [HHa.out, HHb.out]; exact h), if_pos (by rw [HHa.out, HHb.out]; exact h)])
  cases a
  case true =>
    have HE := hidOf (HE5.out rfl)
    go_upto_region 7 with fail
    go_wp2_with fail
    refine (H1.out).mono ?_
    rintro e w' ⟨rfl, hww⟩
    obtain rfl : w4 = w' := hww.symm
    go_upto_region 8 with fail
    have o0 := K4.cs 0 (by simp)
    have o1 := K4.cs 1 (by simp)
    have o2 := K4.cs 2 (by simp)
    have o3 := K4.cs 3 (by simp)
    have o4 := K4.cs 4 (by simp)
    have o5 := K4.cs 5 (by simp)
    have o6 := K4.cs 6 (by simp)
    have o7 := K4.cs 7 (by simp)
    have r0 := R4.cs 0 (by simp)
    have r1 := R4.cs 1 (by simp)
    have r2 := R4.cs 2 (by simp)
    have r3 := R4.cs 3 (by simp)
    have r4 := R4.cs 4 (by simp)
    have r5 := R4.cs 5 (by simp)
    have r6 := R4.cs 6 (by simp)
    have r7 := R4.cs 7 (by simp)
    have rf := R4.fr
    simp at o0 o1 o2 o3 o4 o5 o6 o7 r0 r1 r2 r3 r4 r5 r6 r7
    obtain ⟨Z, hZ⟩ : ∃ Z, ((((((((w4.setCell ⟨w.heap.size + 1, 0, none⟩ (.int .i64 v.cp)).setCell ⟨w.heap.size + 1, 1, none⟩ (.int .i64 v.se)).setCell ⟨w.heap.size + 1, 2, none⟩ (.slice M1.ia M1.i M1.ic)).setCell ⟨w.heap.size + 1, 3, none⟩ (.int .i64 v.nx)).setCell ⟨w.heap.size + 1, 4, none⟩ (.slice M1.sa M1.s M1.sc)).setCell ⟨w.heap.size + 1, 5, none⟩ (.slice M1.la M1.l M1.lc)).setCell ⟨w.heap.size + 1, 6, none⟩ (.slice M1.ga M1.g M1.gc)).setCell ⟨w.heap.size + 1, 7, none⟩ (.bool v.cl)) = Z := ⟨_, rfl⟩
    have hZ2 : Z = setL w4 (w.heap.size + 1) 0 (rC M1 v) := by rw [← hZ]; rfl
    have XZ : BoxL (w.heap.size + 1) (rC M1 v) Z := by
      rw [← hZ]
      exact ((((((((R4.set 0 (by simp) _).set 1 (by simp) _).set 2 (by simp) _).set 3 (by simp) _).set 4 (by simp) _).set 5 (by simp) _).set 6 (by simp) _).set 7 (by simp) _)
    have HRZ := hidOf (show ROwn w.heap.size Z M1 v by
      rw [hZ2]
      exact ((row4.grown (setL_grown ⟨rfl, rfl, rfl, Nat.le_refl _, fun _ _ _ => rfl⟩) (row4.out (by omega))).mono (B' := w.heap.size) (by omega)).own)
    have HBZ := hidOf (show Below w.heap.size w Z by rw [hZ2]; exact setL_below (by omega) B4)
    have HLZ := hidOf HLe.out
    have t0 := XZ.cs 0 (by simp)
    have t1 := XZ.cs 1 (by simp)
    have t2 := XZ.cs 2 (by simp)
    have t3 := XZ.cs 3 (by simp)
    have t4 := XZ.cs 4 (by simp)
    have t5 := XZ.cs 5 (by simp)
    have t6 := XZ.cs 6 (by simp)
    have t7 := XZ.cs 7 (by simp)
    simp at t0 t1 t2 t3 t4 t5 t6 t7
    clear hZ2 XZ K4 R4
    go_wp2_with fail
    clear hZ
    exact bodyPost_ret (v := .tuple #[.agg #[.int .i64 v.cp, .int .i64 v.se, .slice M1.ia M1.i M1.ic, .int .i64 v.nx, .slice M1.sa M1.s M1.sc, .slice M1.la M1.l M1.lc, .slice M1.ga M1.g M1.gc, .bool v.cl], .int .i64 5]) (by simp [results, Tryz.results44, go_sem, t0, t1, t2, t3, t4, t5, t6, t7]) rfl (show RgP w (skipG v id num) (skipC v id num) _ _ by rw [HE.out]; exact ⟨M1, rfl, HRZ.out, HLZ.out, HBZ.out⟩)
  cases bb
  case true =>
    have HE := hidOf (HE5.out rfl)
    go_upto_region 7 with fail
    go_wp2_with fail
    refine (H1.out).mono ?_
    rintro e w' ⟨rfl, hww⟩
    obtain rfl : w4 = w' := hww.symm
    go_wp2_with fail
    refine (H2.out).mono ?_
    rintro e w' ⟨rfl, hww⟩
    obtain rfl : w4 = w' := hww.symm
    go_upto_region 8 with fail
    have o0 := K4.cs 0 (by simp)
    have o1 := K4.cs 1 (by simp)
    have o2 := K4.cs 2 (by simp)
    have o3 := K4.cs 3 (by simp)
    have o4 := K4.cs 4 (by simp)
    have o5 := K4.cs 5 (by simp)
    have o6 := K4.cs 6 (by simp)
    have o7 := K4.cs 7 (by simp)
    have r0 := R4.cs 0 (by simp)
    have r1 := R4.cs 1 (by simp)
    have r2 := R4.cs 2 (by simp)
    have r3 := R4.cs 3 (by simp)
    have r4 := R4.cs 4 (by simp)
    have r5 := R4.cs 5 (by simp)
    have r6 := R4.cs 6 (by simp)
    have r7 := R4.cs 7 (by simp)
    have rf := R4.fr
    simp at o0 o1 o2 o3 o4 o5 o6 o7 r0 r1 r2 r3 r4 r5 r6 r7
    obtain ⟨Z, hZ⟩ : ∃ Z, ((((((((w4.setCell ⟨w.heap.size + 1, 0, none⟩ (.int .i64 v.cp)).setCell ⟨w.heap.size + 1, 1, none⟩ (.int .i64 v.se)).setCell ⟨w.heap.size + 1, 2, none⟩ (.slice M1.ia M1.i M1.ic)).setCell ⟨w.heap.size + 1, 3, none⟩ (.int .i64 v.nx)).setCell ⟨w.heap.size + 1, 4, none⟩ (.slice M1.sa M1.s M1.sc)).setCell ⟨w.heap.size + 1, 5, none⟩ (.slice M1.la M1.l M1.lc)).setCell ⟨w.heap.size + 1, 6, none⟩ (.slice M1.ga M1.g M1.gc)).setCell ⟨w.heap.size + 1, 7, none⟩ (.bool v.cl)) = Z := ⟨_, rfl⟩
    have hZ2 : Z = setL w4 (w.heap.size + 1) 0 (rC M1 v) := by rw [← hZ]; rfl
    have XZ : BoxL (w.heap.size + 1) (rC M1 v) Z := by
      rw [← hZ]
      exact ((((((((R4.set 0 (by simp) _).set 1 (by simp) _).set 2 (by simp) _).set 3 (by simp) _).set 4 (by simp) _).set 5 (by simp) _).set 6 (by simp) _).set 7 (by simp) _)
    have HRZ := hidOf (show ROwn w.heap.size Z M1 v by
      rw [hZ2]
      exact ((row4.grown (setL_grown ⟨rfl, rfl, rfl, Nat.le_refl _, fun _ _ _ => rfl⟩) (row4.out (by omega))).mono (B' := w.heap.size) (by omega)).own)
    have HBZ := hidOf (show Below w.heap.size w Z by rw [hZ2]; exact setL_below (by omega) B4)
    have HLZ := hidOf HLe.out
    have t0 := XZ.cs 0 (by simp)
    have t1 := XZ.cs 1 (by simp)
    have t2 := XZ.cs 2 (by simp)
    have t3 := XZ.cs 3 (by simp)
    have t4 := XZ.cs 4 (by simp)
    have t5 := XZ.cs 5 (by simp)
    have t6 := XZ.cs 6 (by simp)
    have t7 := XZ.cs 7 (by simp)
    simp at t0 t1 t2 t3 t4 t5 t6 t7
    clear hZ2 XZ K4 R4
    go_wp2_with fail
    clear hZ
    exact bodyPost_ret (v := .tuple #[.agg #[.int .i64 v.cp, .int .i64 v.se, .slice M1.ia M1.i M1.ic, .int .i64 v.nx, .slice M1.sa M1.s M1.sc, .slice M1.la M1.l M1.lc, .slice M1.ga M1.g M1.gc, .bool v.cl], .int .i64 5]) (by simp [results, Tryz.results44, go_sem, t0, t1, t2, t3, t4, t5, t6, t7]) rfl (show RgP w (skipG v id num) (skipC v id num) _ _ by rw [HE.out]; exact ⟨M1, rfl, HRZ.out, HLZ.out, HBZ.out⟩)
  have HH := hidOf (show (hasL v.ln id || hasL v.gs id) = false by rw [HHa.out, HHb.out]; rfl)
  go_upto_region 7 with fail
  go_wp2_with fail
  refine (H1.out).mono ?_
  rintro e w' ⟨rfl, hww⟩
  obtain rfl : w4 = w' := hww.symm
  go_wp2_with fail
  refine (H2.out).mono ?_
  rintro e w' ⟨rfl, hww⟩
  obtain rfl : w4 = w' := hww.symm
  obtain ⟨hlt, hkI⟩ := at_lt (show ¬ atR v.sb id < 0 by have h := HA.out; omega)
  obtain ⟨k, hkk⟩ : ∃ k, (atR v.sb id).toNat = k := ⟨_, rfl⟩
  rw [hkk] at hlt hkI
  have HKK := hidOf hkk
  obtain rfl : at' = (k : Int) := by rw [← HAe.out, hkI]
  have hlM : M.xs.length = v.sb.length := by rw [← HI.out.sv]; simp [svs]
  have hlM1 : M1.xs.length = v.sb.length := by rw [← row4.sv]; simp [svs]
  have hMs : M.s = M.xs.length := HI.out.sb.len.symm
  obtain ⟨bs, off, hsa, hbl, hcell⟩ : ∃ b off, M.sa = some ⟨b, off, none⟩ ∧ b < w.heap.size ∧ ∀ i, i < M.s → SCell w b (off + i * 7) (sg M.xs i) := by
    rcases HI.out.sb.row with h0 | h0
    · omega
    · exact h0
  obtain ⟨g1, hg1⟩ : ∃ g1, M1.sa = some ⟨g1, 0, none⟩ := by
    obtain ⟨hl1, ⟨e, e0⟩ | ⟨g, cp, cur, e, _⟩⟩ := row4.sb
    · rw [e0, length_sflat] at hl1; omega
    · injection e with e1; exact ⟨g, e1⟩
  have hMs1 : M1.s = M1.xs.length := by have h := row4.sb.1; rw [length_sflat] at h; omega
  obtain ⟨x, hxx⟩ : ∃ x, sg M1.xs k = x := ⟨_, rfl⟩
  have hsx : v.sb.getD k Sb0 = x.s := by rw [← row4.sv, sg_svs2 (by omega), hxx]
  have hcu : w.cell? ⟨bs, off + k * 7 + 2, none⟩ = some (.int .i64 x.s.cu) := by
    have h := (hcell k (by omega)).c2
    rw [← sg_svs2 (xs := M.xs) (by omega), HI.out.sv, hsx] at h
    exact h
  have hnm := ok_nums HQ.out hlt
  rw [hsx] at hnm
  have hhd := ok_head HQ.out
  have hg1b : w.heap.size + 2 ≤ g1 ∧ ¬ g1 = w1.heap.size := by
    have h := row4.sb
    rw [hg1] at h
    refine ⟨(row_lt h (q := g1) rfl).1, fun e => nK ?_⟩
    rw [← e]
    unfold blkR
    rw [hg1]
    simp [Value.ownBlock]
  obtain ⟨f, _, hfse, _⟩ := ok_fst HQ.out
  have HF := hidOf hfse
  have hc2w : w4.cell? ⟨bs, off + k * 7 + 2, none⟩ = some (.int .i64 x.s.cu) := by rw [B4.cell (p := ⟨bs, off + k * 7 + 2, none⟩) hbl]; exact hcu
  have hkM : (k : Int) < (M.s : Int) := by omega
  have hkM1 : (k : Int) < (M1.s : Int) := by omega
  have p0 := A4.cs 0 (by simp)
  have p1 := A4.cs 1 (by simp)
  have p2 := A4.cs 2 (by simp)
  have p3 := A4.cs 3 (by simp)
  have p4 := A4.cs 4 (by simp)
  have p5 := A4.cs 5 (by simp)
  have p6 := A4.cs 6 (by simp)
  have p7 := A4.cs 7 (by simp)
  simp at p0 p1 p2 p3 p4 p5 p6 p7
  rw [hsa] at p4
  have HBs := hidOf hsa
  have HBl := hidOf hbl
  have HCu := hidOf hcu
  have HG1 := hidOf hg1
  have HX1 := hidOf hxx
  have HSX := hidOf hsx
  have HLt := hidOf hlt
  have HHd := hidOf hhd
  have HK1 := hidOf (show k < M1.xs.length by omega)
  have HR4 := hidOf row4
  have HNM := hidOf hnm
  have hcpb := hhd.1
  have hseb := hhd.2.1
  have hlo := hnm
  clear hlM hlM1 hMs hsa hcell hg1 hMs1 hxx hsx hcu hlt hkI hkk row4 hfse hhd hnm nK hneg H1 H2 HE5
  generalize w1.heap.size = K at *
  have HGK := hidOf hg1b
  by_cases hov : num < x.s.cu ∨ v.se < num
  · have HE := hidOf (show RgP w (skipG v id num) (skipC v id num) = RgP w v 6 by
      unfold skipG skipC
      rw [HKK.out, HSX.out, if_pos HQ.out, if_pos HQ.out, if_neg (show ¬ atR v.sb id < 0 by have h := HA.out; omega), if_neg (show ¬ atR v.sb id < 0 by have h := HA.out; omega), if_neg (show ¬ (hasL v.ln id || hasL v.gs id) = true by rw [HH.out]; simp), if_neg (show ¬ (hasL v.ln id || hasL v.gs id) = true by rw [HH.out]; simp), if_pos hov, if_pos hov])
    have row4 := HR4.out
    have HOv := hidOf hov
    by_cases ho1 : num < x.s.cu
    · clear hov
      go_upto_region 10 with fail
      have o0 := K4.cs 0 (by simp)
      have o1 := K4.cs 1 (by simp)
      have o2 := K4.cs 2 (by simp)
      have o3 := K4.cs 3 (by simp)
      have o4 := K4.cs 4 (by simp)
      have o5 := K4.cs 5 (by simp)
      have o6 := K4.cs 6 (by simp)
      have o7 := K4.cs 7 (by simp)
      have r0 := R4.cs 0 (by simp)
      have r1 := R4.cs 1 (by simp)
      have r2 := R4.cs 2 (by simp)
      have r3 := R4.cs 3 (by simp)
      have r4 := R4.cs 4 (by simp)
      have r5 := R4.cs 5 (by simp)
      have r6 := R4.cs 6 (by simp)
      have r7 := R4.cs 7 (by simp)
      have rf := R4.fr
      simp at o0 o1 o2 o3 o4 o5 o6 o7 r0 r1 r2 r3 r4 r5 r6 r7
      obtain ⟨Z, hZ⟩ : ∃ Z, ((((((((w4.setCell ⟨w.heap.size + 1, 0, none⟩ (.int .i64 v.cp)).setCell ⟨w.heap.size + 1, 1, none⟩ (.int .i64 v.se)).setCell ⟨w.heap.size + 1, 2, none⟩ (.slice M1.ia M1.i M1.ic)).setCell ⟨w.heap.size + 1, 3, none⟩ (.int .i64 v.nx)).setCell ⟨w.heap.size + 1, 4, none⟩ (.slice M1.sa M1.s M1.sc)).setCell ⟨w.heap.size + 1, 5, none⟩ (.slice M1.la M1.l M1.lc)).setCell ⟨w.heap.size + 1, 6, none⟩ (.slice M1.ga M1.g M1.gc)).setCell ⟨w.heap.size + 1, 7, none⟩ (.bool v.cl)) = Z := ⟨_, rfl⟩
      have hZ2 : Z = setL w4 (w.heap.size + 1) 0 (rC M1 v) := by rw [← hZ]; rfl
      have XZ : BoxL (w.heap.size + 1) (rC M1 v) Z := by
        rw [← hZ]
        exact ((((((((R4.set 0 (by simp) _).set 1 (by simp) _).set 2 (by simp) _).set 3 (by simp) _).set 4 (by simp) _).set 5 (by simp) _).set 6 (by simp) _).set 7 (by simp) _)
      have HRZ := hidOf (show ROwn w.heap.size Z M1 v by
        rw [hZ2]
        exact ((row4.grown (setL_grown ⟨rfl, rfl, rfl, Nat.le_refl _, fun _ _ _ => rfl⟩) (row4.out (by omega))).mono (B' := w.heap.size) (by omega)).own)
      have HBZ := hidOf (show Below w.heap.size w Z by rw [hZ2]; exact setL_below (by omega) B4)
      have HLZ := hidOf HLe.out
      have t0 := XZ.cs 0 (by simp)
      have t1 := XZ.cs 1 (by simp)
      have t2 := XZ.cs 2 (by simp)
      have t3 := XZ.cs 3 (by simp)
      have t4 := XZ.cs 4 (by simp)
      have t5 := XZ.cs 5 (by simp)
      have t6 := XZ.cs 6 (by simp)
      have t7 := XZ.cs 7 (by simp)
      simp at t0 t1 t2 t3 t4 t5 t6 t7
      clear hZ2 XZ K4 R4
      go_wp2_with fail
      clear hZ
      exact bodyPost_ret (v := .tuple #[.agg #[.int .i64 v.cp, .int .i64 v.se, .slice M1.ia M1.i M1.ic, .int .i64 v.nx, .slice M1.sa M1.s M1.sc, .slice M1.la M1.l M1.lc, .slice M1.ga M1.g M1.gc, .bool v.cl], .int .i64 6]) (by simp [results, Tryz.results44, go_sem, t0, t1, t2, t3, t4, t5, t6, t7]) rfl (show RgP w (skipG v id num) (skipC v id num) _ _ by rw [HE.out]; exact ⟨M1, rfl, HRZ.out, HLZ.out, HBZ.out⟩)
    · have ho2 : v.se < num := by omega
      clear hov
      go_upto_region 10 with fail
      have o0 := K4.cs 0 (by simp)
      have o1 := K4.cs 1 (by simp)
      have o2 := K4.cs 2 (by simp)
      have o3 := K4.cs 3 (by simp)
      have o4 := K4.cs 4 (by simp)
      have o5 := K4.cs 5 (by simp)
      have o6 := K4.cs 6 (by simp)
      have o7 := K4.cs 7 (by simp)
      have r0 := R4.cs 0 (by simp)
      have r1 := R4.cs 1 (by simp)
      have r2 := R4.cs 2 (by simp)
      have r3 := R4.cs 3 (by simp)
      have r4 := R4.cs 4 (by simp)
      have r5 := R4.cs 5 (by simp)
      have r6 := R4.cs 6 (by simp)
      have r7 := R4.cs 7 (by simp)
      have rf := R4.fr
      simp at o0 o1 o2 o3 o4 o5 o6 o7 r0 r1 r2 r3 r4 r5 r6 r7
      obtain ⟨Z, hZ⟩ : ∃ Z, ((((((((w4.setCell ⟨w.heap.size + 1, 0, none⟩ (.int .i64 v.cp)).setCell ⟨w.heap.size + 1, 1, none⟩ (.int .i64 v.se)).setCell ⟨w.heap.size + 1, 2, none⟩ (.slice M1.ia M1.i M1.ic)).setCell ⟨w.heap.size + 1, 3, none⟩ (.int .i64 v.nx)).setCell ⟨w.heap.size + 1, 4, none⟩ (.slice M1.sa M1.s M1.sc)).setCell ⟨w.heap.size + 1, 5, none⟩ (.slice M1.la M1.l M1.lc)).setCell ⟨w.heap.size + 1, 6, none⟩ (.slice M1.ga M1.g M1.gc)).setCell ⟨w.heap.size + 1, 7, none⟩ (.bool v.cl)) = Z := ⟨_, rfl⟩
      have hZ2 : Z = setL w4 (w.heap.size + 1) 0 (rC M1 v) := by rw [← hZ]; rfl
      have XZ : BoxL (w.heap.size + 1) (rC M1 v) Z := by
        rw [← hZ]
        exact ((((((((R4.set 0 (by simp) _).set 1 (by simp) _).set 2 (by simp) _).set 3 (by simp) _).set 4 (by simp) _).set 5 (by simp) _).set 6 (by simp) _).set 7 (by simp) _)
      have HRZ := hidOf (show ROwn w.heap.size Z M1 v by
        rw [hZ2]
        exact ((row4.grown (setL_grown ⟨rfl, rfl, rfl, Nat.le_refl _, fun _ _ _ => rfl⟩) (row4.out (by omega))).mono (B' := w.heap.size) (by omega)).own)
      have HBZ := hidOf (show Below w.heap.size w Z by rw [hZ2]; exact setL_below (by omega) B4)
      have HLZ := hidOf HLe.out
      have t0 := XZ.cs 0 (by simp)
      have t1 := XZ.cs 1 (by simp)
      have t2 := XZ.cs 2 (by simp)
      have t3 := XZ.cs 3 (by simp)
      have t4 := XZ.cs 4 (by simp)
      have t5 := XZ.cs 5 (by simp)
      have t6 := XZ.cs 6 (by simp)
      have t7 := XZ.cs 7 (by simp)
      simp at t0 t1 t2 t3 t4 t5 t6 t7
      clear hZ2 XZ K4 R4
      go_wp2_with fail
      clear hZ
      exact bodyPost_ret (v := .tuple #[.agg #[.int .i64 v.cp, .int .i64 v.se, .slice M1.ia M1.i M1.ic, .int .i64 v.nx, .slice M1.sa M1.s M1.sc, .slice M1.la M1.l M1.lc, .slice M1.ga M1.g M1.gc, .bool v.cl], .int .i64 6]) (by simp [results, Tryz.results44, go_sem, t0, t1, t2, t3, t4, t5, t6, t7]) rfl (show RgP w (skipG v id num) (skipC v id num) _ _ by rw [HE.out]; exact ⟨M1, rfl, HRZ.out, HLZ.out, HBZ.out⟩)
  have ho1 : ¬ num < x.s.cu := by omega
  have ho2 : ¬ v.se < num := by omega
  obtain ⟨go, hgoe⟩ : ∃ go, goneS v x.s num = go := ⟨_, rfl⟩
  have hgb : 0 ≤ go ∧ go ≤ num - x.s.cu := by rw [← hgoe]; unfold goneS; repeat' split
                                              all_goals omega
  have HGo := hidOf hgoe
  have HXs := hidOf (And.intro hlo hgb)
  clear hgoe hov hg1b
  by_cases hc1 : num < v.se - v.cp
  · have HC1 := hidOf hc1
    have hcA : num < v.se - v.cp := hc1
    have hgo : num - x.s.cu = go := by rw [← HGo.out]; unfold goneS; rw [if_pos hc1, if_neg (by omega)]
    have hwA : IntKind.i64.wrap (num - x.s.cu) = num - x.s.cu := by rw [IntKind.wrap_i64]; omega
    have hgn : ¬ go < 0 := by omega
    have hx1 := HXs.out
    obtain ⟨U4, hU4⟩ : ∃ U, w4.drew.setCell ⟨g1, k * 7 + 4, none⟩ (.int .i64 (x.s.lo + go)) = U := ⟨_, rfl⟩
    have l4 : w4.cell? ⟨g1, k * 7 + 4, none⟩ = some (.int .i64 x.s.lo) := by rw [row_cell (by have h := HR4.out.sb; rw [HG1.out] at h; exact h) HK1.out (by omega), HX1.out]; rfl
    have fr4 := fun o => World.ownsRow.frozenAt (by have h := HR4.out.sb; rw [HG1.out] at h; exact h) o
    have ow4 := (HR4.out.keep (Below.refl _ _).drew).put HG1.out HK1.out (by omega) (by omega) (r := 4) (x.s.lo + go)
    rw [hU4] at ow4
    have kk4 : w4.cell? ⟨K, 4, none⟩ = some (.slice (some ⟨g1, 0, none⟩) M1.s M1.sc) := by have h := K4.cs 4 (by simp); simp at h; rw [HG1.out] at h; exact h
    have gU4 : w4.grownBy U4 (some g1) := by rw [← hU4]; exact (grown_of (Below.refl _ _).drew).trans (grown_set _ _ _ _)
    have hgK := HGK.out
    have K5 : BoxL K (rC M1 v) U4 := by rw [← hU4]; exact (K4.keep (Below.refl _ _).drew).far _ _ (by omega) _
    have R5 : BoxL (w.heap.size + 1) [.int .i64 0, .int .i64 0, .slice none 0 0, .int .i64 0, .slice none 0 0, .slice none 0 0, .slice none 0 0, .bool false] U4 := by rw [← hU4]; exact (R4.keep (Below.refl _ _).drew).far _ _ (by omega) _
    have A5 : BoxL w.heap.size (rC M v) U4 := by rw [← hU4]; exact (A4.keep (Below.refl _ _).drew).far _ _ (by omega) _
    have B5 : Below w.heap.size w U4 := by rw [← hU4]; exact bl_setB (bl_trans B4 (Below.refl _ _).drew) _ _ (by omega) _
    have kk5 : U4.cell? ⟨K, 4, none⟩ = some (.slice (some ⟨g1, 0, none⟩) M1.s M1.sc) := by have h := K5.cs 4 (by simp); simp at h; rw [HG1.out] at h; exact h
    have hS3 : w4.cell? ⟨K, 4, none⟩ = some (.slice (some ⟨g1, 0, none⟩) M1.s M1.sc) ∧ True := ⟨kk4, True.intro⟩
    have hS4 : U4.cell? ⟨K, 4, none⟩ = some (.slice (some ⟨g1, 0, none⟩) M1.s M1.sc) ∧ True := ⟨kk5, True.intro⟩
    have hw4 : IntKind.i64.wrap (x.s.lo + go) = x.s.lo + go := by rw [IntKind.wrap_i64]; omega
    have HOw4 := hidOf ow4
    have HGU4 := hidOf gU4
    clear ow4 kk4 gU4 kk5
    go_upto_region 17 with fail
    refine wp_region_noPanic ?_
    refine wp_region_held_drew (S := fun w' => w'.cell? ⟨K, 4, none⟩ = some (.slice (some ⟨g1, 0, none⟩) M1.s M1.sc) ∧ True) (by kernel_rfl) hS3 (fun hHeld => ?_)
    refine tK 0 ?_ rfl (by kernel_rfl) (by rfl) ?_ (by assumption) (fun _ _ _ h => h) ?_
    case refine_2 => (intro w hSw; (try dsimp only at hSw); go_simp; try with_reducible rfl)
    simp only [Act.put, List.getElem_toArray, List.getElem_cons_zero, List.setIfInBounds_toArray, List.set_cons_zero, List.set_cons_succ]
    refine tR 1 ?_
    refine tR 2 ?_
    refine tR 3 ?_
    refine tR 4 ?_
    refine tR 5 ?_
    refine tR 6 ?_
    refine tR 7 ?_
    refine tR 9 ?_
    refine tW 8 (fun K hK => ?_)
    go_simp
    refine hK.out _ _ hHeld (fun hHeld => ?_)
    clear hK K
    refine tR 10 ?_
    refine tR 11 ?_
    refine tR 12 ?_
    refine tW 13 (fun K hK => ?_)
    go_simp
    refine hK.out _ _ hS4 (fun hHeld => ?_)
    clear hK K
    refine wpAnyH_done (by kernel_rfl) ?_ _
    refine NoPanic.normal ?_
    clear hU4 hS3 hS4 hHeld l4 fr4 hw4 K4 R4 A4 B4
    obtain ⟨y1, hy1⟩ : ∃ y, putS M1.xs k 4 (x.s.lo + go) = y := ⟨_, rfl⟩
    rw [hy1] at HOw4
    obtain ⟨sb1, hsb1⟩ : ∃ y, putV v.sb k 4 (x.s.lo + go) = y := ⟨_, rfl⟩
    rw [hsb1] at HOw4
    have hky1 : k < y1.length := by rw [← hy1, putS_len]; exact HK1.out
    have hgy1 : sg y1 k = putA x 4 (x.s.lo + go) := by rw [← hy1, putS_get HK1.out, if_pos rfl, HX1.out]
    have l5 : U4.cell? ⟨g1, k * 7 + 5, none⟩ = some (.int .i64 x.s.pa) := by rw [row_cell (by have h := HOw4.out.sb; simp only at h; rw [HG1.out] at h; exact h) hky1 (by omega), hgy1]; rfl
    have fr5 := fun o => World.ownsRow.frozenAt (by have h := HOw4.out.sb; simp only at h; rw [HG1.out] at h; exact h) o
    obtain ⟨U5, hU5⟩ : ∃ U, U4.drew.setCell ⟨g1, k * 7 + 5, none⟩ (.int .i64 (x.s.pa + num - x.s.cu - go)) = U := ⟨_, rfl⟩
    have ow5 := (HOw4.out.keep (Below.refl _ _).drew).put HG1.out hky1 (by omega) (by omega) (r := 5) (x.s.pa + num - x.s.cu - go)
    simp only at ow5
    rw [hU5] at ow5
    have K6 : BoxL K (rC M1 v) U5 := by rw [← hU5]; exact (K5.keep (Below.refl _ _).drew).far _ _ (by omega) _
    have R6 : BoxL (w.heap.size + 1) [.int .i64 0, .int .i64 0, .slice none 0 0, .int .i64 0, .slice none 0 0, .slice none 0 0, .slice none 0 0, .bool false] U5 := by rw [← hU5]; exact (R5.keep (Below.refl _ _).drew).far _ _ (by omega) _
    have B6 : Below w.heap.size w U5 := by rw [← hU5]; exact bl_setB (bl_trans B5 (Below.refl _ _).drew) _ _ (by omega) _
    have kk5 : U4.cell? ⟨K, 4, none⟩ = some (.slice (some ⟨g1, 0, none⟩) M1.s M1.sc) := by have h := K5.cs 4 (by simp); simp at h; rw [HG1.out] at h; exact h
    have kk6 : U5.cell? ⟨K, 4, none⟩ = some (.slice (some ⟨g1, 0, none⟩) M1.s M1.sc) := by have h := K6.cs 4 (by simp); simp at h; rw [HG1.out] at h; exact h
    have aa5 : U4.cell? ⟨w.heap.size, 4, none⟩ = some (.slice (some ⟨bs, off, none⟩) M.s M.sc) := by have h := A5.cs 4 (by simp); simp at h; rw [HBs.out] at h; exact h
    have A6 : BoxL w.heap.size (rC M v) U5 := by rw [← hU5]; exact (A5.keep (Below.refl _ _).drew).far _ _ (by omega) _
    have aa6 : U5.cell? ⟨w.heap.size, 4, none⟩ = some (.slice (some ⟨bs, off, none⟩) M.s M.sc) := by have h := A6.cs 4 (by simp); simp at h; rw [HBs.out] at h; exact h
    have cc5 : U4.cell? ⟨bs, off + k * 7 + 2, none⟩ = some (.int .i64 x.s.cu) := by rw [B5.cell (p := ⟨bs, off + k * 7 + 2, none⟩) HBl.out]; exact HCu.out
    have cc6 : U5.cell? ⟨bs, off + k * 7 + 2, none⟩ = some (.int .i64 x.s.cu) := by rw [B6.cell (p := ⟨bs, off + k * 7 + 2, none⟩) HBl.out]; exact HCu.out
    have hS4 : U4.cell? ⟨K, 4, none⟩ = some (.slice (some ⟨g1, 0, none⟩) M1.s M1.sc) ∧ U4.cell? ⟨w.heap.size, 4, none⟩ = some (.slice (some ⟨bs, off, none⟩) M.s M.sc) ∧ U4.cell? ⟨bs, off + k * 7 + 2, none⟩ = some (.int .i64 x.s.cu) := ⟨kk5, aa5, cc5⟩
    have hS5 : U5.cell? ⟨K, 4, none⟩ = some (.slice (some ⟨g1, 0, none⟩) M1.s M1.sc) ∧ U5.cell? ⟨w.heap.size, 4, none⟩ = some (.slice (some ⟨bs, off, none⟩) M.s M.sc) ∧ U5.cell? ⟨bs, off + k * 7 + 2, none⟩ = some (.int .i64 x.s.cu) := ⟨kk6, aa6, cc6⟩
    have hw5 : IntKind.i64.wrap (x.s.pa + num) = x.s.pa + num := by rw [IntKind.wrap_i64]; omega
    have hw6 : IntKind.i64.wrap (x.s.pa + num - x.s.cu) = x.s.pa + num - x.s.cu := by rw [IntKind.wrap_i64]; omega
    have hw7 : IntKind.i64.wrap (x.s.pa + num - x.s.cu - go) = x.s.pa + num - x.s.cu - go := by rw [IntKind.wrap_i64]; omega
    have HOw5 := hidOf ow5
    clear ow5 kk5 kk6 aa5 aa6 cc5 cc6
    go_upto_region 18 with fail
    refine wp_region_noPanic ?_
    refine wp_region_held_drew (S := fun w' => w'.cell? ⟨K, 4, none⟩ = some (.slice (some ⟨g1, 0, none⟩) M1.s M1.sc) ∧ w'.cell? ⟨w.heap.size, 4, none⟩ = some (.slice (some ⟨bs, off, none⟩) M.s M.sc) ∧ w'.cell? ⟨bs, off + k * 7 + 2, none⟩ = some (.int .i64 x.s.cu)) (by kernel_rfl) hS4 (fun hHeld => ?_)
    refine tK 0 ?_ rfl (by kernel_rfl) (by rfl) ?_ (by assumption) (fun _ _ _ h => h) ?_
    case refine_2 => (intro w hSw; (try dsimp only at hSw); go_simp; try with_reducible rfl)
    simp only [Act.put, List.getElem_toArray, List.getElem_cons_zero, List.setIfInBounds_toArray, List.set_cons_zero, List.set_cons_succ]
    refine tR 1 ?_
    refine tR 2 ?_
    refine tR 3 ?_
    refine tR 4 ?_
    refine tR 5 ?_
    refine tR 6 ?_
    refine tR 7 ?_
    refine tR 9 ?_
    refine tR 11 ?_
    refine tR 12 ?_
    refine tR 13 ?_
    refine tR 14 ?_
    refine tR 15 ?_
    refine tR 16 ?_
    refine tR 18 ?_
    refine tW 8 (fun K hK => ?_)
    go_simp
    refine hK.out _ _ hHeld (fun hHeld => ?_)
    clear hK K
    refine tR 10 ?_
    refine tR 17 ?_
    refine tR 19 ?_
    refine tR 20 ?_
    refine tR 21 ?_
    refine tW 22 (fun K hK => ?_)
    go_simp
    refine hK.out _ _ hS5 (fun hHeld => ?_)
    clear hK K
    refine wpAnyH_done (by kernel_rfl) ?_ _
    refine NoPanic.normal ?_
    clear hU5 hS4 hS5 hHeld l5 fr5 hw5 hw6 hw7 K5 R5 A5 B5 A6
    obtain ⟨y2, hy2⟩ : ∃ y, putS y1 k 5 (x.s.pa + num - x.s.cu - go) = y := ⟨_, rfl⟩
    rw [hy2] at HOw5
    obtain ⟨sb2, hsb2⟩ : ∃ y, putV sb1 k 5 (x.s.pa + num - x.s.cu - go) = y := ⟨_, rfl⟩
    rw [hsb2] at HOw5
    have hky2 : k < y2.length := by rw [← hy2, putS_len]; exact hky1
    have hgy2 : sg y2 k = putA (putA x 4 (x.s.lo + go)) 5 (x.s.pa + num - x.s.cu - go) := by rw [← hy2, putS_get hky1, if_pos rfl, hgy1]
    have l6 : U5.cell? ⟨g1, k * 7 + 2, none⟩ = some (.int .i64 x.s.cu) := by rw [row_cell (by have h := HOw5.out.sb; simp only at h; rw [HG1.out] at h; exact h) hky2 (by omega), hgy2]; rfl
    have fr6 := fun o => World.ownsRow.frozenAt (by have h := HOw5.out.sb; simp only at h; rw [HG1.out] at h; exact h) o
    obtain ⟨U6, hU6⟩ : ∃ U, U5.setCell ⟨g1, k * 7 + 2, none⟩ (.int .i64 num) = U := ⟨_, rfl⟩
    have ow6 := HOw5.out.put HG1.out hky2 (by omega) (by omega) (r := 2) num
    simp only at ow6
    rw [hU6] at ow6
    have K7 : BoxL K (rC M1 v) U6 := by rw [← hU6]; exact K6.far _ _ (by omega) _
    have R7 : BoxL (w.heap.size + 1) [.int .i64 0, .int .i64 0, .slice none 0 0, .int .i64 0, .slice none 0 0, .slice none 0 0, .slice none 0 0, .bool false] U6 := by rw [← hU6]; exact R6.far _ _ (by omega) _
    have B7 : Below w.heap.size w U6 := by rw [← hU6]; exact bl_setB B6 _ _ (by omega) _
    have kk6 : U5.cell? ⟨K, 4, none⟩ = some (.slice (some ⟨g1, 0, none⟩) M1.s M1.sc) := by have h := K6.cs 4 (by simp); simp at h; rw [HG1.out] at h; exact h
    obtain ⟨M6, hM6⟩ : ∃ M6 : Rm, { M1 with xs := putS y2 k 2 num } = M6 := ⟨_, rfl⟩
    have hv6 : ({ v with sb := putV sb2 k 2 num } : Rv) = skipV v k num := by
      unfold skipV
      rw [HSX.out, HGo.out, ← hsb2, ← hsb1]
      rw [show x.s.pa + num - x.s.cu - go = x.s.pa + (num - x.s.cu - go) by omega]
    have row6 : RRow (w.heap.size + 2) U6 M6 (skipV v k num) := by rw [← hM6, ← hv6]; exact ow6
    have hM6b : M6.ia = M1.ia ∧ M6.i = M1.i ∧ M6.ic = M1.ic ∧ M6.sa = M1.sa ∧ M6.s = M1.s ∧ M6.sc = M1.sc ∧ M6.la = M1.la ∧ M6.l = M1.l ∧ M6.lc = M1.lc ∧ M6.ga = M1.ga ∧ M6.g = M1.g ∧ M6.gc = M1.gc := by rw [← hM6]; exact ⟨rfl, rfl, rfl, rfl, rfl, rfl, rfl, rfl, rfl, rfl, rfl, rfl⟩
    have hLe6 : RLe M6 2097152 := by
      rw [← hM6]
      have h := HLe.out
      exact ⟨h.i, h.s, fun y hy => by
        obtain ⟨a1, h1, _, n1, _⟩ := putS_mem hky2 y hy
        rw [← hy2] at h1
        obtain ⟨a2, h2, _, n2, _⟩ := putS_mem hky1 a1 h1
        rw [← hy1] at h2
        obtain ⟨a3, h3, _, n3, _⟩ := putS_mem HK1.out a2 h2
        rw [n1, n2, n3]; exact h.f a3 h3, h.l, h.g⟩
    have hob := oldR_bd (v := skipV v k num) HHd.out.2.1.1 HHd.out.1.1
    have HTr := hidOf (l9Trim_any (w.heap.size + 2) M6 (skipV v k num) U6 row6 (by have := K7.lt; omega) hLe6 HHd.out.2.1 HHd.out.1 hob.2 hob.1)
    rw [hM6b.1, hM6b.2.1, hM6b.2.2.1, hM6b.2.2.2.1, hM6b.2.2.2.2.1, hM6b.2.2.2.2.2.1, hM6b.2.2.2.2.2.2.1, hM6b.2.2.2.2.2.2.2.1, hM6b.2.2.2.2.2.2.2.2.1, hM6b.2.2.2.2.2.2.2.2.2.1, hM6b.2.2.2.2.2.2.2.2.2.2.1, hM6b.2.2.2.2.2.2.2.2.2.2.2] at HTr
    have ec : (skipV v k num).cp = v.cp ∧ (skipV v k num).se = v.se ∧ (skipV v k num).nx = v.nx ∧ (skipV v k num).cl = v.cl := ⟨rfl, rfl, rfl, rfl⟩
    rw [ec.1, ec.2.1, ec.2.2.1, ec.2.2.2] at HTr
    have HLe6 := hidOf hLe6
    have HM6 := hidOf hM6b
    obtain ⟨d, hd, ho, htr⟩ := skip_first (num := num) HQ.out HLt.out (by rw [HSX.out]; omega) HF.out
    obtain ⟨v7, hv7⟩ : ∃ v7 : Rv, trimR (skipV v k num) = v7 := ⟨_, rfl⟩
    have e7 : (skipV v k num).cp = v7.cp ∧ (skipV v k num).se = v7.se ∧ (skipV v k num).nx = v7.nx ∧ (skipV v k num).cl = v7.cl := by rw [← hv7, htr]; exact ⟨rfl, rfl, rfl, rfl⟩
    have HV7 := hidOf hv7
    have HE7 := hidOf e7
    have HE := hidOf (show RgP w (skipG v id num) (skipC v id num) = RgP w v7 0 by
      rw [← hv7]
      unfold skipG skipC
      rw [HKK.out, HSX.out, if_pos HQ.out, if_pos HQ.out, if_neg (show ¬ atR v.sb id < 0 by have h := HA.out; omega), if_neg (show ¬ atR v.sb id < 0 by have h := HA.out; omega), if_neg (show ¬ (hasL v.ln id || hasL v.gs id) = true by rw [HH.out]; simp), if_neg (show ¬ (hasL v.ln id || hasL v.gs id) = true by rw [HH.out]; simp), if_neg (show ¬ (num < x.s.cu ∨ v.se < num) by omega), if_neg (show ¬ (num < x.s.cu ∨ v.se < num) by omega)])
    clear hM6 hM6b hLe6 hv6 hob ow6 row6 hy1 hy2 hsb1 hsb2 hgy1 hgy2 hx1 hd ho htr hv7 e7 ec
    have o0 := K7.cs 0 (by simp)
    have o1 := K7.cs 1 (by simp)
    have o2 := K7.cs 2 (by simp)
    have o3 := K7.cs 3 (by simp)
    have o4 := K7.cs 4 (by simp)
    have o5 := K7.cs 5 (by simp)
    have o6 := K7.cs 6 (by simp)
    have o7 := K7.cs 7 (by simp)
    simp at o0 o1 o2 o3 o4 o5 o6 o7
    go_upto_region 20 with fail
    try rw [hU6]
    clear hU6 l6 fr6 kk6
    go_wp2_with fail
    refine (HTr.out).mono ?_
    rintro e w7 ⟨ia7, i7, ic7, rfl, row7, hi7, b7⟩
    have e7 := HE7.out
    have row8 : RRow (w.heap.size + 2) w7 { M6 with ia := ia7, i := i7, ic := ic7 } v7 := by rw [← HV7.out]; exact row7
    have R8 := R7.keep b7
    have B8 := bl_trans B7 b7
    rw [e7.1, e7.2.1, e7.2.2.1, e7.2.2.2]
    have HL8 := hidOf (show RLe { M6 with ia := ia7, i := i7, ic := ic7 } 2097152 from ⟨Nat.le_trans hi7 HLe6.out.i, HLe6.out.s, HLe6.out.f, HLe6.out.l, HLe6.out.g⟩)
    clear R7 B7 row7 HTr e7 K7 o0 o1 o2 o3 o4 o5 o6 o7
    have r0 := R8.cs 0 (by simp)
    have r1 := R8.cs 1 (by simp)
    have r2 := R8.cs 2 (by simp)
    have r3 := R8.cs 3 (by simp)
    have r4 := R8.cs 4 (by simp)
    have r5 := R8.cs 5 (by simp)
    have r6 := R8.cs 6 (by simp)
    have r7 := R8.cs 7 (by simp)
    have rf := R8.fr
    simp at r0 r1 r2 r3 r4 r5 r6 r7
    obtain ⟨Z, hZ⟩ : ∃ Z, ((((((((w7.setCell ⟨w.heap.size + 1, 0, none⟩ (.int .i64 v7.cp)).setCell ⟨w.heap.size + 1, 1, none⟩ (.int .i64 v7.se)).setCell ⟨w.heap.size + 1, 2, none⟩ (.slice ia7 i7 ic7)).setCell ⟨w.heap.size + 1, 3, none⟩ (.int .i64 v7.nx)).setCell ⟨w.heap.size + 1, 4, none⟩ (.slice M6.sa M6.s M6.sc)).setCell ⟨w.heap.size + 1, 5, none⟩ (.slice M6.la M6.l M6.lc)).setCell ⟨w.heap.size + 1, 6, none⟩ (.slice M6.ga M6.g M6.gc)).setCell ⟨w.heap.size + 1, 7, none⟩ (.bool v7.cl)) = Z := ⟨_, rfl⟩
    have hZ2 : Z = setL w7 (w.heap.size + 1) 0 [.int .i64 v7.cp, .int .i64 v7.se, .slice ia7 i7 ic7, .int .i64 v7.nx, .slice M6.sa M6.s M6.sc, .slice M6.la M6.l M6.lc, .slice M6.ga M6.g M6.gc, .bool v7.cl] := by rw [← hZ]; rfl
    have XZ : BoxL (w.heap.size + 1) [.int .i64 v7.cp, .int .i64 v7.se, .slice ia7 i7 ic7, .int .i64 v7.nx, .slice M6.sa M6.s M6.sc, .slice M6.la M6.l M6.lc, .slice M6.ga M6.g M6.gc, .bool v7.cl] Z := by
      rw [← hZ]
      exact ((((((((R8.set 0 (by simp) _).set 1 (by simp) _).set 2 (by simp) _).set 3 (by simp) _).set 4 (by simp) _).set 5 (by simp) _).set 6 (by simp) _).set 7 (by simp) _)
    have HRZ := hidOf (show ROwn w.heap.size Z ({ M6 with ia := ia7, i := i7, ic := ic7 } : Rm) v7 by
      rw [hZ2]
      exact ((row8.grown (setL_grown ⟨rfl, rfl, rfl, Nat.le_refl _, fun _ _ _ => rfl⟩) (row8.out (by omega))).mono (B' := w.heap.size) (by omega)).own)
    have HBZ := hidOf (show Below w.heap.size w Z by rw [hZ2]; exact setL_below (by omega) B8)
    have HLZ := hidOf (show RLe ({ M6 with ia := ia7, i := i7, ic := ic7 } : Rm) 2097152 from HL8.out)
    have t0 := XZ.cs 0 (by simp)
    have t1 := XZ.cs 1 (by simp)
    have t2 := XZ.cs 2 (by simp)
    have t3 := XZ.cs 3 (by simp)
    have t4 := XZ.cs 4 (by simp)
    have t5 := XZ.cs 5 (by simp)
    have t6 := XZ.cs 6 (by simp)
    have t7 := XZ.cs 7 (by simp)
    simp at t0 t1 t2 t3 t4 t5 t6 t7
    clear hZ2 XZ R8
    go_wp2_with fail
    clear hZ
    exact bodyPost_ret (v := .tuple #[.agg #[.int .i64 v7.cp, .int .i64 v7.se, .slice ia7 i7 ic7, .int .i64 v7.nx, .slice M6.sa M6.s M6.sc, .slice M6.la M6.l M6.lc, .slice M6.ga M6.g M6.gc, .bool v7.cl], .int .i64 0]) (by simp [results, Tryz.results44, go_sem, t0, t1, t2, t3, t4, t5, t6, t7]) rfl (show RgP w (skipG v id num) (skipC v id num) _ _ by rw [HE.out]; exact ⟨({ M6 with ia := ia7, i := i7, ic := ic7 } : Rm), rfl, HRZ.out, HLZ.out, HBZ.out⟩)
  · by_cases hc2 : v.se - v.cp - x.s.cu < 0
    · skip
      obtain rfl : go = 0 := by rw [← HGo.out]; unfold goneS; rw [if_neg hc1, if_pos hc2]
      have hwB : IntKind.i64.wrap (v.se - v.cp) = v.se - v.cp := by rw [IntKind.wrap_i64]; omega
      have hwA : IntKind.i64.wrap (v.se - v.cp - x.s.cu) = v.se - v.cp - x.s.cu := by rw [IntKind.wrap_i64]; omega
      have hx1 := HXs.out
      obtain ⟨U4, hU4⟩ : ∃ U, w4.drew.setCell ⟨g1, k * 7 + 4, none⟩ (.int .i64 (x.s.lo)) = U := ⟨_, rfl⟩
      have l4 : w4.cell? ⟨g1, k * 7 + 4, none⟩ = some (.int .i64 x.s.lo) := by rw [row_cell (by have h := HR4.out.sb; rw [HG1.out] at h; exact h) HK1.out (by omega), HX1.out]; rfl
      have fr4 := fun o => World.ownsRow.frozenAt (by have h := HR4.out.sb; rw [HG1.out] at h; exact h) o
      have ow4 := (HR4.out.keep (Below.refl _ _).drew).put HG1.out HK1.out (by omega) (by omega) (r := 4) (x.s.lo)
      rw [hU4] at ow4
      have kk4 : w4.cell? ⟨K, 4, none⟩ = some (.slice (some ⟨g1, 0, none⟩) M1.s M1.sc) := by have h := K4.cs 4 (by simp); simp at h; rw [HG1.out] at h; exact h
      have gU4 : w4.grownBy U4 (some g1) := by rw [← hU4]; exact (grown_of (Below.refl _ _).drew).trans (grown_set _ _ _ _)
      have hgK := HGK.out
      have K5 : BoxL K (rC M1 v) U4 := by rw [← hU4]; exact (K4.keep (Below.refl _ _).drew).far _ _ (by omega) _
      have R5 : BoxL (w.heap.size + 1) [.int .i64 0, .int .i64 0, .slice none 0 0, .int .i64 0, .slice none 0 0, .slice none 0 0, .slice none 0 0, .bool false] U4 := by rw [← hU4]; exact (R4.keep (Below.refl _ _).drew).far _ _ (by omega) _
      have A5 : BoxL w.heap.size (rC M v) U4 := by rw [← hU4]; exact (A4.keep (Below.refl _ _).drew).far _ _ (by omega) _
      have B5 : Below w.heap.size w U4 := by rw [← hU4]; exact bl_setB (bl_trans B4 (Below.refl _ _).drew) _ _ (by omega) _
      have kk5 : U4.cell? ⟨K, 4, none⟩ = some (.slice (some ⟨g1, 0, none⟩) M1.s M1.sc) := by have h := K5.cs 4 (by simp); simp at h; rw [HG1.out] at h; exact h
      have hS3 : w4.cell? ⟨K, 4, none⟩ = some (.slice (some ⟨g1, 0, none⟩) M1.s M1.sc) ∧ True := ⟨kk4, True.intro⟩
      have hS4 : U4.cell? ⟨K, 4, none⟩ = some (.slice (some ⟨g1, 0, none⟩) M1.s M1.sc) ∧ True := ⟨kk5, True.intro⟩
      have hw4 : IntKind.i64.wrap (x.s.lo) = x.s.lo := by rw [IntKind.wrap_i64]; omega
      have HOw4 := hidOf ow4
      have HGU4 := hidOf gU4
      clear ow4 kk4 gU4 kk5
      go_upto_region 17 with fail
      refine wp_region_noPanic ?_
      refine wp_region_held_drew (S := fun w' => w'.cell? ⟨K, 4, none⟩ = some (.slice (some ⟨g1, 0, none⟩) M1.s M1.sc) ∧ True) (by kernel_rfl) hS3 (fun hHeld => ?_)
      refine tK 0 ?_ rfl (by kernel_rfl) (by rfl) ?_ (by assumption) (fun _ _ _ h => h) ?_
      case refine_2 => (intro w hSw; (try dsimp only at hSw); go_simp; try with_reducible rfl)
      simp only [Act.put, List.getElem_toArray, List.getElem_cons_zero, List.setIfInBounds_toArray, List.set_cons_zero, List.set_cons_succ]
      refine tR 1 ?_
      refine tR 2 ?_
      refine tR 3 ?_
      refine tR 4 ?_
      refine tR 5 ?_
      refine tR 6 ?_
      refine tR 7 ?_
      refine tR 9 ?_
      refine tW 8 (fun K hK => ?_)
      go_simp
      refine hK.out _ _ hHeld (fun hHeld => ?_)
      clear hK K
      refine tR 10 ?_
      refine tR 11 ?_
      refine tR 12 ?_
      refine tW 13 (fun K hK => ?_)
      go_simp
      refine hK.out _ _ hS4 (fun hHeld => ?_)
      clear hK K
      refine wpAnyH_done (by kernel_rfl) ?_ _
      refine NoPanic.normal ?_
      clear hU4 hS3 hS4 hHeld l4 fr4 hw4 K4 R4 A4 B4
      obtain ⟨y1, hy1⟩ : ∃ y, putS M1.xs k 4 (x.s.lo) = y := ⟨_, rfl⟩
      rw [hy1] at HOw4
      obtain ⟨sb1, hsb1⟩ : ∃ y, putV v.sb k 4 (x.s.lo) = y := ⟨_, rfl⟩
      rw [hsb1] at HOw4
      have hky1 : k < y1.length := by rw [← hy1, putS_len]; exact HK1.out
      have hgy1 : sg y1 k = putA x 4 (x.s.lo) := by rw [← hy1, putS_get HK1.out, if_pos rfl, HX1.out]
      have l5 : U4.cell? ⟨g1, k * 7 + 5, none⟩ = some (.int .i64 x.s.pa) := by rw [row_cell (by have h := HOw4.out.sb; simp only at h; rw [HG1.out] at h; exact h) hky1 (by omega), hgy1]; rfl
      have fr5 := fun o => World.ownsRow.frozenAt (by have h := HOw4.out.sb; simp only at h; rw [HG1.out] at h; exact h) o
      obtain ⟨U5, hU5⟩ : ∃ U, U4.drew.setCell ⟨g1, k * 7 + 5, none⟩ (.int .i64 (x.s.pa + num - x.s.cu)) = U := ⟨_, rfl⟩
      have ow5 := (HOw4.out.keep (Below.refl _ _).drew).put HG1.out hky1 (by omega) (by omega) (r := 5) (x.s.pa + num - x.s.cu)
      simp only at ow5
      rw [hU5] at ow5
      have K6 : BoxL K (rC M1 v) U5 := by rw [← hU5]; exact (K5.keep (Below.refl _ _).drew).far _ _ (by omega) _
      have R6 : BoxL (w.heap.size + 1) [.int .i64 0, .int .i64 0, .slice none 0 0, .int .i64 0, .slice none 0 0, .slice none 0 0, .slice none 0 0, .bool false] U5 := by rw [← hU5]; exact (R5.keep (Below.refl _ _).drew).far _ _ (by omega) _
      have B6 : Below w.heap.size w U5 := by rw [← hU5]; exact bl_setB (bl_trans B5 (Below.refl _ _).drew) _ _ (by omega) _
      have kk5 : U4.cell? ⟨K, 4, none⟩ = some (.slice (some ⟨g1, 0, none⟩) M1.s M1.sc) := by have h := K5.cs 4 (by simp); simp at h; rw [HG1.out] at h; exact h
      have kk6 : U5.cell? ⟨K, 4, none⟩ = some (.slice (some ⟨g1, 0, none⟩) M1.s M1.sc) := by have h := K6.cs 4 (by simp); simp at h; rw [HG1.out] at h; exact h
      have aa5 : U4.cell? ⟨w.heap.size, 4, none⟩ = some (.slice (some ⟨bs, off, none⟩) M.s M.sc) := by have h := A5.cs 4 (by simp); simp at h; rw [HBs.out] at h; exact h
      have A6 : BoxL w.heap.size (rC M v) U5 := by rw [← hU5]; exact (A5.keep (Below.refl _ _).drew).far _ _ (by omega) _
      have aa6 : U5.cell? ⟨w.heap.size, 4, none⟩ = some (.slice (some ⟨bs, off, none⟩) M.s M.sc) := by have h := A6.cs 4 (by simp); simp at h; rw [HBs.out] at h; exact h
      have cc5 : U4.cell? ⟨bs, off + k * 7 + 2, none⟩ = some (.int .i64 x.s.cu) := by rw [B5.cell (p := ⟨bs, off + k * 7 + 2, none⟩) HBl.out]; exact HCu.out
      have cc6 : U5.cell? ⟨bs, off + k * 7 + 2, none⟩ = some (.int .i64 x.s.cu) := by rw [B6.cell (p := ⟨bs, off + k * 7 + 2, none⟩) HBl.out]; exact HCu.out
      have hS4 : U4.cell? ⟨K, 4, none⟩ = some (.slice (some ⟨g1, 0, none⟩) M1.s M1.sc) ∧ U4.cell? ⟨w.heap.size, 4, none⟩ = some (.slice (some ⟨bs, off, none⟩) M.s M.sc) ∧ U4.cell? ⟨bs, off + k * 7 + 2, none⟩ = some (.int .i64 x.s.cu) := ⟨kk5, aa5, cc5⟩
      have hS5 : U5.cell? ⟨K, 4, none⟩ = some (.slice (some ⟨g1, 0, none⟩) M1.s M1.sc) ∧ U5.cell? ⟨w.heap.size, 4, none⟩ = some (.slice (some ⟨bs, off, none⟩) M.s M.sc) ∧ U5.cell? ⟨bs, off + k * 7 + 2, none⟩ = some (.int .i64 x.s.cu) := ⟨kk6, aa6, cc6⟩
      have hw5 : IntKind.i64.wrap (x.s.pa + num) = x.s.pa + num := by rw [IntKind.wrap_i64]; omega
      have hw6 : IntKind.i64.wrap (x.s.pa + num - x.s.cu) = x.s.pa + num - x.s.cu := by rw [IntKind.wrap_i64]; omega
      have hw7 : IntKind.i64.wrap (x.s.pa + num - x.s.cu) = x.s.pa + num - x.s.cu := by rw [IntKind.wrap_i64]; omega
      have HOw5 := hidOf ow5
      clear ow5 kk5 kk6 aa5 aa6 cc5 cc6
      go_upto_region 18 with fail
      refine wp_region_noPanic ?_
      refine wp_region_held_drew (S := fun w' => w'.cell? ⟨K, 4, none⟩ = some (.slice (some ⟨g1, 0, none⟩) M1.s M1.sc) ∧ w'.cell? ⟨w.heap.size, 4, none⟩ = some (.slice (some ⟨bs, off, none⟩) M.s M.sc) ∧ w'.cell? ⟨bs, off + k * 7 + 2, none⟩ = some (.int .i64 x.s.cu)) (by kernel_rfl) hS4 (fun hHeld => ?_)
      refine tK 0 ?_ rfl (by kernel_rfl) (by rfl) ?_ (by assumption) (fun _ _ _ h => h) ?_
      case refine_2 => (intro w hSw; (try dsimp only at hSw); go_simp; try with_reducible rfl)
      simp only [Act.put, List.getElem_toArray, List.getElem_cons_zero, List.setIfInBounds_toArray, List.set_cons_zero, List.set_cons_succ]
      refine tR 1 ?_
      refine tR 2 ?_
      refine tR 3 ?_
      refine tR 4 ?_
      refine tR 5 ?_
      refine tR 6 ?_
      refine tR 7 ?_
      refine tR 9 ?_
      refine tR 11 ?_
      refine tR 12 ?_
      refine tR 13 ?_
      refine tR 14 ?_
      refine tR 15 ?_
      refine tR 16 ?_
      refine tR 18 ?_
      refine tW 8 (fun K hK => ?_)
      go_simp
      refine hK.out _ _ hHeld (fun hHeld => ?_)
      clear hK K
      refine tR 10 ?_
      refine tR 17 ?_
      refine tR 19 ?_
      refine tR 20 ?_
      refine tR 21 ?_
      refine tW 22 (fun K hK => ?_)
      go_simp
      refine hK.out _ _ hS5 (fun hHeld => ?_)
      clear hK K
      refine wpAnyH_done (by kernel_rfl) ?_ _
      refine NoPanic.normal ?_
      clear hU5 hS4 hS5 hHeld l5 fr5 hw5 hw6 hw7 K5 R5 A5 B5 A6
      obtain ⟨y2, hy2⟩ : ∃ y, putS y1 k 5 (x.s.pa + num - x.s.cu) = y := ⟨_, rfl⟩
      rw [hy2] at HOw5
      obtain ⟨sb2, hsb2⟩ : ∃ y, putV sb1 k 5 (x.s.pa + num - x.s.cu) = y := ⟨_, rfl⟩
      rw [hsb2] at HOw5
      have hky2 : k < y2.length := by rw [← hy2, putS_len]; exact hky1
      have hgy2 : sg y2 k = putA (putA x 4 (x.s.lo)) 5 (x.s.pa + num - x.s.cu) := by rw [← hy2, putS_get hky1, if_pos rfl, hgy1]
      have l6 : U5.cell? ⟨g1, k * 7 + 2, none⟩ = some (.int .i64 x.s.cu) := by rw [row_cell (by have h := HOw5.out.sb; simp only at h; rw [HG1.out] at h; exact h) hky2 (by omega), hgy2]; rfl
      have fr6 := fun o => World.ownsRow.frozenAt (by have h := HOw5.out.sb; simp only at h; rw [HG1.out] at h; exact h) o
      obtain ⟨U6, hU6⟩ : ∃ U, U5.setCell ⟨g1, k * 7 + 2, none⟩ (.int .i64 num) = U := ⟨_, rfl⟩
      have ow6 := HOw5.out.put HG1.out hky2 (by omega) (by omega) (r := 2) num
      simp only at ow6
      rw [hU6] at ow6
      have K7 : BoxL K (rC M1 v) U6 := by rw [← hU6]; exact K6.far _ _ (by omega) _
      have R7 : BoxL (w.heap.size + 1) [.int .i64 0, .int .i64 0, .slice none 0 0, .int .i64 0, .slice none 0 0, .slice none 0 0, .slice none 0 0, .bool false] U6 := by rw [← hU6]; exact R6.far _ _ (by omega) _
      have B7 : Below w.heap.size w U6 := by rw [← hU6]; exact bl_setB B6 _ _ (by omega) _
      have kk6 : U5.cell? ⟨K, 4, none⟩ = some (.slice (some ⟨g1, 0, none⟩) M1.s M1.sc) := by have h := K6.cs 4 (by simp); simp at h; rw [HG1.out] at h; exact h
      obtain ⟨M6, hM6⟩ : ∃ M6 : Rm, { M1 with xs := putS y2 k 2 num } = M6 := ⟨_, rfl⟩
      have hv6 : ({ v with sb := putV sb2 k 2 num } : Rv) = skipV v k num := by
        unfold skipV
        rw [HSX.out, HGo.out, ← hsb2, ← hsb1]
        rw [Int.add_zero, show x.s.pa + num - x.s.cu = x.s.pa + (num - x.s.cu - 0) by omega]
      have row6 : RRow (w.heap.size + 2) U6 M6 (skipV v k num) := by rw [← hM6, ← hv6]; exact ow6
      have hM6b : M6.ia = M1.ia ∧ M6.i = M1.i ∧ M6.ic = M1.ic ∧ M6.sa = M1.sa ∧ M6.s = M1.s ∧ M6.sc = M1.sc ∧ M6.la = M1.la ∧ M6.l = M1.l ∧ M6.lc = M1.lc ∧ M6.ga = M1.ga ∧ M6.g = M1.g ∧ M6.gc = M1.gc := by rw [← hM6]; exact ⟨rfl, rfl, rfl, rfl, rfl, rfl, rfl, rfl, rfl, rfl, rfl, rfl⟩
      have hLe6 : RLe M6 2097152 := by
        rw [← hM6]
        have h := HLe.out
        exact ⟨h.i, h.s, fun y hy => by
          obtain ⟨a1, h1, _, n1, _⟩ := putS_mem hky2 y hy
          rw [← hy2] at h1
          obtain ⟨a2, h2, _, n2, _⟩ := putS_mem hky1 a1 h1
          rw [← hy1] at h2
          obtain ⟨a3, h3, _, n3, _⟩ := putS_mem HK1.out a2 h2
          rw [n1, n2, n3]; exact h.f a3 h3, h.l, h.g⟩
      have hob := oldR_bd (v := skipV v k num) HHd.out.2.1.1 HHd.out.1.1
      have HTr := hidOf (l9Trim_any (w.heap.size + 2) M6 (skipV v k num) U6 row6 (by have := K7.lt; omega) hLe6 HHd.out.2.1 HHd.out.1 hob.2 hob.1)
      rw [hM6b.1, hM6b.2.1, hM6b.2.2.1, hM6b.2.2.2.1, hM6b.2.2.2.2.1, hM6b.2.2.2.2.2.1, hM6b.2.2.2.2.2.2.1, hM6b.2.2.2.2.2.2.2.1, hM6b.2.2.2.2.2.2.2.2.1, hM6b.2.2.2.2.2.2.2.2.2.1, hM6b.2.2.2.2.2.2.2.2.2.2.1, hM6b.2.2.2.2.2.2.2.2.2.2.2] at HTr
      have ec : (skipV v k num).cp = v.cp ∧ (skipV v k num).se = v.se ∧ (skipV v k num).nx = v.nx ∧ (skipV v k num).cl = v.cl := ⟨rfl, rfl, rfl, rfl⟩
      rw [ec.1, ec.2.1, ec.2.2.1, ec.2.2.2] at HTr
      have HLe6 := hidOf hLe6
      have HM6 := hidOf hM6b
      obtain ⟨d, hd, ho, htr⟩ := skip_first (num := num) HQ.out HLt.out (by rw [HSX.out]; omega) HF.out
      obtain ⟨v7, hv7⟩ : ∃ v7 : Rv, trimR (skipV v k num) = v7 := ⟨_, rfl⟩
      have e7 : (skipV v k num).cp = v7.cp ∧ (skipV v k num).se = v7.se ∧ (skipV v k num).nx = v7.nx ∧ (skipV v k num).cl = v7.cl := by rw [← hv7, htr]; exact ⟨rfl, rfl, rfl, rfl⟩
      have HV7 := hidOf hv7
      have HE7 := hidOf e7
      have HE := hidOf (show RgP w (skipG v id num) (skipC v id num) = RgP w v7 0 by
        rw [← hv7]
        unfold skipG skipC
        rw [HKK.out, HSX.out, if_pos HQ.out, if_pos HQ.out, if_neg (show ¬ atR v.sb id < 0 by have h := HA.out; omega), if_neg (show ¬ atR v.sb id < 0 by have h := HA.out; omega), if_neg (show ¬ (hasL v.ln id || hasL v.gs id) = true by rw [HH.out]; simp), if_neg (show ¬ (hasL v.ln id || hasL v.gs id) = true by rw [HH.out]; simp), if_neg (show ¬ (num < x.s.cu ∨ v.se < num) by omega), if_neg (show ¬ (num < x.s.cu ∨ v.se < num) by omega)])
      clear hM6 hM6b hLe6 hv6 hob ow6 row6 hy1 hy2 hsb1 hsb2 hgy1 hgy2 hx1 hd ho htr hv7 e7 ec
      have o0 := K7.cs 0 (by simp)
      have o1 := K7.cs 1 (by simp)
      have o2 := K7.cs 2 (by simp)
      have o3 := K7.cs 3 (by simp)
      have o4 := K7.cs 4 (by simp)
      have o5 := K7.cs 5 (by simp)
      have o6 := K7.cs 6 (by simp)
      have o7 := K7.cs 7 (by simp)
      simp at o0 o1 o2 o3 o4 o5 o6 o7
      go_upto_region 20 with fail
      try rw [hU6]
      clear hU6 l6 fr6 kk6
      go_wp2_with fail
      refine (HTr.out).mono ?_
      rintro e w7 ⟨ia7, i7, ic7, rfl, row7, hi7, b7⟩
      have e7 := HE7.out
      have row8 : RRow (w.heap.size + 2) w7 { M6 with ia := ia7, i := i7, ic := ic7 } v7 := by rw [← HV7.out]; exact row7
      have R8 := R7.keep b7
      have B8 := bl_trans B7 b7
      rw [e7.1, e7.2.1, e7.2.2.1, e7.2.2.2]
      have HL8 := hidOf (show RLe { M6 with ia := ia7, i := i7, ic := ic7 } 2097152 from ⟨Nat.le_trans hi7 HLe6.out.i, HLe6.out.s, HLe6.out.f, HLe6.out.l, HLe6.out.g⟩)
      clear R7 B7 row7 HTr e7 K7 o0 o1 o2 o3 o4 o5 o6 o7
      have r0 := R8.cs 0 (by simp)
      have r1 := R8.cs 1 (by simp)
      have r2 := R8.cs 2 (by simp)
      have r3 := R8.cs 3 (by simp)
      have r4 := R8.cs 4 (by simp)
      have r5 := R8.cs 5 (by simp)
      have r6 := R8.cs 6 (by simp)
      have r7 := R8.cs 7 (by simp)
      have rf := R8.fr
      simp at r0 r1 r2 r3 r4 r5 r6 r7
      obtain ⟨Z, hZ⟩ : ∃ Z, ((((((((w7.setCell ⟨w.heap.size + 1, 0, none⟩ (.int .i64 v7.cp)).setCell ⟨w.heap.size + 1, 1, none⟩ (.int .i64 v7.se)).setCell ⟨w.heap.size + 1, 2, none⟩ (.slice ia7 i7 ic7)).setCell ⟨w.heap.size + 1, 3, none⟩ (.int .i64 v7.nx)).setCell ⟨w.heap.size + 1, 4, none⟩ (.slice M6.sa M6.s M6.sc)).setCell ⟨w.heap.size + 1, 5, none⟩ (.slice M6.la M6.l M6.lc)).setCell ⟨w.heap.size + 1, 6, none⟩ (.slice M6.ga M6.g M6.gc)).setCell ⟨w.heap.size + 1, 7, none⟩ (.bool v7.cl)) = Z := ⟨_, rfl⟩
      have hZ2 : Z = setL w7 (w.heap.size + 1) 0 [.int .i64 v7.cp, .int .i64 v7.se, .slice ia7 i7 ic7, .int .i64 v7.nx, .slice M6.sa M6.s M6.sc, .slice M6.la M6.l M6.lc, .slice M6.ga M6.g M6.gc, .bool v7.cl] := by rw [← hZ]; rfl
      have XZ : BoxL (w.heap.size + 1) [.int .i64 v7.cp, .int .i64 v7.se, .slice ia7 i7 ic7, .int .i64 v7.nx, .slice M6.sa M6.s M6.sc, .slice M6.la M6.l M6.lc, .slice M6.ga M6.g M6.gc, .bool v7.cl] Z := by
        rw [← hZ]
        exact ((((((((R8.set 0 (by simp) _).set 1 (by simp) _).set 2 (by simp) _).set 3 (by simp) _).set 4 (by simp) _).set 5 (by simp) _).set 6 (by simp) _).set 7 (by simp) _)
      have HRZ := hidOf (show ROwn w.heap.size Z ({ M6 with ia := ia7, i := i7, ic := ic7 } : Rm) v7 by
        rw [hZ2]
        exact ((row8.grown (setL_grown ⟨rfl, rfl, rfl, Nat.le_refl _, fun _ _ _ => rfl⟩) (row8.out (by omega))).mono (B' := w.heap.size) (by omega)).own)
      have HBZ := hidOf (show Below w.heap.size w Z by rw [hZ2]; exact setL_below (by omega) B8)
      have HLZ := hidOf (show RLe ({ M6 with ia := ia7, i := i7, ic := ic7 } : Rm) 2097152 from HL8.out)
      have t0 := XZ.cs 0 (by simp)
      have t1 := XZ.cs 1 (by simp)
      have t2 := XZ.cs 2 (by simp)
      have t3 := XZ.cs 3 (by simp)
      have t4 := XZ.cs 4 (by simp)
      have t5 := XZ.cs 5 (by simp)
      have t6 := XZ.cs 6 (by simp)
      have t7 := XZ.cs 7 (by simp)
      simp at t0 t1 t2 t3 t4 t5 t6 t7
      clear hZ2 XZ R8
      go_wp2_with fail
      clear hZ
      exact bodyPost_ret (v := .tuple #[.agg #[.int .i64 v7.cp, .int .i64 v7.se, .slice ia7 i7 ic7, .int .i64 v7.nx, .slice M6.sa M6.s M6.sc, .slice M6.la M6.l M6.lc, .slice M6.ga M6.g M6.gc, .bool v7.cl], .int .i64 0]) (by simp [results, Tryz.results44, go_sem, t0, t1, t2, t3, t4, t5, t6, t7]) rfl (show RgP w (skipG v id num) (skipC v id num) _ _ by rw [HE.out]; exact ⟨({ M6 with ia := ia7, i := i7, ic := ic7 } : Rm), rfl, HRZ.out, HLZ.out, HBZ.out⟩)
    · skip
      have hgo : v.se - v.cp - x.s.cu = go := by rw [← HGo.out]; unfold goneS; rw [if_neg hc1, if_neg hc2]
      have hwB : IntKind.i64.wrap (v.se - v.cp) = v.se - v.cp := by rw [IntKind.wrap_i64]; omega
      have hwA : IntKind.i64.wrap (v.se - v.cp - x.s.cu) = v.se - v.cp - x.s.cu := by rw [IntKind.wrap_i64]; omega
      have hgn : ¬ go < 0 := by omega
      have hx1 := HXs.out
      obtain ⟨U4, hU4⟩ : ∃ U, w4.drew.setCell ⟨g1, k * 7 + 4, none⟩ (.int .i64 (x.s.lo + go)) = U := ⟨_, rfl⟩
      have l4 : w4.cell? ⟨g1, k * 7 + 4, none⟩ = some (.int .i64 x.s.lo) := by rw [row_cell (by have h := HR4.out.sb; rw [HG1.out] at h; exact h) HK1.out (by omega), HX1.out]; rfl
      have fr4 := fun o => World.ownsRow.frozenAt (by have h := HR4.out.sb; rw [HG1.out] at h; exact h) o
      have ow4 := (HR4.out.keep (Below.refl _ _).drew).put HG1.out HK1.out (by omega) (by omega) (r := 4) (x.s.lo + go)
      rw [hU4] at ow4
      have kk4 : w4.cell? ⟨K, 4, none⟩ = some (.slice (some ⟨g1, 0, none⟩) M1.s M1.sc) := by have h := K4.cs 4 (by simp); simp at h; rw [HG1.out] at h; exact h
      have gU4 : w4.grownBy U4 (some g1) := by rw [← hU4]; exact (grown_of (Below.refl _ _).drew).trans (grown_set _ _ _ _)
      have hgK := HGK.out
      have K5 : BoxL K (rC M1 v) U4 := by rw [← hU4]; exact (K4.keep (Below.refl _ _).drew).far _ _ (by omega) _
      have R5 : BoxL (w.heap.size + 1) [.int .i64 0, .int .i64 0, .slice none 0 0, .int .i64 0, .slice none 0 0, .slice none 0 0, .slice none 0 0, .bool false] U4 := by rw [← hU4]; exact (R4.keep (Below.refl _ _).drew).far _ _ (by omega) _
      have A5 : BoxL w.heap.size (rC M v) U4 := by rw [← hU4]; exact (A4.keep (Below.refl _ _).drew).far _ _ (by omega) _
      have B5 : Below w.heap.size w U4 := by rw [← hU4]; exact bl_setB (bl_trans B4 (Below.refl _ _).drew) _ _ (by omega) _
      have kk5 : U4.cell? ⟨K, 4, none⟩ = some (.slice (some ⟨g1, 0, none⟩) M1.s M1.sc) := by have h := K5.cs 4 (by simp); simp at h; rw [HG1.out] at h; exact h
      have hS3 : w4.cell? ⟨K, 4, none⟩ = some (.slice (some ⟨g1, 0, none⟩) M1.s M1.sc) ∧ True := ⟨kk4, True.intro⟩
      have hS4 : U4.cell? ⟨K, 4, none⟩ = some (.slice (some ⟨g1, 0, none⟩) M1.s M1.sc) ∧ True := ⟨kk5, True.intro⟩
      have hw4 : IntKind.i64.wrap (x.s.lo + go) = x.s.lo + go := by rw [IntKind.wrap_i64]; omega
      have HOw4 := hidOf ow4
      have HGU4 := hidOf gU4
      clear ow4 kk4 gU4 kk5
      go_upto_region 17 with fail
      refine wp_region_noPanic ?_
      refine wp_region_held_drew (S := fun w' => w'.cell? ⟨K, 4, none⟩ = some (.slice (some ⟨g1, 0, none⟩) M1.s M1.sc) ∧ True) (by kernel_rfl) hS3 (fun hHeld => ?_)
      refine tK 0 ?_ rfl (by kernel_rfl) (by rfl) ?_ (by assumption) (fun _ _ _ h => h) ?_
      case refine_2 => (intro w hSw; (try dsimp only at hSw); go_simp; try with_reducible rfl)
      simp only [Act.put, List.getElem_toArray, List.getElem_cons_zero, List.setIfInBounds_toArray, List.set_cons_zero, List.set_cons_succ]
      refine tR 1 ?_
      refine tR 2 ?_
      refine tR 3 ?_
      refine tR 4 ?_
      refine tR 5 ?_
      refine tR 6 ?_
      refine tR 7 ?_
      refine tR 9 ?_
      refine tW 8 (fun K hK => ?_)
      go_simp
      refine hK.out _ _ hHeld (fun hHeld => ?_)
      clear hK K
      refine tR 10 ?_
      refine tR 11 ?_
      refine tR 12 ?_
      refine tW 13 (fun K hK => ?_)
      go_simp
      refine hK.out _ _ hS4 (fun hHeld => ?_)
      clear hK K
      refine wpAnyH_done (by kernel_rfl) ?_ _
      refine NoPanic.normal ?_
      clear hU4 hS3 hS4 hHeld l4 fr4 hw4 K4 R4 A4 B4
      obtain ⟨y1, hy1⟩ : ∃ y, putS M1.xs k 4 (x.s.lo + go) = y := ⟨_, rfl⟩
      rw [hy1] at HOw4
      obtain ⟨sb1, hsb1⟩ : ∃ y, putV v.sb k 4 (x.s.lo + go) = y := ⟨_, rfl⟩
      rw [hsb1] at HOw4
      have hky1 : k < y1.length := by rw [← hy1, putS_len]; exact HK1.out
      have hgy1 : sg y1 k = putA x 4 (x.s.lo + go) := by rw [← hy1, putS_get HK1.out, if_pos rfl, HX1.out]
      have l5 : U4.cell? ⟨g1, k * 7 + 5, none⟩ = some (.int .i64 x.s.pa) := by rw [row_cell (by have h := HOw4.out.sb; simp only at h; rw [HG1.out] at h; exact h) hky1 (by omega), hgy1]; rfl
      have fr5 := fun o => World.ownsRow.frozenAt (by have h := HOw4.out.sb; simp only at h; rw [HG1.out] at h; exact h) o
      obtain ⟨U5, hU5⟩ : ∃ U, U4.drew.setCell ⟨g1, k * 7 + 5, none⟩ (.int .i64 (x.s.pa + num - x.s.cu - go)) = U := ⟨_, rfl⟩
      have ow5 := (HOw4.out.keep (Below.refl _ _).drew).put HG1.out hky1 (by omega) (by omega) (r := 5) (x.s.pa + num - x.s.cu - go)
      simp only at ow5
      rw [hU5] at ow5
      have K6 : BoxL K (rC M1 v) U5 := by rw [← hU5]; exact (K5.keep (Below.refl _ _).drew).far _ _ (by omega) _
      have R6 : BoxL (w.heap.size + 1) [.int .i64 0, .int .i64 0, .slice none 0 0, .int .i64 0, .slice none 0 0, .slice none 0 0, .slice none 0 0, .bool false] U5 := by rw [← hU5]; exact (R5.keep (Below.refl _ _).drew).far _ _ (by omega) _
      have B6 : Below w.heap.size w U5 := by rw [← hU5]; exact bl_setB (bl_trans B5 (Below.refl _ _).drew) _ _ (by omega) _
      have kk5 : U4.cell? ⟨K, 4, none⟩ = some (.slice (some ⟨g1, 0, none⟩) M1.s M1.sc) := by have h := K5.cs 4 (by simp); simp at h; rw [HG1.out] at h; exact h
      have kk6 : U5.cell? ⟨K, 4, none⟩ = some (.slice (some ⟨g1, 0, none⟩) M1.s M1.sc) := by have h := K6.cs 4 (by simp); simp at h; rw [HG1.out] at h; exact h
      have aa5 : U4.cell? ⟨w.heap.size, 4, none⟩ = some (.slice (some ⟨bs, off, none⟩) M.s M.sc) := by have h := A5.cs 4 (by simp); simp at h; rw [HBs.out] at h; exact h
      have A6 : BoxL w.heap.size (rC M v) U5 := by rw [← hU5]; exact (A5.keep (Below.refl _ _).drew).far _ _ (by omega) _
      have aa6 : U5.cell? ⟨w.heap.size, 4, none⟩ = some (.slice (some ⟨bs, off, none⟩) M.s M.sc) := by have h := A6.cs 4 (by simp); simp at h; rw [HBs.out] at h; exact h
      have cc5 : U4.cell? ⟨bs, off + k * 7 + 2, none⟩ = some (.int .i64 x.s.cu) := by rw [B5.cell (p := ⟨bs, off + k * 7 + 2, none⟩) HBl.out]; exact HCu.out
      have cc6 : U5.cell? ⟨bs, off + k * 7 + 2, none⟩ = some (.int .i64 x.s.cu) := by rw [B6.cell (p := ⟨bs, off + k * 7 + 2, none⟩) HBl.out]; exact HCu.out
      have hS4 : U4.cell? ⟨K, 4, none⟩ = some (.slice (some ⟨g1, 0, none⟩) M1.s M1.sc) ∧ U4.cell? ⟨w.heap.size, 4, none⟩ = some (.slice (some ⟨bs, off, none⟩) M.s M.sc) ∧ U4.cell? ⟨bs, off + k * 7 + 2, none⟩ = some (.int .i64 x.s.cu) := ⟨kk5, aa5, cc5⟩
      have hS5 : U5.cell? ⟨K, 4, none⟩ = some (.slice (some ⟨g1, 0, none⟩) M1.s M1.sc) ∧ U5.cell? ⟨w.heap.size, 4, none⟩ = some (.slice (some ⟨bs, off, none⟩) M.s M.sc) ∧ U5.cell? ⟨bs, off + k * 7 + 2, none⟩ = some (.int .i64 x.s.cu) := ⟨kk6, aa6, cc6⟩
      have hw5 : IntKind.i64.wrap (x.s.pa + num) = x.s.pa + num := by rw [IntKind.wrap_i64]; omega
      have hw6 : IntKind.i64.wrap (x.s.pa + num - x.s.cu) = x.s.pa + num - x.s.cu := by rw [IntKind.wrap_i64]; omega
      have hw7 : IntKind.i64.wrap (x.s.pa + num - x.s.cu - go) = x.s.pa + num - x.s.cu - go := by rw [IntKind.wrap_i64]; omega
      have HOw5 := hidOf ow5
      clear ow5 kk5 kk6 aa5 aa6 cc5 cc6
      go_upto_region 18 with fail
      refine wp_region_noPanic ?_
      refine wp_region_held_drew (S := fun w' => w'.cell? ⟨K, 4, none⟩ = some (.slice (some ⟨g1, 0, none⟩) M1.s M1.sc) ∧ w'.cell? ⟨w.heap.size, 4, none⟩ = some (.slice (some ⟨bs, off, none⟩) M.s M.sc) ∧ w'.cell? ⟨bs, off + k * 7 + 2, none⟩ = some (.int .i64 x.s.cu)) (by kernel_rfl) hS4 (fun hHeld => ?_)
      refine tK 0 ?_ rfl (by kernel_rfl) (by rfl) ?_ (by assumption) (fun _ _ _ h => h) ?_
      case refine_2 => (intro w hSw; (try dsimp only at hSw); go_simp; try with_reducible rfl)
      simp only [Act.put, List.getElem_toArray, List.getElem_cons_zero, List.setIfInBounds_toArray, List.set_cons_zero, List.set_cons_succ]
      refine tR 1 ?_
      refine tR 2 ?_
      refine tR 3 ?_
      refine tR 4 ?_
      refine tR 5 ?_
      refine tR 6 ?_
      refine tR 7 ?_
      refine tR 9 ?_
      refine tR 11 ?_
      refine tR 12 ?_
      refine tR 13 ?_
      refine tR 14 ?_
      refine tR 15 ?_
      refine tR 16 ?_
      refine tR 18 ?_
      refine tW 8 (fun K hK => ?_)
      go_simp
      refine hK.out _ _ hHeld (fun hHeld => ?_)
      clear hK K
      refine tR 10 ?_
      refine tR 17 ?_
      refine tR 19 ?_
      refine tR 20 ?_
      refine tR 21 ?_
      refine tW 22 (fun K hK => ?_)
      go_simp
      refine hK.out _ _ hS5 (fun hHeld => ?_)
      clear hK K
      refine wpAnyH_done (by kernel_rfl) ?_ _
      refine NoPanic.normal ?_
      clear hU5 hS4 hS5 hHeld l5 fr5 hw5 hw6 hw7 K5 R5 A5 B5 A6
      obtain ⟨y2, hy2⟩ : ∃ y, putS y1 k 5 (x.s.pa + num - x.s.cu - go) = y := ⟨_, rfl⟩
      rw [hy2] at HOw5
      obtain ⟨sb2, hsb2⟩ : ∃ y, putV sb1 k 5 (x.s.pa + num - x.s.cu - go) = y := ⟨_, rfl⟩
      rw [hsb2] at HOw5
      have hky2 : k < y2.length := by rw [← hy2, putS_len]; exact hky1
      have hgy2 : sg y2 k = putA (putA x 4 (x.s.lo + go)) 5 (x.s.pa + num - x.s.cu - go) := by rw [← hy2, putS_get hky1, if_pos rfl, hgy1]
      have l6 : U5.cell? ⟨g1, k * 7 + 2, none⟩ = some (.int .i64 x.s.cu) := by rw [row_cell (by have h := HOw5.out.sb; simp only at h; rw [HG1.out] at h; exact h) hky2 (by omega), hgy2]; rfl
      have fr6 := fun o => World.ownsRow.frozenAt (by have h := HOw5.out.sb; simp only at h; rw [HG1.out] at h; exact h) o
      obtain ⟨U6, hU6⟩ : ∃ U, U5.setCell ⟨g1, k * 7 + 2, none⟩ (.int .i64 num) = U := ⟨_, rfl⟩
      have ow6 := HOw5.out.put HG1.out hky2 (by omega) (by omega) (r := 2) num
      simp only at ow6
      rw [hU6] at ow6
      have K7 : BoxL K (rC M1 v) U6 := by rw [← hU6]; exact K6.far _ _ (by omega) _
      have R7 : BoxL (w.heap.size + 1) [.int .i64 0, .int .i64 0, .slice none 0 0, .int .i64 0, .slice none 0 0, .slice none 0 0, .slice none 0 0, .bool false] U6 := by rw [← hU6]; exact R6.far _ _ (by omega) _
      have B7 : Below w.heap.size w U6 := by rw [← hU6]; exact bl_setB B6 _ _ (by omega) _
      have kk6 : U5.cell? ⟨K, 4, none⟩ = some (.slice (some ⟨g1, 0, none⟩) M1.s M1.sc) := by have h := K6.cs 4 (by simp); simp at h; rw [HG1.out] at h; exact h
      obtain ⟨M6, hM6⟩ : ∃ M6 : Rm, { M1 with xs := putS y2 k 2 num } = M6 := ⟨_, rfl⟩
      have hv6 : ({ v with sb := putV sb2 k 2 num } : Rv) = skipV v k num := by
        unfold skipV
        rw [HSX.out, HGo.out, ← hsb2, ← hsb1]
        rw [show x.s.pa + num - x.s.cu - go = x.s.pa + (num - x.s.cu - go) by omega]
      have row6 : RRow (w.heap.size + 2) U6 M6 (skipV v k num) := by rw [← hM6, ← hv6]; exact ow6
      have hM6b : M6.ia = M1.ia ∧ M6.i = M1.i ∧ M6.ic = M1.ic ∧ M6.sa = M1.sa ∧ M6.s = M1.s ∧ M6.sc = M1.sc ∧ M6.la = M1.la ∧ M6.l = M1.l ∧ M6.lc = M1.lc ∧ M6.ga = M1.ga ∧ M6.g = M1.g ∧ M6.gc = M1.gc := by rw [← hM6]; exact ⟨rfl, rfl, rfl, rfl, rfl, rfl, rfl, rfl, rfl, rfl, rfl, rfl⟩
      have hLe6 : RLe M6 2097152 := by
        rw [← hM6]
        have h := HLe.out
        exact ⟨h.i, h.s, fun y hy => by
          obtain ⟨a1, h1, _, n1, _⟩ := putS_mem hky2 y hy
          rw [← hy2] at h1
          obtain ⟨a2, h2, _, n2, _⟩ := putS_mem hky1 a1 h1
          rw [← hy1] at h2
          obtain ⟨a3, h3, _, n3, _⟩ := putS_mem HK1.out a2 h2
          rw [n1, n2, n3]; exact h.f a3 h3, h.l, h.g⟩
      have hob := oldR_bd (v := skipV v k num) HHd.out.2.1.1 HHd.out.1.1
      have HTr := hidOf (l9Trim_any (w.heap.size + 2) M6 (skipV v k num) U6 row6 (by have := K7.lt; omega) hLe6 HHd.out.2.1 HHd.out.1 hob.2 hob.1)
      rw [hM6b.1, hM6b.2.1, hM6b.2.2.1, hM6b.2.2.2.1, hM6b.2.2.2.2.1, hM6b.2.2.2.2.2.1, hM6b.2.2.2.2.2.2.1, hM6b.2.2.2.2.2.2.2.1, hM6b.2.2.2.2.2.2.2.2.1, hM6b.2.2.2.2.2.2.2.2.2.1, hM6b.2.2.2.2.2.2.2.2.2.2.1, hM6b.2.2.2.2.2.2.2.2.2.2.2] at HTr
      have ec : (skipV v k num).cp = v.cp ∧ (skipV v k num).se = v.se ∧ (skipV v k num).nx = v.nx ∧ (skipV v k num).cl = v.cl := ⟨rfl, rfl, rfl, rfl⟩
      rw [ec.1, ec.2.1, ec.2.2.1, ec.2.2.2] at HTr
      have HLe6 := hidOf hLe6
      have HM6 := hidOf hM6b
      obtain ⟨d, hd, ho, htr⟩ := skip_first (num := num) HQ.out HLt.out (by rw [HSX.out]; omega) HF.out
      obtain ⟨v7, hv7⟩ : ∃ v7 : Rv, trimR (skipV v k num) = v7 := ⟨_, rfl⟩
      have e7 : (skipV v k num).cp = v7.cp ∧ (skipV v k num).se = v7.se ∧ (skipV v k num).nx = v7.nx ∧ (skipV v k num).cl = v7.cl := by rw [← hv7, htr]; exact ⟨rfl, rfl, rfl, rfl⟩
      have HV7 := hidOf hv7
      have HE7 := hidOf e7
      have HE := hidOf (show RgP w (skipG v id num) (skipC v id num) = RgP w v7 0 by
        rw [← hv7]
        unfold skipG skipC
        rw [HKK.out, HSX.out, if_pos HQ.out, if_pos HQ.out, if_neg (show ¬ atR v.sb id < 0 by have h := HA.out; omega), if_neg (show ¬ atR v.sb id < 0 by have h := HA.out; omega), if_neg (show ¬ (hasL v.ln id || hasL v.gs id) = true by rw [HH.out]; simp), if_neg (show ¬ (hasL v.ln id || hasL v.gs id) = true by rw [HH.out]; simp), if_neg (show ¬ (num < x.s.cu ∨ v.se < num) by omega), if_neg (show ¬ (num < x.s.cu ∨ v.se < num) by omega)])
      clear hM6 hM6b hLe6 hv6 hob ow6 row6 hy1 hy2 hsb1 hsb2 hgy1 hgy2 hx1 hd ho htr hv7 e7 ec
      have o0 := K7.cs 0 (by simp)
      have o1 := K7.cs 1 (by simp)
      have o2 := K7.cs 2 (by simp)
      have o3 := K7.cs 3 (by simp)
      have o4 := K7.cs 4 (by simp)
      have o5 := K7.cs 5 (by simp)
      have o6 := K7.cs 6 (by simp)
      have o7 := K7.cs 7 (by simp)
      simp at o0 o1 o2 o3 o4 o5 o6 o7
      go_upto_region 20 with fail
      try rw [hU6]
      clear hU6 l6 fr6 kk6
      go_wp2_with fail
      refine (HTr.out).mono ?_
      rintro e w7 ⟨ia7, i7, ic7, rfl, row7, hi7, b7⟩
      have e7 := HE7.out
      have row8 : RRow (w.heap.size + 2) w7 { M6 with ia := ia7, i := i7, ic := ic7 } v7 := by rw [← HV7.out]; exact row7
      have R8 := R7.keep b7
      have B8 := bl_trans B7 b7
      rw [e7.1, e7.2.1, e7.2.2.1, e7.2.2.2]
      have HL8 := hidOf (show RLe { M6 with ia := ia7, i := i7, ic := ic7 } 2097152 from ⟨Nat.le_trans hi7 HLe6.out.i, HLe6.out.s, HLe6.out.f, HLe6.out.l, HLe6.out.g⟩)
      clear R7 B7 row7 HTr e7 K7 o0 o1 o2 o3 o4 o5 o6 o7
      have r0 := R8.cs 0 (by simp)
      have r1 := R8.cs 1 (by simp)
      have r2 := R8.cs 2 (by simp)
      have r3 := R8.cs 3 (by simp)
      have r4 := R8.cs 4 (by simp)
      have r5 := R8.cs 5 (by simp)
      have r6 := R8.cs 6 (by simp)
      have r7 := R8.cs 7 (by simp)
      have rf := R8.fr
      simp at r0 r1 r2 r3 r4 r5 r6 r7
      obtain ⟨Z, hZ⟩ : ∃ Z, ((((((((w7.setCell ⟨w.heap.size + 1, 0, none⟩ (.int .i64 v7.cp)).setCell ⟨w.heap.size + 1, 1, none⟩ (.int .i64 v7.se)).setCell ⟨w.heap.size + 1, 2, none⟩ (.slice ia7 i7 ic7)).setCell ⟨w.heap.size + 1, 3, none⟩ (.int .i64 v7.nx)).setCell ⟨w.heap.size + 1, 4, none⟩ (.slice M6.sa M6.s M6.sc)).setCell ⟨w.heap.size + 1, 5, none⟩ (.slice M6.la M6.l M6.lc)).setCell ⟨w.heap.size + 1, 6, none⟩ (.slice M6.ga M6.g M6.gc)).setCell ⟨w.heap.size + 1, 7, none⟩ (.bool v7.cl)) = Z := ⟨_, rfl⟩
      have hZ2 : Z = setL w7 (w.heap.size + 1) 0 [.int .i64 v7.cp, .int .i64 v7.se, .slice ia7 i7 ic7, .int .i64 v7.nx, .slice M6.sa M6.s M6.sc, .slice M6.la M6.l M6.lc, .slice M6.ga M6.g M6.gc, .bool v7.cl] := by rw [← hZ]; rfl
      have XZ : BoxL (w.heap.size + 1) [.int .i64 v7.cp, .int .i64 v7.se, .slice ia7 i7 ic7, .int .i64 v7.nx, .slice M6.sa M6.s M6.sc, .slice M6.la M6.l M6.lc, .slice M6.ga M6.g M6.gc, .bool v7.cl] Z := by
        rw [← hZ]
        exact ((((((((R8.set 0 (by simp) _).set 1 (by simp) _).set 2 (by simp) _).set 3 (by simp) _).set 4 (by simp) _).set 5 (by simp) _).set 6 (by simp) _).set 7 (by simp) _)
      have HRZ := hidOf (show ROwn w.heap.size Z ({ M6 with ia := ia7, i := i7, ic := ic7 } : Rm) v7 by
        rw [hZ2]
        exact ((row8.grown (setL_grown ⟨rfl, rfl, rfl, Nat.le_refl _, fun _ _ _ => rfl⟩) (row8.out (by omega))).mono (B' := w.heap.size) (by omega)).own)
      have HBZ := hidOf (show Below w.heap.size w Z by rw [hZ2]; exact setL_below (by omega) B8)
      have HLZ := hidOf (show RLe ({ M6 with ia := ia7, i := i7, ic := ic7 } : Rm) 2097152 from HL8.out)
      have t0 := XZ.cs 0 (by simp)
      have t1 := XZ.cs 1 (by simp)
      have t2 := XZ.cs 2 (by simp)
      have t3 := XZ.cs 3 (by simp)
      have t4 := XZ.cs 4 (by simp)
      have t5 := XZ.cs 5 (by simp)
      have t6 := XZ.cs 6 (by simp)
      have t7 := XZ.cs 7 (by simp)
      simp at t0 t1 t2 t3 t4 t5 t6 t7
      clear hZ2 XZ R8
      go_wp2_with fail
      clear hZ
      exact bodyPost_ret (v := .tuple #[.agg #[.int .i64 v7.cp, .int .i64 v7.se, .slice ia7 i7 ic7, .int .i64 v7.nx, .slice M6.sa M6.s M6.sc, .slice M6.la M6.l M6.lc, .slice M6.ga M6.g M6.gc, .bool v7.cl], .int .i64 0]) (by simp [results, Tryz.results44, go_sem, t0, t1, t2, t3, t4, t5, t6, t7]) rfl (show RgP w (skipG v id num) (skipC v id num) _ _ by rw [HE.out]; exact ⟨({ M6 with ia := ia7, i := i7, ic := ic7 } : Rm), rfl, HRZ.out, HLZ.out, HBZ.out⟩)
end Go.Proofs.YtihdglmiecifjaaGreat
