/-
  The specification's Receive
-/
import Derived.Test.YtdboaoejlkkoeaaGreatZPo25
namespace Go.Proofs.YtdboaoejlkkoeaaGreat
open Go.RowKit Go.Maps Pl Il
theorem rgd_rowS {w U : World} {M : Rm} {v : Rv} {N1 N2 : Nat} {rs ts : List Value} (row : RRow (w.heap.size + 3) U M v) (h1 : N1 = w.heap.size + 1) (h2 : N2 = w.heap.size + 2) (hB : Below w.heap.size w U) : RRow w.heap.size (setL (setL U N1 0 rs) N2 0 ts) M v ∧ Below w.heap.size w (setL (setL U N1 0 rs) N2 0 ts) := by
  have r1 := row.grown (setL_grown (g := N1) (o := 0) (vs := rs) ⟨rfl, rfl, rfl, Nat.le_refl _, fun _ _ _ => rfl⟩) (row.out (by omega))
  have r2 := r1.grown (setL_grown (g := N2) (o := 0) (vs := ts) ⟨rfl, rfl, rfl, Nat.le_refl _, fun _ _ _ => rfl⟩) (r1.out (by omega))
  exact ⟨(r2.mono (B' := w.heap.size) (by omega)), setL_below (by omega) (setL_below (by omega) hB)⟩
theorem at_id {sb : List Sb} {id : Int} {k : Nat} (h : atR sb id = (k : Int)) : (sb.getD k Sb0).id = id := by
  unfold atR at h
  split at h
  · rename_i i hi
    rw [List.findIdx?_eq_some_iff_getElem] at hi
    obtain ⟨h1, h2, _⟩ := hi
    have e : i = k := by omega
    subst e
    rw [List.getD, List.getElem?_eq_getElem h1, Option.getD_some]
    simpa using h2
  · omega
set_option maxRecDepth 100000 in
set_option maxHeartbeats 16000000 in
theorem specReceive_anyS : RecDoneS 38 := by
 intro M v id w hI hm1 hcap hw hid _hG
 have hm := hm1.mono (k' := 2097152) (by omega)
 obtain ⟨U0, hU0⟩ : ∃ W, W = ((w.alloc (.cells #[.int .i64 v.cp, .int .i64 v.se, .slice M.ia M.i M.ic, .int .i64 v.nx, .slice M.sa M.s M.sc, .slice M.la M.l M.lc, .slice M.ga M.g M.gc, .bool v.cl] 28)).alloc (.cells #[.int .i64 0, .int .i64 0, .slice none 0 0, .int .i64 0, .slice none 0 0, .slice none 0 0, .slice none 0 0, .bool false] 28)).alloc (.cells #[.int .i64 0, .int .i64 0, .int .i64 0, .string ⟨#[]⟩, .int .i64 0, .int .i64 0] 53) := ⟨_, rfl⟩
 have B0 : Below w.heap.size w U0 := by rw [hU0]; exact bl_alloc (bl_alloc (bl_alloc (Below.refl _ _) _) _) _
 have z0 : U0.heap.size = w.heap.size + 3 := by rw [hU0]; simp
 have A0 : BoxL w.heap.size (rC M v) U0 := by rw [hU0]; exact ((BoxL.new w (rC M v) _).alloc _).alloc _
 have R0 : BoxL (w.heap.size + 1) [.int .i64 0, .int .i64 0, .slice none 0 0, .int .i64 0, .slice none 0 0, .slice none 0 0, .slice none 0 0, .bool false] U0 := by rw [hU0]; exact (boxT1 w _ [.int .i64 0, .int .i64 0, .slice none 0 0, .int .i64 0, .slice none 0 0, .slice none 0 0, .slice none 0 0, .bool false] _).alloc _
 have T0 : BoxL (w.heap.size + 1 + 1) [.int .i64 0, .int .i64 0, .int .i64 0, .string ⟨#[]⟩, .int .i64 0, .int .i64 0] U0 := by rw [hU0]; exact boxT2 w _ _ [.int .i64 0, .int .i64 0, .int .i64 0, .string ⟨#[]⟩, .int .i64 0, .int .i64 0] _
 have HC := hidOf (l9Copy_any M v U0 (hI.keep B0) hm)
 obtain ⟨p0, p1, p2, p3, p4, p5, p6, p7⟩ := box8 A0
 have HI := hidOf hI
 have HM := hidOf hm
 have HM1 := hidOf hm1
 have HK := hidOf (fun (u : World) (hu : RIn u M v) => specRingOk_any M v u hu hm1 hcap hw)
 have hml := hm.l
 have hmg := hm.g
 have HZ0 := hidOf z0
 clear hI hm hm1 hcap hw hid z0
 go_enter Tryz.func38, Tryz.ntmps38
 go_upto_region 1 with fail
 rw [← hU0]
 clear hU0
 generalize hN1 : w.heap.size + 1 = N1 at R0 T0 ⊢
 generalize hN2 : N1 + 1 = N2 at T0 ⊢
 have HN12 := hidOf (show N1 ≠ N2 ∧ N2 ≠ N1 by omega)
 have HN0 := hidOf (show N1 = w.heap.size + 1 ∧ N2 = w.heap.size + 2 by omega)
 have n12 : ¬ N1 = N2 := HN12.out.1
 have n21 : ¬ N2 = N1 := HN12.out.2
 clear hN1 hN2
 go_wp2_with fail
 refine (HC.out).mono ?_
 rintro e w1 ⟨M1, rfl, row1, le1, b1⟩
 rw [HZ0.out] at row1
 obtain ⟨U1, hU1⟩ : ∃ W, w1.alloc (.cells #[.int .i64 v.cp, .int .i64 v.se, .slice M1.ia M1.i M1.ic, .int .i64 v.nx, .slice M1.sa M1.s M1.sc, .slice M1.la M1.l M1.lc, .slice M1.ga M1.g M1.gc, .bool v.cl] 28) = W := ⟨_, rfl⟩
 have ba : Below w1.heap.size w1 U1 := by rw [← hU1]; exact bl_alloc (Below.refl _ _) _
 have A1 := (A0.keep b1).keep ba
 have R1 := (R0.keep b1).keep ba
 have T1 := (T0.keep b1).keep ba
 have K1 : BoxL w1.heap.size (rC M1 v) U1 := by rw [← hU1]; exact BoxL.new w1 (rC M1 v) _
 have row2 := row1.keep ba
 have B1 := bl_trans (bl_trans B0 b1) ba
 have HLe := hidOf (le1 _ HM1.out)
 have HAt := hidOf (l9At_any M v id U1 (HI.out.keep B1) HM.out)
 clear A0 R0 T0 p0 p1 p2 p3 p4 p5 p6 p7 row1 b1 B0 HC
 obtain ⟨p0, p1, p2, p3, p4, p5, p6, p7⟩ := box8 A1
 obtain ⟨at', hat⟩ : ∃ a, atR v.sb id = a := ⟨_, rfl⟩
 rw [hat] at HAt
 have HAe := hidOf hat
 clear hat
 go_upto_region 2 with fail
 try rw [hU1]
 clear hU1
 generalize hNK : w1.heap.size = NK at K1 ⊢
 clear hNK
 go_wp2_with fail
 refine (HAt.out).mono ?_
 rintro e w2 ⟨rfl, b2⟩
 have A2 := A1.keep b2
 have R2 := R1.keep b2
 have T2 := T1.keep b2
 have K2 := K1.keep b2
 have row3 := row2.keep b2
 have B2 := bl_trans B1 b2
 have HK1 := hidOf (HK.out w2 (HI.out.keep B2))
 obtain ⟨q, hq⟩ : ∃ q, okR restR v = q := ⟨_, rfl⟩
 rw [hq] at HK1
 have HQ := hidOf hq
 clear hq A1 R1 T1 K1 row2 B1 ba b2 HAt HK p0 p1 p2 p3 p4 p5 p6 p7
 obtain ⟨p0, p1, p2, p3, p4, p5, p6, p7⟩ := box8 A2
 go_wp2_with fail
 refine (HK1.out).mono ?_
 rintro e w4 ⟨rfl, b4⟩
 have A4 := A2.keep b4
 have R4 := R2.keep b4
 have T4 := T2.keep b4
 have K4 := K2.keep b4
 have row4 := row3.keep b4
 have B4 := bl_trans B2 b4
 clear A2 R2 T2 K2 row3 B2 b4 HK1 p0 p1 p2 p3 p4 p5 p6 p7
 cases q
 ·skip
  obtain ⟨k0, k1, k2, k3, k4, k5, k6, k7⟩ := box8 K4
  obtain ⟨r0, r1, r2, r3, r4, r5, r6, r7⟩ := box8 R4
  have rf := R4.fr
  obtain ⟨u0, u1, u2, u3, u4, u5⟩ := box6 T4
  have uf := T4.fr
  obtain ⟨Z1, hZ1⟩ : ∃ Z, ((((((((w4.setCell ⟨N1, 0, none⟩ (.int .i64 v.cp)).setCell ⟨N1, 1, none⟩ (.int .i64 v.se)).setCell ⟨N1, 2, none⟩ (.slice M1.ia M1.i M1.ic)).setCell ⟨N1, 3, none⟩ (.int .i64 v.nx)).setCell ⟨N1, 4, none⟩ (.slice M1.sa M1.s M1.sc)).setCell ⟨N1, 5, none⟩ (.slice M1.la M1.l M1.lc)).setCell ⟨N1, 6, none⟩ (.slice M1.ga M1.g M1.gc)).setCell ⟨N1, 7, none⟩ (.bool v.cl)) = Z := ⟨_, rfl⟩
  have hZ1b : Z1 = setL w4 N1 0 [.int .i64 v.cp, .int .i64 v.se, .slice M1.ia M1.i M1.ic, .int .i64 v.nx, .slice M1.sa M1.s M1.sc, .slice M1.la M1.l M1.lc, .slice M1.ga M1.g M1.gc, .bool v.cl] := by rw [← hZ1]; rfl
  have TZ1 : BoxL N2 [.int .i64 0, .int .i64 0, .int .i64 0, .string ⟨#[]⟩, .int .i64 0, .int .i64 0] Z1 := by rw [hZ1b]; exact T4.setFar HN12.out.2
  obtain ⟨z0, z1, z2, z3, z4, z5⟩ := box6 TZ1
  have zf := TZ1.fr
  obtain ⟨Zz, hZ⟩ : ∃ Z, ((((((Z1.setCell ⟨N2, 0, none⟩ (.int .i64 0)).setCell ⟨N2, 1, none⟩ (.int .i64 0)).setCell ⟨N2, 2, none⟩ (.int .i64 0)).setCell ⟨N2, 3, none⟩ (.string ⟨#[]⟩)).setCell ⟨N2, 4, none⟩ (.int .i64 0)).setCell ⟨N2, 5, none⟩ (.int .i64 0)) = Z := ⟨_, rfl⟩
  have hZ2 : Zz = setL (setL w4 N1 0 [.int .i64 v.cp, .int .i64 v.se, .slice M1.ia M1.i M1.ic, .int .i64 v.nx, .slice M1.sa M1.s M1.sc, .slice M1.la M1.l M1.lc, .slice M1.ga M1.g M1.gc, .bool v.cl]) N2 0 [.int .i64 0, .int .i64 0, .int .i64 0, .string ⟨#[]⟩, .int .i64 0, .int .i64 0] := by rw [← hZ, hZ1b]; rfl
  have XZ : BoxL N1 [.int .i64 v.cp, .int .i64 v.se, .slice M1.ia M1.i M1.ic, .int .i64 v.nx, .slice M1.sa M1.s M1.sc, .slice M1.la M1.l M1.lc, .slice M1.ga M1.g M1.gc, .bool v.cl] Zz := by rw [hZ2]; exact (R4.setAll (us := [.int .i64 v.cp, .int .i64 v.se, .slice M1.ia M1.i M1.ic, .int .i64 v.nx, .slice M1.sa M1.s M1.sc, .slice M1.la M1.l M1.lc, .slice M1.ga M1.g M1.gc, .bool v.cl]) rfl).setFar HN12.out.1
  have TZ : BoxL N2 [.int .i64 0, .int .i64 0, .int .i64 0, .string ⟨#[]⟩, .int .i64 0, .int .i64 0] Zz := by rw [hZ2]; exact (T4.setFar HN12.out.2).setAll (us := [.int .i64 0, .int .i64 0, .int .i64 0, .string ⟨#[]⟩, .int .i64 0, .int .i64 0]) rfl
  obtain ⟨t0, t1, t2, t3, t4, t5, t6, t7⟩ := box8 XZ
  obtain ⟨o0, o1, o2, o3, o4, o5⟩ := box6 TZ
  have HD := hidOf (show RgDS w (recG v id) (recT v id) (recC v id) (.returned (.tuple #[.agg #[.int .i64 v.cp, .int .i64 v.se, .slice M1.ia M1.i M1.ic, .int .i64 v.nx, .slice M1.sa M1.s M1.sc, .slice M1.la M1.l M1.lc, .slice M1.ga M1.g M1.gc, .bool v.cl], .agg #[.int .i64 0, .int .i64 0, .int .i64 0, .string ⟨#[]⟩, .int .i64 0, .int .i64 0], .int .i64 1])) Zz by
   rw [show RgDS w (recG v id) (recT v id) (recC v id) = RgDS w v Td0 1 by unfold recG recT recC; rw [if_neg (by rw [HQ.out]; simp), if_neg (by rw [HQ.out]; simp), if_neg (by rw [HQ.out]; simp)]]
   rw [hZ2]
   have h := rgd_rowS (N1 := N1) (N2 := N2) (rs := [.int .i64 v.cp, .int .i64 v.se, .slice M1.ia M1.i M1.ic, .int .i64 v.nx, .slice M1.sa M1.s M1.sc, .slice M1.la M1.l M1.lc, .slice M1.ga M1.g M1.gc, .bool v.cl]) (ts := [.int .i64 0, .int .i64 0, .int .i64 0, .string ⟨#[]⟩, .int .i64 0, .int .i64 0]) row4 HN0.out.1 HN0.out.2 B4
   exact ⟨M1, rfl, h.1, HLe.out.mono (by omega), h.2⟩)
  clear hZ2 XZ TZ TZ1 hZ1b R4 T4
  go_wp2_with fail
  try clear hZ
  try clear hZ1
  exact bodyPost_ret (v := .tuple #[.agg #[.int .i64 v.cp, .int .i64 v.se, .slice M1.ia M1.i M1.ic, .int .i64 v.nx, .slice M1.sa M1.s M1.sc, .slice M1.la M1.l M1.lc, .slice M1.ga M1.g M1.gc, .bool v.cl], .agg #[.int .i64 0, .int .i64 0, .int .i64 0, .string ⟨#[]⟩, .int .i64 0, .int .i64 0], .int .i64 1]) (by simp [results, Tryz.results38, go_sem, t0, t1, t2, t3, t4, t5, t6, t7, o0, o1, o2, o3, o4, o5]) rfl HD.out
 by_cases hneg : at' < 0
 ·skip
  obtain ⟨k0, k1, k2, k3, k4, k5, k6, k7⟩ := box8 K4
  obtain ⟨r0, r1, r2, r3, r4, r5, r6, r7⟩ := box8 R4
  have rf := R4.fr
  obtain ⟨u0, u1, u2, u3, u4, u5⟩ := box6 T4
  have uf := T4.fr
  obtain ⟨Z1, hZ1⟩ : ∃ Z, ((((((((w4.setCell ⟨N1, 0, none⟩ (.int .i64 v.cp)).setCell ⟨N1, 1, none⟩ (.int .i64 v.se)).setCell ⟨N1, 2, none⟩ (.slice M1.ia M1.i M1.ic)).setCell ⟨N1, 3, none⟩ (.int .i64 v.nx)).setCell ⟨N1, 4, none⟩ (.slice M1.sa M1.s M1.sc)).setCell ⟨N1, 5, none⟩ (.slice M1.la M1.l M1.lc)).setCell ⟨N1, 6, none⟩ (.slice M1.ga M1.g M1.gc)).setCell ⟨N1, 7, none⟩ (.bool v.cl)) = Z := ⟨_, rfl⟩
  have hZ1b : Z1 = setL w4 N1 0 [.int .i64 v.cp, .int .i64 v.se, .slice M1.ia M1.i M1.ic, .int .i64 v.nx, .slice M1.sa M1.s M1.sc, .slice M1.la M1.l M1.lc, .slice M1.ga M1.g M1.gc, .bool v.cl] := by rw [← hZ1]; rfl
  have TZ1 : BoxL N2 [.int .i64 0, .int .i64 0, .int .i64 0, .string ⟨#[]⟩, .int .i64 0, .int .i64 0] Z1 := by rw [hZ1b]; exact T4.setFar HN12.out.2
  obtain ⟨z0, z1, z2, z3, z4, z5⟩ := box6 TZ1
  have zf := TZ1.fr
  obtain ⟨Zz, hZ⟩ : ∃ Z, ((((((Z1.setCell ⟨N2, 0, none⟩ (.int .i64 0)).setCell ⟨N2, 1, none⟩ (.int .i64 0)).setCell ⟨N2, 2, none⟩ (.int .i64 0)).setCell ⟨N2, 3, none⟩ (.string ⟨#[]⟩)).setCell ⟨N2, 4, none⟩ (.int .i64 0)).setCell ⟨N2, 5, none⟩ (.int .i64 0)) = Z := ⟨_, rfl⟩
  have hZ2 : Zz = setL (setL w4 N1 0 [.int .i64 v.cp, .int .i64 v.se, .slice M1.ia M1.i M1.ic, .int .i64 v.nx, .slice M1.sa M1.s M1.sc, .slice M1.la M1.l M1.lc, .slice M1.ga M1.g M1.gc, .bool v.cl]) N2 0 [.int .i64 0, .int .i64 0, .int .i64 0, .string ⟨#[]⟩, .int .i64 0, .int .i64 0] := by rw [← hZ, hZ1b]; rfl
  have XZ : BoxL N1 [.int .i64 v.cp, .int .i64 v.se, .slice M1.ia M1.i M1.ic, .int .i64 v.nx, .slice M1.sa M1.s M1.sc, .slice M1.la M1.l M1.lc, .slice M1.ga M1.g M1.gc, .bool v.cl] Zz := by rw [hZ2]; exact (R4.setAll (us := [.int .i64 v.cp, .int .i64 v.se, .slice M1.ia M1.i M1.ic, .int .i64 v.nx, .slice M1.sa M1.s M1.sc, .slice M1.la M1.l M1.lc, .slice M1.ga M1.g M1.gc, .bool v.cl]) rfl).setFar HN12.out.1
  have TZ : BoxL N2 [.int .i64 0, .int .i64 0, .int .i64 0, .string ⟨#[]⟩, .int .i64 0, .int .i64 0] Zz := by rw [hZ2]; exact (T4.setFar HN12.out.2).setAll (us := [.int .i64 0, .int .i64 0, .int .i64 0, .string ⟨#[]⟩, .int .i64 0, .int .i64 0]) rfl
  obtain ⟨t0, t1, t2, t3, t4, t5, t6, t7⟩ := box8 XZ
  obtain ⟨o0, o1, o2, o3, o4, o5⟩ := box6 TZ
  have HD := hidOf (show RgDS w (recG v id) (recT v id) (recC v id) (.returned (.tuple #[.agg #[.int .i64 v.cp, .int .i64 v.se, .slice M1.ia M1.i M1.ic, .int .i64 v.nx, .slice M1.sa M1.s M1.sc, .slice M1.la M1.l M1.lc, .slice M1.ga M1.g M1.gc, .bool v.cl], .agg #[.int .i64 0, .int .i64 0, .int .i64 0, .string ⟨#[]⟩, .int .i64 0, .int .i64 0], .int .i64 3])) Zz by
   rw [show RgDS w (recG v id) (recT v id) (recC v id) = RgDS w v Td0 3 by unfold recG recT recC; rw [if_pos HQ.out, if_pos HQ.out, if_pos HQ.out, HAe.out, if_pos hneg, if_pos hneg, if_pos hneg]]
   rw [hZ2]
   have h := rgd_rowS (N1 := N1) (N2 := N2) (rs := [.int .i64 v.cp, .int .i64 v.se, .slice M1.ia M1.i M1.ic, .int .i64 v.nx, .slice M1.sa M1.s M1.sc, .slice M1.la M1.l M1.lc, .slice M1.ga M1.g M1.gc, .bool v.cl]) (ts := [.int .i64 0, .int .i64 0, .int .i64 0, .string ⟨#[]⟩, .int .i64 0, .int .i64 0]) row4 HN0.out.1 HN0.out.2 B4
   exact ⟨M1, rfl, h.1, HLe.out.mono (by omega), h.2⟩)
  clear hZ2 XZ TZ TZ1 hZ1b R4 T4
  go_wp2_with fail
  try clear hZ
  try clear hZ1
  exact bodyPost_ret (v := .tuple #[.agg #[.int .i64 v.cp, .int .i64 v.se, .slice M1.ia M1.i M1.ic, .int .i64 v.nx, .slice M1.sa M1.s M1.sc, .slice M1.la M1.l M1.lc, .slice M1.ga M1.g M1.gc, .bool v.cl], .agg #[.int .i64 0, .int .i64 0, .int .i64 0, .string ⟨#[]⟩, .int .i64 0, .int .i64 0], .int .i64 3]) (by simp [results, Tryz.results38, go_sem, t0, t1, t2, t3, t4, t5, t6, t7, o0, o1, o2, o3, o4, o5]) rfl HD.out
 have HA := hidOf (show ¬ atR v.sb id < 0 by rw [HAe.out]; exact hneg)
 have p5 : w4.cell? ⟨w.heap.size, 5, none⟩ = some (.slice M.la M.l M.lc) := A4.cs 5 (by simp)
 have p6 : w4.cell? ⟨w.heap.size, 6, none⟩ = some (.slice M.ga M.g M.gc) := A4.cs 6 (by simp)
 have H1 := hidOf (l2Has_any M.la M.l M.lc v.ln id w4 (HI.out.keep B4).ln hml)
 have H2 := hidOf (l2Has_any M.ga M.g M.gc v.gs id w4 (HI.out.keep B4).gs hmg)
 obtain ⟨a, ha⟩ : ∃ a, hasL v.ln id = a := ⟨_, rfl⟩
 obtain ⟨bb, hb⟩ : ∃ b, hasL v.gs id = b := ⟨_, rfl⟩
 rw [ha] at H1
 rw [hb] at H2
 have HHa := hidOf ha
 have HHb := hidOf hb
 clear ha hb
 have HE5 := hidOf (show (a || bb) = true → RgDS w (recG v id) (recT v id) (recC v id) = RgDS w v Td0 5 from fun h => by
  have hn : ¬ atR v.sb id < 0 := by have h := HA.out; omega
  have hh : (hasL v.ln id || hasL v.gs id) = true := by rw [HHa.out, HHb.out]; exact h
  unfold recG recT recC
  rw [if_pos HQ.out, if_pos HQ.out, if_pos HQ.out, if_neg hn, if_neg hn, if_neg hn, if_pos hh, if_pos hh, if_pos hh])
 cases a
 case true =>
  have HE := hidOf (HE5.out rfl)
  go_upto_region 7 with fail
  go_wp2_with fail
  refine (H1.out).mono ?_
  rintro e w' ⟨rfl, hww⟩
  obtain rfl : w4 = w' := hww.symm
  go_upto_region 8 with fail
  obtain ⟨k0, k1, k2, k3, k4, k5, k6, k7⟩ := box8 K4
  obtain ⟨r0, r1, r2, r3, r4, r5, r6, r7⟩ := box8 R4
  have rf := R4.fr
  obtain ⟨u0, u1, u2, u3, u4, u5⟩ := box6 T4
  have uf := T4.fr
  obtain ⟨Z1, hZ1⟩ : ∃ Z, ((((((((w4.setCell ⟨N1, 0, none⟩ (.int .i64 v.cp)).setCell ⟨N1, 1, none⟩ (.int .i64 v.se)).setCell ⟨N1, 2, none⟩ (.slice M1.ia M1.i M1.ic)).setCell ⟨N1, 3, none⟩ (.int .i64 v.nx)).setCell ⟨N1, 4, none⟩ (.slice M1.sa M1.s M1.sc)).setCell ⟨N1, 5, none⟩ (.slice M1.la M1.l M1.lc)).setCell ⟨N1, 6, none⟩ (.slice M1.ga M1.g M1.gc)).setCell ⟨N1, 7, none⟩ (.bool v.cl)) = Z := ⟨_, rfl⟩
  have hZ1b : Z1 = setL w4 N1 0 [.int .i64 v.cp, .int .i64 v.se, .slice M1.ia M1.i M1.ic, .int .i64 v.nx, .slice M1.sa M1.s M1.sc, .slice M1.la M1.l M1.lc, .slice M1.ga M1.g M1.gc, .bool v.cl] := by rw [← hZ1]; rfl
  have TZ1 : BoxL N2 [.int .i64 0, .int .i64 0, .int .i64 0, .string ⟨#[]⟩, .int .i64 0, .int .i64 0] Z1 := by rw [hZ1b]; exact T4.setFar HN12.out.2
  obtain ⟨z0, z1, z2, z3, z4, z5⟩ := box6 TZ1
  have zf := TZ1.fr
  obtain ⟨Zz, hZ⟩ : ∃ Z, ((((((Z1.setCell ⟨N2, 0, none⟩ (.int .i64 0)).setCell ⟨N2, 1, none⟩ (.int .i64 0)).setCell ⟨N2, 2, none⟩ (.int .i64 0)).setCell ⟨N2, 3, none⟩ (.string ⟨#[]⟩)).setCell ⟨N2, 4, none⟩ (.int .i64 0)).setCell ⟨N2, 5, none⟩ (.int .i64 0)) = Z := ⟨_, rfl⟩
  have hZ2 : Zz = setL (setL w4 N1 0 [.int .i64 v.cp, .int .i64 v.se, .slice M1.ia M1.i M1.ic, .int .i64 v.nx, .slice M1.sa M1.s M1.sc, .slice M1.la M1.l M1.lc, .slice M1.ga M1.g M1.gc, .bool v.cl]) N2 0 [.int .i64 0, .int .i64 0, .int .i64 0, .string ⟨#[]⟩, .int .i64 0, .int .i64 0] := by rw [← hZ, hZ1b]; rfl
  have XZ : BoxL N1 [.int .i64 v.cp, .int .i64 v.se, .slice M1.ia M1.i M1.ic, .int .i64 v.nx, .slice M1.sa M1.s M1.sc, .slice M1.la M1.l M1.lc, .slice M1.ga M1.g M1.gc, .bool v.cl] Zz := by rw [hZ2]; exact (R4.setAll (us := [.int .i64 v.cp, .int .i64 v.se, .slice M1.ia M1.i M1.ic, .int .i64 v.nx, .slice M1.sa M1.s M1.sc, .slice M1.la M1.l M1.lc, .slice M1.ga M1.g M1.gc, .bool v.cl]) rfl).setFar HN12.out.1
  have TZ : BoxL N2 [.int .i64 0, .int .i64 0, .int .i64 0, .string ⟨#[]⟩, .int .i64 0, .int .i64 0] Zz := by rw [hZ2]; exact (T4.setFar HN12.out.2).setAll (us := [.int .i64 0, .int .i64 0, .int .i64 0, .string ⟨#[]⟩, .int .i64 0, .int .i64 0]) rfl
  obtain ⟨t0, t1, t2, t3, t4, t5, t6, t7⟩ := box8 XZ
  obtain ⟨o0, o1, o2, o3, o4, o5⟩ := box6 TZ
  have HD := hidOf (show RgDS w (recG v id) (recT v id) (recC v id) (.returned (.tuple #[.agg #[.int .i64 v.cp, .int .i64 v.se, .slice M1.ia M1.i M1.ic, .int .i64 v.nx, .slice M1.sa M1.s M1.sc, .slice M1.la M1.l M1.lc, .slice M1.ga M1.g M1.gc, .bool v.cl], .agg #[.int .i64 0, .int .i64 0, .int .i64 0, .string ⟨#[]⟩, .int .i64 0, .int .i64 0], .int .i64 5])) Zz by
   rw [show RgDS w (recG v id) (recT v id) (recC v id) = RgDS w v Td0 5 by exact HE.out]
   rw [hZ2]
   have h := rgd_rowS (N1 := N1) (N2 := N2) (rs := [.int .i64 v.cp, .int .i64 v.se, .slice M1.ia M1.i M1.ic, .int .i64 v.nx, .slice M1.sa M1.s M1.sc, .slice M1.la M1.l M1.lc, .slice M1.ga M1.g M1.gc, .bool v.cl]) (ts := [.int .i64 0, .int .i64 0, .int .i64 0, .string ⟨#[]⟩, .int .i64 0, .int .i64 0]) row4 HN0.out.1 HN0.out.2 B4
   exact ⟨M1, rfl, h.1, HLe.out.mono (by omega), h.2⟩)
  clear hZ2 XZ TZ TZ1 hZ1b R4 T4
  go_wp2_with fail
  try clear hZ
  try clear hZ1
  exact bodyPost_ret (v := .tuple #[.agg #[.int .i64 v.cp, .int .i64 v.se, .slice M1.ia M1.i M1.ic, .int .i64 v.nx, .slice M1.sa M1.s M1.sc, .slice M1.la M1.l M1.lc, .slice M1.ga M1.g M1.gc, .bool v.cl], .agg #[.int .i64 0, .int .i64 0, .int .i64 0, .string ⟨#[]⟩, .int .i64 0, .int .i64 0], .int .i64 5]) (by simp [results, Tryz.results38, go_sem, t0, t1, t2, t3, t4, t5, t6, t7, o0, o1, o2, o3, o4, o5]) rfl HD.out
 cases bb
 case true =>
  have HE := hidOf (HE5.out rfl)
  go_upto_region 7 with fail
  go_wp2_with fail
  refine (H1.out).mono ?_
  rintro e w' ⟨rfl, hww⟩
  obtain rfl : w4 = w' := hww.symm
  go_wp2_with fail
  refine (H2.out).mono ?_
  rintro e w' ⟨rfl, hww⟩
  obtain rfl : w4 = w' := hww.symm
  go_upto_region 8 with fail
  obtain ⟨k0, k1, k2, k3, k4, k5, k6, k7⟩ := box8 K4
  obtain ⟨r0, r1, r2, r3, r4, r5, r6, r7⟩ := box8 R4
  have rf := R4.fr
  obtain ⟨u0, u1, u2, u3, u4, u5⟩ := box6 T4
  have uf := T4.fr
  obtain ⟨Z1, hZ1⟩ : ∃ Z, ((((((((w4.setCell ⟨N1, 0, none⟩ (.int .i64 v.cp)).setCell ⟨N1, 1, none⟩ (.int .i64 v.se)).setCell ⟨N1, 2, none⟩ (.slice M1.ia M1.i M1.ic)).setCell ⟨N1, 3, none⟩ (.int .i64 v.nx)).setCell ⟨N1, 4, none⟩ (.slice M1.sa M1.s M1.sc)).setCell ⟨N1, 5, none⟩ (.slice M1.la M1.l M1.lc)).setCell ⟨N1, 6, none⟩ (.slice M1.ga M1.g M1.gc)).setCell ⟨N1, 7, none⟩ (.bool v.cl)) = Z := ⟨_, rfl⟩
  have hZ1b : Z1 = setL w4 N1 0 [.int .i64 v.cp, .int .i64 v.se, .slice M1.ia M1.i M1.ic, .int .i64 v.nx, .slice M1.sa M1.s M1.sc, .slice M1.la M1.l M1.lc, .slice M1.ga M1.g M1.gc, .bool v.cl] := by rw [← hZ1]; rfl
  have TZ1 : BoxL N2 [.int .i64 0, .int .i64 0, .int .i64 0, .string ⟨#[]⟩, .int .i64 0, .int .i64 0] Z1 := by rw [hZ1b]; exact T4.setFar HN12.out.2
  obtain ⟨z0, z1, z2, z3, z4, z5⟩ := box6 TZ1
  have zf := TZ1.fr
  obtain ⟨Zz, hZ⟩ : ∃ Z, ((((((Z1.setCell ⟨N2, 0, none⟩ (.int .i64 0)).setCell ⟨N2, 1, none⟩ (.int .i64 0)).setCell ⟨N2, 2, none⟩ (.int .i64 0)).setCell ⟨N2, 3, none⟩ (.string ⟨#[]⟩)).setCell ⟨N2, 4, none⟩ (.int .i64 0)).setCell ⟨N2, 5, none⟩ (.int .i64 0)) = Z := ⟨_, rfl⟩
  have hZ2 : Zz = setL (setL w4 N1 0 [.int .i64 v.cp, .int .i64 v.se, .slice M1.ia M1.i M1.ic, .int .i64 v.nx, .slice M1.sa M1.s M1.sc, .slice M1.la M1.l M1.lc, .slice M1.ga M1.g M1.gc, .bool v.cl]) N2 0 [.int .i64 0, .int .i64 0, .int .i64 0, .string ⟨#[]⟩, .int .i64 0, .int .i64 0] := by rw [← hZ, hZ1b]; rfl
  have XZ : BoxL N1 [.int .i64 v.cp, .int .i64 v.se, .slice M1.ia M1.i M1.ic, .int .i64 v.nx, .slice M1.sa M1.s M1.sc, .slice M1.la M1.l M1.lc, .slice M1.ga M1.g M1.gc, .bool v.cl] Zz := by rw [hZ2]; exact (R4.setAll (us := [.int .i64 v.cp, .int .i64 v.se, .slice M1.ia M1.i M1.ic, .int .i64 v.nx, .slice M1.sa M1.s M1.sc, .slice M1.la M1.l M1.lc, .slice M1.ga M1.g M1.gc, .bool v.cl]) rfl).setFar HN12.out.1
  have TZ : BoxL N2 [.int .i64 0, .int .i64 0, .int .i64 0, .string ⟨#[]⟩, .int .i64 0, .int .i64 0] Zz := by rw [hZ2]; exact (T4.setFar HN12.out.2).setAll (us := [.int .i64 0, .int .i64 0, .int .i64 0, .string ⟨#[]⟩, .int .i64 0, .int .i64 0]) rfl
  obtain ⟨t0, t1, t2, t3, t4, t5, t6, t7⟩ := box8 XZ
  obtain ⟨o0, o1, o2, o3, o4, o5⟩ := box6 TZ
  have HD := hidOf (show RgDS w (recG v id) (recT v id) (recC v id) (.returned (.tuple #[.agg #[.int .i64 v.cp, .int .i64 v.se, .slice M1.ia M1.i M1.ic, .int .i64 v.nx, .slice M1.sa M1.s M1.sc, .slice M1.la M1.l M1.lc, .slice M1.ga M1.g M1.gc, .bool v.cl], .agg #[.int .i64 0, .int .i64 0, .int .i64 0, .string ⟨#[]⟩, .int .i64 0, .int .i64 0], .int .i64 5])) Zz by
   rw [show RgDS w (recG v id) (recT v id) (recC v id) = RgDS w v Td0 5 by exact HE.out]
   rw [hZ2]
   have h := rgd_rowS (N1 := N1) (N2 := N2) (rs := [.int .i64 v.cp, .int .i64 v.se, .slice M1.ia M1.i M1.ic, .int .i64 v.nx, .slice M1.sa M1.s M1.sc, .slice M1.la M1.l M1.lc, .slice M1.ga M1.g M1.gc, .bool v.cl]) (ts := [.int .i64 0, .int .i64 0, .int .i64 0, .string ⟨#[]⟩, .int .i64 0, .int .i64 0]) row4 HN0.out.1 HN0.out.2 B4
   exact ⟨M1, rfl, h.1, HLe.out.mono (by omega), h.2⟩)
  clear hZ2 XZ TZ TZ1 hZ1b R4 T4
  go_wp2_with fail
  try clear hZ
  try clear hZ1
  exact bodyPost_ret (v := .tuple #[.agg #[.int .i64 v.cp, .int .i64 v.se, .slice M1.ia M1.i M1.ic, .int .i64 v.nx, .slice M1.sa M1.s M1.sc, .slice M1.la M1.l M1.lc, .slice M1.ga M1.g M1.gc, .bool v.cl], .agg #[.int .i64 0, .int .i64 0, .int .i64 0, .string ⟨#[]⟩, .int .i64 0, .int .i64 0], .int .i64 5]) (by simp [results, Tryz.results38, go_sem, t0, t1, t2, t3, t4, t5, t6, t7, o0, o1, o2, o3, o4, o5]) rfl HD.out
 go_upto_region 7 with fail
 go_wp2_with fail
 refine (H1.out).mono ?_
 rintro e w' ⟨rfl, hww⟩
 obtain rfl : w4 = w' := hww.symm
 go_wp2_with fail
 refine (H2.out).mono ?_
 rintro e w' ⟨rfl, hww⟩
 obtain rfl : w4 = w' := hww.symm
 obtain ⟨hlt, hkI⟩ := at_lt (show ¬ atR v.sb id < 0 by have h := HA.out; omega)
 obtain ⟨k, hkk⟩ : ∃ k, (atR v.sb id).toNat = k := ⟨_, rfl⟩
 rw [hkk] at hlt hkI
 obtain rfl : at' = (k : Int) := by rw [← HAe.out, hkI]
 have HRs := hidOf (l9Reads_any (w.heap.size + 3) M1 v k id w4 row4 (by have h := R4.lt; have h2 := T4.lt; have h3 := HN0.out; omega) (at_id hkI) (ok_rd HQ.out hlt) HLe.out)
 obtain ⟨v7, hv7⟩ : ∃ v7, trimR (waitV v k id) = v7 := ⟨_, rfl⟩
 obtain ⟨td, htd⟩ : ∃ td, readT v (v.sb.getD k Sb0) = td := ⟨_, rfl⟩
 obtain ⟨cd, hcd⟩ : ∃ cd, readC v (v.sb.getD k Sb0) = cd := ⟨_, rfl⟩
 have HEl := hidOf (show RgDS w (recG v id) (recT v id) (recC v id) = RgDS w v7 td cd by
  have hn : ¬ atR v.sb id < 0 := by have h := HA.out; omega
  have hh : ¬ (hasL v.ln id || hasL v.gs id) = true := by rw [HHa.out, HHb.out]; simp
  unfold recG recT recC
  rw [if_pos HQ.out, if_pos HQ.out, if_pos HQ.out, if_neg hn, if_neg hn, if_neg hn, if_neg hh, if_neg hh, if_neg hh, hkk, hv7, htd, hcd])
 have HV := hidOf (And.intro hv7 (And.intro htd hcd))
 obtain ⟨k0, k1, k2, k3, k4, k5, k6, k7⟩ := box8 K4
 clear hlt hkI hkk hv7 htd hcd p5 p6 hneg H1 H2 HE5
 go_wp2_with fail
 refine (HRs.out).mono ?_
 rintro e w7 ⟨M7, he7, row7, le7, b7⟩
 rw [HV.out.1, HV.out.2.1, HV.out.2.2] at he7
 rw [HV.out.1] at row7
 subst he7
 have B7 : Below w.heap.size w w7 := B4.trans (b7.mono (by omega))
 have R7 := R4.below b7 (by have h := HN0.out; omega)
 have T7 := T4.below b7 (by have h := HN0.out; omega)
 clear R4 T4 K4 A4 row4 B4 b7 HRs k0 k1 k2 k3 k4 k5 k6 k7
 obtain ⟨r0, r1, r2, r3, r4, r5, r6, r7⟩ := box8 R7
 have rf := R7.fr
 obtain ⟨u0, u1, u2, u3, u4, u5⟩ := box6 T7
 have uf := T7.fr
 obtain ⟨Z1, hZ1⟩ : ∃ Z, ((((((((w7.setCell ⟨N1, 0, none⟩ (.int .i64 v7.cp)).setCell ⟨N1, 1, none⟩ (.int .i64 v7.se)).setCell ⟨N1, 2, none⟩ (.slice M7.ia M7.i M7.ic)).setCell ⟨N1, 3, none⟩ (.int .i64 v7.nx)).setCell ⟨N1, 4, none⟩ (.slice M7.sa M7.s M7.sc)).setCell ⟨N1, 5, none⟩ (.slice M7.la M7.l M7.lc)).setCell ⟨N1, 6, none⟩ (.slice M7.ga M7.g M7.gc)).setCell ⟨N1, 7, none⟩ (.bool v7.cl)) = Z := ⟨_, rfl⟩
 have hZ1b : Z1 = setL w7 N1 0 [.int .i64 v7.cp, .int .i64 v7.se, .slice M7.ia M7.i M7.ic, .int .i64 v7.nx, .slice M7.sa M7.s M7.sc, .slice M7.la M7.l M7.lc, .slice M7.ga M7.g M7.gc, .bool v7.cl] := by rw [← hZ1]; rfl
 have TZ1 : BoxL N2 [.int .i64 0, .int .i64 0, .int .i64 0, .string ⟨#[]⟩, .int .i64 0, .int .i64 0] Z1 := by rw [hZ1b]; exact T7.setFar HN12.out.2
 obtain ⟨z0, z1, z2, z3, z4, z5⟩ := box6 TZ1
 have zf := TZ1.fr
 obtain ⟨Zz, hZ⟩ : ∃ Z, ((((((Z1.setCell ⟨N2, 0, none⟩ (.int .i64 td.kd)).setCell ⟨N2, 1, none⟩ (.int .i64 td.ms.1)).setCell ⟨N2, 2, none⟩ (.int .i64 td.ms.2.1)).setCell ⟨N2, 3, none⟩ (.string td.ms.2.2)).setCell ⟨N2, 4, none⟩ (.int .i64 td.ix)).setCell ⟨N2, 5, none⟩ (.int .i64 td.n)) = Z := ⟨_, rfl⟩
 have hZ2 : Zz = setL (setL w7 N1 0 [.int .i64 v7.cp, .int .i64 v7.se, .slice M7.ia M7.i M7.ic, .int .i64 v7.nx, .slice M7.sa M7.s M7.sc, .slice M7.la M7.l M7.lc, .slice M7.ga M7.g M7.gc, .bool v7.cl]) N2 0 [.int .i64 td.kd, .int .i64 td.ms.1, .int .i64 td.ms.2.1, .string td.ms.2.2, .int .i64 td.ix, .int .i64 td.n] := by rw [← hZ, hZ1b]; rfl
 have XZ : BoxL N1 [.int .i64 v7.cp, .int .i64 v7.se, .slice M7.ia M7.i M7.ic, .int .i64 v7.nx, .slice M7.sa M7.s M7.sc, .slice M7.la M7.l M7.lc, .slice M7.ga M7.g M7.gc, .bool v7.cl] Zz := by rw [hZ2]; exact (R7.setAll (us := [.int .i64 v7.cp, .int .i64 v7.se, .slice M7.ia M7.i M7.ic, .int .i64 v7.nx, .slice M7.sa M7.s M7.sc, .slice M7.la M7.l M7.lc, .slice M7.ga M7.g M7.gc, .bool v7.cl]) rfl).setFar HN12.out.1
 have TZ : BoxL N2 [.int .i64 td.kd, .int .i64 td.ms.1, .int .i64 td.ms.2.1, .string td.ms.2.2, .int .i64 td.ix, .int .i64 td.n] Zz := by rw [hZ2]; exact (T7.setFar HN12.out.2).setAll (us := [.int .i64 td.kd, .int .i64 td.ms.1, .int .i64 td.ms.2.1, .string td.ms.2.2, .int .i64 td.ix, .int .i64 td.n]) rfl
 obtain ⟨t0, t1, t2, t3, t4, t5, t6, t7⟩ := box8 XZ
 obtain ⟨o0, o1, o2, o3, o4, o5⟩ := box6 TZ
 have HD := hidOf (show RgDS w (recG v id) (recT v id) (recC v id) (.returned (.tuple #[.agg #[.int .i64 v7.cp, .int .i64 v7.se, .slice M7.ia M7.i M7.ic, .int .i64 v7.nx, .slice M7.sa M7.s M7.sc, .slice M7.la M7.l M7.lc, .slice M7.ga M7.g M7.gc, .bool v7.cl], .agg #[.int .i64 td.kd, .int .i64 td.ms.1, .int .i64 td.ms.2.1, .string td.ms.2.2, .int .i64 td.ix, .int .i64 td.n], .int .i64 cd])) Zz by
  rw [HEl.out, hZ2]
  have h := rgd_rowS (N1 := N1) (N2 := N2) (rs := [.int .i64 v7.cp, .int .i64 v7.se, .slice M7.ia M7.i M7.ic, .int .i64 v7.nx, .slice M7.sa M7.s M7.sc, .slice M7.la M7.l M7.lc, .slice M7.ga M7.g M7.gc, .bool v7.cl]) (ts := [.int .i64 td.kd, .int .i64 td.ms.1, .int .i64 td.ms.2.1, .string td.ms.2.2, .int .i64 td.ix, .int .i64 td.n]) row7 HN0.out.1 HN0.out.2 B7
  exact ⟨M7, rfl, h.1, le7, h.2⟩)
 clear hZ2 XZ TZ TZ1 hZ1b R7 T7
 go_wp2_with fail
 try clear hZ
 try clear hZ1
 exact bodyPost_ret (v := .tuple #[.agg #[.int .i64 v7.cp, .int .i64 v7.se, .slice M7.ia M7.i M7.ic, .int .i64 v7.nx, .slice M7.sa M7.s M7.sc, .slice M7.la M7.l M7.lc, .slice M7.ga M7.g M7.gc, .bool v7.cl], .agg #[.int .i64 td.kd, .int .i64 td.ms.1, .int .i64 td.ms.2.1, .string td.ms.2.2, .int .i64 td.ix, .int .i64 td.n], .int .i64 cd]) (by simp [results, Tryz.results38, go_sem, t0, t1, t2, t3, t4, t5, t6, t7, o0, o1, o2, o3, o4, o5]) rfl HD.out
end Go.Proofs.YtdboaoejlkkoeaaGreat
