/-
  The program's Receive
-/
import Derived.Test.YtihdglmiecifjaaGreatZRs25
import Derived.Test.YtihdglmiecifjaaGreatZRs32
namespace Go.Proofs.YtihdglmiecifjaaGreat
open Go.RowKit Go.Maps Pl Il
theorem trim_wait_len {v : Rv} {k : Nat} {id : Int} (h : RdOk v k) : (trimR (waitV v k id)).it.length ≤ 16 := by
  have e : (waitV v k id).it = v.it := by unfold waitV; split <;> rfl
  have hl := h.it
  unfold trimR
  split
  · show ((waitV v k id).it.drop _).length ≤ 16
    rw [List.length_drop, e]
    omega
  · rw [e]; exact hl
set_option maxRecDepth 100000 in
set_option maxHeartbeats 16000000 in
theorem implReceive_any : RecDone 37 := by
 intro M v id w hI hm1 hcap hw hid hG
 have hm := hm1.mono (k' := 2097152) (by omega)
 obtain ⟨U0, hU0⟩ : ∃ W, W = ((w.alloc (.cells #[.int .i64 v.cp, .int .i64 v.se, .slice M.ia M.i M.ic, .int .i64 v.nx, .slice M.sa M.s M.sc, .slice M.la M.l M.lc, .slice M.ga M.g M.gc, .bool v.cl] 28)).alloc (.cells #[.int .i64 0, .int .i64 0, .slice none 0 0, .int .i64 0, .slice none 0 0, .slice none 0 0, .slice none 0 0, .bool false] 28)).alloc (.cells #[.int .i64 0, .int .i64 0, .int .i64 0, .string ⟨#[]⟩, .int .i64 0, .int .i64 0] 53) := ⟨_, rfl⟩
 have B0 : Below w.heap.size w U0 := by rw [hU0]; exact bl_alloc (bl_alloc (bl_alloc (Below.refl _ _) _) _) _
 have z0 : U0.heap.size = w.heap.size + 3 := by rw [hU0]; simp
 have A0 : BoxL w.heap.size (rC M v) U0 := by rw [hU0]; exact ((BoxL.new w (rC M v) _).alloc _).alloc _
 have R0 : BoxL (w.heap.size + 1) [.int .i64 0, .int .i64 0, .slice none 0 0, .int .i64 0, .slice none 0 0, .slice none 0 0, .slice none 0 0, .bool false] U0 := by rw [hU0]; exact (boxT1 w _ [.int .i64 0, .int .i64 0, .slice none 0 0, .int .i64 0, .slice none 0 0, .slice none 0 0, .slice none 0 0, .bool false] _).alloc _
 have T0 : BoxL (w.heap.size + 1 + 1) [.int .i64 0, .int .i64 0, .int .i64 0, .string ⟨#[]⟩, .int .i64 0, .int .i64 0] U0 := by rw [hU0]; exact boxT2 w _ _ [.int .i64 0, .int .i64 0, .int .i64 0, .string ⟨#[]⟩, .int .i64 0, .int .i64 0] _
 have HK := hidOf (bodyToRead_any M v id U0 (hI.keep B0) hm1 hcap hw hid)
 obtain ⟨p0, p1, p2, p3, p4, p5, p6, p7⟩ := box8 A0
 have HI := hidOf hI
 have HM := hidOf hm
 have HZ0 := hidOf z0
 have HG := hidOf hG
 clear hI hm hm1 hcap hw hid hG z0
 go_enter Tryz.func37, Tryz.ntmps37
 go_upto_region 1 with fail
 rw [← hU0]
 clear hU0
 generalize hN1 : w.heap.size + 1 = N1 at R0 T0 ⊢
 generalize hN2 : N1 + 1 = N2 at T0 ⊢
 have HN12 := hidOf (show N1 ≠ N2 ∧ N2 ≠ N1 by omega)
 have HN0 := hidOf (show N1 = w.heap.size + 1 ∧ N2 = w.heap.size + 2 by omega)
 have n12 : ¬ N1 = N2 := HN12.out.1
 have n21 : ¬ N2 = N1 := HN12.out.2
 clear hN1 hN2
 go_wp2_with fail
 refine (HK.out).mono ?_
 rintro e w1 hbt
 clear HK p0 p1 p2 p3 p4 p5 p6 p7
 rcases hbt with ⟨hq, rfl, b1⟩ | ⟨hq, hat, rfl, b1⟩ | ⟨hq, hat, hhas, rfl, b1⟩ | ⟨hq, hat, hhas, b, A, P, f, sa, sc, ys, rfl, body, hAn, hAn', hyn, b1⟩
 all_goals
  have A1 := A0.keep b1
  have R1 := R0.keep b1
  have T1 := T0.keep b1
  have B1 := bl_trans B0 b1
  have hs1 : w.heap.size + 3 ≤ w1.heap.size := by have h := b1.size; have h2 := HZ0.out; omega
  clear A0 R0 T0 B0
 ·have HQ := hidOf hq
  clear hq b1
  have HC := hidOf (copiedRing_any M v w1 (HI.out.keep B1) HM.out)
  obtain ⟨p0, p1, p2, p3, p4, p5, p6, p7⟩ := box8 A1
  go_wp2_with fail
  refine (HC.out).mono ?_
  rintro e w2 ⟨M2, rfl, row2, le2, b2⟩
  have row3 := row2.mono (B' := w.heap.size + 3) hs1
  have R2 := R1.keep b2
  have T2 := T1.keep b2
  have B2 := bl_trans B1 b2
  clear A1 R1 T1 p0 p1 p2 p3 p4 p5 p6 p7
  obtain ⟨r0, r1, r2, r3, r4, r5, r6, r7⟩ := box8 R2
  have rf := R2.fr
  obtain ⟨u0, u1, u2, u3, u4, u5⟩ := box6 T2
  have uf := T2.fr
  obtain ⟨Z1, hZ1⟩ : ∃ Z, ((((((((w2.setCell ⟨N1, 0, none⟩ (.int .i64 v.cp)).setCell ⟨N1, 1, none⟩ (.int .i64 v.se)).setCell ⟨N1, 2, none⟩ (.slice M2.ia M2.i M2.ic)).setCell ⟨N1, 3, none⟩ (.int .i64 v.nx)).setCell ⟨N1, 4, none⟩ (.slice M2.sa M2.s M2.sc)).setCell ⟨N1, 5, none⟩ (.slice M2.la M2.l M2.lc)).setCell ⟨N1, 6, none⟩ (.slice M2.ga M2.g M2.gc)).setCell ⟨N1, 7, none⟩ (.bool v.cl)) = Z := ⟨_, rfl⟩
  have hZ1b : Z1 = setL w2 N1 0 [.int .i64 v.cp, .int .i64 v.se, .slice M2.ia M2.i M2.ic, .int .i64 v.nx, .slice M2.sa M2.s M2.sc, .slice M2.la M2.l M2.lc, .slice M2.ga M2.g M2.gc, .bool v.cl] := by rw [← hZ1]; rfl
  have TZ1 : BoxL N2 [.int .i64 0, .int .i64 0, .int .i64 0, .string ⟨#[]⟩, .int .i64 0, .int .i64 0] Z1 := by rw [hZ1b]; exact T2.setFar HN12.out.2
  obtain ⟨z0, z1, z2, z3, z4, z5⟩ := box6 TZ1
  have zf := TZ1.fr
  obtain ⟨Zz, hZ⟩ : ∃ Z, ((((((Z1.setCell ⟨N2, 0, none⟩ (.int .i64 0)).setCell ⟨N2, 1, none⟩ (.int .i64 0)).setCell ⟨N2, 2, none⟩ (.int .i64 0)).setCell ⟨N2, 3, none⟩ (.string ⟨#[]⟩)).setCell ⟨N2, 4, none⟩ (.int .i64 0)).setCell ⟨N2, 5, none⟩ (.int .i64 0)) = Z := ⟨_, rfl⟩
  have hZ2 : Zz = setL (setL w2 N1 0 [.int .i64 v.cp, .int .i64 v.se, .slice M2.ia M2.i M2.ic, .int .i64 v.nx, .slice M2.sa M2.s M2.sc, .slice M2.la M2.l M2.lc, .slice M2.ga M2.g M2.gc, .bool v.cl]) N2 0 [.int .i64 0, .int .i64 0, .int .i64 0, .string ⟨#[]⟩, .int .i64 0, .int .i64 0] := by rw [← hZ, hZ1b]; rfl
  have XZ : BoxL N1 [.int .i64 v.cp, .int .i64 v.se, .slice M2.ia M2.i M2.ic, .int .i64 v.nx, .slice M2.sa M2.s M2.sc, .slice M2.la M2.l M2.lc, .slice M2.ga M2.g M2.gc, .bool v.cl] Zz := by rw [hZ2]; exact (R2.setAll (us := [.int .i64 v.cp, .int .i64 v.se, .slice M2.ia M2.i M2.ic, .int .i64 v.nx, .slice M2.sa M2.s M2.sc, .slice M2.la M2.l M2.lc, .slice M2.ga M2.g M2.gc, .bool v.cl]) rfl).setFar HN12.out.1
  have TZ : BoxL N2 [.int .i64 0, .int .i64 0, .int .i64 0, .string ⟨#[]⟩, .int .i64 0, .int .i64 0] Zz := by rw [hZ2]; exact (T2.setFar HN12.out.2).setAll (us := [.int .i64 0, .int .i64 0, .int .i64 0, .string ⟨#[]⟩, .int .i64 0, .int .i64 0]) rfl
  obtain ⟨t0, t1, t2, t3, t4, t5, t6, t7⟩ := box8 XZ
  obtain ⟨o0, o1, o2, o3, o4, o5⟩ := box6 TZ
  have HD := hidOf (show RgD w (recG v id) (recT v id) (recC v id) (.returned (.tuple #[.agg #[.int .i64 v.cp, .int .i64 v.se, .slice M2.ia M2.i M2.ic, .int .i64 v.nx, .slice M2.sa M2.s M2.sc, .slice M2.la M2.l M2.lc, .slice M2.ga M2.g M2.gc, .bool v.cl], .agg #[.int .i64 0, .int .i64 0, .int .i64 0, .string ⟨#[]⟩, .int .i64 0, .int .i64 0], .int .i64 1])) Zz by
   rw [show RgD w (recG v id) (recT v id) (recC v id) = RgD w v Td0 1 by unfold recG recT recC; rw [if_neg (by rw [HQ.out]; simp), if_neg (by rw [HQ.out]; simp), if_neg (by rw [HQ.out]; simp)]]
   rw [hZ2]
   have h := rgd_row (N1 := N1) (N2 := N2) (rs := [.int .i64 v.cp, .int .i64 v.se, .slice M2.ia M2.i M2.ic, .int .i64 v.nx, .slice M2.sa M2.s M2.sc, .slice M2.la M2.l M2.lc, .slice M2.ga M2.g M2.gc, .bool v.cl]) (ts := [.int .i64 0, .int .i64 0, .int .i64 0, .string ⟨#[]⟩, .int .i64 0, .int .i64 0]) row3 HN0.out.1 HN0.out.2 B2
   exact ⟨M2, rfl, h.1, le2 _ HM.out, h.2⟩)
  clear hZ2 XZ TZ TZ1 hZ1b R2 T2
  go_wp2_with fail
  try clear hZ
  try clear hZ1
  exact bodyPost_ret (v := .tuple #[.agg #[.int .i64 v.cp, .int .i64 v.se, .slice M2.ia M2.i M2.ic, .int .i64 v.nx, .slice M2.sa M2.s M2.sc, .slice M2.la M2.l M2.lc, .slice M2.ga M2.g M2.gc, .bool v.cl], .agg #[.int .i64 0, .int .i64 0, .int .i64 0, .string ⟨#[]⟩, .int .i64 0, .int .i64 0], .int .i64 1]) (by simp [results, Tryz.results37, go_sem, t0, t1, t2, t3, t4, t5, t6, t7, o0, o1, o2, o3, o4, o5]) rfl HD.out
 ·have HQ := hidOf hq
  have HA := hidOf hat
  clear hq hat b1
  have HC := hidOf (copiedRing_any M v w1 (HI.out.keep B1) HM.out)
  obtain ⟨p0, p1, p2, p3, p4, p5, p6, p7⟩ := box8 A1
  go_wp2_with fail
  refine (HC.out).mono ?_
  rintro e w2 ⟨M2, rfl, row2, le2, b2⟩
  have row3 := row2.mono (B' := w.heap.size + 3) hs1
  have R2 := R1.keep b2
  have T2 := T1.keep b2
  have B2 := bl_trans B1 b2
  clear A1 R1 T1 p0 p1 p2 p3 p4 p5 p6 p7
  obtain ⟨r0, r1, r2, r3, r4, r5, r6, r7⟩ := box8 R2
  have rf := R2.fr
  obtain ⟨u0, u1, u2, u3, u4, u5⟩ := box6 T2
  have uf := T2.fr
  obtain ⟨Z1, hZ1⟩ : ∃ Z, ((((((((w2.setCell ⟨N1, 0, none⟩ (.int .i64 v.cp)).setCell ⟨N1, 1, none⟩ (.int .i64 v.se)).setCell ⟨N1, 2, none⟩ (.slice M2.ia M2.i M2.ic)).setCell ⟨N1, 3, none⟩ (.int .i64 v.nx)).setCell ⟨N1, 4, none⟩ (.slice M2.sa M2.s M2.sc)).setCell ⟨N1, 5, none⟩ (.slice M2.la M2.l M2.lc)).setCell ⟨N1, 6, none⟩ (.slice M2.ga M2.g M2.gc)).setCell ⟨N1, 7, none⟩ (.bool v.cl)) = Z := ⟨_, rfl⟩
  have hZ1b : Z1 = setL w2 N1 0 [.int .i64 v.cp, .int .i64 v.se, .slice M2.ia M2.i M2.ic, .int .i64 v.nx, .slice M2.sa M2.s M2.sc, .slice M2.la M2.l M2.lc, .slice M2.ga M2.g M2.gc, .bool v.cl] := by rw [← hZ1]; rfl
  have TZ1 : BoxL N2 [.int .i64 0, .int .i64 0, .int .i64 0, .string ⟨#[]⟩, .int .i64 0, .int .i64 0] Z1 := by rw [hZ1b]; exact T2.setFar HN12.out.2
  obtain ⟨z0, z1, z2, z3, z4, z5⟩ := box6 TZ1
  have zf := TZ1.fr
  obtain ⟨Zz, hZ⟩ : ∃ Z, ((((((Z1.setCell ⟨N2, 0, none⟩ (.int .i64 0)).setCell ⟨N2, 1, none⟩ (.int .i64 0)).setCell ⟨N2, 2, none⟩ (.int .i64 0)).setCell ⟨N2, 3, none⟩ (.string ⟨#[]⟩)).setCell ⟨N2, 4, none⟩ (.int .i64 0)).setCell ⟨N2, 5, none⟩ (.int .i64 0)) = Z := ⟨_, rfl⟩
  have hZ2 : Zz = setL (setL w2 N1 0 [.int .i64 v.cp, .int .i64 v.se, .slice M2.ia M2.i M2.ic, .int .i64 v.nx, .slice M2.sa M2.s M2.sc, .slice M2.la M2.l M2.lc, .slice M2.ga M2.g M2.gc, .bool v.cl]) N2 0 [.int .i64 0, .int .i64 0, .int .i64 0, .string ⟨#[]⟩, .int .i64 0, .int .i64 0] := by rw [← hZ, hZ1b]; rfl
  have XZ : BoxL N1 [.int .i64 v.cp, .int .i64 v.se, .slice M2.ia M2.i M2.ic, .int .i64 v.nx, .slice M2.sa M2.s M2.sc, .slice M2.la M2.l M2.lc, .slice M2.ga M2.g M2.gc, .bool v.cl] Zz := by rw [hZ2]; exact (R2.setAll (us := [.int .i64 v.cp, .int .i64 v.se, .slice M2.ia M2.i M2.ic, .int .i64 v.nx, .slice M2.sa M2.s M2.sc, .slice M2.la M2.l M2.lc, .slice M2.ga M2.g M2.gc, .bool v.cl]) rfl).setFar HN12.out.1
  have TZ : BoxL N2 [.int .i64 0, .int .i64 0, .int .i64 0, .string ⟨#[]⟩, .int .i64 0, .int .i64 0] Zz := by rw [hZ2]; exact (T2.setFar HN12.out.2).setAll (us := [.int .i64 0, .int .i64 0, .int .i64 0, .string ⟨#[]⟩, .int .i64 0, .int .i64 0]) rfl
  obtain ⟨t0, t1, t2, t3, t4, t5, t6, t7⟩ := box8 XZ
  obtain ⟨o0, o1, o2, o3, o4, o5⟩ := box6 TZ
  have HD := hidOf (show RgD w (recG v id) (recT v id) (recC v id) (.returned (.tuple #[.agg #[.int .i64 v.cp, .int .i64 v.se, .slice M2.ia M2.i M2.ic, .int .i64 v.nx, .slice M2.sa M2.s M2.sc, .slice M2.la M2.l M2.lc, .slice M2.ga M2.g M2.gc, .bool v.cl], .agg #[.int .i64 0, .int .i64 0, .int .i64 0, .string ⟨#[]⟩, .int .i64 0, .int .i64 0], .int .i64 3])) Zz by
   rw [show RgD w (recG v id) (recT v id) (recC v id) = RgD w v Td0 3 by unfold recG recT recC; rw [if_pos HQ.out, if_pos HQ.out, if_pos HQ.out, if_pos HA.out, if_pos HA.out, if_pos HA.out]]
   rw [hZ2]
   have h := rgd_row (N1 := N1) (N2 := N2) (rs := [.int .i64 v.cp, .int .i64 v.se, .slice M2.ia M2.i M2.ic, .int .i64 v.nx, .slice M2.sa M2.s M2.sc, .slice M2.la M2.l M2.lc, .slice M2.ga M2.g M2.gc, .bool v.cl]) (ts := [.int .i64 0, .int .i64 0, .int .i64 0, .string ⟨#[]⟩, .int .i64 0, .int .i64 0]) row3 HN0.out.1 HN0.out.2 B2
   exact ⟨M2, rfl, h.1, le2 _ HM.out, h.2⟩)
  clear hZ2 XZ TZ TZ1 hZ1b R2 T2
  go_wp2_with fail
  try clear hZ
  try clear hZ1
  exact bodyPost_ret (v := .tuple #[.agg #[.int .i64 v.cp, .int .i64 v.se, .slice M2.ia M2.i M2.ic, .int .i64 v.nx, .slice M2.sa M2.s M2.sc, .slice M2.la M2.l M2.lc, .slice M2.ga M2.g M2.gc, .bool v.cl], .agg #[.int .i64 0, .int .i64 0, .int .i64 0, .string ⟨#[]⟩, .int .i64 0, .int .i64 0], .int .i64 3]) (by simp [results, Tryz.results37, go_sem, t0, t1, t2, t3, t4, t5, t6, t7, o0, o1, o2, o3, o4, o5]) rfl HD.out
 ·have HQ := hidOf hq
  have HA := hidOf (show 0 ≤ atR v.sb id by omega)
  have HH := hidOf hhas
  clear hq hat hhas b1
  have HC := hidOf (copiedRing_any M v w1 (HI.out.keep B1) HM.out)
  obtain ⟨p0, p1, p2, p3, p4, p5, p6, p7⟩ := box8 A1
  go_wp2_with fail
  refine (HC.out).mono ?_
  rintro e w2 ⟨M2, rfl, row2, le2, b2⟩
  have row3 := row2.mono (B' := w.heap.size + 3) hs1
  have R2 := R1.keep b2
  have T2 := T1.keep b2
  have B2 := bl_trans B1 b2
  clear A1 R1 T1 p0 p1 p2 p3 p4 p5 p6 p7
  obtain ⟨r0, r1, r2, r3, r4, r5, r6, r7⟩ := box8 R2
  have rf := R2.fr
  obtain ⟨u0, u1, u2, u3, u4, u5⟩ := box6 T2
  have uf := T2.fr
  obtain ⟨Z1, hZ1⟩ : ∃ Z, ((((((((w2.setCell ⟨N1, 0, none⟩ (.int .i64 v.cp)).setCell ⟨N1, 1, none⟩ (.int .i64 v.se)).setCell ⟨N1, 2, none⟩ (.slice M2.ia M2.i M2.ic)).setCell ⟨N1, 3, none⟩ (.int .i64 v.nx)).setCell ⟨N1, 4, none⟩ (.slice M2.sa M2.s M2.sc)).setCell ⟨N1, 5, none⟩ (.slice M2.la M2.l M2.lc)).setCell ⟨N1, 6, none⟩ (.slice M2.ga M2.g M2.gc)).setCell ⟨N1, 7, none⟩ (.bool v.cl)) = Z := ⟨_, rfl⟩
  have hZ1b : Z1 = setL w2 N1 0 [.int .i64 v.cp, .int .i64 v.se, .slice M2.ia M2.i M2.ic, .int .i64 v.nx, .slice M2.sa M2.s M2.sc, .slice M2.la M2.l M2.lc, .slice M2.ga M2.g M2.gc, .bool v.cl] := by rw [← hZ1]; rfl
  have TZ1 : BoxL N2 [.int .i64 0, .int .i64 0, .int .i64 0, .string ⟨#[]⟩, .int .i64 0, .int .i64 0] Z1 := by rw [hZ1b]; exact T2.setFar HN12.out.2
  obtain ⟨z0, z1, z2, z3, z4, z5⟩ := box6 TZ1
  have zf := TZ1.fr
  obtain ⟨Zz, hZ⟩ : ∃ Z, ((((((Z1.setCell ⟨N2, 0, none⟩ (.int .i64 0)).setCell ⟨N2, 1, none⟩ (.int .i64 0)).setCell ⟨N2, 2, none⟩ (.int .i64 0)).setCell ⟨N2, 3, none⟩ (.string ⟨#[]⟩)).setCell ⟨N2, 4, none⟩ (.int .i64 0)).setCell ⟨N2, 5, none⟩ (.int .i64 0)) = Z := ⟨_, rfl⟩
  have hZ2 : Zz = setL (setL w2 N1 0 [.int .i64 v.cp, .int .i64 v.se, .slice M2.ia M2.i M2.ic, .int .i64 v.nx, .slice M2.sa M2.s M2.sc, .slice M2.la M2.l M2.lc, .slice M2.ga M2.g M2.gc, .bool v.cl]) N2 0 [.int .i64 0, .int .i64 0, .int .i64 0, .string ⟨#[]⟩, .int .i64 0, .int .i64 0] := by rw [← hZ, hZ1b]; rfl
  have XZ : BoxL N1 [.int .i64 v.cp, .int .i64 v.se, .slice M2.ia M2.i M2.ic, .int .i64 v.nx, .slice M2.sa M2.s M2.sc, .slice M2.la M2.l M2.lc, .slice M2.ga M2.g M2.gc, .bool v.cl] Zz := by rw [hZ2]; exact (R2.setAll (us := [.int .i64 v.cp, .int .i64 v.se, .slice M2.ia M2.i M2.ic, .int .i64 v.nx, .slice M2.sa M2.s M2.sc, .slice M2.la M2.l M2.lc, .slice M2.ga M2.g M2.gc, .bool v.cl]) rfl).setFar HN12.out.1
  have TZ : BoxL N2 [.int .i64 0, .int .i64 0, .int .i64 0, .string ⟨#[]⟩, .int .i64 0, .int .i64 0] Zz := by rw [hZ2]; exact (T2.setFar HN12.out.2).setAll (us := [.int .i64 0, .int .i64 0, .int .i64 0, .string ⟨#[]⟩, .int .i64 0, .int .i64 0]) rfl
  obtain ⟨t0, t1, t2, t3, t4, t5, t6, t7⟩ := box8 XZ
  obtain ⟨o0, o1, o2, o3, o4, o5⟩ := box6 TZ
  have HD := hidOf (show RgD w (recG v id) (recT v id) (recC v id) (.returned (.tuple #[.agg #[.int .i64 v.cp, .int .i64 v.se, .slice M2.ia M2.i M2.ic, .int .i64 v.nx, .slice M2.sa M2.s M2.sc, .slice M2.la M2.l M2.lc, .slice M2.ga M2.g M2.gc, .bool v.cl], .agg #[.int .i64 0, .int .i64 0, .int .i64 0, .string ⟨#[]⟩, .int .i64 0, .int .i64 0], .int .i64 5])) Zz by
   rw [show RgD w (recG v id) (recT v id) (recC v id) = RgD w v Td0 5 by have hn : ¬ atR v.sb id < 0 := (by have h := HA.out; omega); unfold recG recT recC; rw [if_pos HQ.out, if_pos HQ.out, if_pos HQ.out, if_neg hn, if_neg hn, if_neg hn, if_pos HH.out, if_pos HH.out, if_pos HH.out]]
   rw [hZ2]
   have h := rgd_row (N1 := N1) (N2 := N2) (rs := [.int .i64 v.cp, .int .i64 v.se, .slice M2.ia M2.i M2.ic, .int .i64 v.nx, .slice M2.sa M2.s M2.sc, .slice M2.la M2.l M2.lc, .slice M2.ga M2.g M2.gc, .bool v.cl]) (ts := [.int .i64 0, .int .i64 0, .int .i64 0, .string ⟨#[]⟩, .int .i64 0, .int .i64 0]) row3 HN0.out.1 HN0.out.2 B2
   exact ⟨M2, rfl, h.1, le2 _ HM.out, h.2⟩)
  clear hZ2 XZ TZ TZ1 hZ1b R2 T2
  go_wp2_with fail
  try clear hZ
  try clear hZ1
  exact bodyPost_ret (v := .tuple #[.agg #[.int .i64 v.cp, .int .i64 v.se, .slice M2.ia M2.i M2.ic, .int .i64 v.nx, .slice M2.sa M2.s M2.sc, .slice M2.la M2.l M2.lc, .slice M2.ga M2.g M2.gc, .bool v.cl], .agg #[.int .i64 0, .int .i64 0, .int .i64 0, .string ⟨#[]⟩, .int .i64 0, .int .i64 0], .int .i64 5]) (by simp [results, Tryz.results37, go_sem, t0, t1, t2, t3, t4, t5, t6, t7, o0, o1, o2, o3, o4, o5]) rfl HD.out
 ·have HQ := hidOf hq
  have HA := hidOf (show 0 ≤ atR v.sb id by omega)
  have HH := hidOf hhas
  obtain ⟨hlt, hk⟩ := at_lt hat
  obtain ⟨k, hkk⟩ : ∃ k, (atR v.sb id).toNat = k := ⟨_, rfl⟩
  rw [hkk] at hlt hk
  obtain ⟨g, rfl, hsl, hky⟩ := body.sub_row hlt
  have hhd := ok_head HQ.out
  obtain ⟨v5, hv5⟩ : ∃ v5, trimR (waitV v k id) = v5 := ⟨_, rfl⟩
  obtain ⟨td, htd⟩ : ∃ td, readT v (v.sb.getD k Sb0) = td := ⟨_, rfl⟩
  obtain ⟨cd, hcd⟩ : ∃ cd, readC v (v.sb.getD k Sb0) = cd := ⟨_, rfl⟩
  have HEl := hidOf (show RgD w (recG v id) (recT v id) (recC v id) = RgD w v5 td cd by
   have hn : ¬ atR v.sb id < 0 := hat
   have hh : ¬ (hasL v.ln id || hasL v.gs id) = true := by rw [HH.out]; simp
   unfold recG recT recC
   rw [if_pos HQ.out, if_pos HQ.out, if_pos HQ.out, if_neg hn, if_neg hn, if_neg hn, if_neg hh, if_neg hh, if_neg hh, hkk, hv5, htd, hcd])
  have HI5 := hidOf (show v5.it.length ≤ 16 by rw [← hv5]; exact trim_wait_len (ok_rd HQ.out hlt))
  have HV := hidOf hv5
  have HTd := hidOf htd
  have HCd := hidOf hcd
  have hlnn := body.wst.rows.len.1
  have HRc := hidOf (receive_any U0.heap.size b A P f v g M.s sc ys k id w1 body HM.out.s (by omega) hk (ok_rd HQ.out hlt) hky (fun y hy => by obtain ⟨z, hz, e⟩ := hyn y hy; rw [e]; exact HM.out.f z hz) ((HG.out.keep B1)) (by have h := HG.out.lt; have h2 := HZ0.out; omega) (by have h := hhd.2.2.2.2.2.1; omega))
  have HAn0 := hidOf (show A.n ≤ 12 ∧ A.n' ≤ M.g by have h := hhd.2.2.2.2.2.1; omega)
  have HYn := hidOf hyn
  have HKY := hidOf hky
  have RW := R1
  have TW := T1
  have BW := B1
  clear hq hat hhas hkk hv5 htd hcd body hhd hlt hAn hAn' hsl hk hlnn hyn hky A1 R1 T1 B1 b1
  go_wp2_with fail
  refine (HRc.out).mono ?_
  rintro e w3 ⟨he3, A', P', f', body3, hA3, hA3', b3⟩
  rw [HTd.out, HCd.out] at he3
  subst he3
  rw [HV.out] at body3
  have R3 := RW.below b3 (by have h := HZ0.out; have h2 := HN0.out; omega)
  have T3 := TW.below b3 (by have h := HZ0.out; have h2 := HN0.out; omega)
  have B3 : Below w.heap.size w w3 := bl_trans2 BW b3 (by have := HZ0.out; omega)
  obtain ⟨V2, hV2⟩ : ∃ V, V = w3.alloc (.cells #[.int .i64 td.kd, .int .i64 td.ms.1, .int .i64 td.ms.2.1, .string td.ms.2.2, .int .i64 td.ix, .int .i64 td.n] 53) := ⟨_, rfl⟩
  have bV2 : Below w3.heap.size w3 V2 := by rw [hV2]; exact bl_alloc (Below.refl _ _) _
  have K6 : BoxL w3.heap.size [.int .i64 td.kd, .int .i64 td.ms.1, .int .i64 td.ms.2.1, .string td.ms.2.2, .int .i64 td.ix, .int .i64 td.n] V2 := by rw [hV2]; exact BoxL.new w3 [.int .i64 td.kd, .int .i64 td.ms.1, .int .i64 td.ms.2.1, .string td.ms.2.2, .int .i64 td.ix, .int .i64 td.n] _
  have R6 := R3.keep bV2
  have T6 := T3.keep bV2
  have B6 := bl_trans B3 bV2
  have HBo := hidOf (body3.keep bV2)
  have HAn := hidOf (show A'.n ≤ 2000000 ∧ A'.n' ≤ M.g by have h := HAn0.out; omega)
  have l1 := R3.lt
  have l2 := T3.lt
  clear body3 RW TW BW R3 T3 B3 bV2 b3 hA3 hA3' HRc
  go_upto_region 5 with fail
  rw [← hV2]
  clear hV2
  generalize hNT : w3.heap.size = NT at K6 ⊢
  have HNT := hidOf (show NT ≠ N1 ∧ NT ≠ N2 by omega)
  clear hNT l1 l2
  have hS6 : (fun u : World => u.cell? ⟨NT, 0, none⟩ = some (.int .i64 td.kd) ∧ u.cell? ⟨NT, 1, none⟩ = some (.int .i64 td.ms.1) ∧ u.cell? ⟨NT, 2, none⟩ = some (.int .i64 td.ms.2.1) ∧ u.cell? ⟨NT, 3, none⟩ = some (.string td.ms.2.2) ∧ u.cell? ⟨NT, 4, none⟩ = some (.int .i64 td.ix) ∧ u.cell? ⟨NT, 5, none⟩ = some (.int .i64 td.n)) V2 := ⟨K6.cs 0 (by simp), K6.cs 1 (by simp), K6.cs 2 (by simp), K6.cs 3 (by simp), K6.cs 4 (by simp), K6.cs 5 (by simp)⟩
  have HRi := hidOf (ring_anyQ U0.heap.size b A' P' f' v5 (some ⟨g, 0, none⟩) M.s sc (ysS ys k (readS v (v.sb.getD k Sb0))) V2.drew (HBo.out.keep (Below.refl _ _).drew))
  go_upto_region 5 with fail
  refine wp_region_noPanic ?_
  refine wp_region_held_drew (S := fun u => u.cell? ⟨NT, 0, none⟩ = some (.int .i64 td.kd) ∧ u.cell? ⟨NT, 1, none⟩ = some (.int .i64 td.ms.1) ∧ u.cell? ⟨NT, 2, none⟩ = some (.int .i64 td.ms.2.1) ∧ u.cell? ⟨NT, 3, none⟩ = some (.string td.ms.2.2) ∧ u.cell? ⟨NT, 4, none⟩ = some (.int .i64 td.ix) ∧ u.cell? ⟨NT, 5, none⟩ = some (.int .i64 td.n)) (by kernel_rfl) hS6 (fun hHeld => ?_)
  refine tK 0 ?_ rfl (by kernel_rfl) (by rfl) ?_ (by assumption) (fun _ _ _ h => h) ?_
  case refine_2 => (intro w hSw; (try dsimp only at hSw); go_simp; try with_reducible rfl)
  simp only [Act.put, List.getElem_toArray, List.getElem_cons_zero, List.setIfInBounds_toArray, List.set_cons_zero, List.set_cons_succ]
  refine tR 2 ?_
  refine tR 3 ?_
  refine tW 1 (fun K hK => ?_)
  go_simp
  refine (HRi.out).mono ?_
  rintro e w7 ⟨g6, hg6, rfl, row4, b7⟩
  go_wp2_with fail
  have row5 := row4.mono (B' := w.heap.size + 3) (by have := HZ0.out; omega)
  have K7 := (K6.keep (Below.refl _ _).drew).keep b7
  have R7 := (R6.keep (Below.refl _ _).drew).keep b7
  have U7 := (T6.keep (Below.refl _ _).drew).keep b7
  have B7 := bl_trans B6.drew b7
  have hS7 : (fun u : World => u.cell? ⟨NT, 0, none⟩ = some (.int .i64 td.kd) ∧ u.cell? ⟨NT, 1, none⟩ = some (.int .i64 td.ms.1) ∧ u.cell? ⟨NT, 2, none⟩ = some (.int .i64 td.ms.2.1) ∧ u.cell? ⟨NT, 3, none⟩ = some (.string td.ms.2.2) ∧ u.cell? ⟨NT, 4, none⟩ = some (.int .i64 td.ix) ∧ u.cell? ⟨NT, 5, none⟩ = some (.int .i64 td.n)) w7 := ⟨K7.cs 0 (by simp), K7.cs 1 (by simp), K7.cs 2 (by simp), K7.cs 3 (by simp), K7.cs 4 (by simp), K7.cs 5 (by simp)⟩
  obtain ⟨r0, r1, r2, r3, r4, r5, r6, r7⟩ := box8 R7
  have rf := R7.fr
  obtain ⟨u0, u1, u2, u3, u4, u5⟩ := box6 U7
  have uf := U7.fr
  obtain ⟨Z1, hZ1⟩ : ∃ Z, ((((((((w7.setCell ⟨N1, 0, none⟩ (.int .i64 v5.cp)).setCell ⟨N1, 1, none⟩ (.int .i64 v5.se)).setCell ⟨N1, 2, none⟩ (.slice (some ⟨g6, 0, none⟩) v5.it.length v5.it.length)).setCell ⟨N1, 3, none⟩ (.int .i64 v5.nx)).setCell ⟨N1, 4, none⟩ (.slice (some ⟨g, 0, none⟩) M.s sc)).setCell ⟨N1, 5, none⟩ (.slice A'.a A'.n A'.c)).setCell ⟨N1, 6, none⟩ (.slice A'.a' A'.n' A'.c')).setCell ⟨N1, 7, none⟩ (.bool v5.cl)) = Z := ⟨_, rfl⟩
  have hZ1b : Z1 = setL w7 N1 0 [.int .i64 v5.cp, .int .i64 v5.se, .slice (some ⟨g6, 0, none⟩) v5.it.length v5.it.length, .int .i64 v5.nx, .slice (some ⟨g, 0, none⟩) M.s sc, .slice A'.a A'.n A'.c, .slice A'.a' A'.n' A'.c', .bool v5.cl] := by rw [← hZ1]; rfl
  have TZ1 : BoxL N2 [.int .i64 0, .int .i64 0, .int .i64 0, .string ⟨#[]⟩, .int .i64 0, .int .i64 0] Z1 := by rw [hZ1b]; exact U7.setFar HN12.out.2
  obtain ⟨z0, z1, z2, z3, z4, z5⟩ := box6 TZ1
  have zf := TZ1.fr
  obtain ⟨Zz, hZ⟩ : ∃ Z, ((((((Z1.setCell ⟨N2, 0, none⟩ (.int .i64 td.kd)).setCell ⟨N2, 1, none⟩ (.int .i64 td.ms.1)).setCell ⟨N2, 2, none⟩ (.int .i64 td.ms.2.1)).setCell ⟨N2, 3, none⟩ (.string td.ms.2.2)).setCell ⟨N2, 4, none⟩ (.int .i64 td.ix)).setCell ⟨N2, 5, none⟩ (.int .i64 td.n)) = Z := ⟨_, rfl⟩
  have hZ2 : Zz = setL (setL w7 N1 0 [.int .i64 v5.cp, .int .i64 v5.se, .slice (some ⟨g6, 0, none⟩) v5.it.length v5.it.length, .int .i64 v5.nx, .slice (some ⟨g, 0, none⟩) M.s sc, .slice A'.a A'.n A'.c, .slice A'.a' A'.n' A'.c', .bool v5.cl]) N2 0 [.int .i64 td.kd, .int .i64 td.ms.1, .int .i64 td.ms.2.1, .string td.ms.2.2, .int .i64 td.ix, .int .i64 td.n] := by rw [← hZ, hZ1b]; rfl
  have XZ : BoxL N1 [.int .i64 v5.cp, .int .i64 v5.se, .slice (some ⟨g6, 0, none⟩) v5.it.length v5.it.length, .int .i64 v5.nx, .slice (some ⟨g, 0, none⟩) M.s sc, .slice A'.a A'.n A'.c, .slice A'.a' A'.n' A'.c', .bool v5.cl] Zz := by rw [hZ2]; exact (R7.setAll (us := [.int .i64 v5.cp, .int .i64 v5.se, .slice (some ⟨g6, 0, none⟩) v5.it.length v5.it.length, .int .i64 v5.nx, .slice (some ⟨g, 0, none⟩) M.s sc, .slice A'.a A'.n A'.c, .slice A'.a' A'.n' A'.c', .bool v5.cl]) rfl).setFar HN12.out.1
  have TZ : BoxL N2 [.int .i64 td.kd, .int .i64 td.ms.1, .int .i64 td.ms.2.1, .string td.ms.2.2, .int .i64 td.ix, .int .i64 td.n] Zz := by rw [hZ2]; exact (U7.setFar HN12.out.2).setAll (us := [.int .i64 td.kd, .int .i64 td.ms.1, .int .i64 td.ms.2.1, .string td.ms.2.2, .int .i64 td.ix, .int .i64 td.n]) rfl
  obtain ⟨t0, t1, t2, t3, t4, t5, t6, t7⟩ := box8 XZ
  obtain ⟨o0, o1, o2, o3, o4, o5⟩ := box6 TZ
  have K8 : BoxL NT [.int .i64 td.kd, .int .i64 td.ms.1, .int .i64 td.ms.2.1, .string td.ms.2.2, .int .i64 td.ix, .int .i64 td.n] Z1 := by rw [hZ1b]; exact K7.setFar HNT.out.1
  have hS8 : (fun u : World => u.cell? ⟨NT, 0, none⟩ = some (.int .i64 td.kd) ∧ u.cell? ⟨NT, 1, none⟩ = some (.int .i64 td.ms.1) ∧ u.cell? ⟨NT, 2, none⟩ = some (.int .i64 td.ms.2.1) ∧ u.cell? ⟨NT, 3, none⟩ = some (.string td.ms.2.2) ∧ u.cell? ⟨NT, 4, none⟩ = some (.int .i64 td.ix) ∧ u.cell? ⟨NT, 5, none⟩ = some (.int .i64 td.n)) Z1 := ⟨K8.cs 0 (by simp), K8.cs 1 (by simp), K8.cs 2 (by simp), K8.cs 3 (by simp), K8.cs 4 (by simp), K8.cs 5 (by simp)⟩
  have K9 : BoxL NT [.int .i64 td.kd, .int .i64 td.ms.1, .int .i64 td.ms.2.1, .string td.ms.2.2, .int .i64 td.ix, .int .i64 td.n] Zz := by rw [hZ2, ← hZ1b]; exact K8.setFar HNT.out.2
  have HL5 := hidOf (show RLe (⟨some ⟨g6, 0, none⟩, v5.it.length, v5.it.length, some ⟨g, 0, none⟩, M.s, sc, ysS ys k (readS v (v.sb.getD k Sb0)), A'.a, A'.n, A'.c, A'.a', A'.n', A'.c'⟩ : Rm) 2097152 from ⟨by have h := HI5.out; show v5.it.length ≤ _; omega, HM.out.s, fun y hy => by
   obtain ⟨x2, hx2, e2⟩ := ysS_mem HKY.out y hy
   obtain ⟨x3, hx3, e3⟩ := HYn.out x2 hx2
   rw [e2, e3]
   exact HM.out.f x3 hx3, by have h := HAn.out; show A'.n ≤ _; omega, by have h := HAn.out; have h2 := HM.out.g; show A'.n' ≤ _; omega⟩)
  have hS9 : (fun u : World => u.cell? ⟨NT, 0, none⟩ = some (.int .i64 td.kd) ∧ u.cell? ⟨NT, 1, none⟩ = some (.int .i64 td.ms.1) ∧ u.cell? ⟨NT, 2, none⟩ = some (.int .i64 td.ms.2.1) ∧ u.cell? ⟨NT, 3, none⟩ = some (.string td.ms.2.2) ∧ u.cell? ⟨NT, 4, none⟩ = some (.int .i64 td.ix) ∧ u.cell? ⟨NT, 5, none⟩ = some (.int .i64 td.n)) Zz := ⟨K9.cs 0 (by simp), K9.cs 1 (by simp), K9.cs 2 (by simp), K9.cs 3 (by simp), K9.cs 4 (by simp), K9.cs 5 (by simp)⟩
  have HD := hidOf (show RgD w (recG v id) (recT v id) (recC v id) (.returned (.tuple #[.agg #[.int .i64 v5.cp, .int .i64 v5.se, .slice (some ⟨g6, 0, none⟩) v5.it.length v5.it.length, .int .i64 v5.nx, .slice (some ⟨g, 0, none⟩) M.s sc, .slice A'.a A'.n A'.c, .slice A'.a' A'.n' A'.c', .bool v5.cl], .agg #[.int .i64 td.kd, .int .i64 td.ms.1, .int .i64 td.ms.2.1, .string td.ms.2.2, .int .i64 td.ix, .int .i64 td.n], .int .i64 cd])) Zz by
   rw [HEl.out, hZ2]
   have h := rgd_row (N1 := N1) (N2 := N2) (rs := [.int .i64 v5.cp, .int .i64 v5.se, .slice (some ⟨g6, 0, none⟩) v5.it.length v5.it.length, .int .i64 v5.nx, .slice (some ⟨g, 0, none⟩) M.s sc, .slice A'.a A'.n A'.c, .slice A'.a' A'.n' A'.c', .bool v5.cl]) (ts := [.int .i64 td.kd, .int .i64 td.ms.1, .int .i64 td.ms.2.1, .string td.ms.2.2, .int .i64 td.ix, .int .i64 td.n]) row5 HN0.out.1 HN0.out.2 B7
   exact ⟨(⟨some ⟨g6, 0, none⟩, v5.it.length, v5.it.length, some ⟨g, 0, none⟩, M.s, sc, ysS ys k (readS v (v.sb.getD k Sb0)), A'.a, A'.n, A'.c, A'.a', A'.n', A'.c'⟩ : Rm), rfl, h.1, HL5.out, h.2⟩)
  clear hZ2 XZ TZ TZ1 hZ1b R7 U7 K7 K8 K9
  refine hK.out _ _ hS7 (fun hHeld => ?_)
  clear hK K
  refine tW 4 (fun K hK => ?_)
  go_simp
  refine hK.out _ _ hS8 (fun hHeld => ?_)
  clear hK K
  refine tW 5 (fun K hK => ?_)
  go_simp
  refine hK.out _ _ hS9 (fun hHeld => ?_)
  clear hK K
  refine tR 6 ?_
  refine wpAnyH_done (by kernel_rfl) ?_ _
  refine NoPanic.normal ?_
  go_wp2_with fail
  exact bodyPost_ret (v := .tuple #[.agg #[.int .i64 v5.cp, .int .i64 v5.se, .slice (some ⟨g6, 0, none⟩) v5.it.length v5.it.length, .int .i64 v5.nx, .slice (some ⟨g, 0, none⟩) M.s sc, .slice A'.a A'.n A'.c, .slice A'.a' A'.n' A'.c', .bool v5.cl], .agg #[.int .i64 td.kd, .int .i64 td.ms.1, .int .i64 td.ms.2.1, .string td.ms.2.2, .int .i64 td.ix, .int .i64 td.n], .int .i64 cd]) (by simp [results, Tryz.results37, go_sem, t0, t1, t2, t3, t4, t5, t6, t7, o0, o1, o2, o3, o4, o5]) rfl HD.out
end Go.Proofs.YtihdglmiecifjaaGreat
