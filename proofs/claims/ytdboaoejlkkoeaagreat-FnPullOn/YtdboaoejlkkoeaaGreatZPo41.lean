/-
  The program's Pull
-/
import Derived.Test.YtdboaoejlkkoeaaGreatZPo40
namespace Go.Proofs.YtdboaoejlkkoeaaGreat
open Go.RowKit Go.Maps Pl Il
set_option maxRecDepth 100000 in
set_option maxHeartbeats 16000000 in
theorem implPull_any (M : Rm) (v : Rv) (id most : Int) (w : World) (hI : RIn w M v) (hm1 : RLe M 1048576) (hcap : RCap M) (hw : RWf v) (hid : (Lit.int .i64 id).wf = true) (hG : GOk w) :
  Calls Tryz.prog 31 #[.agg #[.int .i64 v.cp, .int .i64 v.se, .slice M.ia M.i M.ic, .int .i64 v.nx, .slice M.sa M.s M.sc, .slice M.la M.l M.lc, .slice M.ga M.g M.gc, .bool v.cl], .int .i64 id, .int .i64 most] w fun e w' => PulS w (pulR v id most) (pulT v id most) (pulC v id most) e w' := by
 have hm := hm1.mono (k' := 2097152) (by omega)
 obtain ⟨U0, hU0⟩ : ∃ W, W = (w.alloc (.cells #[.int .i64 v.cp, .int .i64 v.se, .slice M.ia M.i M.ic, .int .i64 v.nx, .slice M.sa M.s M.sc, .slice M.la M.l M.lc, .slice M.ga M.g M.gc, .bool v.cl] 28)).alloc (.cells #[.int .i64 0, .int .i64 0, .slice none 0 0, .int .i64 0, .slice none 0 0, .slice none 0 0, .slice none 0 0, .bool false] 28) := ⟨_, rfl⟩
 have B0 : Below w.heap.size w U0 := by rw [hU0]; exact bl_alloc (bl_alloc (Below.refl _ _) _) _
 have z0 : U0.heap.size = w.heap.size + 2 := by rw [hU0]; simp
 have A0 : BoxL w.heap.size (rC M v) U0 := by rw [hU0]; exact (BoxL.new w (rC M v) _).alloc _
 have R0 : BoxL (w.heap.size + 1) [.int .i64 0, .int .i64 0, .slice none 0 0, .int .i64 0, .slice none 0 0, .slice none 0 0, .slice none 0 0, .bool false] U0 := by rw [hU0]; exact boxT1 w _ [.int .i64 0, .int .i64 0, .slice none 0 0, .int .i64 0, .slice none 0 0, .slice none 0 0, .slice none 0 0, .bool false] _
 have HK := hidOf (bodyToRead_any M v id U0 (hI.keep B0) hm1 hcap hw hid)
 have p0 := A0.cs 0 (by simp)
 have p1 := A0.cs 1 (by simp)
 have p2 := A0.cs 2 (by simp)
 have p3 := A0.cs 3 (by simp)
 have p4 := A0.cs 4 (by simp)
 have p5 := A0.cs 5 (by simp)
 have p6 := A0.cs 6 (by simp)
 have p7 := A0.cs 7 (by simp)
 simp at p0 p1 p2 p3 p4 p5 p6 p7
 have HI := hidOf hI
 have HM := hidOf hm
 have HG := hidOf hG
 have HZ0 := hidOf z0
 clear hI hm hm1 hcap hw hid hG
 go_enter Tryz.func31, Tryz.ntmps31
 go_upto_region 1 with fail
 rw [← hU0]
 clear hU0
 generalize hN1 : w.heap.size + 1 = N1 at R0 ⊢
 have HN0 := hidOf (show N1 = w.heap.size + 1 by omega)
 clear hN1
 have hs1 : w.heap.size + 2 ≤ U0.heap.size := by omega
 by_cases hl : most < 0 ∨ 50 < most
 ·have HL := hidOf hl
  clear HK z0
  by_cases hl1 : most < 0
  ·clear hl
   have HC := hidOf (copiedRing_any M v U0 (HI.out.keep B0) HM.out)
   go_wp2_with fail
   refine (HC.out).mono ?_
   rintro e w2 ⟨M2, rfl, row2, le2, b2⟩
   have row3 := row2.mono (B' := w.heap.size + 2) hs1
   have R2 := R0.keep b2
   have B2 := bl_trans B0 b2
   clear p0 p1 p2 p3 p4 p5 p6 p7
   obtain ⟨r0, r1, r2, r3, r4, r5, r6, r7⟩ := box8 R2
   have rf := R2.fr
   obtain ⟨Zz, hZ⟩ : ∃ Z, ((((((((w2.setCell ⟨N1, 0, none⟩ (.int .i64 v.cp)).setCell ⟨N1, 1, none⟩ (.int .i64 v.se)).setCell ⟨N1, 2, none⟩ (.slice M2.ia M2.i M2.ic)).setCell ⟨N1, 3, none⟩ (.int .i64 v.nx)).setCell ⟨N1, 4, none⟩ (.slice M2.sa M2.s M2.sc)).setCell ⟨N1, 5, none⟩ (.slice M2.la M2.l M2.lc)).setCell ⟨N1, 6, none⟩ (.slice M2.ga M2.g M2.gc)).setCell ⟨N1, 7, none⟩ (.bool v.cl)) = Z := ⟨_, rfl⟩
   have hZ2 : Zz = setL w2 N1 0 [.int .i64 v.cp, .int .i64 v.se, .slice M2.ia M2.i M2.ic, .int .i64 v.nx, .slice M2.sa M2.s M2.sc, .slice M2.la M2.l M2.lc, .slice M2.ga M2.g M2.gc, .bool v.cl] := by rw [← hZ]; rfl
   have XZ : BoxL N1 [.int .i64 v.cp, .int .i64 v.se, .slice M2.ia M2.i M2.ic, .int .i64 v.nx, .slice M2.sa M2.s M2.sc, .slice M2.la M2.l M2.lc, .slice M2.ga M2.g M2.gc, .bool v.cl] Zz := by rw [hZ2]; exact R2.setAll (us := [.int .i64 v.cp, .int .i64 v.se, .slice M2.ia M2.i M2.ic, .int .i64 v.nx, .slice M2.sa M2.s M2.sc, .slice M2.la M2.l M2.lc, .slice M2.ga M2.g M2.gc, .bool v.cl]) rfl
   obtain ⟨t0, t1, t2, t3, t4, t5, t6, t7⟩ := box8 XZ
   have HD := hidOf (show PulS w (pulR v id most) (pulT v id most) (pulC v id most) (.returned (.tuple #[.agg #[.int .i64 v.cp, .int .i64 v.se, .slice M2.ia M2.i M2.ic, .int .i64 v.nx, .slice M2.sa M2.s M2.sc, .slice M2.la M2.l M2.lc, .slice M2.ga M2.g M2.gc, .bool v.cl], .slice none 0 0, .int .i64 1])) Zz by
    rw [show PulS w (pulR v id most) (pulT v id most) (pulC v id most) = PulS w v [] 1 by unfold pulR pulT pulC; rw [if_neg (by have h := HL.out; omega), if_neg (by have h := HL.out; omega), if_neg (by have h := HL.out; omega)]]
    rw [hZ2]
    have hs2 := HN0.out
    have hsz := HZ0.out
    have hbs := b2.size
    have hgr : w2.grownBy (setL w2 N1 0 [.int .i64 v.cp, .int .i64 v.se, .slice M2.ia M2.i M2.ic, .int .i64 v.nx, .slice M2.sa M2.s M2.sc, .slice M2.la M2.l M2.lc, .slice M2.ga M2.g M2.gc, .bool v.cl]) (some N1) := setL_grown ⟨rfl, rfl, rfl, Nat.le_refl _, fun _ _ _ => rfl⟩
    exact ⟨M2, none, 0, 0, rfl, (row3.grown hgr (row3.out (by omega))).mono (by omega), le2 _ HM.out, World.ownsRow_nil _ _ _ _, fun q e => by simp [Value.ownBlock] at e, setL_below (by omega) B2⟩)
   clear hZ2 XZ R2
   go_wp2_with fail
   try clear hZ
   exact bodyPost_ret (v := .tuple #[.agg #[.int .i64 v.cp, .int .i64 v.se, .slice M2.ia M2.i M2.ic, .int .i64 v.nx, .slice M2.sa M2.s M2.sc, .slice M2.la M2.l M2.lc, .slice M2.ga M2.g M2.gc, .bool v.cl], .slice none 0 0, .int .i64 1]) (by simp [results, Tryz.results31, go_sem, t0, t1, t2, t3, t4, t5, t6, t7]) rfl HD.out
  ·have hl2 : 50 < most := by omega
   clear hl
   have HC := hidOf (copiedRing_any M v U0 (HI.out.keep B0) HM.out)
   go_wp2_with fail
   refine (HC.out).mono ?_
   rintro e w2 ⟨M2, rfl, row2, le2, b2⟩
   have row3 := row2.mono (B' := w.heap.size + 2) hs1
   have R2 := R0.keep b2
   have B2 := bl_trans B0 b2
   clear p0 p1 p2 p3 p4 p5 p6 p7
   obtain ⟨r0, r1, r2, r3, r4, r5, r6, r7⟩ := box8 R2
   have rf := R2.fr
   obtain ⟨Zz, hZ⟩ : ∃ Z, ((((((((w2.setCell ⟨N1, 0, none⟩ (.int .i64 v.cp)).setCell ⟨N1, 1, none⟩ (.int .i64 v.se)).setCell ⟨N1, 2, none⟩ (.slice M2.ia M2.i M2.ic)).setCell ⟨N1, 3, none⟩ (.int .i64 v.nx)).setCell ⟨N1, 4, none⟩ (.slice M2.sa M2.s M2.sc)).setCell ⟨N1, 5, none⟩ (.slice M2.la M2.l M2.lc)).setCell ⟨N1, 6, none⟩ (.slice M2.ga M2.g M2.gc)).setCell ⟨N1, 7, none⟩ (.bool v.cl)) = Z := ⟨_, rfl⟩
   have hZ2 : Zz = setL w2 N1 0 [.int .i64 v.cp, .int .i64 v.se, .slice M2.ia M2.i M2.ic, .int .i64 v.nx, .slice M2.sa M2.s M2.sc, .slice M2.la M2.l M2.lc, .slice M2.ga M2.g M2.gc, .bool v.cl] := by rw [← hZ]; rfl
   have XZ : BoxL N1 [.int .i64 v.cp, .int .i64 v.se, .slice M2.ia M2.i M2.ic, .int .i64 v.nx, .slice M2.sa M2.s M2.sc, .slice M2.la M2.l M2.lc, .slice M2.ga M2.g M2.gc, .bool v.cl] Zz := by rw [hZ2]; exact R2.setAll (us := [.int .i64 v.cp, .int .i64 v.se, .slice M2.ia M2.i M2.ic, .int .i64 v.nx, .slice M2.sa M2.s M2.sc, .slice M2.la M2.l M2.lc, .slice M2.ga M2.g M2.gc, .bool v.cl]) rfl
   obtain ⟨t0, t1, t2, t3, t4, t5, t6, t7⟩ := box8 XZ
   have HD := hidOf (show PulS w (pulR v id most) (pulT v id most) (pulC v id most) (.returned (.tuple #[.agg #[.int .i64 v.cp, .int .i64 v.se, .slice M2.ia M2.i M2.ic, .int .i64 v.nx, .slice M2.sa M2.s M2.sc, .slice M2.la M2.l M2.lc, .slice M2.ga M2.g M2.gc, .bool v.cl], .slice none 0 0, .int .i64 1])) Zz by
    rw [show PulS w (pulR v id most) (pulT v id most) (pulC v id most) = PulS w v [] 1 by unfold pulR pulT pulC; rw [if_neg (by have h := HL.out; omega), if_neg (by have h := HL.out; omega), if_neg (by have h := HL.out; omega)]]
    rw [hZ2]
    have hs2 := HN0.out
    have hsz := HZ0.out
    have hbs := b2.size
    have hgr : w2.grownBy (setL w2 N1 0 [.int .i64 v.cp, .int .i64 v.se, .slice M2.ia M2.i M2.ic, .int .i64 v.nx, .slice M2.sa M2.s M2.sc, .slice M2.la M2.l M2.lc, .slice M2.ga M2.g M2.gc, .bool v.cl]) (some N1) := setL_grown ⟨rfl, rfl, rfl, Nat.le_refl _, fun _ _ _ => rfl⟩
    exact ⟨M2, none, 0, 0, rfl, (row3.grown hgr (row3.out (by omega))).mono (by omega), le2 _ HM.out, World.ownsRow_nil _ _ _ _, fun q e => by simp [Value.ownBlock] at e, setL_below (by omega) B2⟩)
   clear hZ2 XZ R2
   go_wp2_with fail
   try clear hZ
   exact bodyPost_ret (v := .tuple #[.agg #[.int .i64 v.cp, .int .i64 v.se, .slice M2.ia M2.i M2.ic, .int .i64 v.nx, .slice M2.sa M2.s M2.sc, .slice M2.la M2.l M2.lc, .slice M2.ga M2.g M2.gc, .bool v.cl], .slice none 0 0, .int .i64 1]) (by simp [results, Tryz.results31, go_sem, t0, t1, t2, t3, t4, t5, t6, t7]) rfl HD.out
 have hl1 : ¬ most < 0 := by omega
 have hl2 : ¬ 50 < most := by omega
 have HL := hidOf hl
 clear hl hs1 z0
 go_wp2_with fail
 refine (HK.out).mono ?_
 rintro e w1 hbt
 clear HK p0 p1 p2 p3 p4 p5 p6 p7
 rcases hbt with ⟨hq, rfl, b1⟩ | ⟨hq, hat, rfl, b1⟩ | ⟨hq, hat, hhas, rfl, b1⟩ | ⟨hq, hat, hhas, b, A, P, f, sa, sc, ys, rfl, body, hAn, hAn', hyn, b1⟩
 all_goals
  have A1 := A0.keep b1
  have R1 := R0.keep b1
  have B1 := bl_trans B0 b1
  have hs1 : w.heap.size + 2 ≤ w1.heap.size := by have := b1.size; have := HZ0.out; omega
  clear A0 R0 B0
 ·have HQ := hidOf hq
  clear hq b1
  have p0 := A1.cs 0 (by simp)
  have p1 := A1.cs 1 (by simp)
  have p2 := A1.cs 2 (by simp)
  have p3 := A1.cs 3 (by simp)
  have p4 := A1.cs 4 (by simp)
  have p5 := A1.cs 5 (by simp)
  have p6 := A1.cs 6 (by simp)
  have p7 := A1.cs 7 (by simp)
  simp at p0 p1 p2 p3 p4 p5 p6 p7
  have HC := hidOf (copiedRing_any M v w1 (HI.out.keep B1) HM.out)
  go_wp2_with fail
  refine (HC.out).mono ?_
  rintro e w2 ⟨M2, rfl, row2, le2, b2⟩
  have row3 := row2.mono (B' := w.heap.size + 2) hs1
  have R2 := R1.keep b2
  have B2 := bl_trans B1 b2
  clear p0 p1 p2 p3 p4 p5 p6 p7
  obtain ⟨r0, r1, r2, r3, r4, r5, r6, r7⟩ := box8 R2
  have rf := R2.fr
  obtain ⟨Zz, hZ⟩ : ∃ Z, ((((((((w2.setCell ⟨N1, 0, none⟩ (.int .i64 v.cp)).setCell ⟨N1, 1, none⟩ (.int .i64 v.se)).setCell ⟨N1, 2, none⟩ (.slice M2.ia M2.i M2.ic)).setCell ⟨N1, 3, none⟩ (.int .i64 v.nx)).setCell ⟨N1, 4, none⟩ (.slice M2.sa M2.s M2.sc)).setCell ⟨N1, 5, none⟩ (.slice M2.la M2.l M2.lc)).setCell ⟨N1, 6, none⟩ (.slice M2.ga M2.g M2.gc)).setCell ⟨N1, 7, none⟩ (.bool v.cl)) = Z := ⟨_, rfl⟩
  have hZ2 : Zz = setL w2 N1 0 [.int .i64 v.cp, .int .i64 v.se, .slice M2.ia M2.i M2.ic, .int .i64 v.nx, .slice M2.sa M2.s M2.sc, .slice M2.la M2.l M2.lc, .slice M2.ga M2.g M2.gc, .bool v.cl] := by rw [← hZ]; rfl
  have XZ : BoxL N1 [.int .i64 v.cp, .int .i64 v.se, .slice M2.ia M2.i M2.ic, .int .i64 v.nx, .slice M2.sa M2.s M2.sc, .slice M2.la M2.l M2.lc, .slice M2.ga M2.g M2.gc, .bool v.cl] Zz := by rw [hZ2]; exact R2.setAll (us := [.int .i64 v.cp, .int .i64 v.se, .slice M2.ia M2.i M2.ic, .int .i64 v.nx, .slice M2.sa M2.s M2.sc, .slice M2.la M2.l M2.lc, .slice M2.ga M2.g M2.gc, .bool v.cl]) rfl
  obtain ⟨t0, t1, t2, t3, t4, t5, t6, t7⟩ := box8 XZ
  have HD := hidOf (show PulS w (pulR v id most) (pulT v id most) (pulC v id most) (.returned (.tuple #[.agg #[.int .i64 v.cp, .int .i64 v.se, .slice M2.ia M2.i M2.ic, .int .i64 v.nx, .slice M2.sa M2.s M2.sc, .slice M2.la M2.l M2.lc, .slice M2.ga M2.g M2.gc, .bool v.cl], .slice none 0 0, .int .i64 1])) Zz by
   rw [show PulS w (pulR v id most) (pulT v id most) (pulC v id most) = PulS w v [] 1 by unfold pulR pulT pulC; rw [if_neg (fun h => by rw [HQ.out] at h; simp at h), if_neg (fun h => by rw [HQ.out] at h; simp at h), if_neg (fun h => by rw [HQ.out] at h; simp at h)]]
   rw [hZ2]
   have hs2 := HN0.out
   have hsz := HZ0.out
   have hbs := b2.size
   have hgr : w2.grownBy (setL w2 N1 0 [.int .i64 v.cp, .int .i64 v.se, .slice M2.ia M2.i M2.ic, .int .i64 v.nx, .slice M2.sa M2.s M2.sc, .slice M2.la M2.l M2.lc, .slice M2.ga M2.g M2.gc, .bool v.cl]) (some N1) := setL_grown ⟨rfl, rfl, rfl, Nat.le_refl _, fun _ _ _ => rfl⟩
   exact ⟨M2, none, 0, 0, rfl, (row3.grown hgr (row3.out (by omega))).mono (by omega), le2 _ HM.out, World.ownsRow_nil _ _ _ _, fun q e => by simp [Value.ownBlock] at e, setL_below (by omega) B2⟩)
  clear hZ2 XZ R2
  go_wp2_with fail
  try clear hZ
  exact bodyPost_ret (v := .tuple #[.agg #[.int .i64 v.cp, .int .i64 v.se, .slice M2.ia M2.i M2.ic, .int .i64 v.nx, .slice M2.sa M2.s M2.sc, .slice M2.la M2.l M2.lc, .slice M2.ga M2.g M2.gc, .bool v.cl], .slice none 0 0, .int .i64 1]) (by simp [results, Tryz.results31, go_sem, t0, t1, t2, t3, t4, t5, t6, t7]) rfl HD.out
 ·have HQ := hidOf hq
  have HA := hidOf hat
  have HP := hidOf (show okR restR v = true ∧ 0 ≤ most ∧ most ≤ 50 from ⟨hq, by omega, by omega⟩)
  clear hq hat b1
  have p0 := A1.cs 0 (by simp)
  have p1 := A1.cs 1 (by simp)
  have p2 := A1.cs 2 (by simp)
  have p3 := A1.cs 3 (by simp)
  have p4 := A1.cs 4 (by simp)
  have p5 := A1.cs 5 (by simp)
  have p6 := A1.cs 6 (by simp)
  have p7 := A1.cs 7 (by simp)
  simp at p0 p1 p2 p3 p4 p5 p6 p7
  have HC := hidOf (copiedRing_any M v w1 (HI.out.keep B1) HM.out)
  go_wp2_with fail
  refine (HC.out).mono ?_
  rintro e w2 ⟨M2, rfl, row2, le2, b2⟩
  have row3 := row2.mono (B' := w.heap.size + 2) hs1
  have R2 := R1.keep b2
  have B2 := bl_trans B1 b2
  clear p0 p1 p2 p3 p4 p5 p6 p7
  obtain ⟨r0, r1, r2, r3, r4, r5, r6, r7⟩ := box8 R2
  have rf := R2.fr
  obtain ⟨Zz, hZ⟩ : ∃ Z, ((((((((w2.setCell ⟨N1, 0, none⟩ (.int .i64 v.cp)).setCell ⟨N1, 1, none⟩ (.int .i64 v.se)).setCell ⟨N1, 2, none⟩ (.slice M2.ia M2.i M2.ic)).setCell ⟨N1, 3, none⟩ (.int .i64 v.nx)).setCell ⟨N1, 4, none⟩ (.slice M2.sa M2.s M2.sc)).setCell ⟨N1, 5, none⟩ (.slice M2.la M2.l M2.lc)).setCell ⟨N1, 6, none⟩ (.slice M2.ga M2.g M2.gc)).setCell ⟨N1, 7, none⟩ (.bool v.cl)) = Z := ⟨_, rfl⟩
  have hZ2 : Zz = setL w2 N1 0 [.int .i64 v.cp, .int .i64 v.se, .slice M2.ia M2.i M2.ic, .int .i64 v.nx, .slice M2.sa M2.s M2.sc, .slice M2.la M2.l M2.lc, .slice M2.ga M2.g M2.gc, .bool v.cl] := by rw [← hZ]; rfl
  have XZ : BoxL N1 [.int .i64 v.cp, .int .i64 v.se, .slice M2.ia M2.i M2.ic, .int .i64 v.nx, .slice M2.sa M2.s M2.sc, .slice M2.la M2.l M2.lc, .slice M2.ga M2.g M2.gc, .bool v.cl] Zz := by rw [hZ2]; exact R2.setAll (us := [.int .i64 v.cp, .int .i64 v.se, .slice M2.ia M2.i M2.ic, .int .i64 v.nx, .slice M2.sa M2.s M2.sc, .slice M2.la M2.l M2.lc, .slice M2.ga M2.g M2.gc, .bool v.cl]) rfl
  obtain ⟨t0, t1, t2, t3, t4, t5, t6, t7⟩ := box8 XZ
  have HD := hidOf (show PulS w (pulR v id most) (pulT v id most) (pulC v id most) (.returned (.tuple #[.agg #[.int .i64 v.cp, .int .i64 v.se, .slice M2.ia M2.i M2.ic, .int .i64 v.nx, .slice M2.sa M2.s M2.sc, .slice M2.la M2.l M2.lc, .slice M2.ga M2.g M2.gc, .bool v.cl], .slice none 0 0, .int .i64 3])) Zz by
   rw [show PulS w (pulR v id most) (pulT v id most) (pulC v id most) = PulS w v [] 3 by unfold pulR pulT pulC; rw [if_pos HP.out, if_pos HP.out, if_pos HP.out, if_pos HA.out, if_pos HA.out, if_pos HA.out]]
   rw [hZ2]
   have hs2 := HN0.out
   have hsz := HZ0.out
   have hbs := b2.size
   have hgr : w2.grownBy (setL w2 N1 0 [.int .i64 v.cp, .int .i64 v.se, .slice M2.ia M2.i M2.ic, .int .i64 v.nx, .slice M2.sa M2.s M2.sc, .slice M2.la M2.l M2.lc, .slice M2.ga M2.g M2.gc, .bool v.cl]) (some N1) := setL_grown ⟨rfl, rfl, rfl, Nat.le_refl _, fun _ _ _ => rfl⟩
   exact ⟨M2, none, 0, 0, rfl, (row3.grown hgr (row3.out (by omega))).mono (by omega), le2 _ HM.out, World.ownsRow_nil _ _ _ _, fun q e => by simp [Value.ownBlock] at e, setL_below (by omega) B2⟩)
  clear hZ2 XZ R2
  go_wp2_with fail
  try clear hZ
  exact bodyPost_ret (v := .tuple #[.agg #[.int .i64 v.cp, .int .i64 v.se, .slice M2.ia M2.i M2.ic, .int .i64 v.nx, .slice M2.sa M2.s M2.sc, .slice M2.la M2.l M2.lc, .slice M2.ga M2.g M2.gc, .bool v.cl], .slice none 0 0, .int .i64 3]) (by simp [results, Tryz.results31, go_sem, t0, t1, t2, t3, t4, t5, t6, t7]) rfl HD.out
 ·have HQ := hidOf hq
  have HA := hidOf hat
  have HH := hidOf hhas
  have HP := hidOf (show okR restR v = true ∧ 0 ≤ most ∧ most ≤ 50 from ⟨hq, by omega, by omega⟩)
  clear hq hat hhas b1
  have p0 := A1.cs 0 (by simp)
  have p1 := A1.cs 1 (by simp)
  have p2 := A1.cs 2 (by simp)
  have p3 := A1.cs 3 (by simp)
  have p4 := A1.cs 4 (by simp)
  have p5 := A1.cs 5 (by simp)
  have p6 := A1.cs 6 (by simp)
  have p7 := A1.cs 7 (by simp)
  simp at p0 p1 p2 p3 p4 p5 p6 p7
  have HC := hidOf (copiedRing_any M v w1 (HI.out.keep B1) HM.out)
  go_wp2_with fail
  refine (HC.out).mono ?_
  rintro e w2 ⟨M2, rfl, row2, le2, b2⟩
  have row3 := row2.mono (B' := w.heap.size + 2) hs1
  have R2 := R1.keep b2
  have B2 := bl_trans B1 b2
  clear p0 p1 p2 p3 p4 p5 p6 p7
  obtain ⟨r0, r1, r2, r3, r4, r5, r6, r7⟩ := box8 R2
  have rf := R2.fr
  obtain ⟨Zz, hZ⟩ : ∃ Z, ((((((((w2.setCell ⟨N1, 0, none⟩ (.int .i64 v.cp)).setCell ⟨N1, 1, none⟩ (.int .i64 v.se)).setCell ⟨N1, 2, none⟩ (.slice M2.ia M2.i M2.ic)).setCell ⟨N1, 3, none⟩ (.int .i64 v.nx)).setCell ⟨N1, 4, none⟩ (.slice M2.sa M2.s M2.sc)).setCell ⟨N1, 5, none⟩ (.slice M2.la M2.l M2.lc)).setCell ⟨N1, 6, none⟩ (.slice M2.ga M2.g M2.gc)).setCell ⟨N1, 7, none⟩ (.bool v.cl)) = Z := ⟨_, rfl⟩
  have hZ2 : Zz = setL w2 N1 0 [.int .i64 v.cp, .int .i64 v.se, .slice M2.ia M2.i M2.ic, .int .i64 v.nx, .slice M2.sa M2.s M2.sc, .slice M2.la M2.l M2.lc, .slice M2.ga M2.g M2.gc, .bool v.cl] := by rw [← hZ]; rfl
  have XZ : BoxL N1 [.int .i64 v.cp, .int .i64 v.se, .slice M2.ia M2.i M2.ic, .int .i64 v.nx, .slice M2.sa M2.s M2.sc, .slice M2.la M2.l M2.lc, .slice M2.ga M2.g M2.gc, .bool v.cl] Zz := by rw [hZ2]; exact R2.setAll (us := [.int .i64 v.cp, .int .i64 v.se, .slice M2.ia M2.i M2.ic, .int .i64 v.nx, .slice M2.sa M2.s M2.sc, .slice M2.la M2.l M2.lc, .slice M2.ga M2.g M2.gc, .bool v.cl]) rfl
  obtain ⟨t0, t1, t2, t3, t4, t5, t6, t7⟩ := box8 XZ
  have HD := hidOf (show PulS w (pulR v id most) (pulT v id most) (pulC v id most) (.returned (.tuple #[.agg #[.int .i64 v.cp, .int .i64 v.se, .slice M2.ia M2.i M2.ic, .int .i64 v.nx, .slice M2.sa M2.s M2.sc, .slice M2.la M2.l M2.lc, .slice M2.ga M2.g M2.gc, .bool v.cl], .slice none 0 0, .int .i64 5])) Zz by
   rw [show PulS w (pulR v id most) (pulT v id most) (pulC v id most) = PulS w v [] 5 by unfold pulR pulT pulC; rw [if_pos HP.out, if_pos HP.out, if_pos HP.out, if_neg (show ¬ atR v.sb id < 0 by have h := HA.out; omega), if_neg (show ¬ atR v.sb id < 0 by have h := HA.out; omega), if_neg (show ¬ atR v.sb id < 0 by have h := HA.out; omega), if_pos HH.out, if_pos HH.out, if_pos HH.out]]
   rw [hZ2]
   have hs2 := HN0.out
   have hsz := HZ0.out
   have hbs := b2.size
   have hgr : w2.grownBy (setL w2 N1 0 [.int .i64 v.cp, .int .i64 v.se, .slice M2.ia M2.i M2.ic, .int .i64 v.nx, .slice M2.sa M2.s M2.sc, .slice M2.la M2.l M2.lc, .slice M2.ga M2.g M2.gc, .bool v.cl]) (some N1) := setL_grown ⟨rfl, rfl, rfl, Nat.le_refl _, fun _ _ _ => rfl⟩
   exact ⟨M2, none, 0, 0, rfl, (row3.grown hgr (row3.out (by omega))).mono (by omega), le2 _ HM.out, World.ownsRow_nil _ _ _ _, fun q e => by simp [Value.ownBlock] at e, setL_below (by omega) B2⟩)
  clear hZ2 XZ R2
  go_wp2_with fail
  try clear hZ
  exact bodyPost_ret (v := .tuple #[.agg #[.int .i64 v.cp, .int .i64 v.se, .slice M2.ia M2.i M2.ic, .int .i64 v.nx, .slice M2.sa M2.s M2.sc, .slice M2.la M2.l M2.lc, .slice M2.ga M2.g M2.gc, .bool v.cl], .slice none 0 0, .int .i64 5]) (by simp [results, Tryz.results31, go_sem, t0, t1, t2, t3, t4, t5, t6, t7]) rfl HD.out
 ·have HA := hidOf hat
  have HH := hidOf hhas
  obtain ⟨mo, rfl⟩ : ∃ n : Nat, most = (n : Int) := ⟨most.toNat, by omega⟩
  have HP := hidOf (show okR restR v = true ∧ 0 ≤ (mo : Int) ∧ (mo : Int) ≤ 50 from ⟨hq, by omega, by omega⟩)
  obtain ⟨hlt, hk⟩ := at_lt hat
  obtain ⟨k, hkk⟩ : ∃ k, (atR v.sb id).toNat = k := ⟨_, rfl⟩
  rw [hkk] at hlt hk
  have HKK := hidOf hkk
  obtain ⟨g, rfl, hsl, hky⟩ := body.sub_row hlt
  have hrd := ok_rd hq hlt
  have HS := hidOf (sub_any U0.heap.size b A P f v g M.s sc ys id w1 body HM.out.s k hk (by omega))
  have HBo := hidOf body
  have HRd := hidOf hrd
  have HAn := hidOf (And.intro hAn hAn')
  have HYn := hidOf hyn
  have HKy := hidOf hky
  clear hq hat hhas hkk body hlt hAn hAn' hsl hk hrd hyn hky
  clear A1
  go_wp2_with fail
  refine (HS.out).mono ?_
  rintro e w2 ⟨rfl, b2⟩
  have body2 := HBo.out.keep b2
  have R2 := R1.keep b2
  have B2 := bl_trans B1 b2
  clear R1 B1 b1 HS
  obtain ⟨C, hC⟩ : ∃ C : PCn, C = ⟨w2, U0.heap.size, b, A, g, M.s, sc, k, mo, v⟩ := ⟨_, rfl⟩
  have hbk := body2.blks
  have hCk : PCk C := by
   rw [hC]
   have hg := row_lt (q := g) body2.srow.sb rfl
   exact ⟨⟨body2.wst.ge, hbk.1⟩, hg, ⟨hbk.2.1, hbk.2.2.1⟩, HM.out.s, ⟨HG.out.keep B2, by have h := HG.out.lt; have h2 := HZ0.out; show _ < U0.heap.size; omega⟩, by have h := HP.out; show mo ≤ 50; omega⟩
  have HPu := hidOf (pull_any C hCk P f ys (by rw [hC]; exact body2) (fun y hy => by obtain ⟨z, hz, e⟩ := HYn.out y hy; rw [e]; exact HM.out.f z hz) (by rw [hC]; exact HKy.out) (by rw [hC]; exact HRd.out))
  have HPw := hidOf (show ∀ e w', PulW C e w' → ∃ (la : Option Addr) (lc : Nat), e = .returned (.tuple #[.slice la (pullL mo v k).2.1.length lc, .int .i64 (pullL mo v k).2.2]) ∧ PgB C (pullL mo v k).1 w' ∧ RdOk (pullL mo v k).1 k ∧ w'.ownsRow w2.heap.size 53 6 (.slice la (pullL mo v k).2.1.length lc) (pullL mo v k).2.1.length (dflat (pullL mo v k).2.1) ∧ Below U0.heap.size w2 w' by intro e w' h; rw [hC] at h ⊢; exact h)
  have HPb := hidOf (show ∀ u w', PgB C u w' → ∃ (P : Nat → Tm) (f : Nat) (ys : List Sa), RBody U0.heap.size b A P f u (some ⟨g, 0, none⟩) M.s sc ys w' ∧ (∀ y, y ∈ ys → y.n ≤ 2097152) ∧ k < ys.length ∧ (∀ y, y ∈ ys → ∀ q, (Value.slice y.a y.n y.c).ownBlock = some q → q < w2.heap.size) by intro u w' h; rw [hC] at h; exact h)
  have HBk := hidOf hbk
  have HPu' := hidOf (show Calls Tryz.prog 102 #[.pointer (some ⟨b, 0, none⟩), .pointer (some ⟨g, k * 7, none⟩), .int .i64 (mo : Int)] w2 fun e w' => PulW C e w' by have h := HPu.out; rw [hC] at h ⊢; exact h)
  clear hC hCk HPu body2 hbk b2
  go_wp2_with fail
  refine (HPu'.out).mono ?_
  intro e w3 hW
  obtain ⟨la, lc, rfl, hB3, hrd3, ho3, hb3⟩ := HPw.out e w3 hW
  obtain ⟨P5, f5, ys5, body3, hn5, _, hlow⟩ := HPb.out _ _ hB3
  obtain ⟨⟨v5, td, cd⟩, hv5⟩ : ∃ x, pullL mo v k = x := ⟨_, rfl⟩
  rw [hv5] at ho3 hrd3 body3 ⊢
  simp only at ho3 hrd3 body3 ⊢
  have HEl := hidOf (show PulS w (pulR v id mo) (pulT v id mo) (pulC v id mo) = PulS w v5 td cd by
   unfold pulR pulT pulC
   rw [if_pos HP.out, if_pos HP.out, if_pos HP.out, if_neg (show ¬ atR v.sb id < 0 by have h := HA.out; omega), if_neg (show ¬ atR v.sb id < 0 by have h := HA.out; omega), if_neg (show ¬ atR v.sb id < 0 by have h := HA.out; omega), if_neg (show ¬ (hasL v.ln id || hasL v.gs id) = true by rw [HH.out]; simp), if_neg (show ¬ (hasL v.ln id || hasL v.gs id) = true by rw [HH.out]; simp), if_neg (show ¬ (hasL v.ln id || hasL v.gs id) = true by rw [HH.out]; simp), HKK.out, show ((mo : Int)).toNat = mo by omega, hv5])
  have R3 := R2.below hb3 (by have h := HZ0.out; have h2 := HN0.out; omega)
  have B3 : Below w.heap.size w w3 := bl_trans2 B2 hb3 (by have h := HZ0.out; omega)
  have HC4 := hidOf (ring_anyQ U0.heap.size b A P5 f5 v5 (some ⟨g, 0, none⟩) M.s sc ys5 w3 body3)
  have HI5 := hidOf (And.intro hrd3.it (And.intro hn5 hlow))
  have HO3 := hidOf (And.intro ho3 hb3.size)
  clear hW hB3 ho3 hb3 hrd3 hn5 hlow hv5 HPw HPb HPu' body3 R2 B2
  go_wp2_with fail
  refine (HC4.out).mono ?_
  rintro e w4 ⟨g6, hg6, rfl, row4, b4⟩
  have row5 := row4.mono (B' := w.heap.size + 2) (by have := HZ0.out; omega)
  have R4 := R3.keep b4
  have B4 := bl_trans B3 b4
  have le5 : RLe (⟨some ⟨g6, 0, none⟩, v5.it.length, v5.it.length, some ⟨g, 0, none⟩, M.s, sc, ys5, A.a, A.n, A.c, A.a', A.n', A.c'⟩ : Rm) 2097152 := by
   have h := HM.out
   have h1 := HAn.out
   have h2 := HI5.out
   exact ⟨by show v5.it.length ≤ _; omega, h.s, h2.2.1, by show A.n ≤ _; rw [h1.1]; exact h.l, by show A.n' ≤ _; rw [h1.2]; exact h.g⟩
  have HL5 := hidOf le5
  have ho4 := ownsRow_keep HO3.out.1 b4
  have hfar : ∀ q, (.slice la td.length lc : Value).ownBlock = some q → some q ∉ blkR (⟨some ⟨g6, 0, none⟩, v5.it.length, v5.it.length, some ⟨g, 0, none⟩, M.s, sc, ys5, A.a, A.n, A.c, A.a', A.n', A.c'⟩ : Rm) := fun q e hmem => by
   have q1 := row_lt HO3.out.1 e
   have hb := HBk.out
   simp only [blkR, List.mem_cons, List.mem_map] at hmem
   rcases hmem with e1 | e1 | e1 | e1 | ⟨y, hy, e1⟩
   ·have e2 : g6 = q := by simpa [Value.ownBlock] using e1.symm
    omega
   ·have := hb.2.2.2.1 q e1.symm; omega
   ·have := hb.2.1 q e1.symm; omega
   ·have := hb.2.2.1 q e1.symm; omega
   ·have := HI5.out.2.2 y hy q e1; omega
  have HW2 := hidOf (show U0.heap.size ≤ w2.heap.size by have := HBk.out.1; have := HBo.out.wst.ge; omega)
  have HFar := hidOf (And.intro ho4 hfar)
  clear R3 B3 HC4 row4 le5 ho4 hfar
  obtain ⟨r0, r1, r2, r3, r4, r5, r6, r7⟩ := box8 R4
  have rf := R4.fr
  obtain ⟨Zz, hZ⟩ : ∃ Z, ((((((((w4.setCell ⟨N1, 0, none⟩ (.int .i64 v5.cp)).setCell ⟨N1, 1, none⟩ (.int .i64 v5.se)).setCell ⟨N1, 2, none⟩ (.slice (some ⟨g6, 0, none⟩) v5.it.length v5.it.length)).setCell ⟨N1, 3, none⟩ (.int .i64 v5.nx)).setCell ⟨N1, 4, none⟩ (.slice (some ⟨g, 0, none⟩) M.s sc)).setCell ⟨N1, 5, none⟩ (.slice A.a A.n A.c)).setCell ⟨N1, 6, none⟩ (.slice A.a' A.n' A.c')).setCell ⟨N1, 7, none⟩ (.bool v5.cl)) = Z := ⟨_, rfl⟩
  have hZ2 : Zz = setL w4 N1 0 [.int .i64 v5.cp, .int .i64 v5.se, .slice (some ⟨g6, 0, none⟩) v5.it.length v5.it.length, .int .i64 v5.nx, .slice (some ⟨g, 0, none⟩) M.s sc, .slice A.a A.n A.c, .slice A.a' A.n' A.c', .bool v5.cl] := by rw [← hZ]; rfl
  have XZ : BoxL N1 [.int .i64 v5.cp, .int .i64 v5.se, .slice (some ⟨g6, 0, none⟩) v5.it.length v5.it.length, .int .i64 v5.nx, .slice (some ⟨g, 0, none⟩) M.s sc, .slice A.a A.n A.c, .slice A.a' A.n' A.c', .bool v5.cl] Zz := by rw [hZ2]; exact R4.setAll (us := [.int .i64 v5.cp, .int .i64 v5.se, .slice (some ⟨g6, 0, none⟩) v5.it.length v5.it.length, .int .i64 v5.nx, .slice (some ⟨g, 0, none⟩) M.s sc, .slice A.a A.n A.c, .slice A.a' A.n' A.c', .bool v5.cl]) rfl
  obtain ⟨t0, t1, t2, t3, t4, t5, t6, t7⟩ := box8 XZ
  have HD := hidOf (show PulS w (pulR v id mo) (pulT v id mo) (pulC v id mo) (.returned (.tuple #[.agg #[.int .i64 v5.cp, .int .i64 v5.se, .slice (some ⟨g6, 0, none⟩) v5.it.length v5.it.length, .int .i64 v5.nx, .slice (some ⟨g, 0, none⟩) M.s sc, .slice A.a A.n A.c, .slice A.a' A.n' A.c', .bool v5.cl], .slice la td.length lc, .int .i64 cd])) Zz by
   rw [HEl.out, hZ2]
   have hs0 := HZ0.out
   have hn0 := HN0.out
   have hw2 := HW2.out
   have hgr : w4.grownBy (setL w4 N1 0 [.int .i64 v5.cp, .int .i64 v5.se, .slice (some ⟨g6, 0, none⟩) v5.it.length v5.it.length, .int .i64 v5.nx, .slice (some ⟨g, 0, none⟩) M.s sc, .slice A.a A.n A.c, .slice A.a' A.n' A.c', .bool v5.cl]) (some N1) := setL_grown ⟨rfl, rfl, rfl, Nat.le_refl _, fun _ _ _ => rfl⟩
   exact ⟨(⟨some ⟨g6, 0, none⟩, v5.it.length, v5.it.length, some ⟨g, 0, none⟩, M.s, sc, ys5, A.a, A.n, A.c, A.a', A.n', A.c'⟩ : Rm), la, td.length, lc, rfl, (row5.grown hgr (row5.out (by omega))).mono (by omega), HL5.out, rowM (rowG HFar.out.1 hgr (fun q e e2 => by injection e with e; have := (row_lt HO3.out.1 e2).1; omega)) (by omega), HFar.out.2, setL_below (by omega) B4⟩)
  clear hZ2 XZ R4
  go_wp2_with fail
  try clear hZ
  exact bodyPost_ret (v := .tuple #[.agg #[.int .i64 v5.cp, .int .i64 v5.se, .slice (some ⟨g6, 0, none⟩) v5.it.length v5.it.length, .int .i64 v5.nx, .slice (some ⟨g, 0, none⟩) M.s sc, .slice A.a A.n A.c, .slice A.a' A.n' A.c', .bool v5.cl], .slice la td.length lc, .int .i64 cd]) (by simp [results, Tryz.results31, go_sem, t0, t1, t2, t3, t4, t5, t6, t7]) rfl HD.out
end Go.Proofs.YtdboaoejlkkoeaaGreat
