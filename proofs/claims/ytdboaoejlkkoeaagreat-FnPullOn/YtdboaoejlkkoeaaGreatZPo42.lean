/-
  The specification's Pull
-/
import Derived.Test.YtdboaoejlkkoeaaGreatZPo25
import Derived.Test.YtdboaoejlkkoeaaGreatZPo26
namespace Go.Proofs.YtdboaoejlkkoeaaGreat
open Go.RowKit Go.Maps Pl Il
def lenS : Value → Nat
  | .slice _ n _ => n
  | _ => 0
set_option maxRecDepth 100000 in
set_option maxHeartbeats 16000000 in
theorem specPull_any (M : Rm) (v : Rv) (id most : Int) (w : World) (hI : RIn w M v) (hm1 : RLe M 1048576) (hcap : RCap M) (hw : RWf v) :
  Calls Tryz.prog 32 #[.agg #[.int .i64 v.cp, .int .i64 v.se, .slice M.ia M.i M.ic, .int .i64 v.nx, .slice M.sa M.s M.sc, .slice M.la M.l M.lc, .slice M.ga M.g M.gc, .bool v.cl], .int .i64 id, .int .i64 most] w fun e w' => PulS w (pulR v id most) (pulT v id most) (pulC v id most) e w' := by
 have hm := hm1.mono (k' := 2097152) (by omega)
 obtain ⟨U0, hU0⟩ : ∃ W, W = (w.alloc (.cells #[.int .i64 v.cp, .int .i64 v.se, .slice M.ia M.i M.ic, .int .i64 v.nx, .slice M.sa M.s M.sc, .slice M.la M.l M.lc, .slice M.ga M.g M.gc, .bool v.cl] 28)).alloc (.cells #[.int .i64 0, .int .i64 0, .slice none 0 0, .int .i64 0, .slice none 0 0, .slice none 0 0, .slice none 0 0, .bool false] 28) := ⟨_, rfl⟩
 have B0 : Below w.heap.size w U0 := by rw [hU0]; exact bl_alloc (bl_alloc (Below.refl _ _) _) _
 have z0 : U0.heap.size = w.heap.size + 2 := by rw [hU0]; simp
 have A0 : BoxL w.heap.size (rC M v) U0 := by rw [hU0]; exact (BoxL.new w (rC M v) _).alloc _
 have R0 : BoxL (w.heap.size + 1) [.int .i64 0, .int .i64 0, .slice none 0 0, .int .i64 0, .slice none 0 0, .slice none 0 0, .slice none 0 0, .bool false] U0 := by rw [hU0]; exact boxT1 w _ [.int .i64 0, .int .i64 0, .slice none 0 0, .int .i64 0, .slice none 0 0, .slice none 0 0, .slice none 0 0, .bool false] _
 have HC := hidOf (l9Copy_any M v U0 (hI.keep B0) hm)
 obtain ⟨p0, p1, p2, p3, p4, p5, p6, p7⟩ := box8 A0
 have HI := hidOf hI
 have HM := hidOf hm
 have HM1 := hidOf hm1
 have HK := hidOf (fun (u : World) (hu : RIn u M v) => specRingOk_any M v u hu hm1 hcap hw)
 have hml := hm.l
 have hmg := hm.g
 have HZ0 := hidOf z0
 clear hI hm hm1 hcap hw z0
 go_enter Tryz.func32, Tryz.ntmps32
 go_upto_region 1 with fail
 rw [← hU0]
 clear hU0
 generalize hN1 : w.heap.size + 1 = N1 at R0 ⊢
 have HN0 := hidOf (show N1 = w.heap.size + 1 by omega)
 clear hN1
 go_wp2_with fail
 refine (HC.out).mono ?_
 rintro e w1 ⟨M1, rfl, row1, le1, b1⟩
 rw [HZ0.out] at row1
 have hkb := row1.new (Nat.le_refl w1.heap.size)
 obtain ⟨U1, hU1⟩ : ∃ W, w1.alloc (.cells #[.int .i64 v.cp, .int .i64 v.se, .slice M1.ia M1.i M1.ic, .int .i64 v.nx, .slice M1.sa M1.s M1.sc, .slice M1.la M1.l M1.lc, .slice M1.ga M1.g M1.gc, .bool v.cl] 28) = W := ⟨_, rfl⟩
 have ba : Below w1.heap.size w1 U1 := by rw [← hU1]; exact bl_alloc (Below.refl _ _) _
 have A1 := (A0.keep b1).keep ba
 have R1 := (R0.keep b1).keep ba
 have K1 : BoxL w1.heap.size (rC M1 v) U1 := by rw [← hU1]; exact BoxL.new w1 (rC M1 v) _
 have row2 := row1.keep ba
 have B1 := bl_trans (bl_trans B0 b1) ba
 have HLe := hidOf (le1 _ HM1.out)
 have HAt := hidOf (l9At_any M v id U1 (HI.out.keep B1) HM.out)
 have HKg := hidOf (show w.heap.size + 2 ≤ w1.heap.size by have h := b1.size; have h2 := HZ0.out; omega)
 clear A0 R0 p0 p1 p2 p3 p4 p5 p6 p7 row1 b1 B0 HC
 obtain ⟨p0, p1, p2, p3, p4, p5, p6, p7⟩ := box8 A1
 obtain ⟨at', hat⟩ : ∃ a, atR v.sb id = a := ⟨_, rfl⟩
 rw [hat] at HAt
 have HAe := hidOf hat
 clear hat
 go_upto_region 2 with fail
 try rw [hU1]
 clear hU1
 generalize hNK : w1.heap.size = NK at K1 hkb HKg ⊢
 clear hNK
 have HKb := hidOf hkb
 clear hkb
 go_wp2_with fail
 refine (HAt.out).mono ?_
 rintro e w2 ⟨rfl, b2⟩
 have A2 := A1.keep b2
 have R2 := R1.keep b2
 have K2 := K1.keep b2
 have row3 := row2.keep b2
 have B2 := bl_trans B1 b2
 have HK1 := hidOf (HK.out w2 (HI.out.keep B2))
 obtain ⟨q, hq⟩ : ∃ q, okR restR v = q := ⟨_, rfl⟩
 rw [hq] at HK1
 have HQ := hidOf hq
 clear hq A1 R1 K1 row2 B1 ba b2 HAt HK p0 p1 p2 p3 p4 p5 p6 p7
 obtain ⟨p0, p1, p2, p3, p4, p5, p6, p7⟩ := box8 A2
 go_wp2_with fail
 refine (HK1.out).mono ?_
 rintro e w4 ⟨rfl, b4⟩
 have A4 := A2.keep b4
 have R4 := R2.keep b4
 have K4 := K2.keep b4
 have row4 := row3.keep b4
 have B4 := bl_trans B2 b4
 clear A2 R2 K2 row3 B2 b4 HK1 p0 p1 p2 p3 p4 p5 p6 p7
 cases q
 ·skip
  obtain ⟨k0, k1, k2, k3, k4, k5, k6, k7⟩ := box8 K4
  obtain ⟨r0, r1, r2, r3, r4, r5, r6, r7⟩ := box8 R4
  have rf := R4.fr
  obtain ⟨Z, hZ⟩ : ∃ Z, setL w4 N1 0 [.int .i64 v.cp, .int .i64 v.se, .slice M1.ia M1.i M1.ic, .int .i64 v.nx, .slice M1.sa M1.s M1.sc, .slice M1.la M1.l M1.lc, .slice M1.ga M1.g M1.gc, .bool v.cl] = Z := ⟨_, rfl⟩
  have hZx : BoxL N1 [.int .i64 v.cp, .int .i64 v.se, .slice M1.ia M1.i M1.ic, .int .i64 v.nx, .slice M1.sa M1.s M1.sc, .slice M1.la M1.l M1.lc, .slice M1.ga M1.g M1.gc, .bool v.cl] Z := by rw [← hZ]; exact R4.setAll (us := [.int .i64 v.cp, .int .i64 v.se, .slice M1.ia M1.i M1.ic, .int .i64 v.nx, .slice M1.sa M1.s M1.sc, .slice M1.la M1.l M1.lc, .slice M1.ga M1.g M1.gc, .bool v.cl]) rfl
  obtain ⟨z0, z1, z2, z3, z4, z5, z6, z7⟩ := box8 hZx
  have HD := hidOf (show PulS w (pulR v id most) (pulT v id most) (pulC v id most) (.returned (.tuple #[.agg #[.int .i64 v.cp, .int .i64 v.se, .slice M1.ia M1.i M1.ic, .int .i64 v.nx, .slice M1.sa M1.s M1.sc, .slice M1.la M1.l M1.lc, .slice M1.ga M1.g M1.gc, .bool v.cl], .slice none 0 0, .int .i64 1])) Z by
   rw [show PulS w (pulR v id most) (pulT v id most) (pulC v id most) = PulS w v [] 1 by unfold pulR pulT pulC; rw [if_neg (by rw [HQ.out]; simp), if_neg (by rw [HQ.out]; simp), if_neg (by rw [HQ.out]; simp)]]
   rw [← hZ]
   have hgr : w4.grownBy (setL w4 N1 0 [.int .i64 v.cp, .int .i64 v.se, .slice M1.ia M1.i M1.ic, .int .i64 v.nx, .slice M1.sa M1.s M1.sc, .slice M1.la M1.l M1.lc, .slice M1.ga M1.g M1.gc, .bool v.cl]) (some N1) := setL_grown ⟨rfl, rfl, rfl, Nat.le_refl _, fun _ _ _ => rfl⟩
   exact ⟨M1, none, 0, 0, rfl, (row4.grown hgr (row4.out (by have h := HN0.out; omega))).mono (by omega), HLe.out.mono (by omega), World.ownsRow_nil _ _ _ _, fun q e => by simp [Value.ownBlock] at e, setL_below (by have h := HN0.out; omega) B4⟩)
  clear hZx
  go_wp2_with fail
  change bodyPost _ _ _ _ _ (setL w4 N1 0 [.int .i64 v.cp, .int .i64 v.se, .slice M1.ia M1.i M1.ic, .int .i64 v.nx, .slice M1.sa M1.s M1.sc, .slice M1.la M1.l M1.lc, .slice M1.ga M1.g M1.gc, .bool v.cl])
  rw [hZ]
  exact bodyPost_ret (v := .tuple #[.agg #[.int .i64 v.cp, .int .i64 v.se, .slice M1.ia M1.i M1.ic, .int .i64 v.nx, .slice M1.sa M1.s M1.sc, .slice M1.la M1.l M1.lc, .slice M1.ga M1.g M1.gc, .bool v.cl], .slice none 0 0, .int .i64 1]) (by simp [results, Tryz.results32, go_sem, z0, z1, z2, z3, z4, z5, z6, z7]) rfl HD.out
 go_wp2_with fail
 refine (l1In_any most 0 50 _).mono ?_
 rintro e w' ⟨rfl, hww⟩
 obtain rfl : w4 = w' := hww.symm
 by_cases hms : 0 ≤ most ∧ most ≤ 50
 rotate_left
 ·have hmb : (decide (0 ≤ most) && decide (most ≤ 50)) = false := by
   rw [Bool.eq_false_iff]
   intro h
   rw [Bool.and_eq_true, decide_eq_true_eq, decide_eq_true_eq] at h
   exact hms h
  rw [hmb]
  have HMs := hidOf hms
  clear hms
  obtain ⟨k0, k1, k2, k3, k4, k5, k6, k7⟩ := box8 K4
  obtain ⟨r0, r1, r2, r3, r4, r5, r6, r7⟩ := box8 R4
  have rf := R4.fr
  obtain ⟨Z, hZ⟩ : ∃ Z, setL w4 N1 0 [.int .i64 v.cp, .int .i64 v.se, .slice M1.ia M1.i M1.ic, .int .i64 v.nx, .slice M1.sa M1.s M1.sc, .slice M1.la M1.l M1.lc, .slice M1.ga M1.g M1.gc, .bool v.cl] = Z := ⟨_, rfl⟩
  have hZx : BoxL N1 [.int .i64 v.cp, .int .i64 v.se, .slice M1.ia M1.i M1.ic, .int .i64 v.nx, .slice M1.sa M1.s M1.sc, .slice M1.la M1.l M1.lc, .slice M1.ga M1.g M1.gc, .bool v.cl] Z := by rw [← hZ]; exact R4.setAll (us := [.int .i64 v.cp, .int .i64 v.se, .slice M1.ia M1.i M1.ic, .int .i64 v.nx, .slice M1.sa M1.s M1.sc, .slice M1.la M1.l M1.lc, .slice M1.ga M1.g M1.gc, .bool v.cl]) rfl
  obtain ⟨z0, z1, z2, z3, z4, z5, z6, z7⟩ := box8 hZx
  have HD := hidOf (show PulS w (pulR v id most) (pulT v id most) (pulC v id most) (.returned (.tuple #[.agg #[.int .i64 v.cp, .int .i64 v.se, .slice M1.ia M1.i M1.ic, .int .i64 v.nx, .slice M1.sa M1.s M1.sc, .slice M1.la M1.l M1.lc, .slice M1.ga M1.g M1.gc, .bool v.cl], .slice none 0 0, .int .i64 1])) Z by
   rw [show PulS w (pulR v id most) (pulT v id most) (pulC v id most) = PulS w v [] 1 by unfold pulR pulT pulC; rw [if_neg (fun h => HMs.out h.2), if_neg (fun h => HMs.out h.2), if_neg (fun h => HMs.out h.2)]]
   rw [← hZ]
   have hgr : w4.grownBy (setL w4 N1 0 [.int .i64 v.cp, .int .i64 v.se, .slice M1.ia M1.i M1.ic, .int .i64 v.nx, .slice M1.sa M1.s M1.sc, .slice M1.la M1.l M1.lc, .slice M1.ga M1.g M1.gc, .bool v.cl]) (some N1) := setL_grown ⟨rfl, rfl, rfl, Nat.le_refl _, fun _ _ _ => rfl⟩
   exact ⟨M1, none, 0, 0, rfl, (row4.grown hgr (row4.out (by have h := HN0.out; omega))).mono (by omega), HLe.out.mono (by omega), World.ownsRow_nil _ _ _ _, fun q e => by simp [Value.ownBlock] at e, setL_below (by have h := HN0.out; omega) B4⟩)
  clear hZx
  go_wp2_with fail
  change bodyPost _ _ _ _ _ (setL w4 N1 0 [.int .i64 v.cp, .int .i64 v.se, .slice M1.ia M1.i M1.ic, .int .i64 v.nx, .slice M1.sa M1.s M1.sc, .slice M1.la M1.l M1.lc, .slice M1.ga M1.g M1.gc, .bool v.cl])
  rw [hZ]
  exact bodyPost_ret (v := .tuple #[.agg #[.int .i64 v.cp, .int .i64 v.se, .slice M1.ia M1.i M1.ic, .int .i64 v.nx, .slice M1.sa M1.s M1.sc, .slice M1.la M1.l M1.lc, .slice M1.ga M1.g M1.gc, .bool v.cl], .slice none 0 0, .int .i64 1]) (by simp [results, Tryz.results32, go_sem, z0, z1, z2, z3, z4, z5, z6, z7]) rfl HD.out
 have hmb : (decide (0 ≤ most) && decide (most ≤ 50)) = true := by simp [hms.1, hms.2]
 rw [hmb]
 clear hmb
 have HMs := hidOf hms
 clear hms
 have HIf := hidOf (show okR restR v = true ∧ 0 ≤ most ∧ most ≤ 50 from ⟨HQ.out, HMs.out⟩)
 by_cases hneg : at' < 0
 ·skip
  obtain ⟨k0, k1, k2, k3, k4, k5, k6, k7⟩ := box8 K4
  obtain ⟨r0, r1, r2, r3, r4, r5, r6, r7⟩ := box8 R4
  have rf := R4.fr
  obtain ⟨Z, hZ⟩ : ∃ Z, setL w4 N1 0 [.int .i64 v.cp, .int .i64 v.se, .slice M1.ia M1.i M1.ic, .int .i64 v.nx, .slice M1.sa M1.s M1.sc, .slice M1.la M1.l M1.lc, .slice M1.ga M1.g M1.gc, .bool v.cl] = Z := ⟨_, rfl⟩
  have hZx : BoxL N1 [.int .i64 v.cp, .int .i64 v.se, .slice M1.ia M1.i M1.ic, .int .i64 v.nx, .slice M1.sa M1.s M1.sc, .slice M1.la M1.l M1.lc, .slice M1.ga M1.g M1.gc, .bool v.cl] Z := by rw [← hZ]; exact R4.setAll (us := [.int .i64 v.cp, .int .i64 v.se, .slice M1.ia M1.i M1.ic, .int .i64 v.nx, .slice M1.sa M1.s M1.sc, .slice M1.la M1.l M1.lc, .slice M1.ga M1.g M1.gc, .bool v.cl]) rfl
  obtain ⟨z0, z1, z2, z3, z4, z5, z6, z7⟩ := box8 hZx
  have HD := hidOf (show PulS w (pulR v id most) (pulT v id most) (pulC v id most) (.returned (.tuple #[.agg #[.int .i64 v.cp, .int .i64 v.se, .slice M1.ia M1.i M1.ic, .int .i64 v.nx, .slice M1.sa M1.s M1.sc, .slice M1.la M1.l M1.lc, .slice M1.ga M1.g M1.gc, .bool v.cl], .slice none 0 0, .int .i64 3])) Z by
   rw [show PulS w (pulR v id most) (pulT v id most) (pulC v id most) = PulS w v [] 3 by unfold pulR pulT pulC; rw [if_pos HIf.out, if_pos HIf.out, if_pos HIf.out, HAe.out, if_pos hneg, if_pos hneg, if_pos hneg]]
   rw [← hZ]
   have hgr : w4.grownBy (setL w4 N1 0 [.int .i64 v.cp, .int .i64 v.se, .slice M1.ia M1.i M1.ic, .int .i64 v.nx, .slice M1.sa M1.s M1.sc, .slice M1.la M1.l M1.lc, .slice M1.ga M1.g M1.gc, .bool v.cl]) (some N1) := setL_grown ⟨rfl, rfl, rfl, Nat.le_refl _, fun _ _ _ => rfl⟩
   exact ⟨M1, none, 0, 0, rfl, (row4.grown hgr (row4.out (by have h := HN0.out; omega))).mono (by omega), HLe.out.mono (by omega), World.ownsRow_nil _ _ _ _, fun q e => by simp [Value.ownBlock] at e, setL_below (by have h := HN0.out; omega) B4⟩)
  clear hZx
  go_wp2_with fail
  change bodyPost _ _ _ _ _ (setL w4 N1 0 [.int .i64 v.cp, .int .i64 v.se, .slice M1.ia M1.i M1.ic, .int .i64 v.nx, .slice M1.sa M1.s M1.sc, .slice M1.la M1.l M1.lc, .slice M1.ga M1.g M1.gc, .bool v.cl])
  rw [hZ]
  exact bodyPost_ret (v := .tuple #[.agg #[.int .i64 v.cp, .int .i64 v.se, .slice M1.ia M1.i M1.ic, .int .i64 v.nx, .slice M1.sa M1.s M1.sc, .slice M1.la M1.l M1.lc, .slice M1.ga M1.g M1.gc, .bool v.cl], .slice none 0 0, .int .i64 3]) (by simp [results, Tryz.results32, go_sem, z0, z1, z2, z3, z4, z5, z6, z7]) rfl HD.out
 have HA := hidOf (show ¬ atR v.sb id < 0 by rw [HAe.out]; exact hneg)
 have p5 : w4.cell? ⟨w.heap.size, 5, none⟩ = some (.slice M.la M.l M.lc) := A4.cs 5 (by simp)
 have p6 : w4.cell? ⟨w.heap.size, 6, none⟩ = some (.slice M.ga M.g M.gc) := A4.cs 6 (by simp)
 have H1 := hidOf (l2Has_any M.la M.l M.lc v.ln id w4 (HI.out.keep B4).ln hml)
 have H2 := hidOf (l2Has_any M.ga M.g M.gc v.gs id w4 (HI.out.keep B4).gs hmg)
 obtain ⟨a, ha⟩ : ∃ a, hasL v.ln id = a := ⟨_, rfl⟩
 obtain ⟨bb, hb⟩ : ∃ b, hasL v.gs id = b := ⟨_, rfl⟩
 rw [ha] at H1
 rw [hb] at H2
 have HHa := hidOf ha
 have HHb := hidOf hb
 clear ha hb
 have HE5 := hidOf (show (a || bb) = true → PulS w (pulR v id most) (pulT v id most) (pulC v id most) = PulS w v [] 5 from fun h => by
  have hn : ¬ atR v.sb id < 0 := by have h := HA.out; omega
  have hh : (hasL v.ln id || hasL v.gs id) = true := by rw [HHa.out, HHb.out]; exact h
  unfold pulR pulT pulC
  rw [if_pos HIf.out, if_pos HIf.out, if_pos HIf.out, if_neg hn, if_neg hn, if_neg hn, if_pos hh, if_pos hh, if_pos hh])
 cases a
 case true =>
  have HE := hidOf (HE5.out rfl)
  go_upto_region 7 with fail
  go_wp2_with fail
  refine (H1.out).mono ?_
  rintro e w' ⟨rfl, hww⟩
  obtain rfl : w4 = w' := hww.symm
  go_upto_region 8 with fail
  obtain ⟨k0, k1, k2, k3, k4, k5, k6, k7⟩ := box8 K4
  obtain ⟨r0, r1, r2, r3, r4, r5, r6, r7⟩ := box8 R4
  have rf := R4.fr
  obtain ⟨Z, hZ⟩ : ∃ Z, setL w4 N1 0 [.int .i64 v.cp, .int .i64 v.se, .slice M1.ia M1.i M1.ic, .int .i64 v.nx, .slice M1.sa M1.s M1.sc, .slice M1.la M1.l M1.lc, .slice M1.ga M1.g M1.gc, .bool v.cl] = Z := ⟨_, rfl⟩
  have hZx : BoxL N1 [.int .i64 v.cp, .int .i64 v.se, .slice M1.ia M1.i M1.ic, .int .i64 v.nx, .slice M1.sa M1.s M1.sc, .slice M1.la M1.l M1.lc, .slice M1.ga M1.g M1.gc, .bool v.cl] Z := by rw [← hZ]; exact R4.setAll (us := [.int .i64 v.cp, .int .i64 v.se, .slice M1.ia M1.i M1.ic, .int .i64 v.nx, .slice M1.sa M1.s M1.sc, .slice M1.la M1.l M1.lc, .slice M1.ga M1.g M1.gc, .bool v.cl]) rfl
  obtain ⟨z0, z1, z2, z3, z4, z5, z6, z7⟩ := box8 hZx
  have HD := hidOf (show PulS w (pulR v id most) (pulT v id most) (pulC v id most) (.returned (.tuple #[.agg #[.int .i64 v.cp, .int .i64 v.se, .slice M1.ia M1.i M1.ic, .int .i64 v.nx, .slice M1.sa M1.s M1.sc, .slice M1.la M1.l M1.lc, .slice M1.ga M1.g M1.gc, .bool v.cl], .slice none 0 0, .int .i64 5])) Z by
   rw [show PulS w (pulR v id most) (pulT v id most) (pulC v id most) = PulS w v [] 5 by exact HE.out]
   rw [← hZ]
   have hgr : w4.grownBy (setL w4 N1 0 [.int .i64 v.cp, .int .i64 v.se, .slice M1.ia M1.i M1.ic, .int .i64 v.nx, .slice M1.sa M1.s M1.sc, .slice M1.la M1.l M1.lc, .slice M1.ga M1.g M1.gc, .bool v.cl]) (some N1) := setL_grown ⟨rfl, rfl, rfl, Nat.le_refl _, fun _ _ _ => rfl⟩
   exact ⟨M1, none, 0, 0, rfl, (row4.grown hgr (row4.out (by have h := HN0.out; omega))).mono (by omega), HLe.out.mono (by omega), World.ownsRow_nil _ _ _ _, fun q e => by simp [Value.ownBlock] at e, setL_below (by have h := HN0.out; omega) B4⟩)
  clear hZx
  go_wp2_with fail
  change bodyPost _ _ _ _ _ (setL w4 N1 0 [.int .i64 v.cp, .int .i64 v.se, .slice M1.ia M1.i M1.ic, .int .i64 v.nx, .slice M1.sa M1.s M1.sc, .slice M1.la M1.l M1.lc, .slice M1.ga M1.g M1.gc, .bool v.cl])
  rw [hZ]
  exact bodyPost_ret (v := .tuple #[.agg #[.int .i64 v.cp, .int .i64 v.se, .slice M1.ia M1.i M1.ic, .int .i64 v.nx, .slice M1.sa M1.s M1.sc, .slice M1.la M1.l M1.lc, .slice M1.ga M1.g M1.gc, .bool v.cl], .slice none 0 0, .int .i64 5]) (by simp [results, Tryz.results32, go_sem, z0, z1, z2, z3, z4, z5, z6, z7]) rfl HD.out
 cases bb
 case true =>
  have HE := hidOf (HE5.out rfl)
  go_upto_region 7 with fail
  go_wp2_with fail
  refine (H1.out).mono ?_
  rintro e w' ⟨rfl, hww⟩
  obtain rfl : w4 = w' := hww.symm
  go_wp2_with fail
  refine (H2.out).mono ?_
  rintro e w' ⟨rfl, hww⟩
  obtain rfl : w4 = w' := hww.symm
  go_upto_region 8 with fail
  obtain ⟨k0, k1, k2, k3, k4, k5, k6, k7⟩ := box8 K4
  obtain ⟨r0, r1, r2, r3, r4, r5, r6, r7⟩ := box8 R4
  have rf := R4.fr
  obtain ⟨Z, hZ⟩ : ∃ Z, setL w4 N1 0 [.int .i64 v.cp, .int .i64 v.se, .slice M1.ia M1.i M1.ic, .int .i64 v.nx, .slice M1.sa M1.s M1.sc, .slice M1.la M1.l M1.lc, .slice M1.ga M1.g M1.gc, .bool v.cl] = Z := ⟨_, rfl⟩
  have hZx : BoxL N1 [.int .i64 v.cp, .int .i64 v.se, .slice M1.ia M1.i M1.ic, .int .i64 v.nx, .slice M1.sa M1.s M1.sc, .slice M1.la M1.l M1.lc, .slice M1.ga M1.g M1.gc, .bool v.cl] Z := by rw [← hZ]; exact R4.setAll (us := [.int .i64 v.cp, .int .i64 v.se, .slice M1.ia M1.i M1.ic, .int .i64 v.nx, .slice M1.sa M1.s M1.sc, .slice M1.la M1.l M1.lc, .slice M1.ga M1.g M1.gc, .bool v.cl]) rfl
  obtain ⟨z0, z1, z2, z3, z4, z5, z6, z7⟩ := box8 hZx
  have HD := hidOf (show PulS w (pulR v id most) (pulT v id most) (pulC v id most) (.returned (.tuple #[.agg #[.int .i64 v.cp, .int .i64 v.se, .slice M1.ia M1.i M1.ic, .int .i64 v.nx, .slice M1.sa M1.s M1.sc, .slice M1.la M1.l M1.lc, .slice M1.ga M1.g M1.gc, .bool v.cl], .slice none 0 0, .int .i64 5])) Z by
   rw [show PulS w (pulR v id most) (pulT v id most) (pulC v id most) = PulS w v [] 5 by exact HE.out]
   rw [← hZ]
   have hgr : w4.grownBy (setL w4 N1 0 [.int .i64 v.cp, .int .i64 v.se, .slice M1.ia M1.i M1.ic, .int .i64 v.nx, .slice M1.sa M1.s M1.sc, .slice M1.la M1.l M1.lc, .slice M1.ga M1.g M1.gc, .bool v.cl]) (some N1) := setL_grown ⟨rfl, rfl, rfl, Nat.le_refl _, fun _ _ _ => rfl⟩
   exact ⟨M1, none, 0, 0, rfl, (row4.grown hgr (row4.out (by have h := HN0.out; omega))).mono (by omega), HLe.out.mono (by omega), World.ownsRow_nil _ _ _ _, fun q e => by simp [Value.ownBlock] at e, setL_below (by have h := HN0.out; omega) B4⟩)
  clear hZx
  go_wp2_with fail
  change bodyPost _ _ _ _ _ (setL w4 N1 0 [.int .i64 v.cp, .int .i64 v.se, .slice M1.ia M1.i M1.ic, .int .i64 v.nx, .slice M1.sa M1.s M1.sc, .slice M1.la M1.l M1.lc, .slice M1.ga M1.g M1.gc, .bool v.cl])
  rw [hZ]
  exact bodyPost_ret (v := .tuple #[.agg #[.int .i64 v.cp, .int .i64 v.se, .slice M1.ia M1.i M1.ic, .int .i64 v.nx, .slice M1.sa M1.s M1.sc, .slice M1.la M1.l M1.lc, .slice M1.ga M1.g M1.gc, .bool v.cl], .slice none 0 0, .int .i64 5]) (by simp [results, Tryz.results32, go_sem, z0, z1, z2, z3, z4, z5, z6, z7]) rfl HD.out
 go_upto_region 7 with fail
 go_wp2_with fail
 refine (H1.out).mono ?_
 rintro e w' ⟨rfl, hww⟩
 obtain rfl : w4 = w' := hww.symm
 go_wp2_with fail
 refine (H2.out).mono ?_
 rintro e w' ⟨rfl, hww⟩
 obtain rfl : w4 = w' := hww.symm
 obtain ⟨hlt, hkI⟩ := at_lt (show ¬ atR v.sb id < 0 by have h := HA.out; omega)
 obtain ⟨k, hkk⟩ : ∃ k, (atR v.sb id).toNat = k := ⟨_, rfl⟩
 rw [hkk] at hlt hkI
 obtain rfl : at' = (k : Int) := by rw [← HAe.out, hkI]
 obtain ⟨mN, rfl⟩ : ∃ n : Nat, most = (n : Int) := ⟨most.toNat, by have h := HMs.out; omega⟩
 have HEl := hidOf (show ∀ (y : Rv) (l : List Td) (cd : Int), pullL mN v k = (y, l, cd) → PulS w (pulR v id (mN : Int)) (pulT v id (mN : Int)) (pulC v id (mN : Int)) = PulS w y l cd from fun y l cd hp => by
  have hn : ¬ atR v.sb id < 0 := by have h := HA.out; omega
  have hh : ¬ (hasL v.ln id || hasL v.gs id) = true := by rw [HHa.out, HHb.out]; simp
  unfold pulR pulT pulC
  rw [if_pos HIf.out, if_pos HIf.out, if_pos HIf.out, if_neg hn, if_neg hn, if_neg hn, if_neg hh, if_neg hh, if_neg hh, hkk, Int.toNat_natCast, hp])
 have HRd := hidOf (ok_rd HQ.out hlt)
 have HP := hidOf (show PlS w (w.heap.size + 2) N1 NK mN v k 0 M1 v [] (some ⟨w4.heap.size, 0, none⟩) 0 0 0 (w4.alloc (.cells #[] 53)) from by
  have hb := bl_alloc (Below.refl w4.heap.size w4) (.cells #[] 53)
  have hn := HN0.out
  have hk := HKg.out
  have hl := K4.lt
  exact ⟨PulI.start _ _ _, HRd.out, row4.keep hb, HLe.out.mono (by omega), rowM (row_empty w4 _ 6) (by omega), rfl, fun q e => by
   have e' : w4.heap.size = q := by simpa [Value.ownBlock] using e
   exact ⟨row4.new (by omega), by omega⟩, HKb.out, K4.keep hb, R4.keep hb, bl_trans B4 hb, by omega, by omega, by omega, by have := hb.size; omega, by omega⟩)
 clear hlt hkI hkk p5 p6 hneg H1 H2 HE5 A4 R4 K4 row4 B4
 go_upto_region 11 with fail
 go_loopw [11, 12] (fun s c wr => ∃ (j : Nat) (M : Rm) (u : Rv) (l : List Td) (la : Option Addr) (ln lc : Nat) (cd : Int), s = .slice la ln lc ∧ c = .int .i64 cd ∧ PlS w (w.heap.size + 2) N1 NK mN v k j M u l la ln lc cd wr) (fun s c _ => mN - lenS s + (if intOf c = 0 then 1 else 0))
 case atStart => exact ⟨0, M1, v, [], _, 0, 0, 0, rfl, rfl, HP.out⟩
 case round =>
  clear HP
  rename World => wr
  obtain ⟨j, M3, u, l, la, ln, lc, cd, rfl, rfl, h⟩ := hrel
  by_cases hgo : ln < mN ∧ cd = 0
  ·obtain ⟨hln, rfl⟩ := hgo
   have hli : (ln : Int) < (mN : Int) := by omega
   obtain ⟨p0, p1, p2, p3, p4, p5, p6, p7⟩ := box8 h.box
   have hRd := l9Read_any (w.heap.size + 2) M3 u k wr h.row h.rd h.le
   have HH := hidOf h
   clear h
   go_wp2_with fail
   refine hRd.mono ?_
   clear hRd
   rintro e w5 ⟨xs5, rfl, row5, hn5, gr5, hbk5⟩
   have hR5 := HH.out.read row5 hn5 gr5 hbk5
   obtain ⟨td, htd⟩ : ∃ td, readT u (u.sb.getD k Sb0) = td := ⟨_, rfl⟩
   obtain ⟨c2, hc2⟩ : ∃ c, readC u (u.sb.getD k Sb0) = c := ⟨_, rfl⟩
   rw [htd, hc2]
   have HTd := hidOf htd
   have HCd := hidOf hc2
   clear row5 hn5 gr5 hbk5 htd hc2 p0 p1 p2 p3 p4 p5 p6 p7
   obtain ⟨V, hV⟩ : ∃ V, V = (w5.alloc (.cells #[.int .i64 u.cp, .int .i64 u.se, .slice M3.ia M3.i M3.ic, .int .i64 u.nx, .slice M3.sa M3.s M3.sc, .slice M3.la M3.l M3.lc, .slice M3.ga M3.g M3.gc, .bool u.cl] 28)).alloc (.cells #[.int .i64 td.kd, .int .i64 td.ms.1, .int .i64 td.ms.2.1, .string td.ms.2.2, .int .i64 td.ix, .int .i64 td.n] 53) := ⟨_, rfl⟩
   have bV : Below w5.heap.size w5 V := by rw [hV]; exact bl_alloc (bl_alloc (Below.refl _ _) _) _
   have X2 : BoxL w5.heap.size [.int .i64 u.cp, .int .i64 u.se, .slice M3.ia M3.i M3.ic, .int .i64 u.nx, .slice M3.sa M3.s M3.sc, .slice M3.la M3.l M3.lc, .slice M3.ga M3.g M3.gc, .bool u.cl] V := by rw [hV]; exact (BoxL.new w5 [.int .i64 u.cp, .int .i64 u.se, .slice M3.ia M3.i M3.ic, .int .i64 u.nx, .slice M3.sa M3.s M3.sc, .slice M3.la M3.l M3.lc, .slice M3.ga M3.g M3.gc, .bool u.cl] _).alloc _
   have T2 : BoxL (w5.heap.size + 1) [.int .i64 td.kd, .int .i64 td.ms.1, .int .i64 td.ms.2.1, .string td.ms.2.2, .int .i64 td.ix, .int .i64 td.n] V := by rw [hV]; exact boxT1 w5 _ [.int .i64 td.kd, .int .i64 td.ms.1, .int .i64 td.ms.2.1, .string td.ms.2.2, .int .i64 td.ix, .int .i64 td.n] _
   have hR6 := hR5.keep bV
   have HNs := hidOf (show NK < w5.heap.size by obtain ⟨vs, _, hb⟩ := hR5.box; exact hb.lt)
   clear hR5 bV
   go_upto_region 13 with fail
   try rw [← hV]
   clear hV
   generalize hNX : w5.heap.size = NX at X2 T2 HNs ⊢
   generalize hNT : NX + 1 = NT at T2 ⊢
   have HNt := hidOf (show NT ≠ NK by have h := HNs.out; omega)
   clear hNX hNT
   have hold := oldR_bd (v := rdV u k) HH.out.rd.se.1 HH.out.rd.cp.1
   have hTr := l9Trim_any2 (w.heap.size + 2) ({ M3 with xs := xs5 } : Rm) (rdV u k) V hR6.row hR6.bs hR6.le HH.out.rd.se HH.out.rd.cp hold.2 hold.1
   change Calls _ _ #[.agg #[.int .i64 u.cp, .int .i64 u.se, .slice M3.ia M3.i M3.ic, .int .i64 u.nx, .slice M3.sa M3.s M3.sc, .slice M3.la M3.l M3.lc, .slice M3.ga M3.g M3.gc, .bool u.cl]] _ _ at hTr
   have HR6 := hidOf hR6
   clear hR6 hold
   obtain ⟨p0, p1, p2, p3, p4, p5, p6, p7⟩ := box8 X2
   go_wp2_with fail
   refine hTr.mono ?_
   clear hTr
   rintro e w7 ⟨ia7, i7, ic7, he7, row7, hi7, b7, hq7⟩
   obtain rfl : e = .returned (.agg #[.int .i64 u.cp, .int .i64 u.se, .slice ia7 i7 ic7, .int .i64 u.nx, .slice M3.sa M3.s M3.sc, .slice M3.la M3.l M3.lc, .slice M3.ga M3.g M3.gc, .bool u.cl]) := by rw [he7] <;> rfl
   clear he7 p0 p1 p2 p3 p4 p5 p6 p7 X2
   have hTm := HR6.out.trim row7 hi7 b7 hq7 HH.out.rk HH.out.wk
   have hv7 := trim_same (rdV u k)
   have hrC : rC ({ M3 with xs := xs5, ia := ia7, i := i7, ic := ic7 } : Rm) (trimR (rdV u k)) = [.int .i64 u.cp, .int .i64 u.se, .slice ia7 i7 ic7, .int .i64 u.nx, .slice M3.sa M3.s M3.sc, .slice M3.la M3.l M3.lc, .slice M3.ga M3.g M3.gc, .bool u.cl] := by
    show [Value.int .i64 (trimR (rdV u k)).cp, .int .i64 (trimR (rdV u k)).se, .slice ia7 i7 ic7, .int .i64 (trimR (rdV u k)).nx, .slice M3.sa M3.s M3.sc, .slice M3.la M3.l M3.lc, .slice M3.ga M3.g M3.gc, .bool (trimR (rdV u k)).cl] = _
    rw [hv7.1, hv7.2.1, hv7.2.2.1, hv7.2.2.2] <;> rfl
   obtain ⟨vs, hvs, hbx⟩ := HR6.out.box
   have hbx7 := hbx.keep b7
   have p0 := hbx7.cs 0 (by omega)
   have p1 := hbx7.cs 1 (by omega)
   have p2 := hbx7.cs 2 (by omega)
   have p3 := hbx7.cs 3 (by omega)
   have p4 := hbx7.cs 4 (by omega)
   have p5 := hbx7.cs 5 (by omega)
   have p6 := hbx7.cs 6 (by omega)
   have p7 := hbx7.cs 7 (by omega)
   have pf := hbx7.fr
   have hT7 := T2.keep b7
   obtain ⟨Z1, hZ1⟩ : ∃ Z, ((((((((w7.setCell ⟨NK, 0, none⟩ (.int .i64 u.cp)).setCell ⟨NK, 1, none⟩ (.int .i64 u.se)).setCell ⟨NK, 2, none⟩ (.slice ia7 i7 ic7)).setCell ⟨NK, 3, none⟩ (.int .i64 u.nx)).setCell ⟨NK, 4, none⟩ (.slice M3.sa M3.s M3.sc)).setCell ⟨NK, 5, none⟩ (.slice M3.la M3.l M3.lc)).setCell ⟨NK, 6, none⟩ (.slice M3.ga M3.g M3.gc)).setCell ⟨NK, 7, none⟩ (.bool u.cl)) = Z := ⟨_, rfl⟩
   have hZ1b : Z1 = setL w7 NK 0 [.int .i64 u.cp, .int .i64 u.se, .slice ia7 i7 ic7, .int .i64 u.nx, .slice M3.sa M3.s M3.sc, .slice M3.la M3.l M3.lc, .slice M3.ga M3.g M3.gc, .bool u.cl] := by rw [← hZ1]; rfl
   rw [hrC, ← hZ1b] at hTm
   have hT8 : BoxL NT [.int .i64 td.kd, .int .i64 td.ms.1, .int .i64 td.ms.2.1, .string td.ms.2.2, .int .i64 td.ix, .int .i64 td.n] Z1 := by rw [hZ1b]; exact hT7.setFar HNt.out
   have HTm := hidOf hTm
   have HrC := hidOf hrC
   clear hTm row7 hi7 hq7 hv7 hrC hT7 T2 hZ1b HR6
   go_upto_region 14 with fail
   try rw [hZ1]
   clear hZ1 p0 p1 p2 p3 p4 p5 p6 p7 pf b7 hbx7 hbx hvs
   have hlj := (HH.out.inv.go rfl).1
   have HJ := hidOf (show j < mN by have h := HH.out.nl; omega)
   have HNl := hidOf HH.out.nl
   have HNx := hidOf (HH.out.inv.next (u := u) HJ.out)
   clear hlj
   by_cases hz : c2 = 0
   ·subst hz
    obtain ⟨o0, o1, o2, o3, o4, o5⟩ := box6 hT8
    obtain ⟨a9, c9, w9, hr9, ho9, hg9, hq9⟩ := append_td (w.heap.size + 2) ln (.slice la ln lc) l td Z1 HTm.out.1.lst HTm.out.1.bs (by have h := HMs.out; omega)
    have hT9 := HTm.out.1.told (by rw [HrC.out]; exact HTm.out.2) ho9 hg9 hq9 HH.out.rb HH.out.wr0
    have Hr9 := hidOf hr9
    have HT9 := hidOf hT9
    clear hr9 ho9 hg9 hq9 hT9 hT8
    go_wp2_with (at_builtin; refine wpList_append_run rfl _ _ 48 rfl _ _ _ rfl rfl Hr9.out ?_)
    go_roundw
    case rel =>
     refine ⟨j + 1, ({ M3 with xs := xs5, ia := ia7, i := i7, ic := ic7 } : Rm), trimR (rdV u k), l ++ [td], a9, ln + 1, c9, 0, rfl, rfl, ?_⟩
     have hi := HNx.out
     rw [HCd.out, if_pos rfl, HTd.out] at hi
     exact HT9.out.1.pls HT9.out.2 hi (rd_again HH.out.rd) (by have h := HNl.out; simp; omega) HH.out.rb HH.out.wr0 HH.out.wk HH.out.rk
    case measure => simp [intOf, lenS]; omega
   ·have hz2 : (c2 == 0) = false := by simp [hz]
    go_wp2_with fail
    go_roundw
    case rel =>
     refine ⟨j + 1, ({ M3 with xs := xs5, ia := ia7, i := i7, ic := ic7 } : Rm), trimR (rdV u k), l, la, ln, lc, c2, rfl, rfl, ?_⟩
     have hi := HNx.out
     rw [HCd.out, if_neg hz] at hi
     exact HTm.out.1.pls (by rw [HrC.out]; exact HTm.out.2) hi (rd_again HH.out.rd) HNl.out HH.out.rb HH.out.wr0 HH.out.wk HH.out.rk
    case measure => simp [intOf, lenS, hz]
  have HFull := hidOf (show pullL mN v k = (u, l, cd) from by
   refine h.inv.full ?_
   have h1 := h.nl
   by_cases hz : cd = 0
   ·exact .inr (by omega)
   ·exact .inl hz)
  have BK := h.box
  have BR := h.res
  have HH := hidOf h
  clear h
  by_cases hln : ln < mN
  ·have hli : (ln : Int) < (mN : Int) := by omega
   have hz2 : (cd == 0) = false := by simp; intro hz; exact hgo ⟨hln, hz⟩
   clear hgo hln
   obtain ⟨k0, k1, k2, k3, k4, k5, k6, k7⟩ := box8 BK
   obtain ⟨r0, r1, r2, r3, r4, r5, r6, r7⟩ := box8 BR
   have rf := BR.fr
   obtain ⟨Z, hZ⟩ : ∃ Z, setL wr N1 0 [.int .i64 u.cp, .int .i64 u.se, .slice M3.ia M3.i M3.ic, .int .i64 u.nx, .slice M3.sa M3.s M3.sc, .slice M3.la M3.l M3.lc, .slice M3.ga M3.g M3.gc, .bool u.cl] = Z := ⟨_, rfl⟩
   have hZx : BoxL N1 [.int .i64 u.cp, .int .i64 u.se, .slice M3.ia M3.i M3.ic, .int .i64 u.nx, .slice M3.sa M3.s M3.sc, .slice M3.la M3.l M3.lc, .slice M3.ga M3.g M3.gc, .bool u.cl] Z := by rw [← hZ]; exact BR.setAll (us := [.int .i64 u.cp, .int .i64 u.se, .slice M3.ia M3.i M3.ic, .int .i64 u.nx, .slice M3.sa M3.s M3.sc, .slice M3.la M3.l M3.lc, .slice M3.ga M3.g M3.gc, .bool u.cl]) rfl
   obtain ⟨z0, z1, z2, z3, z4, z5, z6, z7⟩ := box8 hZx
   have HD := hidOf (show PulS w (pulR v id (mN : Int)) (pulT v id (mN : Int)) (pulC v id (mN : Int)) (.returned (.tuple #[.agg #[.int .i64 u.cp, .int .i64 u.se, .slice M3.ia M3.i M3.ic, .int .i64 u.nx, .slice M3.sa M3.s M3.sc, .slice M3.la M3.l M3.lc, .slice M3.ga M3.g M3.gc, .bool u.cl], .slice la ln lc, .int .i64 cd])) Z by
    rw [HEl.out u l cd HFull.out, ← hZ]
    have hgr : wr.grownBy (setL wr N1 0 [.int .i64 u.cp, .int .i64 u.se, .slice M3.ia M3.i M3.ic, .int .i64 u.nx, .slice M3.sa M3.s M3.sc, .slice M3.la M3.l M3.lc, .slice M3.ga M3.g M3.gc, .bool u.cl]) (some N1) := setL_grown ⟨rfl, rfl, rfl, Nat.le_refl _, fun _ _ _ => rfl⟩
    have h := HH.out
    have ho := h.row.out h.rb
    exact ⟨M3, la, ln, lc, rfl, (h.row.grown hgr ho).mono (by omega), h.le, rowM (rowG h.lst hgr (fun q e e2 => by injection e with e; subst e; have h1 := (h.lst.lt _ e2).1; have h2 := h.rb; omega)) (by omega), fun q e => (h.lb q e).1, setL_below h.wr0 h.bel⟩)
   clear hZx
   have BKx := BK
   clear BK BR BKx
   go_wp2_with fail
   change bodyPost _ _ _ _ _ (setL wr N1 0 [.int .i64 u.cp, .int .i64 u.se, .slice M3.ia M3.i M3.ic, .int .i64 u.nx, .slice M3.sa M3.s M3.sc, .slice M3.la M3.l M3.lc, .slice M3.ga M3.g M3.gc, .bool u.cl])
   rw [hZ]
   exact bodyPost_ret (v := .tuple #[.agg #[.int .i64 u.cp, .int .i64 u.se, .slice M3.ia M3.i M3.ic, .int .i64 u.nx, .slice M3.sa M3.s M3.sc, .slice M3.la M3.l M3.lc, .slice M3.ga M3.g M3.gc, .bool u.cl], .slice la ln lc, .int .i64 cd]) (by simp [results, Tryz.results32, go_sem, z0, z1, z2, z3, z4, z5, z6, z7]) rfl HD.out
  ·have hli : ¬ (ln : Int) < (mN : Int) := by omega
   clear hgo hln
   obtain ⟨k0, k1, k2, k3, k4, k5, k6, k7⟩ := box8 BK
   obtain ⟨r0, r1, r2, r3, r4, r5, r6, r7⟩ := box8 BR
   have rf := BR.fr
   obtain ⟨Z, hZ⟩ : ∃ Z, setL wr N1 0 [.int .i64 u.cp, .int .i64 u.se, .slice M3.ia M3.i M3.ic, .int .i64 u.nx, .slice M3.sa M3.s M3.sc, .slice M3.la M3.l M3.lc, .slice M3.ga M3.g M3.gc, .bool u.cl] = Z := ⟨_, rfl⟩
   have hZx : BoxL N1 [.int .i64 u.cp, .int .i64 u.se, .slice M3.ia M3.i M3.ic, .int .i64 u.nx, .slice M3.sa M3.s M3.sc, .slice M3.la M3.l M3.lc, .slice M3.ga M3.g M3.gc, .bool u.cl] Z := by rw [← hZ]; exact BR.setAll (us := [.int .i64 u.cp, .int .i64 u.se, .slice M3.ia M3.i M3.ic, .int .i64 u.nx, .slice M3.sa M3.s M3.sc, .slice M3.la M3.l M3.lc, .slice M3.ga M3.g M3.gc, .bool u.cl]) rfl
   obtain ⟨z0, z1, z2, z3, z4, z5, z6, z7⟩ := box8 hZx
   have HD := hidOf (show PulS w (pulR v id (mN : Int)) (pulT v id (mN : Int)) (pulC v id (mN : Int)) (.returned (.tuple #[.agg #[.int .i64 u.cp, .int .i64 u.se, .slice M3.ia M3.i M3.ic, .int .i64 u.nx, .slice M3.sa M3.s M3.sc, .slice M3.la M3.l M3.lc, .slice M3.ga M3.g M3.gc, .bool u.cl], .slice la ln lc, .int .i64 cd])) Z by
    rw [HEl.out u l cd HFull.out, ← hZ]
    have hgr : wr.grownBy (setL wr N1 0 [.int .i64 u.cp, .int .i64 u.se, .slice M3.ia M3.i M3.ic, .int .i64 u.nx, .slice M3.sa M3.s M3.sc, .slice M3.la M3.l M3.lc, .slice M3.ga M3.g M3.gc, .bool u.cl]) (some N1) := setL_grown ⟨rfl, rfl, rfl, Nat.le_refl _, fun _ _ _ => rfl⟩
    have h := HH.out
    have ho := h.row.out h.rb
    exact ⟨M3, la, ln, lc, rfl, (h.row.grown hgr ho).mono (by omega), h.le, rowM (rowG h.lst hgr (fun q e e2 => by injection e with e; subst e; have h1 := (h.lst.lt _ e2).1; have h2 := h.rb; omega)) (by omega), fun q e => (h.lb q e).1, setL_below h.wr0 h.bel⟩)
   clear hZx
   have BKx := BK
   clear BK BR BKx
   go_wp2_with fail
   change bodyPost _ _ _ _ _ (setL wr N1 0 [.int .i64 u.cp, .int .i64 u.se, .slice M3.ia M3.i M3.ic, .int .i64 u.nx, .slice M3.sa M3.s M3.sc, .slice M3.la M3.l M3.lc, .slice M3.ga M3.g M3.gc, .bool u.cl])
   rw [hZ]
   exact bodyPost_ret (v := .tuple #[.agg #[.int .i64 u.cp, .int .i64 u.se, .slice M3.ia M3.i M3.ic, .int .i64 u.nx, .slice M3.sa M3.s M3.sc, .slice M3.la M3.l M3.lc, .slice M3.ga M3.g M3.gc, .bool u.cl], .slice la ln lc, .int .i64 cd]) (by simp [results, Tryz.results32, go_sem, z0, z1, z2, z3, z4, z5, z6, z7]) rfl HD.out
end Go.Proofs.YtdboaoejlkkoeaaGreat
