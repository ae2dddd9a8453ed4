/-
  The specification's Proceed
-/
import Derived.Test.YtdboaoejlkkoeaaGreatZPo33
namespace Go.Proofs.YtdboaoejlkkoeaaGreat
open Go.RowKit Go.Maps Pl Il
theorem at_has {v : Rv} {id : Int} (h : okR restR v = true) (hg : hasL v.gs id = true) : ¬ atR v.sb id < 0 := by
  have hr := h
  simp only [okR, restR, Bool.and_eq_true] at hr
  have hw := hr.2.2.2.2
  unfold waitTo at hw
  rw [List.all_eq_true] at hw
  have hm : id ∈ v.gs := by simpa [hasL] using hg
  obtain ⟨i, hi, e⟩ := List.getElem_of_mem hm
  have h1 := hw (v.ln.length + i) (List.mem_range.2 (by omega))
  unfold waitAt at h1
  simp only [Bool.and_eq_true, decide_eq_true_eq] at h1
  have e2 : (v.ln ++ v.gs).getD (v.ln.length + i) 0 = id := by
    rw [List.getD, List.getElem?_append_right (by omega), Nat.add_sub_cancel_left, List.getElem?_eq_getElem hi, Option.getD_some, e]
  rw [e2] at h1
  omega
theorem rd_gs {v : Rv} {k : Nat} (l : List Int) (h : RdOk v k) : RdOk { v with gs := l } k := ⟨h.cp, h.se, h.it, h.ol, h.ms, h.lt, h.nm, h.fl⟩
set_option maxRecDepth 100000 in
set_option maxHeartbeats 16000000 in
theorem specProceed_anyS : ProDoneS 63 := by
 intro M v id w hI hm1 hcap hw hid _hG
 have hm := hm1.mono (k' := 2097152) (by omega)
 obtain ⟨U0, hU0⟩ : ∃ W, W = ((w.alloc (.cells #[.int .i64 v.cp, .int .i64 v.se, .slice M.ia M.i M.ic, .int .i64 v.nx, .slice M.sa M.s M.sc, .slice M.la M.l M.lc, .slice M.ga M.g M.gc, .bool v.cl] 28)).alloc (.cells #[.int .i64 0, .int .i64 0, .slice none 0 0, .int .i64 0, .slice none 0 0, .slice none 0 0, .slice none 0 0, .bool false] 28)).alloc (.cells #[.int .i64 0, .int .i64 0, .int .i64 0, .string ⟨#[]⟩, .int .i64 0, .int .i64 0] 53) := ⟨_, rfl⟩
 have B0 : Below w.heap.size w U0 := by rw [hU0]; exact bl_alloc (bl_alloc (bl_alloc (Below.refl _ _) _) _) _
 have z0 : U0.heap.size = w.heap.size + 3 := by rw [hU0]; simp
 have A0 : BoxL w.heap.size (rC M v) U0 := by rw [hU0]; exact ((BoxL.new w (rC M v) _).alloc _).alloc _
 have R0 : BoxL (w.heap.size + 1) [.int .i64 0, .int .i64 0, .slice none 0 0, .int .i64 0, .slice none 0 0, .slice none 0 0, .slice none 0 0, .bool false] U0 := by rw [hU0]; exact (boxT1 w _ [.int .i64 0, .int .i64 0, .slice none 0 0, .int .i64 0, .slice none 0 0, .slice none 0 0, .slice none 0 0, .bool false] _).alloc _
 have T0 : BoxL (w.heap.size + 1 + 1) [.int .i64 0, .int .i64 0, .int .i64 0, .string ⟨#[]⟩, .int .i64 0, .int .i64 0] U0 := by rw [hU0]; exact boxT2 w _ _ [.int .i64 0, .int .i64 0, .int .i64 0, .string ⟨#[]⟩, .int .i64 0, .int .i64 0] _
 have HC := hidOf (l9Copy_any M v U0 (hI.keep B0) hm)
 obtain ⟨p0, p1, p2, p3, p4, p5, p6, p7⟩ := box8 A0
 have HI := hidOf hI
 have HM := hidOf hm
 have HM1 := hidOf hm1
 have HK := hidOf (fun (u : World) (hu : RIn u M v) => specRingOk_any M v u hu hm1 hcap hw)
 have hml := hm.l
 have hmg := hm.g
 have HZ0 := hidOf z0
 clear hI hm hm1 hcap hw hid z0
 go_enter Tryz.func63, Tryz.ntmps63
 go_upto_region 1 with fail
 rw [← hU0]
 clear hU0
 generalize hN1 : w.heap.size + 1 = N1 at R0 T0 ⊢
 generalize hN2 : N1 + 1 = N2 at T0 ⊢
 have HN12 := hidOf (show N1 ≠ N2 ∧ N2 ≠ N1 by omega)
 have HN0 := hidOf (show N1 = w.heap.size + 1 ∧ N2 = w.heap.size + 2 by omega)
 have n12 : ¬ N1 = N2 := HN12.out.1
 have n21 : ¬ N2 = N1 := HN12.out.2
 clear hN1 hN2
 go_wp2_with fail
 refine (HC.out).mono ?_
 rintro e w1 ⟨M1, rfl, row1, le1, b1⟩
 rw [HZ0.out] at row1
 obtain ⟨U1, hU1⟩ : ∃ W, w1.alloc (.cells #[.int .i64 v.cp, .int .i64 v.se, .slice M1.ia M1.i M1.ic, .int .i64 v.nx, .slice M1.sa M1.s M1.sc, .slice M1.la M1.l M1.lc, .slice M1.ga M1.g M1.gc, .bool v.cl] 28) = W := ⟨_, rfl⟩
 have ba : Below w1.heap.size w1 U1 := by rw [← hU1]; exact bl_alloc (Below.refl _ _) _
 have A2 := (A0.keep b1).keep ba
 have R2 := (R0.keep b1).keep ba
 have T2 := (T0.keep b1).keep ba
 have K2 : BoxL w1.heap.size (rC M1 v) U1 := by rw [← hU1]; exact BoxL.new w1 (rC M1 v) _
 have row3 := row1.keep ba
 have B2 := bl_trans (bl_trans B0 b1) ba
 have HLe := hidOf (le1 _ HM1.out)
 have HNb := hidOf (show some w1.heap.size ∉ blkR M1 from row1.new (Nat.le_refl _))
 have HNge := hidOf (show w.heap.size + 3 ≤ w1.heap.size by have h := b1.size; have h2 := HZ0.out; omega)
 have HK1 := hidOf (HK.out U1 (HI.out.keep B2))
 obtain ⟨q, hq⟩ : ∃ q, okR restR v = q := ⟨_, rfl⟩
 rw [hq] at HK1
 have HQ := hidOf hq
 clear A0 R0 T0 p0 p1 p2 p3 p4 p5 p6 p7 row1 b1 B0 HC hq
 obtain ⟨p0, p1, p2, p3, p4, p5, p6, p7⟩ := box8 A2
 go_upto_region 2 with fail
 try rw [hU1]
 clear hU1
 generalize hNK : w1.heap.size = NK at K2 HNb HNge ⊢
 clear hNK
 go_wp2_with fail
 refine (HK1.out).mono ?_
 rintro e w4 ⟨rfl, b4⟩
 have A4 := A2.keep b4
 have R4 := R2.keep b4
 have T4 := T2.keep b4
 have K4 := K2.keep b4
 have row4 := row3.keep b4
 have B4 := bl_trans B2 b4
 clear A2 R2 T2 K2 row3 B2 b4 HK1 p0 p1 p2 p3 p4 p5 p6 p7 HK
 cases q
 ·skip
  obtain ⟨k0, k1, k2, k3, k4, k5, k6, k7⟩ := box8 K4
  obtain ⟨r0, r1, r2, r3, r4, r5, r6, r7⟩ := box8 R4
  have rf := R4.fr
  obtain ⟨u0, u1, u2, u3, u4, u5⟩ := box6 T4
  have uf := T4.fr
  obtain ⟨Z1, hZ1⟩ : ∃ Z, ((((((((w4.setCell ⟨N1, 0, none⟩ (.int .i64 v.cp)).setCell ⟨N1, 1, none⟩ (.int .i64 v.se)).setCell ⟨N1, 2, none⟩ (.slice M1.ia M1.i M1.ic)).setCell ⟨N1, 3, none⟩ (.int .i64 v.nx)).setCell ⟨N1, 4, none⟩ (.slice M1.sa M1.s M1.sc)).setCell ⟨N1, 5, none⟩ (.slice M1.la M1.l M1.lc)).setCell ⟨N1, 6, none⟩ (.slice M1.ga M1.g M1.gc)).setCell ⟨N1, 7, none⟩ (.bool v.cl)) = Z := ⟨_, rfl⟩
  have hZ1b : Z1 = setL w4 N1 0 [.int .i64 v.cp, .int .i64 v.se, .slice M1.ia M1.i M1.ic, .int .i64 v.nx, .slice M1.sa M1.s M1.sc, .slice M1.la M1.l M1.lc, .slice M1.ga M1.g M1.gc, .bool v.cl] := by rw [← hZ1]; rfl
  have TZ1 : BoxL N2 [.int .i64 0, .int .i64 0, .int .i64 0, .string ⟨#[]⟩, .int .i64 0, .int .i64 0] Z1 := by rw [hZ1b]; exact T4.setFar HN12.out.2
  obtain ⟨z0, z1, z2, z3, z4, z5⟩ := box6 TZ1
  have zf := TZ1.fr
  obtain ⟨Zz, hZ⟩ : ∃ Z, ((((((Z1.setCell ⟨N2, 0, none⟩ (.int .i64 0)).setCell ⟨N2, 1, none⟩ (.int .i64 0)).setCell ⟨N2, 2, none⟩ (.int .i64 0)).setCell ⟨N2, 3, none⟩ (.string ⟨#[]⟩)).setCell ⟨N2, 4, none⟩ (.int .i64 0)).setCell ⟨N2, 5, none⟩ (.int .i64 0)) = Z := ⟨_, rfl⟩
  have hZ2 : Zz = setL (setL w4 N1 0 [.int .i64 v.cp, .int .i64 v.se, .slice M1.ia M1.i M1.ic, .int .i64 v.nx, .slice M1.sa M1.s M1.sc, .slice M1.la M1.l M1.lc, .slice M1.ga M1.g M1.gc, .bool v.cl]) N2 0 [.int .i64 0, .int .i64 0, .int .i64 0, .string ⟨#[]⟩, .int .i64 0, .int .i64 0] := by rw [← hZ, hZ1b]; rfl
  have XZ : BoxL N1 [.int .i64 v.cp, .int .i64 v.se, .slice M1.ia M1.i M1.ic, .int .i64 v.nx, .slice M1.sa M1.s M1.sc, .slice M1.la M1.l M1.lc, .slice M1.ga M1.g M1.gc, .bool v.cl] Zz := by rw [hZ2]; exact (R4.setAll (us := [.int .i64 v.cp, .int .i64 v.se, .slice M1.ia M1.i M1.ic, .int .i64 v.nx, .slice M1.sa M1.s M1.sc, .slice M1.la M1.l M1.lc, .slice M1.ga M1.g M1.gc, .bool v.cl]) rfl).setFar HN12.out.1
  have TZ : BoxL N2 [.int .i64 0, .int .i64 0, .int .i64 0, .string ⟨#[]⟩, .int .i64 0, .int .i64 0] Zz := by rw [hZ2]; exact (T4.setFar HN12.out.2).setAll (us := [.int .i64 0, .int .i64 0, .int .i64 0, .string ⟨#[]⟩, .int .i64 0, .int .i64 0]) rfl
  obtain ⟨t0, t1, t2, t3, t4, t5, t6, t7⟩ := box8 XZ
  obtain ⟨o0, o1, o2, o3, o4, o5⟩ := box6 TZ
  have HD := hidOf (show RgDS w (proG v id) (proT v id) (proC v id) (.returned (.tuple #[.agg #[.int .i64 v.cp, .int .i64 v.se, .slice M1.ia M1.i M1.ic, .int .i64 v.nx, .slice M1.sa M1.s M1.sc, .slice M1.la M1.l M1.lc, .slice M1.ga M1.g M1.gc, .bool v.cl], .agg #[.int .i64 0, .int .i64 0, .int .i64 0, .string ⟨#[]⟩, .int .i64 0, .int .i64 0], .int .i64 1])) Zz by
   rw [show RgDS w (proG v id) (proT v id) (proC v id) = RgDS w v Td0 1 by unfold proG proT proC; rw [if_neg (by rw [HQ.out]; simp), if_neg (by rw [HQ.out]; simp), if_neg (by rw [HQ.out]; simp)]]
   rw [hZ2]
   have h := rgd_rowS (N1 := N1) (N2 := N2) (rs := [.int .i64 v.cp, .int .i64 v.se, .slice M1.ia M1.i M1.ic, .int .i64 v.nx, .slice M1.sa M1.s M1.sc, .slice M1.la M1.l M1.lc, .slice M1.ga M1.g M1.gc, .bool v.cl]) (ts := [.int .i64 0, .int .i64 0, .int .i64 0, .string ⟨#[]⟩, .int .i64 0, .int .i64 0]) row4 HN0.out.1 HN0.out.2 B4
   exact ⟨M1, rfl, h.1, HLe.out.mono (by omega), h.2⟩)
  clear hZ2 XZ TZ TZ1 hZ1b R4 T4
  go_wp2_with fail
  try clear hZ
  try clear hZ1
  exact bodyPost_ret (v := .tuple #[.agg #[.int .i64 v.cp, .int .i64 v.se, .slice M1.ia M1.i M1.ic, .int .i64 v.nx, .slice M1.sa M1.s M1.sc, .slice M1.la M1.l M1.lc, .slice M1.ga M1.g M1.gc, .bool v.cl], .agg #[.int .i64 0, .int .i64 0, .int .i64 0, .string ⟨#[]⟩, .int .i64 0, .int .i64 0], .int .i64 1]) (by simp [results, Tryz.results63, go_sem, t0, t1, t2, t3, t4, t5, t6, t7, o0, o1, o2, o3, o4, o5]) rfl HD.out
 have p5 : w4.cell? ⟨w.heap.size, 5, none⟩ = some (.slice M.la M.l M.lc) := A4.cs 5 (by simp)
 have p6 : w4.cell? ⟨w.heap.size, 6, none⟩ = some (.slice M.ga M.g M.gc) := A4.cs 6 (by simp)
 have H1 := hidOf (l2Has_any M.la M.l M.lc v.ln id w4 (HI.out.keep B4).ln hml)
 have H2 := hidOf (l2Has_any M.ga M.g M.gc v.gs id w4 (HI.out.keep B4).gs hmg)
 obtain ⟨a, ha⟩ : ∃ a, hasL v.ln id = a := ⟨_, rfl⟩
 obtain ⟨bb, hb⟩ : ∃ b, hasL v.gs id = b := ⟨_, rfl⟩
 rw [ha] at H1
 rw [hb] at H2
 have HHa := hidOf ha
 have HHb := hidOf hb
 clear ha hb
 go_wp2_with fail
 refine (H1.out).mono ?_
 rintro e w' ⟨rfl, hww⟩
 obtain rfl : w4 = w' := hww.symm
 cases a
 case true =>
  skip
  obtain ⟨k0, k1, k2, k3, k4, k5, k6, k7⟩ := box8 K4
  obtain ⟨r0, r1, r2, r3, r4, r5, r6, r7⟩ := box8 R4
  have rf := R4.fr
  obtain ⟨u0, u1, u2, u3, u4, u5⟩ := box6 T4
  have uf := T4.fr
  obtain ⟨Z1, hZ1⟩ : ∃ Z, ((((((((w4.setCell ⟨N1, 0, none⟩ (.int .i64 v.cp)).setCell ⟨N1, 1, none⟩ (.int .i64 v.se)).setCell ⟨N1, 2, none⟩ (.slice M1.ia M1.i M1.ic)).setCell ⟨N1, 3, none⟩ (.int .i64 v.nx)).setCell ⟨N1, 4, none⟩ (.slice M1.sa M1.s M1.sc)).setCell ⟨N1, 5, none⟩ (.slice M1.la M1.l M1.lc)).setCell ⟨N1, 6, none⟩ (.slice M1.ga M1.g M1.gc)).setCell ⟨N1, 7, none⟩ (.bool v.cl)) = Z := ⟨_, rfl⟩
  have hZ1b : Z1 = setL w4 N1 0 [.int .i64 v.cp, .int .i64 v.se, .slice M1.ia M1.i M1.ic, .int .i64 v.nx, .slice M1.sa M1.s M1.sc, .slice M1.la M1.l M1.lc, .slice M1.ga M1.g M1.gc, .bool v.cl] := by rw [← hZ1]; rfl
  have TZ1 : BoxL N2 [.int .i64 0, .int .i64 0, .int .i64 0, .string ⟨#[]⟩, .int .i64 0, .int .i64 0] Z1 := by rw [hZ1b]; exact T4.setFar HN12.out.2
  obtain ⟨z0, z1, z2, z3, z4, z5⟩ := box6 TZ1
  have zf := TZ1.fr
  obtain ⟨Zz, hZ⟩ : ∃ Z, ((((((Z1.setCell ⟨N2, 0, none⟩ (.int .i64 0)).setCell ⟨N2, 1, none⟩ (.int .i64 0)).setCell ⟨N2, 2, none⟩ (.int .i64 0)).setCell ⟨N2, 3, none⟩ (.string ⟨#[]⟩)).setCell ⟨N2, 4, none⟩ (.int .i64 0)).setCell ⟨N2, 5, none⟩ (.int .i64 0)) = Z := ⟨_, rfl⟩
  have hZ2 : Zz = setL (setL w4 N1 0 [.int .i64 v.cp, .int .i64 v.se, .slice M1.ia M1.i M1.ic, .int .i64 v.nx, .slice M1.sa M1.s M1.sc, .slice M1.la M1.l M1.lc, .slice M1.ga M1.g M1.gc, .bool v.cl]) N2 0 [.int .i64 0, .int .i64 0, .int .i64 0, .string ⟨#[]⟩, .int .i64 0, .int .i64 0] := by rw [← hZ, hZ1b]; rfl
  have XZ : BoxL N1 [.int .i64 v.cp, .int .i64 v.se, .slice M1.ia M1.i M1.ic, .int .i64 v.nx, .slice M1.sa M1.s M1.sc, .slice M1.la M1.l M1.lc, .slice M1.ga M1.g M1.gc, .bool v.cl] Zz := by rw [hZ2]; exact (R4.setAll (us := [.int .i64 v.cp, .int .i64 v.se, .slice M1.ia M1.i M1.ic, .int .i64 v.nx, .slice M1.sa M1.s M1.sc, .slice M1.la M1.l M1.lc, .slice M1.ga M1.g M1.gc, .bool v.cl]) rfl).setFar HN12.out.1
  have TZ : BoxL N2 [.int .i64 0, .int .i64 0, .int .i64 0, .string ⟨#[]⟩, .int .i64 0, .int .i64 0] Zz := by rw [hZ2]; exact (T4.setFar HN12.out.2).setAll (us := [.int .i64 0, .int .i64 0, .int .i64 0, .string ⟨#[]⟩, .int .i64 0, .int .i64 0]) rfl
  obtain ⟨t0, t1, t2, t3, t4, t5, t6, t7⟩ := box8 XZ
  obtain ⟨o0, o1, o2, o3, o4, o5⟩ := box6 TZ
  have HD := hidOf (show RgDS w (proG v id) (proT v id) (proC v id) (.returned (.tuple #[.agg #[.int .i64 v.cp, .int .i64 v.se, .slice M1.ia M1.i M1.ic, .int .i64 v.nx, .slice M1.sa M1.s M1.sc, .slice M1.la M1.l M1.lc, .slice M1.ga M1.g M1.gc, .bool v.cl], .agg #[.int .i64 0, .int .i64 0, .int .i64 0, .string ⟨#[]⟩, .int .i64 0, .int .i64 0], .int .i64 4])) Zz by
   rw [show RgDS w (proG v id) (proT v id) (proC v id) = RgDS w v Td0 4 by unfold proG proT proC; rw [if_pos HQ.out, if_pos HQ.out, if_pos HQ.out, if_pos HHa.out, if_pos HHa.out, if_pos HHa.out]]
   rw [hZ2]
   have h := rgd_rowS (N1 := N1) (N2 := N2) (rs := [.int .i64 v.cp, .int .i64 v.se, .slice M1.ia M1.i M1.ic, .int .i64 v.nx, .slice M1.sa M1.s M1.sc, .slice M1.la M1.l M1.lc, .slice M1.ga M1.g M1.gc, .bool v.cl]) (ts := [.int .i64 0, .int .i64 0, .int .i64 0, .string ⟨#[]⟩, .int .i64 0, .int .i64 0]) row4 HN0.out.1 HN0.out.2 B4
   exact ⟨M1, rfl, h.1, HLe.out.mono (by omega), h.2⟩)
  clear hZ2 XZ TZ TZ1 hZ1b R4 T4
  go_wp2_with fail
  try clear hZ
  try clear hZ1
  exact bodyPost_ret (v := .tuple #[.agg #[.int .i64 v.cp, .int .i64 v.se, .slice M1.ia M1.i M1.ic, .int .i64 v.nx, .slice M1.sa M1.s M1.sc, .slice M1.la M1.l M1.lc, .slice M1.ga M1.g M1.gc, .bool v.cl], .agg #[.int .i64 0, .int .i64 0, .int .i64 0, .string ⟨#[]⟩, .int .i64 0, .int .i64 0], .int .i64 4]) (by simp [results, Tryz.results63, go_sem, t0, t1, t2, t3, t4, t5, t6, t7, o0, o1, o2, o3, o4, o5]) rfl HD.out
 go_wp2_with fail
 refine (H2.out).mono ?_
 rintro e w' ⟨rfl, hww⟩
 obtain rfl : w4 = w' := hww.symm
 cases bb
 case false =>
  skip
  obtain ⟨k0, k1, k2, k3, k4, k5, k6, k7⟩ := box8 K4
  obtain ⟨r0, r1, r2, r3, r4, r5, r6, r7⟩ := box8 R4
  have rf := R4.fr
  obtain ⟨u0, u1, u2, u3, u4, u5⟩ := box6 T4
  have uf := T4.fr
  obtain ⟨Z1, hZ1⟩ : ∃ Z, ((((((((w4.setCell ⟨N1, 0, none⟩ (.int .i64 v.cp)).setCell ⟨N1, 1, none⟩ (.int .i64 v.se)).setCell ⟨N1, 2, none⟩ (.slice M1.ia M1.i M1.ic)).setCell ⟨N1, 3, none⟩ (.int .i64 v.nx)).setCell ⟨N1, 4, none⟩ (.slice M1.sa M1.s M1.sc)).setCell ⟨N1, 5, none⟩ (.slice M1.la M1.l M1.lc)).setCell ⟨N1, 6, none⟩ (.slice M1.ga M1.g M1.gc)).setCell ⟨N1, 7, none⟩ (.bool v.cl)) = Z := ⟨_, rfl⟩
  have hZ1b : Z1 = setL w4 N1 0 [.int .i64 v.cp, .int .i64 v.se, .slice M1.ia M1.i M1.ic, .int .i64 v.nx, .slice M1.sa M1.s M1.sc, .slice M1.la M1.l M1.lc, .slice M1.ga M1.g M1.gc, .bool v.cl] := by rw [← hZ1]; rfl
  have TZ1 : BoxL N2 [.int .i64 0, .int .i64 0, .int .i64 0, .string ⟨#[]⟩, .int .i64 0, .int .i64 0] Z1 := by rw [hZ1b]; exact T4.setFar HN12.out.2
  obtain ⟨z0, z1, z2, z3, z4, z5⟩ := box6 TZ1
  have zf := TZ1.fr
  obtain ⟨Zz, hZ⟩ : ∃ Z, ((((((Z1.setCell ⟨N2, 0, none⟩ (.int .i64 0)).setCell ⟨N2, 1, none⟩ (.int .i64 0)).setCell ⟨N2, 2, none⟩ (.int .i64 0)).setCell ⟨N2, 3, none⟩ (.string ⟨#[]⟩)).setCell ⟨N2, 4, none⟩ (.int .i64 0)).setCell ⟨N2, 5, none⟩ (.int .i64 0)) = Z := ⟨_, rfl⟩
  have hZ2 : Zz = setL (setL w4 N1 0 [.int .i64 v.cp, .int .i64 v.se, .slice M1.ia M1.i M1.ic, .int .i64 v.nx, .slice M1.sa M1.s M1.sc, .slice M1.la M1.l M1.lc, .slice M1.ga M1.g M1.gc, .bool v.cl]) N2 0 [.int .i64 0, .int .i64 0, .int .i64 0, .string ⟨#[]⟩, .int .i64 0, .int .i64 0] := by rw [← hZ, hZ1b]; rfl
  have XZ : BoxL N1 [.int .i64 v.cp, .int .i64 v.se, .slice M1.ia M1.i M1.ic, .int .i64 v.nx, .slice M1.sa M1.s M1.sc, .slice M1.la M1.l M1.lc, .slice M1.ga M1.g M1.gc, .bool v.cl] Zz := by rw [hZ2]; exact (R4.setAll (us := [.int .i64 v.cp, .int .i64 v.se, .slice M1.ia M1.i M1.ic, .int .i64 v.nx, .slice M1.sa M1.s M1.sc, .slice M1.la M1.l M1.lc, .slice M1.ga M1.g M1.gc, .bool v.cl]) rfl).setFar HN12.out.1
  have TZ : BoxL N2 [.int .i64 0, .int .i64 0, .int .i64 0, .string ⟨#[]⟩, .int .i64 0, .int .i64 0] Zz := by rw [hZ2]; exact (T4.setFar HN12.out.2).setAll (us := [.int .i64 0, .int .i64 0, .int .i64 0, .string ⟨#[]⟩, .int .i64 0, .int .i64 0]) rfl
  obtain ⟨t0, t1, t2, t3, t4, t5, t6, t7⟩ := box8 XZ
  obtain ⟨o0, o1, o2, o3, o4, o5⟩ := box6 TZ
  have HD := hidOf (show RgDS w (proG v id) (proT v id) (proC v id) (.returned (.tuple #[.agg #[.int .i64 v.cp, .int .i64 v.se, .slice M1.ia M1.i M1.ic, .int .i64 v.nx, .slice M1.sa M1.s M1.sc, .slice M1.la M1.l M1.lc, .slice M1.ga M1.g M1.gc, .bool v.cl], .agg #[.int .i64 0, .int .i64 0, .int .i64 0, .string ⟨#[]⟩, .int .i64 0, .int .i64 0], .int .i64 3])) Zz by
   rw [show RgDS w (proG v id) (proT v id) (proC v id) = RgDS w v Td0 3 by have hn : ¬ hasL v.ln id = true := (by rw [HHa.out]; simp); have hn2 : ¬ hasL v.gs id = true := (by rw [HHb.out]; simp); unfold proG proT proC; rw [if_pos HQ.out, if_pos HQ.out, if_pos HQ.out, if_neg hn, if_neg hn, if_neg hn, if_neg hn2, if_neg hn2, if_neg hn2]]
   rw [hZ2]
   have h := rgd_rowS (N1 := N1) (N2 := N2) (rs := [.int .i64 v.cp, .int .i64 v.se, .slice M1.ia M1.i M1.ic, .int .i64 v.nx, .slice M1.sa M1.s M1.sc, .slice M1.la M1.l M1.lc, .slice M1.ga M1.g M1.gc, .bool v.cl]) (ts := [.int .i64 0, .int .i64 0, .int .i64 0, .string ⟨#[]⟩, .int .i64 0, .int .i64 0]) row4 HN0.out.1 HN0.out.2 B4
   exact ⟨M1, rfl, h.1, HLe.out.mono (by omega), h.2⟩)
  clear hZ2 XZ TZ TZ1 hZ1b R4 T4
  go_wp2_with fail
  try clear hZ
  try clear hZ1
  exact bodyPost_ret (v := .tuple #[.agg #[.int .i64 v.cp, .int .i64 v.se, .slice M1.ia M1.i M1.ic, .int .i64 v.nx, .slice M1.sa M1.s M1.sc, .slice M1.la M1.l M1.lc, .slice M1.ga M1.g M1.gc, .bool v.cl], .agg #[.int .i64 0, .int .i64 0, .int .i64 0, .string ⟨#[]⟩, .int .i64 0, .int .i64 0], .int .i64 3]) (by simp [results, Tryz.results63, go_sem, t0, t1, t2, t3, t4, t5, t6, t7, o0, o1, o2, o3, o4, o5]) rfl HD.out
 have hA := at_has HQ.out HHb.out
 obtain ⟨hlt, hkI⟩ := at_lt hA
 obtain ⟨k, hkk⟩ : ∃ k, (atR v.sb id).toNat = k := ⟨_, rfl⟩
 rw [hkk] at hlt hkI
 have C5 := hidOf (l2Less_any M.ga M.g M.gc v.gs id w4 (HI.out.keep B4).gs hmg)
 go_wp2_with fail
 refine (C5.out).mono ?_
 rintro e w5 ⟨g5, m5, c5, rfl, o5, b5⟩
 obtain ⟨U5, hU5⟩ : ∃ W, w5.setCell ⟨NK, 6, none⟩ (.slice (some ⟨g5, 0, none⟩) m5 c5) = W := ⟨_, rfl⟩
 have Y5 := K4.keep b5
 have g5p := owns_parts o5
 obtain ⟨M5, hM5⟩ : ∃ M5 : Rm, M5 = { M1 with ga := some ⟨g5, 0, none⟩, g := m5, gc := c5 } := ⟨_, rfl⟩
 obtain ⟨v5, hv5⟩ : ∃ v5 : Rv, v5 = { v with gs := lessL v.gs id } := ⟨_, rfl⟩
 have K5 : BoxL NK (rC M5 v5) U5 := by rw [← hU5, hM5, hv5]; exact Y5.set 6 (by simp) _
 have R5 : BoxL N1 [.int .i64 0, .int .i64 0, .slice none 0 0, .int .i64 0, .slice none 0 0, .slice none 0 0, .slice none 0 0, .bool false] U5 := by rw [← hU5]; exact (R4.keep b5).far _ _ (by have h := HNge.out; have h2 := HN0.out; omega) _
 have T5 : BoxL N2 [.int .i64 0, .int .i64 0, .int .i64 0, .string ⟨#[]⟩, .int .i64 0, .int .i64 0] U5 := by rw [← hU5]; exact (T4.keep b5).far _ _ (by have h := HNge.out; have h2 := HN0.out; omega) _
 have A5 : BoxL w.heap.size (rC M v) U5 := by rw [← hU5]; exact (A4.keep b5).far _ _ (by have h := HNge.out; omega) _
 have B5 : Below w.heap.size w U5 := by rw [← hU5]; exact bl_setB (bl_trans B4 b5) _ _ (by have h := HNge.out; omega) _
 have hw4 := K4.lt
 have hr5 : U5.ownsRow (w.heap.size + 3) 3 1 (.slice (some ⟨g5, 0, none⟩) m5 c5) m5 (intsV (lessL v.gs id)) := by
  rw [← hU5]
  exact rowG (rowM o5 (by have h := HNge.out; omega)) (grown_setC _ _ _ _) (fun q e e' => by
   injection e with e
   have e2 : g5 = q := by simpa [Value.ownBlock] using e'
   have h3 := g5p.2.1
   omega)
 have HRow5 := hidOf (show RRow (w.heap.size + 3) U5 M5 v5 by
  have h1 : RRow (w.heap.size + 3) U5 M1 v := by rw [← hU5]; exact (row4.keep b5).grown (grown_setC _ _ _ _) HNb.out
  rw [hM5, hv5]
  exact h1.grants hr5 (row4.new g5p.2.1))
 have HLe5 := hidOf (show RLe M5 1048576 by
  have h1 := HLe.out
  rw [hM5]
  refine ⟨h1.i, h1.s, h1.f, h1.l, ?_⟩
  have h2 := g5p.1
  have h3 := lessL_len v.gs id
  have h4 := (HI.out).gs.len
  have h5 := HM1.out.g
  show m5 ≤ 1048576
  omega)
 have HAt := hidOf (l9At_any M v id U5.drew (HI.out.keep B5.drew) HM.out)
 rw [hkI] at HAt
 have HIdk := hidOf (show (v5.sb.getD k Sb0).id = id by rw [hv5]; exact at_id hkI)
 have HOk5 := hidOf (show RdOk v5 k by rw [hv5]; exact rd_gs _ (ok_rd HQ.out hlt))
 obtain ⟨v7, hv7⟩ : ∃ v7, trimR (waitV v5 k id) = v7 := ⟨_, rfl⟩
 obtain ⟨td, htd⟩ : ∃ td, readT v5 (v5.sb.getD k Sb0) = td := ⟨_, rfl⟩
 obtain ⟨cd, hcd⟩ : ∃ cd, readC v5 (v5.sb.getD k Sb0) = cd := ⟨_, rfl⟩
 have HEl := hidOf (show RgDS w (proG v id) (proT v id) (proC v id) = RgDS w v7 td cd by
  have hn : ¬ hasL v.ln id = true := by rw [HHa.out]; simp
  unfold proG proT proC
  rw [if_pos HQ.out, if_pos HQ.out, if_pos HQ.out, if_neg hn, if_neg hn, if_neg hn, if_pos HHb.out, if_pos HHb.out, if_pos HHb.out, hkk, ← hv7, ← htd, ← hcd, hv5]
  rfl)
 have HV := hidOf (And.intro hv7 (And.intro htd hcd))
 have HM5 := hidOf hM5
 have y6 : w5.cell? ⟨NK, 6, none⟩ = some (.slice M1.ga M1.g M1.gc) := Y5.cs 6 (by simp)
 have yf := Y5.fr
 go_upto_region 9 with fail
 try rw [hU5]
 clear hU5 y6 yf Y5 K4 R4 T4 A4 row4 B4 b5 o5 g5p hr5 hw4 C5 hM5 hv5 hv7 htd hcd hlt hkI hkk hA p5 p6 H1 H2
 have hS5 : (fun u : World => u.cell? ⟨w.heap.size, 0, none⟩ = some (.int .i64 v.cp) ∧ u.cell? ⟨w.heap.size, 1, none⟩ = some (.int .i64 v.se) ∧ u.cell? ⟨w.heap.size, 2, none⟩ = some (.slice M.ia M.i M.ic) ∧ u.cell? ⟨w.heap.size, 3, none⟩ = some (.int .i64 v.nx) ∧ u.cell? ⟨w.heap.size, 4, none⟩ = some (.slice M.sa M.s M.sc) ∧ u.cell? ⟨w.heap.size, 5, none⟩ = some (.slice M.la M.l M.lc) ∧ u.cell? ⟨w.heap.size, 6, none⟩ = some (.slice M.ga M.g M.gc) ∧ u.cell? ⟨w.heap.size, 7, none⟩ = some (.bool v.cl)) U5 := ⟨A5.cs 0 (by simp), A5.cs 1 (by simp), A5.cs 2 (by simp), A5.cs 3 (by simp), A5.cs 4 (by simp), A5.cs 5 (by simp), A5.cs 6 (by simp), A5.cs 7 (by simp)⟩
 obtain ⟨k0, k1, k2, k3, k4, k5, k6, k7⟩ := box8 K5
 obtain ⟨kd0, kd1, kd2, kd3, kd4, kd5, kd6, kd7⟩ := box8 (K5.keep (Below.refl _ _).drew)
 refine wp_region_noPanic ?_
 refine wp_region_held_drew (S := fun u => u.cell? ⟨w.heap.size, 0, none⟩ = some (.int .i64 v.cp) ∧ u.cell? ⟨w.heap.size, 1, none⟩ = some (.int .i64 v.se) ∧ u.cell? ⟨w.heap.size, 2, none⟩ = some (.slice M.ia M.i M.ic) ∧ u.cell? ⟨w.heap.size, 3, none⟩ = some (.int .i64 v.nx) ∧ u.cell? ⟨w.heap.size, 4, none⟩ = some (.slice M.sa M.s M.sc) ∧ u.cell? ⟨w.heap.size, 5, none⟩ = some (.slice M.la M.l M.lc) ∧ u.cell? ⟨w.heap.size, 6, none⟩ = some (.slice M.ga M.g M.gc) ∧ u.cell? ⟨w.heap.size, 7, none⟩ = some (.bool v.cl)) (by kernel_rfl) hS5 (fun hHeld => ?_)
 refine tR 1 ?_
 refine tR 2 ?_
 refine wpAnyH_ready (rs := [0, 3]) (by kernel_rfl) (by simp) ?_
 refine AllReadyH.cons rfl (fun K hK => ?_) (AllReadyH.cons rfl (fun K hK => ?_) AllReadyH.nil)
 ·skip
  go_simp
  refine hK.out _ _ hHeld (fun hHeld => ?_)
  clear hK K
  refine tW 3 (fun K hK => ?_)
  go_simp
  refine (HAt.out).mono ?_
  rintro e w6 ⟨rfl, b6⟩
  go_wp2_with fail
  have A6 := (A5.keep (Below.refl _ _).drew).keep b6
  have R6 := (R5.keep (Below.refl _ _).drew).keep b6
  have T6 := (T5.keep (Below.refl _ _).drew).keep b6
  have K6 := (K5.keep (Below.refl _ _).drew).keep b6
  have B6 := bl_trans B5.drew b6
  have HRs := hidOf (l9Reads_any (w.heap.size + 3) M5 v5 k id w6 ((HRow5.out.keep (Below.refl _ _).drew).keep b6) (by have h := R6.lt; have h2 := T6.lt; have h3 := HN0.out; omega) HIdk.out HOk5.out HLe5.out)
  have hS6 : (fun u : World => u.cell? ⟨w.heap.size, 0, none⟩ = some (.int .i64 v.cp) ∧ u.cell? ⟨w.heap.size, 1, none⟩ = some (.int .i64 v.se) ∧ u.cell? ⟨w.heap.size, 2, none⟩ = some (.slice M.ia M.i M.ic) ∧ u.cell? ⟨w.heap.size, 3, none⟩ = some (.int .i64 v.nx) ∧ u.cell? ⟨w.heap.size, 4, none⟩ = some (.slice M.sa M.s M.sc) ∧ u.cell? ⟨w.heap.size, 5, none⟩ = some (.slice M.la M.l M.lc) ∧ u.cell? ⟨w.heap.size, 6, none⟩ = some (.slice M.ga M.g M.gc) ∧ u.cell? ⟨w.heap.size, 7, none⟩ = some (.bool v.cl)) w6 := ⟨A6.cs 0 (by simp), A6.cs 1 (by simp), A6.cs 2 (by simp), A6.cs 3 (by simp), A6.cs 4 (by simp), A6.cs 5 (by simp), A6.cs 6 (by simp), A6.cs 7 (by simp)⟩
  obtain ⟨j0, j1, j2, j3, j4, j5, j6, j7⟩ := box8 K6
  refine hK.out _ _ hS6 (fun hHeld => ?_)
  clear hK K
  refine tW 4 (fun K hK => ?_)
  go_simp
  refine (HRs.out).mono ?_
  rintro e w7 ⟨M7, he7, row7, le7, b7⟩
  rw [HV.out.1, HV.out.2.1, HV.out.2.2] at he7
  rw [HV.out.1] at row7
  subst he7
  go_wp2_with fail
  have B7 : Below w.heap.size w w7 := B6.trans (b7.mono (by omega))
  have R7 := R6.below b7 (by have h := HN0.out; omega)
  have U7 := T6.below b7 (by have h := HN0.out; omega)
  have A7 := A6.below b7 (by omega)
  have hS7 : (fun u : World => u.cell? ⟨w.heap.size, 0, none⟩ = some (.int .i64 v.cp) ∧ u.cell? ⟨w.heap.size, 1, none⟩ = some (.int .i64 v.se) ∧ u.cell? ⟨w.heap.size, 2, none⟩ = some (.slice M.ia M.i M.ic) ∧ u.cell? ⟨w.heap.size, 3, none⟩ = some (.int .i64 v.nx) ∧ u.cell? ⟨w.heap.size, 4, none⟩ = some (.slice M.sa M.s M.sc) ∧ u.cell? ⟨w.heap.size, 5, none⟩ = some (.slice M.la M.l M.lc) ∧ u.cell? ⟨w.heap.size, 6, none⟩ = some (.slice M.ga M.g M.gc) ∧ u.cell? ⟨w.heap.size, 7, none⟩ = some (.bool v.cl)) w7 := ⟨A7.cs 0 (by simp), A7.cs 1 (by simp), A7.cs 2 (by simp), A7.cs 3 (by simp), A7.cs 4 (by simp), A7.cs 5 (by simp), A7.cs 6 (by simp), A7.cs 7 (by simp)⟩
  obtain ⟨r0, r1, r2, r3, r4, r5, r6, r7⟩ := box8 R7
  have rf := R7.fr
  obtain ⟨u0, u1, u2, u3, u4, u5⟩ := box6 U7
  have uf := U7.fr
  obtain ⟨Z1, hZ1⟩ : ∃ Z, ((((((((w7.setCell ⟨N1, 0, none⟩ (.int .i64 v7.cp)).setCell ⟨N1, 1, none⟩ (.int .i64 v7.se)).setCell ⟨N1, 2, none⟩ (.slice M7.ia M7.i M7.ic)).setCell ⟨N1, 3, none⟩ (.int .i64 v7.nx)).setCell ⟨N1, 4, none⟩ (.slice M7.sa M7.s M7.sc)).setCell ⟨N1, 5, none⟩ (.slice M7.la M7.l M7.lc)).setCell ⟨N1, 6, none⟩ (.slice M7.ga M7.g M7.gc)).setCell ⟨N1, 7, none⟩ (.bool v7.cl)) = Z := ⟨_, rfl⟩
  have hZ1b : Z1 = setL w7 N1 0 [.int .i64 v7.cp, .int .i64 v7.se, .slice M7.ia M7.i M7.ic, .int .i64 v7.nx, .slice M7.sa M7.s M7.sc, .slice M7.la M7.l M7.lc, .slice M7.ga M7.g M7.gc, .bool v7.cl] := by rw [← hZ1]; rfl
  have TZ1 : BoxL N2 [.int .i64 0, .int .i64 0, .int .i64 0, .string ⟨#[]⟩, .int .i64 0, .int .i64 0] Z1 := by rw [hZ1b]; exact U7.setFar HN12.out.2
  obtain ⟨z0, z1, z2, z3, z4, z5⟩ := box6 TZ1
  have zf := TZ1.fr
  obtain ⟨Zz, hZ⟩ : ∃ Z, ((((((Z1.setCell ⟨N2, 0, none⟩ (.int .i64 td.kd)).setCell ⟨N2, 1, none⟩ (.int .i64 td.ms.1)).setCell ⟨N2, 2, none⟩ (.int .i64 td.ms.2.1)).setCell ⟨N2, 3, none⟩ (.string td.ms.2.2)).setCell ⟨N2, 4, none⟩ (.int .i64 td.ix)).setCell ⟨N2, 5, none⟩ (.int .i64 td.n)) = Z := ⟨_, rfl⟩
  have hZ2 : Zz = setL (setL w7 N1 0 [.int .i64 v7.cp, .int .i64 v7.se, .slice M7.ia M7.i M7.ic, .int .i64 v7.nx, .slice M7.sa M7.s M7.sc, .slice M7.la M7.l M7.lc, .slice M7.ga M7.g M7.gc, .bool v7.cl]) N2 0 [.int .i64 td.kd, .int .i64 td.ms.1, .int .i64 td.ms.2.1, .string td.ms.2.2, .int .i64 td.ix, .int .i64 td.n] := by rw [← hZ, hZ1b]; rfl
  have XZ : BoxL N1 [.int .i64 v7.cp, .int .i64 v7.se, .slice M7.ia M7.i M7.ic, .int .i64 v7.nx, .slice M7.sa M7.s M7.sc, .slice M7.la M7.l M7.lc, .slice M7.ga M7.g M7.gc, .bool v7.cl] Zz := by rw [hZ2]; exact (R7.setAll (us := [.int .i64 v7.cp, .int .i64 v7.se, .slice M7.ia M7.i M7.ic, .int .i64 v7.nx, .slice M7.sa M7.s M7.sc, .slice M7.la M7.l M7.lc, .slice M7.ga M7.g M7.gc, .bool v7.cl]) rfl).setFar HN12.out.1
  have TZ : BoxL N2 [.int .i64 td.kd, .int .i64 td.ms.1, .int .i64 td.ms.2.1, .string td.ms.2.2, .int .i64 td.ix, .int .i64 td.n] Zz := by rw [hZ2]; exact (U7.setFar HN12.out.2).setAll (us := [.int .i64 td.kd, .int .i64 td.ms.1, .int .i64 td.ms.2.1, .string td.ms.2.2, .int .i64 td.ix, .int .i64 td.n]) rfl
  obtain ⟨t0, t1, t2, t3, t4, t5, t6, t7⟩ := box8 XZ
  obtain ⟨o0, o1, o2, o3, o4, o5⟩ := box6 TZ
  have A8 : BoxL w.heap.size (rC M v) Z1 := by rw [hZ1b]; exact A7.setFar (by have h := HN0.out; omega)
  have hS8 : (fun u : World => u.cell? ⟨w.heap.size, 0, none⟩ = some (.int .i64 v.cp) ∧ u.cell? ⟨w.heap.size, 1, none⟩ = some (.int .i64 v.se) ∧ u.cell? ⟨w.heap.size, 2, none⟩ = some (.slice M.ia M.i M.ic) ∧ u.cell? ⟨w.heap.size, 3, none⟩ = some (.int .i64 v.nx) ∧ u.cell? ⟨w.heap.size, 4, none⟩ = some (.slice M.sa M.s M.sc) ∧ u.cell? ⟨w.heap.size, 5, none⟩ = some (.slice M.la M.l M.lc) ∧ u.cell? ⟨w.heap.size, 6, none⟩ = some (.slice M.ga M.g M.gc) ∧ u.cell? ⟨w.heap.size, 7, none⟩ = some (.bool v.cl)) Z1 := ⟨A8.cs 0 (by simp), A8.cs 1 (by simp), A8.cs 2 (by simp), A8.cs 3 (by simp), A8.cs 4 (by simp), A8.cs 5 (by simp), A8.cs 6 (by simp), A8.cs 7 (by simp)⟩
  have A9 : BoxL w.heap.size (rC M v) Zz := by rw [hZ2, ← hZ1b]; exact A8.setFar (by have h := HN0.out; omega)
  have hS9 : (fun u : World => u.cell? ⟨w.heap.size, 0, none⟩ = some (.int .i64 v.cp) ∧ u.cell? ⟨w.heap.size, 1, none⟩ = some (.int .i64 v.se) ∧ u.cell? ⟨w.heap.size, 2, none⟩ = some (.slice M.ia M.i M.ic) ∧ u.cell? ⟨w.heap.size, 3, none⟩ = some (.int .i64 v.nx) ∧ u.cell? ⟨w.heap.size, 4, none⟩ = some (.slice M.sa M.s M.sc) ∧ u.cell? ⟨w.heap.size, 5, none⟩ = some (.slice M.la M.l M.lc) ∧ u.cell? ⟨w.heap.size, 6, none⟩ = some (.slice M.ga M.g M.gc) ∧ u.cell? ⟨w.heap.size, 7, none⟩ = some (.bool v.cl)) Zz := ⟨A9.cs 0 (by simp), A9.cs 1 (by simp), A9.cs 2 (by simp), A9.cs 3 (by simp), A9.cs 4 (by simp), A9.cs 5 (by simp), A9.cs 6 (by simp), A9.cs 7 (by simp)⟩
  have HD := hidOf (show RgDS w (proG v id) (proT v id) (proC v id) (.returned (.tuple #[.agg #[.int .i64 v7.cp, .int .i64 v7.se, .slice M7.ia M7.i M7.ic, .int .i64 v7.nx, .slice M7.sa M7.s M7.sc, .slice M7.la M7.l M7.lc, .slice M7.ga M7.g M7.gc, .bool v7.cl], .agg #[.int .i64 td.kd, .int .i64 td.ms.1, .int .i64 td.ms.2.1, .string td.ms.2.2, .int .i64 td.ix, .int .i64 td.n], .int .i64 cd])) Zz by
   rw [HEl.out, hZ2]
   have h := rgd_rowS (N1 := N1) (N2 := N2) (rs := [.int .i64 v7.cp, .int .i64 v7.se, .slice M7.ia M7.i M7.ic, .int .i64 v7.nx, .slice M7.sa M7.s M7.sc, .slice M7.la M7.l M7.lc, .slice M7.ga M7.g M7.gc, .bool v7.cl]) (ts := [.int .i64 td.kd, .int .i64 td.ms.1, .int .i64 td.ms.2.1, .string td.ms.2.2, .int .i64 td.ix, .int .i64 td.n]) row7 HN0.out.1 HN0.out.2 B7
   exact ⟨M7, rfl, h.1, le7, h.2⟩)
  clear hZ2 XZ TZ TZ1 hZ1b R7 U7 A7 A8 A9
  refine hK.out _ _ hS7 (fun hHeld => ?_)
  clear hK K
  refine tR 5 ?_
  refine tR 6 ?_
  refine tR 7 ?_
  refine tW 8 (fun K hK => ?_)
  go_simp
  refine hK.out _ _ hS8 (fun hHeld => ?_)
  clear hK K
  refine tW 9 (fun K hK => ?_)
  go_simp
  refine hK.out _ _ hS9 (fun hHeld => ?_)
  clear hK K
  refine tR 10 ?_
  refine wpAnyH_done (by kernel_rfl) ?_ _
  refine NoPanic.normal ?_
  go_wp2_with fail
  exact bodyPost_ret (v := .tuple #[.agg #[.int .i64 v7.cp, .int .i64 v7.se, .slice M7.ia M7.i M7.ic, .int .i64 v7.nx, .slice M7.sa M7.s M7.sc, .slice M7.la M7.l M7.lc, .slice M7.ga M7.g M7.gc, .bool v7.cl], .agg #[.int .i64 td.kd, .int .i64 td.ms.1, .int .i64 td.ms.2.1, .string td.ms.2.2, .int .i64 td.ix, .int .i64 td.n], .int .i64 cd]) (by simp [results, Tryz.results63, go_sem, t0, t1, t2, t3, t4, t5, t6, t7, o0, o1, o2, o3, o4, o5]) rfl HD.out
 ·skip
  go_simp
  refine (HAt.out).mono ?_
  rintro e w6 ⟨rfl, b6⟩
  go_wp2_with fail
  have A6 := (A5.keep (Below.refl _ _).drew).keep b6
  have R6 := (R5.keep (Below.refl _ _).drew).keep b6
  have T6 := (T5.keep (Below.refl _ _).drew).keep b6
  have K6 := (K5.keep (Below.refl _ _).drew).keep b6
  have B6 := bl_trans B5.drew b6
  have HRs := hidOf (l9Reads_any (w.heap.size + 3) M5 v5 k id w6 ((HRow5.out.keep (Below.refl _ _).drew).keep b6) (by have h := R6.lt; have h2 := T6.lt; have h3 := HN0.out; omega) HIdk.out HOk5.out HLe5.out)
  have hS6 : (fun u : World => u.cell? ⟨w.heap.size, 0, none⟩ = some (.int .i64 v.cp) ∧ u.cell? ⟨w.heap.size, 1, none⟩ = some (.int .i64 v.se) ∧ u.cell? ⟨w.heap.size, 2, none⟩ = some (.slice M.ia M.i M.ic) ∧ u.cell? ⟨w.heap.size, 3, none⟩ = some (.int .i64 v.nx) ∧ u.cell? ⟨w.heap.size, 4, none⟩ = some (.slice M.sa M.s M.sc) ∧ u.cell? ⟨w.heap.size, 5, none⟩ = some (.slice M.la M.l M.lc) ∧ u.cell? ⟨w.heap.size, 6, none⟩ = some (.slice M.ga M.g M.gc) ∧ u.cell? ⟨w.heap.size, 7, none⟩ = some (.bool v.cl)) w6 := ⟨A6.cs 0 (by simp), A6.cs 1 (by simp), A6.cs 2 (by simp), A6.cs 3 (by simp), A6.cs 4 (by simp), A6.cs 5 (by simp), A6.cs 6 (by simp), A6.cs 7 (by simp)⟩
  obtain ⟨j0, j1, j2, j3, j4, j5, j6, j7⟩ := box8 K6
  refine hK.out _ _ hS6 (fun hHeld => ?_)
  clear hK K
  refine tW 0 (fun K hK => ?_)
  go_simp
  refine hK.out _ _ hHeld (fun hHeld => ?_)
  clear hK K
  refine tW 4 (fun K hK => ?_)
  go_simp
  refine (HRs.out).mono ?_
  rintro e w7 ⟨M7, he7, row7, le7, b7⟩
  rw [HV.out.1, HV.out.2.1, HV.out.2.2] at he7
  rw [HV.out.1] at row7
  subst he7
  go_wp2_with fail
  have B7 : Below w.heap.size w w7 := B6.trans (b7.mono (by omega))
  have R7 := R6.below b7 (by have h := HN0.out; omega)
  have U7 := T6.below b7 (by have h := HN0.out; omega)
  have A7 := A6.below b7 (by omega)
  have hS7 : (fun u : World => u.cell? ⟨w.heap.size, 0, none⟩ = some (.int .i64 v.cp) ∧ u.cell? ⟨w.heap.size, 1, none⟩ = some (.int .i64 v.se) ∧ u.cell? ⟨w.heap.size, 2, none⟩ = some (.slice M.ia M.i M.ic) ∧ u.cell? ⟨w.heap.size, 3, none⟩ = some (.int .i64 v.nx) ∧ u.cell? ⟨w.heap.size, 4, none⟩ = some (.slice M.sa M.s M.sc) ∧ u.cell? ⟨w.heap.size, 5, none⟩ = some (.slice M.la M.l M.lc) ∧ u.cell? ⟨w.heap.size, 6, none⟩ = some (.slice M.ga M.g M.gc) ∧ u.cell? ⟨w.heap.size, 7, none⟩ = some (.bool v.cl)) w7 := ⟨A7.cs 0 (by simp), A7.cs 1 (by simp), A7.cs 2 (by simp), A7.cs 3 (by simp), A7.cs 4 (by simp), A7.cs 5 (by simp), A7.cs 6 (by simp), A7.cs 7 (by simp)⟩
  obtain ⟨r0, r1, r2, r3, r4, r5, r6, r7⟩ := box8 R7
  have rf := R7.fr
  obtain ⟨u0, u1, u2, u3, u4, u5⟩ := box6 U7
  have uf := U7.fr
  obtain ⟨Z1, hZ1⟩ : ∃ Z, ((((((((w7.setCell ⟨N1, 0, none⟩ (.int .i64 v7.cp)).setCell ⟨N1, 1, none⟩ (.int .i64 v7.se)).setCell ⟨N1, 2, none⟩ (.slice M7.ia M7.i M7.ic)).setCell ⟨N1, 3, none⟩ (.int .i64 v7.nx)).setCell ⟨N1, 4, none⟩ (.slice M7.sa M7.s M7.sc)).setCell ⟨N1, 5, none⟩ (.slice M7.la M7.l M7.lc)).setCell ⟨N1, 6, none⟩ (.slice M7.ga M7.g M7.gc)).setCell ⟨N1, 7, none⟩ (.bool v7.cl)) = Z := ⟨_, rfl⟩
  have hZ1b : Z1 = setL w7 N1 0 [.int .i64 v7.cp, .int .i64 v7.se, .slice M7.ia M7.i M7.ic, .int .i64 v7.nx, .slice M7.sa M7.s M7.sc, .slice M7.la M7.l M7.lc, .slice M7.ga M7.g M7.gc, .bool v7.cl] := by rw [← hZ1]; rfl
  have TZ1 : BoxL N2 [.int .i64 0, .int .i64 0, .int .i64 0, .string ⟨#[]⟩, .int .i64 0, .int .i64 0] Z1 := by rw [hZ1b]; exact U7.setFar HN12.out.2
  obtain ⟨z0, z1, z2, z3, z4, z5⟩ := box6 TZ1
  have zf := TZ1.fr
  obtain ⟨Zz, hZ⟩ : ∃ Z, ((((((Z1.setCell ⟨N2, 0, none⟩ (.int .i64 td.kd)).setCell ⟨N2, 1, none⟩ (.int .i64 td.ms.1)).setCell ⟨N2, 2, none⟩ (.int .i64 td.ms.2.1)).setCell ⟨N2, 3, none⟩ (.string td.ms.2.2)).setCell ⟨N2, 4, none⟩ (.int .i64 td.ix)).setCell ⟨N2, 5, none⟩ (.int .i64 td.n)) = Z := ⟨_, rfl⟩
  have hZ2 : Zz = setL (setL w7 N1 0 [.int .i64 v7.cp, .int .i64 v7.se, .slice M7.ia M7.i M7.ic, .int .i64 v7.nx, .slice M7.sa M7.s M7.sc, .slice M7.la M7.l M7.lc, .slice M7.ga M7.g M7.gc, .bool v7.cl]) N2 0 [.int .i64 td.kd, .int .i64 td.ms.1, .int .i64 td.ms.2.1, .string td.ms.2.2, .int .i64 td.ix, .int .i64 td.n] := by rw [← hZ, hZ1b]; rfl
  have XZ : BoxL N1 [.int .i64 v7.cp, .int .i64 v7.se, .slice M7.ia M7.i M7.ic, .int .i64 v7.nx, .slice M7.sa M7.s M7.sc, .slice M7.la M7.l M7.lc, .slice M7.ga M7.g M7.gc, .bool v7.cl] Zz := by rw [hZ2]; exact (R7.setAll (us := [.int .i64 v7.cp, .int .i64 v7.se, .slice M7.ia M7.i M7.ic, .int .i64 v7.nx, .slice M7.sa M7.s M7.sc, .slice M7.la M7.l M7.lc, .slice M7.ga M7.g M7.gc, .bool v7.cl]) rfl).setFar HN12.out.1
  have TZ : BoxL N2 [.int .i64 td.kd, .int .i64 td.ms.1, .int .i64 td.ms.2.1, .string td.ms.2.2, .int .i64 td.ix, .int .i64 td.n] Zz := by rw [hZ2]; exact (U7.setFar HN12.out.2).setAll (us := [.int .i64 td.kd, .int .i64 td.ms.1, .int .i64 td.ms.2.1, .string td.ms.2.2, .int .i64 td.ix, .int .i64 td.n]) rfl
  obtain ⟨t0, t1, t2, t3, t4, t5, t6, t7⟩ := box8 XZ
  obtain ⟨o0, o1, o2, o3, o4, o5⟩ := box6 TZ
  have A8 : BoxL w.heap.size (rC M v) Z1 := by rw [hZ1b]; exact A7.setFar (by have h := HN0.out; omega)
  have hS8 : (fun u : World => u.cell? ⟨w.heap.size, 0, none⟩ = some (.int .i64 v.cp) ∧ u.cell? ⟨w.heap.size, 1, none⟩ = some (.int .i64 v.se) ∧ u.cell? ⟨w.heap.size, 2, none⟩ = some (.slice M.ia M.i M.ic) ∧ u.cell? ⟨w.heap.size, 3, none⟩ = some (.int .i64 v.nx) ∧ u.cell? ⟨w.heap.size, 4, none⟩ = some (.slice M.sa M.s M.sc) ∧ u.cell? ⟨w.heap.size, 5, none⟩ = some (.slice M.la M.l M.lc) ∧ u.cell? ⟨w.heap.size, 6, none⟩ = some (.slice M.ga M.g M.gc) ∧ u.cell? ⟨w.heap.size, 7, none⟩ = some (.bool v.cl)) Z1 := ⟨A8.cs 0 (by simp), A8.cs 1 (by simp), A8.cs 2 (by simp), A8.cs 3 (by simp), A8.cs 4 (by simp), A8.cs 5 (by simp), A8.cs 6 (by simp), A8.cs 7 (by simp)⟩
  have A9 : BoxL w.heap.size (rC M v) Zz := by rw [hZ2, ← hZ1b]; exact A8.setFar (by have h := HN0.out; omega)
  have hS9 : (fun u : World => u.cell? ⟨w.heap.size, 0, none⟩ = some (.int .i64 v.cp) ∧ u.cell? ⟨w.heap.size, 1, none⟩ = some (.int .i64 v.se) ∧ u.cell? ⟨w.heap.size, 2, none⟩ = some (.slice M.ia M.i M.ic) ∧ u.cell? ⟨w.heap.size, 3, none⟩ = some (.int .i64 v.nx) ∧ u.cell? ⟨w.heap.size, 4, none⟩ = some (.slice M.sa M.s M.sc) ∧ u.cell? ⟨w.heap.size, 5, none⟩ = some (.slice M.la M.l M.lc) ∧ u.cell? ⟨w.heap.size, 6, none⟩ = some (.slice M.ga M.g M.gc) ∧ u.cell? ⟨w.heap.size, 7, none⟩ = some (.bool v.cl)) Zz := ⟨A9.cs 0 (by simp), A9.cs 1 (by simp), A9.cs 2 (by simp), A9.cs 3 (by simp), A9.cs 4 (by simp), A9.cs 5 (by simp), A9.cs 6 (by simp), A9.cs 7 (by simp)⟩
  have HD := hidOf (show RgDS w (proG v id) (proT v id) (proC v id) (.returned (.tuple #[.agg #[.int .i64 v7.cp, .int .i64 v7.se, .slice M7.ia M7.i M7.ic, .int .i64 v7.nx, .slice M7.sa M7.s M7.sc, .slice M7.la M7.l M7.lc, .slice M7.ga M7.g M7.gc, .bool v7.cl], .agg #[.int .i64 td.kd, .int .i64 td.ms.1, .int .i64 td.ms.2.1, .string td.ms.2.2, .int .i64 td.ix, .int .i64 td.n], .int .i64 cd])) Zz by
   rw [HEl.out, hZ2]
   have h := rgd_rowS (N1 := N1) (N2 := N2) (rs := [.int .i64 v7.cp, .int .i64 v7.se, .slice M7.ia M7.i M7.ic, .int .i64 v7.nx, .slice M7.sa M7.s M7.sc, .slice M7.la M7.l M7.lc, .slice M7.ga M7.g M7.gc, .bool v7.cl]) (ts := [.int .i64 td.kd, .int .i64 td.ms.1, .int .i64 td.ms.2.1, .string td.ms.2.2, .int .i64 td.ix, .int .i64 td.n]) row7 HN0.out.1 HN0.out.2 B7
   exact ⟨M7, rfl, h.1, le7, h.2⟩)
  clear hZ2 XZ TZ TZ1 hZ1b R7 U7 A7 A8 A9
  refine hK.out _ _ hS7 (fun hHeld => ?_)
  clear hK K
  refine tR 5 ?_
  refine tR 6 ?_
  refine tR 7 ?_
  refine tW 8 (fun K hK => ?_)
  go_simp
  refine hK.out _ _ hS8 (fun hHeld => ?_)
  clear hK K
  refine tW 9 (fun K hK => ?_)
  go_simp
  refine hK.out _ _ hS9 (fun hHeld => ?_)
  clear hK K
  refine tR 10 ?_
  refine wpAnyH_done (by kernel_rfl) ?_ _
  refine NoPanic.normal ?_
  go_wp2_with fail
  exact bodyPost_ret (v := .tuple #[.agg #[.int .i64 v7.cp, .int .i64 v7.se, .slice M7.ia M7.i M7.ic, .int .i64 v7.nx, .slice M7.sa M7.s M7.sc, .slice M7.la M7.l M7.lc, .slice M7.ga M7.g M7.gc, .bool v7.cl], .agg #[.int .i64 td.kd, .int .i64 td.ms.1, .int .i64 td.ms.2.1, .string td.ms.2.2, .int .i64 td.ix, .int .i64 td.n], .int .i64 cd]) (by simp [results, Tryz.results63, go_sem, t0, t1, t2, t3, t4, t5, t6, t7, o0, o1, o2, o3, o4, o5]) rfl HD.out
end Go.Proofs.YtdboaoejlkkoeaaGreat
