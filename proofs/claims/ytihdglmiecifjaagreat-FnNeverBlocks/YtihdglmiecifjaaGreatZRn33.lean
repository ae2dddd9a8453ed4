/-
  The program's Send
-/
import Derived.Test.YtihdglmiecifjaaGreatZRn29
namespace Go.Proofs.YtihdglmiecifjaaGreat
open Go.RowKit Go.Maps Pl Il
theorem rgt_rowS {w U : World} {M : Rm} {v : Rv} {N1 : Nat} {rs : List Value} (row : RRow (w.heap.size + 3) U M v) (h1 : N1 = w.heap.size + 2) (hB : Below w.heap.size w U) : RRow w.heap.size (setL U N1 0 rs) M v ∧ Below w.heap.size w (setL U N1 0 rs) := by
  have r1 := row.grown (setL_grown (g := N1) (o := 0) (vs := rs) ⟨rfl, rfl, rfl, Nat.le_refl _, fun _ _ _ => rfl⟩) (row.out (by omega))
  exact ⟨(r1.mono (B' := w.heap.size) (by omega)), setL_below (by omega) hB⟩
theorem rgt_row {w U : World} {M : Rm} {v : Rv} {N1 : Nat} {rs : List Value} (row : RRow (w.heap.size + 3) U M v) (h1 : N1 = w.heap.size + 2) (hB : Below w.heap.size w U) : ROwn w.heap.size (setL U N1 0 rs) M v ∧ Below w.heap.size w (setL U N1 0 rs) := by
  obtain ⟨h3, h4⟩ := rgt_rowS (rs := rs) row h1 hB
  exact ⟨h3.own, h4⟩
theorem far_blkT {a a' : Option Addr} {n c n' c' : Nat} (h : ∀ q, (Value.slice a' n' c').ownBlock = some q → (Value.slice a n c).ownBlock ≠ some q) : Far a n a' n' := .inr (.inr fun b off b' off' e e' hbb => h b' (by rw [e']; rfl) (by rw [e, hbb]; rfl))
set_option maxRecDepth 100000 in
set_option maxHeartbeats 16000000 in
theorem implSend_any : SendDone 20 := by
 rintro M v ⟨m1, m2, m3⟩ w hI hm1 hcap hw hms hG
 have hm := hm1.mono (k' := 2097152) (by omega)
 obtain ⟨U0, hU0⟩ : ∃ W, W = ((w.alloc (.cells #[.int .i64 v.cp, .int .i64 v.se, .slice M.ia M.i M.ic, .int .i64 v.nx, .slice M.sa M.s M.sc, .slice M.la M.l M.lc, .slice M.ga M.g M.gc, .bool v.cl] 28)).alloc (.cells #[.int .i64 m1, .int .i64 m2, .string m3] 30)).alloc (.cells #[.int .i64 0, .int .i64 0, .slice none 0 0, .int .i64 0, .slice none 0 0, .slice none 0 0, .slice none 0 0, .bool false] 28) := ⟨_, rfl⟩
 have B0 : Below w.heap.size w U0 := by rw [hU0]; exact bl_alloc (bl_alloc (bl_alloc (Below.refl _ _) _) _) _
 have z0 : U0.heap.size = w.heap.size + 3 := by rw [hU0]; simp
 have A0 : BoxL w.heap.size (rC M v) U0 := by rw [hU0]; exact ((BoxL.new w (rC M v) _).alloc _).alloc _
 have X0 : BoxL (w.heap.size + 1) [.int .i64 m1, .int .i64 m2, .string m3] U0 := by rw [hU0]; exact (boxT1 w _ [.int .i64 m1, .int .i64 m2, .string m3] _).alloc _
 have R0 : BoxL (w.heap.size + 1 + 1) [.int .i64 0, .int .i64 0, .slice none 0 0, .int .i64 0, .slice none 0 0, .slice none 0 0, .slice none 0 0, .bool false] U0 := by rw [hU0]; exact boxT2 w _ _ [.int .i64 0, .int .i64 0, .slice none 0 0, .int .i64 0, .slice none 0 0, .slice none 0 0, .slice none 0 0, .bool false] _
 have HK := hidOf (implRingOk_any M v U0 (hI.keep B0) hm1 hcap hw)
 obtain ⟨p0, p1, p2, p3, p4, p5, p6, p7⟩ := box8 A0
 have HI := hidOf hI
 have HM := hidOf hm
 have HZ0 := hidOf z0
 have HG := hidOf hG
 have HCap := hidOf hcap
 have HMs := hidOf (show m3.size ≤ maxLen from hms)
 obtain ⟨q, hq⟩ : ∃ q, okR restR v = q := ⟨_, rfl⟩
 rw [hq] at HK
 have HQ := hidOf hq
 clear hI hm hm1 hcap hw hG z0 hq hms
 go_enter Tryz.func20, Tryz.ntmps20
 go_upto_region 1 with fail
 rw [← hU0]
 clear hU0
 generalize hNM : w.heap.size + 1 = NM at X0 R0 ⊢
 generalize hN1 : NM + 1 = N1 at R0 ⊢
 have HN0 := hidOf (show N1 = w.heap.size + 2 by omega)
 clear hN1 hNM
 go_wp2_with fail
 refine (HK.out).mono ?_
 rintro e w1 ⟨rfl, b1⟩
 have A1 := A0.keep b1
 have R1 := R0.keep b1
 have X1 := X0.keep b1
 have B1 := bl_trans B0 b1
 have hs1 : w.heap.size + 3 ≤ w1.heap.size := by have h := b1.size; have h2 := HZ0.out; omega
 clear A0 R0 X0 B0 b1 HK p0 p1 p2 p3 p4 p5 p6 p7
 cases q
 ·skip
  have HC := hidOf (copiedRing_any M v w1 (HI.out.keep B1) HM.out)
  obtain ⟨p0, p1, p2, p3, p4, p5, p6, p7⟩ := box8 A1
  go_wp2_with fail
  refine (HC.out).mono ?_
  rintro e w9 ⟨M2, rfl, row2, le2, b9⟩
  have row3 := row2.mono (B' := w.heap.size + 3) hs1
  have R9 := R1.keep b9
  have B9 := bl_trans B1 b9
  clear A1 R1 p0 p1 p2 p3 p4 p5 p6 p7
  obtain ⟨r0, r1, r2, r3, r4, r5, r6, r7⟩ := box8 R9
  have rf := R9.fr
  obtain ⟨Zz, hZ⟩ : ∃ Z, ((((((((w9.setCell ⟨N1, 0, none⟩ (.int .i64 v.cp)).setCell ⟨N1, 1, none⟩ (.int .i64 v.se)).setCell ⟨N1, 2, none⟩ (.slice M2.ia M2.i M2.ic)).setCell ⟨N1, 3, none⟩ (.int .i64 v.nx)).setCell ⟨N1, 4, none⟩ (.slice M2.sa M2.s M2.sc)).setCell ⟨N1, 5, none⟩ (.slice M2.la M2.l M2.lc)).setCell ⟨N1, 6, none⟩ (.slice M2.ga M2.g M2.gc)).setCell ⟨N1, 7, none⟩ (.bool v.cl)) = Z := ⟨_, rfl⟩
  have hZ2 : Zz = setL w9 N1 0 [.int .i64 v.cp, .int .i64 v.se, .slice M2.ia M2.i M2.ic, .int .i64 v.nx, .slice M2.sa M2.s M2.sc, .slice M2.la M2.l M2.lc, .slice M2.ga M2.g M2.gc, .bool v.cl] := by rw [← hZ]; rfl
  have XZ : BoxL N1 [.int .i64 v.cp, .int .i64 v.se, .slice M2.ia M2.i M2.ic, .int .i64 v.nx, .slice M2.sa M2.s M2.sc, .slice M2.la M2.l M2.lc, .slice M2.ga M2.g M2.gc, .bool v.cl] Zz := by rw [hZ2]; exact R9.setAll (us := [.int .i64 v.cp, .int .i64 v.se, .slice M2.ia M2.i M2.ic, .int .i64 v.nx, .slice M2.sa M2.s M2.sc, .slice M2.la M2.l M2.lc, .slice M2.ga M2.g M2.gc, .bool v.cl]) rfl
  obtain ⟨t0, t1, t2, t3, t4, t5, t6, t7⟩ := box8 XZ
  have HD := hidOf (show RgT w (snR v (m1, m2, m3)) (snT v (m1, m2, m3)) (snC v (m1, m2, m3)) (.returned (.tuple #[.agg #[.int .i64 v.cp, .int .i64 v.se, .slice M2.ia M2.i M2.ic, .int .i64 v.nx, .slice M2.sa M2.s M2.sc, .slice M2.la M2.l M2.lc, .slice M2.ga M2.g M2.gc, .bool v.cl], .slice none 0 0, .int .i64 1])) Zz by
   rw [show RgT w (snR v (m1, m2, m3)) (snT v (m1, m2, m3)) (snC v (m1, m2, m3)) = RgT w v [] 1 by unfold snR snT snC; rw [if_neg (by rw [HQ.out]; simp), if_neg (by rw [HQ.out]; simp), if_neg (by rw [HQ.out]; simp)]]
   rw [hZ2]
   have h := rgt_row (N1 := N1) (rs := [.int .i64 v.cp, .int .i64 v.se, .slice M2.ia M2.i M2.ic, .int .i64 v.nx, .slice M2.sa M2.s M2.sc, .slice M2.la M2.l M2.lc, .slice M2.ga M2.g M2.gc, .bool v.cl]) row3 HN0.out B9
   exact ⟨M2, none, 0, 0, rfl, h.1, le2 _ HM.out, ⟨⟨rfl, .inl rfl⟩, .inl rfl⟩, Nat.zero_le _, fun p _ => .inr (.inl rfl), h.2⟩)
  clear hZ2 XZ R9
  go_wp2_with fail
  try clear hZ
  exact bodyPost_ret (v := .tuple #[.agg #[.int .i64 v.cp, .int .i64 v.se, .slice M2.ia M2.i M2.ic, .int .i64 v.nx, .slice M2.sa M2.s M2.sc, .slice M2.la M2.l M2.lc, .slice M2.ga M2.g M2.gc, .bool v.cl], .slice none 0 0, .int .i64 1]) (by simp [results, Tryz.results20, go_sem, t0, t1, t2, t3, t4, t5, t6, t7]) rfl HD.out
 obtain ⟨cv, hcv⟩ : ∃ c, v.cl = c := ⟨_, rfl⟩
 have HCv := hidOf hcv
 have p7c : w1.cell? ⟨w.heap.size, 7, none⟩ = some (.bool cv) := by rw [← hcv]; exact A1.cs 7 (by simp)
 clear hcv
 cases cv
 case true =>
  go_upto_region 4 with fail
  clear p7c
  have HC := hidOf (copiedRing_any M v w1 (HI.out.keep B1) HM.out)
  obtain ⟨p0, p1, p2, p3, p4, p5, p6, p7⟩ := box8 A1
  go_wp2_with fail
  refine (HC.out).mono ?_
  rintro e w9 ⟨M2, rfl, row2, le2, b9⟩
  have row3 := row2.mono (B' := w.heap.size + 3) hs1
  have R9 := R1.keep b9
  have B9 := bl_trans B1 b9
  clear A1 R1 p0 p1 p2 p3 p4 p5 p6 p7
  obtain ⟨r0, r1, r2, r3, r4, r5, r6, r7⟩ := box8 R9
  have rf := R9.fr
  obtain ⟨Zz, hZ⟩ : ∃ Z, ((((((((w9.setCell ⟨N1, 0, none⟩ (.int .i64 v.cp)).setCell ⟨N1, 1, none⟩ (.int .i64 v.se)).setCell ⟨N1, 2, none⟩ (.slice M2.ia M2.i M2.ic)).setCell ⟨N1, 3, none⟩ (.int .i64 v.nx)).setCell ⟨N1, 4, none⟩ (.slice M2.sa M2.s M2.sc)).setCell ⟨N1, 5, none⟩ (.slice M2.la M2.l M2.lc)).setCell ⟨N1, 6, none⟩ (.slice M2.ga M2.g M2.gc)).setCell ⟨N1, 7, none⟩ (.bool v.cl)) = Z := ⟨_, rfl⟩
  have hZ2 : Zz = setL w9 N1 0 [.int .i64 v.cp, .int .i64 v.se, .slice M2.ia M2.i M2.ic, .int .i64 v.nx, .slice M2.sa M2.s M2.sc, .slice M2.la M2.l M2.lc, .slice M2.ga M2.g M2.gc, .bool v.cl] := by rw [← hZ]; rfl
  have XZ : BoxL N1 [.int .i64 v.cp, .int .i64 v.se, .slice M2.ia M2.i M2.ic, .int .i64 v.nx, .slice M2.sa M2.s M2.sc, .slice M2.la M2.l M2.lc, .slice M2.ga M2.g M2.gc, .bool v.cl] Zz := by rw [hZ2]; exact R9.setAll (us := [.int .i64 v.cp, .int .i64 v.se, .slice M2.ia M2.i M2.ic, .int .i64 v.nx, .slice M2.sa M2.s M2.sc, .slice M2.la M2.l M2.lc, .slice M2.ga M2.g M2.gc, .bool v.cl]) rfl
  obtain ⟨t0, t1, t2, t3, t4, t5, t6, t7⟩ := box8 XZ
  have HD := hidOf (show RgT w (snR v (m1, m2, m3)) (snT v (m1, m2, m3)) (snC v (m1, m2, m3)) (.returned (.tuple #[.agg #[.int .i64 v.cp, .int .i64 v.se, .slice M2.ia M2.i M2.ic, .int .i64 v.nx, .slice M2.sa M2.s M2.sc, .slice M2.la M2.l M2.lc, .slice M2.ga M2.g M2.gc, .bool v.cl], .slice none 0 0, .int .i64 6])) Zz by
   rw [show RgT w (snR v (m1, m2, m3)) (snT v (m1, m2, m3)) (snC v (m1, m2, m3)) = RgT w v [] 6 by unfold snR snT snC; rw [if_pos HQ.out, if_pos HQ.out, if_pos HQ.out, if_pos HCv.out, if_pos HCv.out, if_pos HCv.out]]
   rw [hZ2]
   have h := rgt_row (N1 := N1) (rs := [.int .i64 v.cp, .int .i64 v.se, .slice M2.ia M2.i M2.ic, .int .i64 v.nx, .slice M2.sa M2.s M2.sc, .slice M2.la M2.l M2.lc, .slice M2.ga M2.g M2.gc, .bool v.cl]) row3 HN0.out B9
   exact ⟨M2, none, 0, 0, rfl, h.1, le2 _ HM.out, ⟨⟨rfl, .inl rfl⟩, .inl rfl⟩, Nat.zero_le _, fun p _ => .inr (.inl rfl), h.2⟩)
  clear hZ2 XZ R9
  go_wp2_with fail
  try clear hZ
  exact bodyPost_ret (v := .tuple #[.agg #[.int .i64 v.cp, .int .i64 v.se, .slice M2.ia M2.i M2.ic, .int .i64 v.nx, .slice M2.sa M2.s M2.sc, .slice M2.la M2.l M2.lc, .slice M2.ga M2.g M2.gc, .bool v.cl], .slice none 0 0, .int .i64 6]) (by simp [results, Tryz.results20, go_sem, t0, t1, t2, t3, t4, t5, t6, t7]) rfl HD.out
 have hncl : Hid (¬ v.cl = true) := hidOf (by rw [HCv.out]; simp)
 go_upto_region 5 with fail
 clear p7c
 have HMo := hidOf (implMsgOk_any m1 m2 m3 w1 HMs.out)
 obtain ⟨qo, hqo⟩ : ∃ q, okB m1 m2 m3 = q := ⟨_, rfl⟩
 rw [hqo] at HMo
 have HQo := hidOf hqo
 clear hqo
 have x0 : w1.cell? ⟨NM, 0, none⟩ = some (.int .i64 m1) := X1.cs 0 (by simp)
 have x1 : w1.cell? ⟨NM, 1, none⟩ = some (.int .i64 m2) := X1.cs 1 (by simp)
 have x2 : w1.cell? ⟨NM, 2, none⟩ = some (.string m3) := X1.cs 2 (by simp)
 go_wp2_with fail
 refine (HMo.out).mono ?_
 rintro e w2 ⟨rfl, b2⟩
 have A2 := A1.keep b2
 have R2 := R1.keep b2
 have X2 := X1.keep b2
 have B2 := bl_trans B1 b2
 have hs2 : w.heap.size + 3 ≤ w2.heap.size := by have h := b2.size; omega
 clear A1 R1 X1 B1 b2 x0 x1 x2 HMo hs1
 cases qo
 ·skip
  have HC := hidOf (copiedRing_any M v w2 (HI.out.keep B2) HM.out)
  obtain ⟨p0, p1, p2, p3, p4, p5, p6, p7⟩ := box8 A2
  go_wp2_with fail
  refine (HC.out).mono ?_
  rintro e w9 ⟨M2, rfl, row2, le2, b9⟩
  have row3 := row2.mono (B' := w.heap.size + 3) hs2
  have R9 := R2.keep b9
  have B9 := bl_trans B2 b9
  clear A2 R2 p0 p1 p2 p3 p4 p5 p6 p7
  obtain ⟨r0, r1, r2, r3, r4, r5, r6, r7⟩ := box8 R9
  have rf := R9.fr
  obtain ⟨Zz, hZ⟩ : ∃ Z, ((((((((w9.setCell ⟨N1, 0, none⟩ (.int .i64 v.cp)).setCell ⟨N1, 1, none⟩ (.int .i64 v.se)).setCell ⟨N1, 2, none⟩ (.slice M2.ia M2.i M2.ic)).setCell ⟨N1, 3, none⟩ (.int .i64 v.nx)).setCell ⟨N1, 4, none⟩ (.slice M2.sa M2.s M2.sc)).setCell ⟨N1, 5, none⟩ (.slice M2.la M2.l M2.lc)).setCell ⟨N1, 6, none⟩ (.slice M2.ga M2.g M2.gc)).setCell ⟨N1, 7, none⟩ (.bool v.cl)) = Z := ⟨_, rfl⟩
  have hZ2 : Zz = setL w9 N1 0 [.int .i64 v.cp, .int .i64 v.se, .slice M2.ia M2.i M2.ic, .int .i64 v.nx, .slice M2.sa M2.s M2.sc, .slice M2.la M2.l M2.lc, .slice M2.ga M2.g M2.gc, .bool v.cl] := by rw [← hZ]; rfl
  have XZ : BoxL N1 [.int .i64 v.cp, .int .i64 v.se, .slice M2.ia M2.i M2.ic, .int .i64 v.nx, .slice M2.sa M2.s M2.sc, .slice M2.la M2.l M2.lc, .slice M2.ga M2.g M2.gc, .bool v.cl] Zz := by rw [hZ2]; exact R9.setAll (us := [.int .i64 v.cp, .int .i64 v.se, .slice M2.ia M2.i M2.ic, .int .i64 v.nx, .slice M2.sa M2.s M2.sc, .slice M2.la M2.l M2.lc, .slice M2.ga M2.g M2.gc, .bool v.cl]) rfl
  obtain ⟨t0, t1, t2, t3, t4, t5, t6, t7⟩ := box8 XZ
  have HD := hidOf (show RgT w (snR v (m1, m2, m3)) (snT v (m1, m2, m3)) (snC v (m1, m2, m3)) (.returned (.tuple #[.agg #[.int .i64 v.cp, .int .i64 v.se, .slice M2.ia M2.i M2.ic, .int .i64 v.nx, .slice M2.sa M2.s M2.sc, .slice M2.la M2.l M2.lc, .slice M2.ga M2.g M2.gc, .bool v.cl], .slice none 0 0, .int .i64 1])) Zz by
   rw [show RgT w (snR v (m1, m2, m3)) (snT v (m1, m2, m3)) (snC v (m1, m2, m3)) = RgT w v [] 1 by have hn := hncl.out; have hk : ¬ okB m1 m2 m3 = true := (by rw [HQo.out]; simp); unfold snR snT snC; rw [if_pos HQ.out, if_pos HQ.out, if_pos HQ.out, if_neg hn, if_neg hn, if_neg hn, if_neg hk, if_neg hk, if_neg hk]]
   rw [hZ2]
   have h := rgt_row (N1 := N1) (rs := [.int .i64 v.cp, .int .i64 v.se, .slice M2.ia M2.i M2.ic, .int .i64 v.nx, .slice M2.sa M2.s M2.sc, .slice M2.la M2.l M2.lc, .slice M2.ga M2.g M2.gc, .bool v.cl]) row3 HN0.out B9
   exact ⟨M2, none, 0, 0, rfl, h.1, le2 _ HM.out, ⟨⟨rfl, .inl rfl⟩, .inl rfl⟩, Nat.zero_le _, fun p _ => .inr (.inl rfl), h.2⟩)
  clear hZ2 XZ R9
  go_wp2_with fail
  try clear hZ
  exact bodyPost_ret (v := .tuple #[.agg #[.int .i64 v.cp, .int .i64 v.se, .slice M2.ia M2.i M2.ic, .int .i64 v.nx, .slice M2.sa M2.s M2.sc, .slice M2.la M2.l M2.lc, .slice M2.ga M2.g M2.gc, .bool v.cl], .slice none 0 0, .int .i64 1]) (by simp [results, Tryz.results20, go_sem, t0, t1, t2, t3, t4, t5, t6, t7]) rfl HD.out
 have p1 : w2.cell? ⟨w.heap.size, 1, none⟩ = some (.int .i64 v.se) := A2.cs 1 (by simp)
 by_cases hse : v.se = 1000000000
 ·have hseb : (v.se == 1000000000) = true := by rw [hse]; rfl
  have HSe := hidOf hse
  clear hse
  go_upto_region 8 with fail
  clear p1 hseb
  have HC := hidOf (copiedRing_any M v w2 (HI.out.keep B2) HM.out)
  obtain ⟨p0, p1, p2, p3, p4, p5, p6, p7⟩ := box8 A2
  go_wp2_with fail
  refine (HC.out).mono ?_
  rintro e w9 ⟨M2, rfl, row2, le2, b9⟩
  have row3 := row2.mono (B' := w.heap.size + 3) hs2
  have R9 := R2.keep b9
  have B9 := bl_trans B2 b9
  clear A2 R2 p0 p1 p2 p3 p4 p5 p6 p7
  obtain ⟨r0, r1, r2, r3, r4, r5, r6, r7⟩ := box8 R9
  have rf := R9.fr
  obtain ⟨Zz, hZ⟩ : ∃ Z, ((((((((w9.setCell ⟨N1, 0, none⟩ (.int .i64 v.cp)).setCell ⟨N1, 1, none⟩ (.int .i64 v.se)).setCell ⟨N1, 2, none⟩ (.slice M2.ia M2.i M2.ic)).setCell ⟨N1, 3, none⟩ (.int .i64 v.nx)).setCell ⟨N1, 4, none⟩ (.slice M2.sa M2.s M2.sc)).setCell ⟨N1, 5, none⟩ (.slice M2.la M2.l M2.lc)).setCell ⟨N1, 6, none⟩ (.slice M2.ga M2.g M2.gc)).setCell ⟨N1, 7, none⟩ (.bool v.cl)) = Z := ⟨_, rfl⟩
  have hZ2 : Zz = setL w9 N1 0 [.int .i64 v.cp, .int .i64 v.se, .slice M2.ia M2.i M2.ic, .int .i64 v.nx, .slice M2.sa M2.s M2.sc, .slice M2.la M2.l M2.lc, .slice M2.ga M2.g M2.gc, .bool v.cl] := by rw [← hZ]; rfl
  have XZ : BoxL N1 [.int .i64 v.cp, .int .i64 v.se, .slice M2.ia M2.i M2.ic, .int .i64 v.nx, .slice M2.sa M2.s M2.sc, .slice M2.la M2.l M2.lc, .slice M2.ga M2.g M2.gc, .bool v.cl] Zz := by rw [hZ2]; exact R9.setAll (us := [.int .i64 v.cp, .int .i64 v.se, .slice M2.ia M2.i M2.ic, .int .i64 v.nx, .slice M2.sa M2.s M2.sc, .slice M2.la M2.l M2.lc, .slice M2.ga M2.g M2.gc, .bool v.cl]) rfl
  obtain ⟨t0, t1, t2, t3, t4, t5, t6, t7⟩ := box8 XZ
  have HD := hidOf (show RgT w (snR v (m1, m2, m3)) (snT v (m1, m2, m3)) (snC v (m1, m2, m3)) (.returned (.tuple #[.agg #[.int .i64 v.cp, .int .i64 v.se, .slice M2.ia M2.i M2.ic, .int .i64 v.nx, .slice M2.sa M2.s M2.sc, .slice M2.la M2.l M2.lc, .slice M2.ga M2.g M2.gc, .bool v.cl], .slice none 0 0, .int .i64 2])) Zz by
   rw [show RgT w (snR v (m1, m2, m3)) (snT v (m1, m2, m3)) (snC v (m1, m2, m3)) = RgT w v [] 2 by have hn := hncl.out; unfold snR snT snC; rw [if_pos HQ.out, if_pos HQ.out, if_pos HQ.out, if_neg hn, if_neg hn, if_neg hn, if_pos HQo.out, if_pos HQo.out, if_pos HQo.out, if_pos HSe.out, if_pos HSe.out, if_pos HSe.out]]
   rw [hZ2]
   have h := rgt_row (N1 := N1) (rs := [.int .i64 v.cp, .int .i64 v.se, .slice M2.ia M2.i M2.ic, .int .i64 v.nx, .slice M2.sa M2.s M2.sc, .slice M2.la M2.l M2.lc, .slice M2.ga M2.g M2.gc, .bool v.cl]) row3 HN0.out B9
   exact ⟨M2, none, 0, 0, rfl, h.1, le2 _ HM.out, ⟨⟨rfl, .inl rfl⟩, .inl rfl⟩, Nat.zero_le _, fun p _ => .inr (.inl rfl), h.2⟩)
  clear hZ2 XZ R9
  go_wp2_with fail
  try clear hZ
  exact bodyPost_ret (v := .tuple #[.agg #[.int .i64 v.cp, .int .i64 v.se, .slice M2.ia M2.i M2.ic, .int .i64 v.nx, .slice M2.sa M2.s M2.sc, .slice M2.la M2.l M2.lc, .slice M2.ga M2.g M2.gc, .bool v.cl], .slice none 0 0, .int .i64 2]) (by simp [results, Tryz.results20, go_sem, t0, t1, t2, t3, t4, t5, t6, t7]) rfl HD.out
 have hseb : (v.se == 1000000000) = false := by simp [hse]
 have HSe := hidOf hse
 clear hse
 go_upto_region 9 with fail
 clear p1 hseb
 obtain ⟨f, hse, hi, hf⟩ := ok_first HQ.out
 have HBo0 := hidOf (ringBodyOf_any M v w2 f (HI.out.keep B2) HM.out HCap.out hse hi hf)
 obtain ⟨p0, p1, p2, p3, p4, p5, p6, p7⟩ := box8 A2
 clear hse hi hf
 go_wp2_with fail
 refine (HBo0.out).mono ?_
 rintro e w3 ⟨b, A, P, f2, sa, sc, ys, rfl, body3, hAn, hAn', hyn, b3⟩
 have R3 := R2.keep b3
 have X3 := X2.keep b3
 have B3 := bl_trans B2 b3
 have hhd := ok_head HQ.out
 have HSn := hidOf (send_any w2.heap.size b A P f2 v sa M.s sc ys m1 m2 m3 w3 body3 HQ.out HQo.out HMs.out (by have h := HSe.out; have h2 := hhd.2.1; omega) HM.out.s (fun y hy => by obtain ⟨z, hz, e⟩ := hyn y hy; rw [e]; exact HM.out.f z hz) (HG.out.keep B3) (by have h := HG.out.lt; omega))
 have HZ1 := hidOf hs2
 have HYn := hidOf hyn
 have x0 : w3.cell? ⟨NM, 0, none⟩ = some (.int .i64 m1) := X3.cs 0 (by simp)
 have x1 : w3.cell? ⟨NM, 1, none⟩ = some (.int .i64 m2) := X3.cs 1 (by simp)
 have x2 : w3.cell? ⟨NM, 2, none⟩ = some (.string m3) := X3.cs 2 (by simp)
 have hb32 := b3.size
 clear A2 R2 X2 B2 p0 p1 p2 p3 p4 p5 p6 p7 HBo0 body3 hAn hAn' b3 hyn X3 hs2
 go_wp2_with fail
 refine (HSn.out).mono ?_
 rintro e w4 ⟨A5, P5, f5, ys5, ta, tn, tc, rfl, body5, hyn5, told5, hapt5, b4⟩
 obtain ⟨v5, hv5⟩ : ∃ v5, trimR (sndV v (m1, m2, m3)) = v5 := ⟨_, rfl⟩
 have hit5 : v5.it.length ≤ 17 := by
  rw [← hv5]
  have h := hhd.2.2.2.1
  unfold trimR
  split
  ·show ((v.it ++ [(m1, m2, m3)]).drop _).length ≤ 17
   rw [List.length_drop]; simp; omega
  ·show (v.it ++ [(m1, m2, m3)]).length ≤ 17
   simp; omega
 have hlg : v5.ln.length ≤ 12 ∧ v5.gs.length ≤ 24 := by
  rw [← hv5]
  have h1 := hhd.2.2.2.2.2.1
  have h2 := hhd.2.2.2.2.2.2
  have h3 : (sndS v.sb (m1, m2, m3) v.ln).length ≤ v.ln.length := List.length_filter_le _ _
  have h4 : (sndT v.sb (m1, m2, m3) v.ln).length ≤ v.ln.length := List.length_filter_le _ _
  unfold trimR
  split
  ·exact ⟨Nat.le_trans h3 h1, by show (v.gs ++ sndT v.sb (m1, m2, m3) v.ln).length ≤ 24; rw [List.length_append]; omega⟩
  ·exact ⟨Nat.le_trans h3 h1, by show (v.gs ++ sndT v.sb (m1, m2, m3) v.ln).length ≤ 24; rw [List.length_append]; omega⟩
 rw [hv5] at body5
 have HTn := hidOf (show tn ≤ 12 by
  have h1 := told5.1
  have h3 : (sndT v.sb (m1, m2, m3) v.ln).length ≤ v.ln.length := List.length_filter_le _ _
  have h5 := hhd.2.2.2.2.2.1
  simp only [intsV, List.length_map] at h1
  omega)
 have HAn5 := hidOf (show A5.n ≤ 12 ∧ A5.n' ≤ 24 by
  have h1 := body5.wst.rows.len.1
  have h2 := body5.wst.rows.len.2
  omega)
 have HEl := hidOf (show RgT w (snR v (m1, m2, m3)) (snT v (m1, m2, m3)) (snC v (m1, m2, m3)) = RgT w v5 (sndT v.sb (m1, m2, m3) v.ln) 0 by
  have hn := hncl.out
  have hs := HSe.out
  unfold snR snT snC
  rw [if_pos HQ.out, if_pos HQ.out, if_pos HQ.out, if_neg hn, if_neg hn, if_neg hn, if_pos HQo.out, if_pos HQo.out, if_pos HQo.out, if_neg hs, if_neg hs, if_neg hs, hv5])
 have HI5 := hidOf hit5
 have R4 := R3.below b4 (by have h := HN0.out; have h2 := HZ1.out; omega)
 have B4 : Below w.heap.size w w4 := bl_trans2 B3 b4 (by have h2 := HZ1.out; omega)
 have HRi := hidOf (ring_anyQ w2.heap.size b A5 P5 f5 v5 sa M.s sc ys5 w4 body5)
 have HYn5 := hidOf hyn5
 have HTo := hidOf told5
 have HAp := hidOf hapt5
 have HW3 := hidOf (show w2.heap.size ≤ w3.heap.size from hb32)
 clear R3 B3 b4 HSn body5 hyn5 told5 hapt5 hv5 hit5 hlg hhd x0 x1 x2 hb32
 go_wp2_with fail
 refine (HRi.out).mono ?_
 rintro e w7 ⟨g6, hg6, rfl, row5, b7⟩
 have row6 := row5.mono (B' := w.heap.size + 3) (by have h2 := HZ1.out; omega)
 have R7 := R4.keep b7
 have B7 := bl_trans B4 b7
 have told7 := ownsRow_keep (rowM HTo.out HW3.out) b7
 have HL5 := hidOf (show RLe (⟨some ⟨g6, 0, none⟩, v5.it.length, v5.it.length, sa, M.s, sc, ys5, A5.a, A5.n, A5.c, A5.a', A5.n', A5.c'⟩ : Rm) 2097152 from ⟨by have h := HI5.out; show v5.it.length ≤ _; omega, HM.out.s, fun y hy => by
  obtain ⟨x2, hx2, e2⟩ := HYn5.out y hy
  obtain ⟨x3, hx3, e3⟩ := HYn.out x2 hx2
  rw [e2, e3]
  exact HM.out.f x3 hx3, by have h := HAn5.out; show A5.n ≤ _; omega, by have h := HAn5.out; show A5.n' ≤ _; omega⟩)
 have HFar := hidOf (show ∀ p, p ∈ allR (⟨some ⟨g6, 0, none⟩, v5.it.length, v5.it.length, sa, M.s, sc, ys5, A5.a, A5.n, A5.c, A5.a', A5.n', A5.c'⟩ : Rm) → Far p.1 p.2 ta tn by
  intro p hp
  simp only [allR, List.mem_cons, List.mem_map] at hp
  rcases hp with rfl | rfl | rfl | rfl | ⟨y, hy, rfl⟩
  ·exact far_blkT (c := v5.it.length) (c' := tc) fun q e e' => by
    have e2 : g6 = q := by simpa [Value.ownBlock] using e'
    have h := (row_lt HTo.out e).2
    omega
  ·exact far_blkT (c := sc) (c' := tc) fun q e => (HAp.out q e).2.2.2.1
  ·exact far_blkT (c := A5.c) (c' := tc) fun q e => (HAp.out q e).2.1
  ·exact far_blkT (c := A5.c') (c' := tc) fun q e => (HAp.out q e).2.2.1
  ·exact far_blkT (c := y.c) (c' := tc) fun q e => (HAp.out q e).2.2.2.2 y hy)
 clear R4 B4 HRi row5 b7
 obtain ⟨r0, r1, r2, r3, r4, r5, r6, r7⟩ := box8 R7
 have rf := R7.fr
 obtain ⟨Zz, hZ⟩ : ∃ Z, ((((((((w7.setCell ⟨N1, 0, none⟩ (.int .i64 v5.cp)).setCell ⟨N1, 1, none⟩ (.int .i64 v5.se)).setCell ⟨N1, 2, none⟩ (.slice (some ⟨g6, 0, none⟩) v5.it.length v5.it.length)).setCell ⟨N1, 3, none⟩ (.int .i64 v5.nx)).setCell ⟨N1, 4, none⟩ (.slice sa M.s sc)).setCell ⟨N1, 5, none⟩ (.slice A5.a A5.n A5.c)).setCell ⟨N1, 6, none⟩ (.slice A5.a' A5.n' A5.c')).setCell ⟨N1, 7, none⟩ (.bool v5.cl)) = Z := ⟨_, rfl⟩
 have hZ2 : Zz = setL w7 N1 0 [.int .i64 v5.cp, .int .i64 v5.se, .slice (some ⟨g6, 0, none⟩) v5.it.length v5.it.length, .int .i64 v5.nx, .slice sa M.s sc, .slice A5.a A5.n A5.c, .slice A5.a' A5.n' A5.c', .bool v5.cl] := by rw [← hZ]; rfl
 have XZ : BoxL N1 [.int .i64 v5.cp, .int .i64 v5.se, .slice (some ⟨g6, 0, none⟩) v5.it.length v5.it.length, .int .i64 v5.nx, .slice sa M.s sc, .slice A5.a A5.n A5.c, .slice A5.a' A5.n' A5.c', .bool v5.cl] Zz := by rw [hZ2]; exact R7.setAll (us := [.int .i64 v5.cp, .int .i64 v5.se, .slice (some ⟨g6, 0, none⟩) v5.it.length v5.it.length, .int .i64 v5.nx, .slice sa M.s sc, .slice A5.a A5.n A5.c, .slice A5.a' A5.n' A5.c', .bool v5.cl]) rfl
 obtain ⟨t0, t1, t2, t3, t4, t5, t6, t7⟩ := box8 XZ
 have HD := hidOf (show RgT w (snR v (m1, m2, m3)) (snT v (m1, m2, m3)) (snC v (m1, m2, m3)) (.returned (.tuple #[.agg #[.int .i64 v5.cp, .int .i64 v5.se, .slice (some ⟨g6, 0, none⟩) v5.it.length v5.it.length, .int .i64 v5.nx, .slice sa M.s sc, .slice A5.a A5.n A5.c, .slice A5.a' A5.n' A5.c', .bool v5.cl], .slice ta tn tc, .int .i64 0])) Zz by
  rw [HEl.out, hZ2]
  have h := rgt_row (N1 := N1) (rs := [.int .i64 v5.cp, .int .i64 v5.se, .slice (some ⟨g6, 0, none⟩) v5.it.length v5.it.length, .int .i64 v5.nx, .slice sa M.s sc, .slice A5.a A5.n A5.c, .slice A5.a' A5.n' A5.c', .bool v5.cl]) row6 HN0.out B7
  have htd := rowG told7 (setL_grown (g := N1) (o := 0) (vs := [.int .i64 v5.cp, .int .i64 v5.se, .slice (some ⟨g6, 0, none⟩) v5.it.length v5.it.length, .int .i64 v5.nx, .slice sa M.s sc, .slice A5.a A5.n A5.c, .slice A5.a' A5.n' A5.c', .bool v5.cl]) ⟨rfl, rfl, rfl, Nat.le_refl _, fun _ _ _ => rfl⟩) (fun q e e' => by injection e with e; subst e; have h1 := (row_lt told7 e').1; have h2 := HN0.out; have h3 := HZ1.out; omega)
  obtain ⟨a', c', e', ow⟩ := own_of (rowM htd (show w.heap.size ≤ w2.heap.size by have h3 := HZ1.out; omega)) _ rfl
  injection e' with e1 e2 e3
  subst e1
  exact ⟨(⟨some ⟨g6, 0, none⟩, v5.it.length, v5.it.length, sa, M.s, sc, ys5, A5.a, A5.n, A5.c, A5.a', A5.n', A5.c'⟩ : Rm), ta, tn, tc, rfl, h.1, HL5.out, ow, by have h := HTn.out; omega, HFar.out, h.2⟩)
 clear hZ2 XZ R7
 go_wp2_with fail
 try clear hZ
 exact bodyPost_ret (v := .tuple #[.agg #[.int .i64 v5.cp, .int .i64 v5.se, .slice (some ⟨g6, 0, none⟩) v5.it.length v5.it.length, .int .i64 v5.nx, .slice sa M.s sc, .slice A5.a A5.n A5.c, .slice A5.a' A5.n' A5.c', .bool v5.cl], .slice ta tn tc, .int .i64 0]) (by simp [results, Tryz.results20, go_sem, t0, t1, t2, t3, t4, t5, t6, t7]) rfl HD.out
end Go.Proofs.YtihdglmiecifjaaGreat
