/-
  The program's Subscribe.
-/
import Derived.Test.YtihdglmiecifjaaGreatZRa51
import Derived.Test.YtihdglmiecifjaaGreatZRa30
namespace Go.Proofs.YtihdglmiecifjaaGreat
open Go.RowKit Go.Maps Pl Il

theorem ok_next {v : Rv} (h : okR restR v = true) : 0 ≤ v.nx ∧ v.nx ≤ 1000000000 := by
  simp only [okR, headR, lenR, Bool.and_eq_true, decide_eq_true_eq] at h
  obtain ⟨⟨⟨⟨_, hn⟩, _⟩, _⟩, _⟩ := h
  omega
set_option maxRecDepth 100000 in
set_option maxHeartbeats 16000000 in
theorem implSbs_any : SbsDone 59 := by
  intro M v a n cap ts back w hI hm1 hcap hw hT hn
  have hm := hm1.mono (k' := 2097152) (by omega)
  obtain ⟨U0, hU0⟩ : ∃ W, W = (w.alloc (.cells #[.int .i64 v.cp, .int .i64 v.se, .slice M.ia M.i M.ic, .int .i64 v.nx, .slice M.sa M.s M.sc, .slice M.la M.l M.lc, .slice M.ga M.g M.gc, .bool v.cl] 28)).alloc (.cells #[.int .i64 0, .int .i64 0, .slice none 0 0, .int .i64 0, .slice none 0 0, .slice none 0 0, .slice none 0 0, .bool false] 28) := ⟨_, rfl⟩
  have B0 : Below w.heap.size w U0 := by rw [hU0]; exact bl_alloc (bl_alloc (Below.refl _ _) _) _
  have z0 : U0.heap.size = w.heap.size + 2 := by rw [hU0]; simp
  have A0 : BoxL w.heap.size (rC M v) U0 := by rw [hU0]; exact (BoxL.new w (rC M v) _).alloc _
  have R0 : BoxL (w.heap.size + 1) [.int .i64 0, .int .i64 0, .slice none 0 0, .int .i64 0, .slice none 0 0, .slice none 0 0, .slice none 0 0, .bool false] U0 := by
    rw [hU0]
    have h := BoxL.new (w.alloc (.cells (rC M v).toArray 28)) [.int .i64 0, .int .i64 0, .slice none 0 0, .int .i64 0, .slice none 0 0, .slice none 0 0, .slice none 0 0, .bool false] 28
    simpa using h
  have HK := hidOf (implRingOk_any M v U0 (hI.keep B0) hm1 hcap hw)
  have p0 := A0.cs 0 (by simp)
  have p1 := A0.cs 1 (by simp)
  have p2 := A0.cs 2 (by simp)
  have p3 := A0.cs 3 (by simp)
  have p4 := A0.cs 4 (by simp)
  have p5 := A0.cs 5 (by simp)
  have p6 := A0.cs 6 (by simp)
  have p7 := A0.cs 7 (by simp)
  simp at p0 p1 p2 p3 p4 p5 p6 p7
  have HI := hidOf hI
  have HM := hidOf hm
  have HM1 := hidOf hm1
  have HCap := hidOf hcap
  have HT := hidOf hT
  obtain ⟨q, hq⟩ : ∃ q, okR restR v = q := ⟨_, rfl⟩
  rw [hq] at HK
  have HQ := hidOf hq
  clear hI hm hm1 hcap hw hq hT
  go_enter Tryz.func59, Tryz.ntmps59
  go_upto_region 1 with fail
  rw [← hU0]
  clear hU0
  go_wp2_with fail
  refine (HK.out).mono ?_
  rintro e w1 ⟨rfl, b1⟩
  have A1 := A0.keep b1
  have R1 := R0.keep b1
  have B1 := bl_trans B0 b1
  have hs1 : w.heap.size + 2 ≤ w1.heap.size := by have := b1.size; omega
  clear A0 R0 p0 p1 p2 p3 p4 p5 p6 p7 B0 b1 HK z0
  have p0 := A1.cs 0 (by simp)
  have p1 := A1.cs 1 (by simp)
  have p2 := A1.cs 2 (by simp)
  have p3 := A1.cs 3 (by simp)
  have p4 := A1.cs 4 (by simp)
  have p5 := A1.cs 5 (by simp)
  have p6 := A1.cs 6 (by simp)
  have p7 := A1.cs 7 (by simp)
  simp at p0 p1 p2 p3 p4 p5 p6 p7
  cases q
  · skip
    have HE := hidOf (show RgI w (sbsR v ts back) (sbsI v ts) (sbsC v ts) = RgI w v (-1) 1 by
      have hc : sbsC v ts = 1 := by
        unfold sbsC
        exact if_neg (fun h => by rw [HQ.out] at h; simp at h)
      unfold sbsR sbsI
      rw [hc, if_neg (by decide), if_neg (by decide)])
    have HC := hidOf (copiedRing_any M v w1 (HI.out.keep B1) HM.out)
    go_wp2_with fail
    refine (HC.out).mono ?_
    rintro e w3 ⟨M2, rfl, row2, le2, b3⟩
    have row3 := row2.mono (B' := w.heap.size + 2) hs1
    have R3 := R1.keep b3
    have B3 := bl_trans B1 b3
    clear A1 R1 p0 p1 p2 p3 p4 p5 p6 p7
    have r0 := R3.cs 0 (by simp)
    have r1 := R3.cs 1 (by simp)
    have r2 := R3.cs 2 (by simp)
    have r3 := R3.cs 3 (by simp)
    have r4 := R3.cs 4 (by simp)
    have r5 := R3.cs 5 (by simp)
    have r6 := R3.cs 6 (by simp)
    have r7 := R3.cs 7 (by simp)
    have rf := R3.fr
    simp at r0 r1 r2 r3 r4 r5 r6 r7
    obtain ⟨Z, hZ⟩ : ∃ Z, ((((((((w3.setCell ⟨w.heap.size + 1, 0, none⟩ (.int .i64 v.cp)).setCell ⟨w.heap.size + 1, 1, none⟩ (.int .i64 v.se)).setCell ⟨w.heap.size + 1, 2, none⟩ (.slice M2.ia M2.i M2.ic)).setCell ⟨w.heap.size + 1, 3, none⟩ (.int .i64 v.nx)).setCell ⟨w.heap.size + 1, 4, none⟩ (.slice M2.sa M2.s M2.sc)).setCell ⟨w.heap.size + 1, 5, none⟩ (.slice M2.la M2.l M2.lc)).setCell ⟨w.heap.size + 1, 6, none⟩ (.slice M2.ga M2.g M2.gc)).setCell ⟨w.heap.size + 1, 7, none⟩ (.bool v.cl)) = Z := ⟨_, rfl⟩
    have hZ2 : Z = setL w3 (w.heap.size + 1) 0 [.int .i64 v.cp, .int .i64 v.se, .slice M2.ia M2.i M2.ic, .int .i64 v.nx, .slice M2.sa M2.s M2.sc, .slice M2.la M2.l M2.lc, .slice M2.ga M2.g M2.gc, .bool v.cl] := by rw [← hZ]; rfl
    have XZ : BoxL (w.heap.size + 1) [.int .i64 v.cp, .int .i64 v.se, .slice M2.ia M2.i M2.ic, .int .i64 v.nx, .slice M2.sa M2.s M2.sc, .slice M2.la M2.l M2.lc, .slice M2.ga M2.g M2.gc, .bool v.cl] Z := by
      rw [← hZ]
      exact ((((((((R3.set 0 (by simp) _).set 1 (by simp) _).set 2 (by simp) _).set 3 (by simp) _).set 4 (by simp) _).set 5 (by simp) _).set 6 (by simp) _).set 7 (by simp) _)
    have HRZ := hidOf (show ROwn w.heap.size Z M2 v by
      rw [hZ2]
      exact ((row3.grown (setL_grown ⟨rfl, rfl, rfl, Nat.le_refl _, fun _ _ _ => rfl⟩) (row3.out (by omega))).mono (B' := w.heap.size) (by omega)).own)
    have HBZ := hidOf (show Below w.heap.size w Z by rw [hZ2]; exact setL_below (by omega) B3)
    have HLZ := hidOf (show RLe M2 2097152 from le2 _ HM.out)
    have t0 := XZ.cs 0 (by simp)
    have t1 := XZ.cs 1 (by simp)
    have t2 := XZ.cs 2 (by simp)
    have t3 := XZ.cs 3 (by simp)
    have t4 := XZ.cs 4 (by simp)
    have t5 := XZ.cs 5 (by simp)
    have t6 := XZ.cs 6 (by simp)
    have t7 := XZ.cs 7 (by simp)
    simp at t0 t1 t2 t3 t4 t5 t6 t7
    clear hZ2 XZ R3
    go_wp2_with fail
    clear hZ
    exact bodyPost_ret (v := .tuple #[.agg #[.int .i64 v.cp, .int .i64 v.se, .slice M2.ia M2.i M2.ic, .int .i64 v.nx, .slice M2.sa M2.s M2.sc, .slice M2.la M2.l M2.lc, .slice M2.ga M2.g M2.gc, .bool v.cl], .int .i64 (-1), .int .i64 1]) (by simp [results, Tryz.results59, go_sem, t0, t1, t2, t3, t4, t5, t6, t7]) rfl (show RgI w (sbsR v ts back) (sbsI v ts) (sbsC v ts) _ _ by rw [HE.out]; exact ⟨M2, rfl, HRZ.out, HLZ.out, HBZ.out⟩)
  have HFk := hidOf (implFilterOk_any a n cap ts w1 (HT.out.keep B1) (by omega))
  obtain ⟨qf, hqf⟩ : ∃ q, okF ts = q := ⟨_, rfl⟩
  rw [hqf] at HFk
  have HQf := hidOf hqf
  clear hqf
  go_wp2_with fail
  refine (HFk.out).mono ?_
  rintro e w2 ⟨rfl, b2⟩
  have A2 := A1.keep b2
  have R2 := R1.keep b2
  have B2 := bl_trans B1 b2
  have hs2 : w.heap.size + 2 ≤ w2.heap.size := by have := b2.size; omega
  clear A1 R1 B1 p0 p1 p2 p3 p4 p5 p6 p7 HFk
  have p0 := A2.cs 0 (by simp)
  have p1 := A2.cs 1 (by simp)
  have p2 := A2.cs 2 (by simp)
  have p3 := A2.cs 3 (by simp)
  have p4 := A2.cs 4 (by simp)
  have p5 := A2.cs 5 (by simp)
  have p6 := A2.cs 6 (by simp)
  have p7 := A2.cs 7 (by simp)
  simp at p0 p1 p2 p3 p4 p5 p6 p7
  cases qf
  · skip
    have HE := hidOf (show RgI w (sbsR v ts back) (sbsI v ts) (sbsC v ts) = RgI w v (-1) 1 by
      have hc : sbsC v ts = 1 := by
        unfold sbsC
        exact if_neg (fun h => by rw [HQf.out] at h; simp at h)
      unfold sbsR sbsI
      rw [hc, if_neg (by decide), if_neg (by decide)])
    have HC := hidOf (copiedRing_any M v w2 (HI.out.keep B2) HM.out)
    go_wp2_with fail
    refine (HC.out).mono ?_
    rintro e w3 ⟨M2, rfl, row2, le2, b3⟩
    have row3 := row2.mono (B' := w.heap.size + 2) hs2
    have R3 := R2.keep b3
    have B3 := bl_trans B2 b3
    clear A2 R2 p0 p1 p2 p3 p4 p5 p6 p7
    have r0 := R3.cs 0 (by simp)
    have r1 := R3.cs 1 (by simp)
    have r2 := R3.cs 2 (by simp)
    have r3 := R3.cs 3 (by simp)
    have r4 := R3.cs 4 (by simp)
    have r5 := R3.cs 5 (by simp)
    have r6 := R3.cs 6 (by simp)
    have r7 := R3.cs 7 (by simp)
    have rf := R3.fr
    simp at r0 r1 r2 r3 r4 r5 r6 r7
    obtain ⟨Z, hZ⟩ : ∃ Z, ((((((((w3.setCell ⟨w.heap.size + 1, 0, none⟩ (.int .i64 v.cp)).setCell ⟨w.heap.size + 1, 1, none⟩ (.int .i64 v.se)).setCell ⟨w.heap.size + 1, 2, none⟩ (.slice M2.ia M2.i M2.ic)).setCell ⟨w.heap.size + 1, 3, none⟩ (.int .i64 v.nx)).setCell ⟨w.heap.size + 1, 4, none⟩ (.slice M2.sa M2.s M2.sc)).setCell ⟨w.heap.size + 1, 5, none⟩ (.slice M2.la M2.l M2.lc)).setCell ⟨w.heap.size + 1, 6, none⟩ (.slice M2.ga M2.g M2.gc)).setCell ⟨w.heap.size + 1, 7, none⟩ (.bool v.cl)) = Z := ⟨_, rfl⟩
    have hZ2 : Z = setL w3 (w.heap.size + 1) 0 [.int .i64 v.cp, .int .i64 v.se, .slice M2.ia M2.i M2.ic, .int .i64 v.nx, .slice M2.sa M2.s M2.sc, .slice M2.la M2.l M2.lc, .slice M2.ga M2.g M2.gc, .bool v.cl] := by rw [← hZ]; rfl
    have XZ : BoxL (w.heap.size + 1) [.int .i64 v.cp, .int .i64 v.se, .slice M2.ia M2.i M2.ic, .int .i64 v.nx, .slice M2.sa M2.s M2.sc, .slice M2.la M2.l M2.lc, .slice M2.ga M2.g M2.gc, .bool v.cl] Z := by
      rw [← hZ]
      exact ((((((((R3.set 0 (by simp) _).set 1 (by simp) _).set 2 (by simp) _).set 3 (by simp) _).set 4 (by simp) _).set 5 (by simp) _).set 6 (by simp) _).set 7 (by simp) _)
    have HRZ := hidOf (show ROwn w.heap.size Z M2 v by
      rw [hZ2]
      exact ((row3.grown (setL_grown ⟨rfl, rfl, rfl, Nat.le_refl _, fun _ _ _ => rfl⟩) (row3.out (by omega))).mono (B' := w.heap.size) (by omega)).own)
    have HBZ := hidOf (show Below w.heap.size w Z by rw [hZ2]; exact setL_below (by omega) B3)
    have HLZ := hidOf (show RLe M2 2097152 from le2 _ HM.out)
    have t0 := XZ.cs 0 (by simp)
    have t1 := XZ.cs 1 (by simp)
    have t2 := XZ.cs 2 (by simp)
    have t3 := XZ.cs 3 (by simp)
    have t4 := XZ.cs 4 (by simp)
    have t5 := XZ.cs 5 (by simp)
    have t6 := XZ.cs 6 (by simp)
    have t7 := XZ.cs 7 (by simp)
    simp at t0 t1 t2 t3 t4 t5 t6 t7
    clear hZ2 XZ R3
    go_wp2_with fail
    clear hZ
    exact bodyPost_ret (v := .tuple #[.agg #[.int .i64 v.cp, .int .i64 v.se, .slice M2.ia M2.i M2.ic, .int .i64 v.nx, .slice M2.sa M2.s M2.sc, .slice M2.la M2.l M2.lc, .slice M2.ga M2.g M2.gc, .bool v.cl], .int .i64 (-1), .int .i64 1]) (by simp [results, Tryz.results59, go_sem, t0, t1, t2, t3, t4, t5, t6, t7]) rfl (show RgI w (sbsR v ts back) (sbsI v ts) (sbsC v ts) _ _ by rw [HE.out]; exact ⟨M2, rfl, HRZ.out, HLZ.out, HBZ.out⟩)
  have HOk := hidOf (And.intro HQ.out HQf.out)
  obtain ⟨qc, hqc⟩ : ∃ q, v.cl = q := ⟨_, rfl⟩
  have HQc := hidOf hqc
  rw [hqc] at p7
  cases qc
  case true =>
    have HCl := hidOf (show v.cl = true from hqc)
    clear hqc
    go_upto_region 4 with fail
    rw [← HCl.out] at p7
    have HE := hidOf (show RgI w (sbsR v ts back) (sbsI v ts) (sbsC v ts) = RgI w v (-1) 6 by
      have hc : sbsC v ts = 6 := by
        unfold sbsC
        rw [if_pos HOk.out, if_pos HCl.out]
      unfold sbsR sbsI
      rw [hc, if_neg (by decide), if_neg (by decide)])
    have HC := hidOf (copiedRing_any M v w2 (HI.out.keep B2) HM.out)
    go_wp2_with fail
    refine (HC.out).mono ?_
    rintro e w3 ⟨M2, rfl, row2, le2, b3⟩
    have row3 := row2.mono (B' := w.heap.size + 2) hs2
    have R3 := R2.keep b3
    have B3 := bl_trans B2 b3
    clear A2 R2 p0 p1 p2 p3 p4 p5 p6 p7
    have r0 := R3.cs 0 (by simp)
    have r1 := R3.cs 1 (by simp)
    have r2 := R3.cs 2 (by simp)
    have r3 := R3.cs 3 (by simp)
    have r4 := R3.cs 4 (by simp)
    have r5 := R3.cs 5 (by simp)
    have r6 := R3.cs 6 (by simp)
    have r7 := R3.cs 7 (by simp)
    have rf := R3.fr
    simp at r0 r1 r2 r3 r4 r5 r6 r7
    obtain ⟨Z, hZ⟩ : ∃ Z, ((((((((w3.setCell ⟨w.heap.size + 1, 0, none⟩ (.int .i64 v.cp)).setCell ⟨w.heap.size + 1, 1, none⟩ (.int .i64 v.se)).setCell ⟨w.heap.size + 1, 2, none⟩ (.slice M2.ia M2.i M2.ic)).setCell ⟨w.heap.size + 1, 3, none⟩ (.int .i64 v.nx)).setCell ⟨w.heap.size + 1, 4, none⟩ (.slice M2.sa M2.s M2.sc)).setCell ⟨w.heap.size + 1, 5, none⟩ (.slice M2.la M2.l M2.lc)).setCell ⟨w.heap.size + 1, 6, none⟩ (.slice M2.ga M2.g M2.gc)).setCell ⟨w.heap.size + 1, 7, none⟩ (.bool v.cl)) = Z := ⟨_, rfl⟩
    have hZ2 : Z = setL w3 (w.heap.size + 1) 0 [.int .i64 v.cp, .int .i64 v.se, .slice M2.ia M2.i M2.ic, .int .i64 v.nx, .slice M2.sa M2.s M2.sc, .slice M2.la M2.l M2.lc, .slice M2.ga M2.g M2.gc, .bool v.cl] := by rw [← hZ]; rfl
    have XZ : BoxL (w.heap.size + 1) [.int .i64 v.cp, .int .i64 v.se, .slice M2.ia M2.i M2.ic, .int .i64 v.nx, .slice M2.sa M2.s M2.sc, .slice M2.la M2.l M2.lc, .slice M2.ga M2.g M2.gc, .bool v.cl] Z := by
      rw [← hZ]
      exact ((((((((R3.set 0 (by simp) _).set 1 (by simp) _).set 2 (by simp) _).set 3 (by simp) _).set 4 (by simp) _).set 5 (by simp) _).set 6 (by simp) _).set 7 (by simp) _)
    have HRZ := hidOf (show ROwn w.heap.size Z M2 v by
      rw [hZ2]
      exact ((row3.grown (setL_grown ⟨rfl, rfl, rfl, Nat.le_refl _, fun _ _ _ => rfl⟩) (row3.out (by omega))).mono (B' := w.heap.size) (by omega)).own)
    have HBZ := hidOf (show Below w.heap.size w Z by rw [hZ2]; exact setL_below (by omega) B3)
    have HLZ := hidOf (show RLe M2 2097152 from le2 _ HM.out)
    have t0 := XZ.cs 0 (by simp)
    have t1 := XZ.cs 1 (by simp)
    have t2 := XZ.cs 2 (by simp)
    have t3 := XZ.cs 3 (by simp)
    have t4 := XZ.cs 4 (by simp)
    have t5 := XZ.cs 5 (by simp)
    have t6 := XZ.cs 6 (by simp)
    have t7 := XZ.cs 7 (by simp)
    simp at t0 t1 t2 t3 t4 t5 t6 t7
    clear hZ2 XZ R3
    go_wp2_with fail
    clear hZ
    exact bodyPost_ret (v := .tuple #[.agg #[.int .i64 v.cp, .int .i64 v.se, .slice M2.ia M2.i M2.ic, .int .i64 v.nx, .slice M2.sa M2.s M2.sc, .slice M2.la M2.l M2.lc, .slice M2.ga M2.g M2.gc, .bool v.cl], .int .i64 (-1), .int .i64 6]) (by simp [results, Tryz.results59, go_sem, t0, t1, t2, t3, t4, t5, t6, t7]) rfl (show RgI w (sbsR v ts back) (sbsI v ts) (sbsC v ts) _ _ by rw [HE.out]; exact ⟨M2, rfl, HRZ.out, HLZ.out, HBZ.out⟩)
  have HCl := hidOf (show v.cl = false from hqc)
  clear hqc
  go_upto_region 5 with fail
  rw [← HCl.out] at p7
  have HHd := hidOf (ok_head HQ.out)
  have HNx := hidOf (ok_next HQ.out)
  have hms : M.s = v.sb.length := by rw [← HI.out.sv]; have := HI.out.sb.len; simp [svs]; omega
  by_cases hfull : M.s = 12 ∨ v.nx = 1000000000
  · have hsc2 : 12 ≤ v.sb.length ∨ 1000000000 ≤ v.nx := by omega
    by_cases h12 : M.s = 12
    · have h12' : (M.s : Int) = 12 := by omega
      have HSc2 := hidOf hsc2
      clear h12 hfull hms hsc2
      go_upto_region 6 with fail
      clear h12'
      have HE := hidOf (show RgI w (sbsR v ts back) (sbsI v ts) (sbsC v ts) = RgI w v (-1) 2 by
        have hc : sbsC v ts = 2 := by
          unfold sbsC
          rw [if_pos HOk.out, if_neg (by rw [HCl.out]; decide), if_pos HSc2.out]
        unfold sbsR sbsI
        rw [hc, if_neg (by decide), if_neg (by decide)])
      have HC := hidOf (copiedRing_any M v w2 (HI.out.keep B2) HM.out)
      go_wp2_with fail
      refine (HC.out).mono ?_
      rintro e w3 ⟨M2, rfl, row2, le2, b3⟩
      have row3 := row2.mono (B' := w.heap.size + 2) hs2
      have R3 := R2.keep b3
      have B3 := bl_trans B2 b3
      clear A2 R2 p0 p1 p2 p3 p4 p5 p6 p7
      have r0 := R3.cs 0 (by simp)
      have r1 := R3.cs 1 (by simp)
      have r2 := R3.cs 2 (by simp)
      have r3 := R3.cs 3 (by simp)
      have r4 := R3.cs 4 (by simp)
      have r5 := R3.cs 5 (by simp)
      have r6 := R3.cs 6 (by simp)
      have r7 := R3.cs 7 (by simp)
      have rf := R3.fr
      simp at r0 r1 r2 r3 r4 r5 r6 r7
      obtain ⟨Z, hZ⟩ : ∃ Z, ((((((((w3.setCell ⟨w.heap.size + 1, 0, none⟩ (.int .i64 v.cp)).setCell ⟨w.heap.size + 1, 1, none⟩ (.int .i64 v.se)).setCell ⟨w.heap.size + 1, 2, none⟩ (.slice M2.ia M2.i M2.ic)).setCell ⟨w.heap.size + 1, 3, none⟩ (.int .i64 v.nx)).setCell ⟨w.heap.size + 1, 4, none⟩ (.slice M2.sa M2.s M2.sc)).setCell ⟨w.heap.size + 1, 5, none⟩ (.slice M2.la M2.l M2.lc)).setCell ⟨w.heap.size + 1, 6, none⟩ (.slice M2.ga M2.g M2.gc)).setCell ⟨w.heap.size + 1, 7, none⟩ (.bool v.cl)) = Z := ⟨_, rfl⟩
      have hZ2 : Z = setL w3 (w.heap.size + 1) 0 [.int .i64 v.cp, .int .i64 v.se, .slice M2.ia M2.i M2.ic, .int .i64 v.nx, .slice M2.sa M2.s M2.sc, .slice M2.la M2.l M2.lc, .slice M2.ga M2.g M2.gc, .bool v.cl] := by rw [← hZ]; rfl
      have XZ : BoxL (w.heap.size + 1) [.int .i64 v.cp, .int .i64 v.se, .slice M2.ia M2.i M2.ic, .int .i64 v.nx, .slice M2.sa M2.s M2.sc, .slice M2.la M2.l M2.lc, .slice M2.ga M2.g M2.gc, .bool v.cl] Z := by
        rw [← hZ]
        exact ((((((((R3.set 0 (by simp) _).set 1 (by simp) _).set 2 (by simp) _).set 3 (by simp) _).set 4 (by simp) _).set 5 (by simp) _).set 6 (by simp) _).set 7 (by simp) _)
      have HRZ := hidOf (show ROwn w.heap.size Z M2 v by
        rw [hZ2]
        exact ((row3.grown (setL_grown ⟨rfl, rfl, rfl, Nat.le_refl _, fun _ _ _ => rfl⟩) (row3.out (by omega))).mono (B' := w.heap.size) (by omega)).own)
      have HBZ := hidOf (show Below w.heap.size w Z by rw [hZ2]; exact setL_below (by omega) B3)
      have HLZ := hidOf (show RLe M2 2097152 from le2 _ HM.out)
      have t0 := XZ.cs 0 (by simp)
      have t1 := XZ.cs 1 (by simp)
      have t2 := XZ.cs 2 (by simp)
      have t3 := XZ.cs 3 (by simp)
      have t4 := XZ.cs 4 (by simp)
      have t5 := XZ.cs 5 (by simp)
      have t6 := XZ.cs 6 (by simp)
      have t7 := XZ.cs 7 (by simp)
      simp at t0 t1 t2 t3 t4 t5 t6 t7
      clear hZ2 XZ R3
      go_wp2_with fail
      clear hZ
      exact bodyPost_ret (v := .tuple #[.agg #[.int .i64 v.cp, .int .i64 v.se, .slice M2.ia M2.i M2.ic, .int .i64 v.nx, .slice M2.sa M2.s M2.sc, .slice M2.la M2.l M2.lc, .slice M2.ga M2.g M2.gc, .bool v.cl], .int .i64 (-1), .int .i64 2]) (by simp [results, Tryz.results59, go_sem, t0, t1, t2, t3, t4, t5, t6, t7]) rfl (show RgI w (sbsR v ts back) (sbsI v ts) (sbsC v ts) _ _ by rw [HE.out]; exact ⟨M2, rfl, HRZ.out, HLZ.out, HBZ.out⟩)
    · have h12' : ¬ (M.s : Int) = 12 := by omega
      have hnx : v.nx = 1000000000 := by omega
      have HSc2 := hidOf hsc2
      clear h12 hfull hms hsc2
      go_upto_region 6 with fail
      clear hnx h12'
      have HE := hidOf (show RgI w (sbsR v ts back) (sbsI v ts) (sbsC v ts) = RgI w v (-1) 2 by
        have hc : sbsC v ts = 2 := by
          unfold sbsC
          rw [if_pos HOk.out, if_neg (by rw [HCl.out]; decide), if_pos HSc2.out]
        unfold sbsR sbsI
        rw [hc, if_neg (by decide), if_neg (by decide)])
      have HC := hidOf (copiedRing_any M v w2 (HI.out.keep B2) HM.out)
      go_wp2_with fail
      refine (HC.out).mono ?_
      rintro e w3 ⟨M2, rfl, row2, le2, b3⟩
      have row3 := row2.mono (B' := w.heap.size + 2) hs2
      have R3 := R2.keep b3
      have B3 := bl_trans B2 b3
      clear A2 R2 p0 p1 p2 p3 p4 p5 p6 p7
      have r0 := R3.cs 0 (by simp)
      have r1 := R3.cs 1 (by simp)
      have r2 := R3.cs 2 (by simp)
      have r3 := R3.cs 3 (by simp)
      have r4 := R3.cs 4 (by simp)
      have r5 := R3.cs 5 (by simp)
      have r6 := R3.cs 6 (by simp)
      have r7 := R3.cs 7 (by simp)
      have rf := R3.fr
      simp at r0 r1 r2 r3 r4 r5 r6 r7
      obtain ⟨Z, hZ⟩ : ∃ Z, ((((((((w3.setCell ⟨w.heap.size + 1, 0, none⟩ (.int .i64 v.cp)).setCell ⟨w.heap.size + 1, 1, none⟩ (.int .i64 v.se)).setCell ⟨w.heap.size + 1, 2, none⟩ (.slice M2.ia M2.i M2.ic)).setCell ⟨w.heap.size + 1, 3, none⟩ (.int .i64 v.nx)).setCell ⟨w.heap.size + 1, 4, none⟩ (.slice M2.sa M2.s M2.sc)).setCell ⟨w.heap.size + 1, 5, none⟩ (.slice M2.la M2.l M2.lc)).setCell ⟨w.heap.size + 1, 6, none⟩ (.slice M2.ga M2.g M2.gc)).setCell ⟨w.heap.size + 1, 7, none⟩ (.bool v.cl)) = Z := ⟨_, rfl⟩
      have hZ2 : Z = setL w3 (w.heap.size + 1) 0 [.int .i64 v.cp, .int .i64 v.se, .slice M2.ia M2.i M2.ic, .int .i64 v.nx, .slice M2.sa M2.s M2.sc, .slice M2.la M2.l M2.lc, .slice M2.ga M2.g M2.gc, .bool v.cl] := by rw [← hZ]; rfl
      have XZ : BoxL (w.heap.size + 1) [.int .i64 v.cp, .int .i64 v.se, .slice M2.ia M2.i M2.ic, .int .i64 v.nx, .slice M2.sa M2.s M2.sc, .slice M2.la M2.l M2.lc, .slice M2.ga M2.g M2.gc, .bool v.cl] Z := by
        rw [← hZ]
        exact ((((((((R3.set 0 (by simp) _).set 1 (by simp) _).set 2 (by simp) _).set 3 (by simp) _).set 4 (by simp) _).set 5 (by simp) _).set 6 (by simp) _).set 7 (by simp) _)
      have HRZ := hidOf (show ROwn w.heap.size Z M2 v by
        rw [hZ2]
        exact ((row3.grown (setL_grown ⟨rfl, rfl, rfl, Nat.le_refl _, fun _ _ _ => rfl⟩) (row3.out (by omega))).mono (B' := w.heap.size) (by omega)).own)
      have HBZ := hidOf (show Below w.heap.size w Z by rw [hZ2]; exact setL_below (by omega) B3)
      have HLZ := hidOf (show RLe M2 2097152 from le2 _ HM.out)
      have t0 := XZ.cs 0 (by simp)
      have t1 := XZ.cs 1 (by simp)
      have t2 := XZ.cs 2 (by simp)
      have t3 := XZ.cs 3 (by simp)
      have t4 := XZ.cs 4 (by simp)
      have t5 := XZ.cs 5 (by simp)
      have t6 := XZ.cs 6 (by simp)
      have t7 := XZ.cs 7 (by simp)
      simp at t0 t1 t2 t3 t4 t5 t6 t7
      clear hZ2 XZ R3
      go_wp2_with fail
      clear hZ
      exact bodyPost_ret (v := .tuple #[.agg #[.int .i64 v.cp, .int .i64 v.se, .slice M2.ia M2.i M2.ic, .int .i64 v.nx, .slice M2.sa M2.s M2.sc, .slice M2.la M2.l M2.lc, .slice M2.ga M2.g M2.gc, .bool v.cl], .int .i64 (-1), .int .i64 2]) (by simp [results, Tryz.results59, go_sem, t0, t1, t2, t3, t4, t5, t6, t7]) rfl (show RgI w (sbsR v ts back) (sbsI v ts) (sbsC v ts) _ _ by rw [HE.out]; exact ⟨M2, rfl, HRZ.out, HLZ.out, HBZ.out⟩)
  have h12' : ¬ (M.s : Int) = 12 := by omega
  have hnx' : ¬ v.nx = 1000000000 := by omega
  have HC0 := hidOf (show sbsC v ts = 0 by
    unfold sbsC
    have h1 := HHd.out
    have h2 := HNx.out
    rw [if_pos HOk.out, if_neg (by rw [HCl.out]; decide), if_neg (by omega)])
  clear hms
  obtain ⟨f, hse, hi, hf⟩ := ok_first HQ.out
  have HC := hidOf (ringBodyOf_any M v w2 f (HI.out.keep B2) HM.out HCap.out hse hi hf)
  have h12b : ((M.s : Int) == 12) = false := by rw [beq_eq_false_iff_ne]; exact h12'
  have hnxb : (v.nx == 1000000000) = false := by rw [beq_eq_false_iff_ne]; exact hnx'
  clear hse hi hf hfull
  go_upto_region 7 with fail
  clear h12' hnx' h12b hnxb
  go_wp2_with fail
  refine (HC.out).mono ?_
  rintro e w3 ⟨b, A, P, f2, sa, sc, ys, rfl, body, hAn, hAn', hyn, b3⟩
  have R3 := R2.keep b3
  have B3 := bl_trans B2 b3
  have A3 := A2.keep b3
  clear p0 p1 p2 p3 p4 p5 p6 p7 HC A2 R2 hAn hAn'
  have p1 := A3.cs 1 (by simp)
  simp at p1
  cases back
  · go_upto_region 11 with fail
    have HSu := hidOf (subscribe_any w2.heap.size b A P f2 v sa M.s sc ys a n cap ts (v.se) w3 body HM.out.s ((HT.out.keep B3)) (by omega) HNx.out)
    obtain ⟨v5, hv5⟩ : ∃ v5 : Rv, (⟨v.cp, v.se, v.it, v.nx + 1, v.sb ++ [newS v (v.se) ts], v.ln, v.gs, v.cl⟩ : Rv) = v5 := ⟨_, rfl⟩
    have HE := hidOf (show RgI w (sbsR v ts false) (sbsI v ts) (sbsC v ts) = RgI w v5 v.nx 0 by
      have hc := HC0.out
      unfold sbsR sbsI
      rw [hc, if_pos rfl, if_pos rfl, ← hv5]
      rfl)
    have HI5 := hidOf (show v5.it.length ≤ 16 ∧ v5.ln.length ≤ 12 ∧ v5.gs.length ≤ 12 by
      rw [← hv5]
      exact ⟨HHd.out.2.2.2.1, HHd.out.2.2.2.2.2⟩)
    unfold SbsP at HSu
    rw [hv5] at HSu
    clear hv5 body
    go_wp2_with fail
    refine (HSu.out).mono ?_
    rintro e w4 ⟨rfl, a5, c5, a2, c2, body5, b4⟩
    have HC5 := hidOf (ring_anyQ w2.heap.size b A P f2 v5 a5 (M.s + 1) c5 (ys ++ [⟨newS v (v.se) ts, a2, n, c2⟩]) w4 body5)
    have R4 := R3.below b4 (by omega)
    have B4 : Below w.heap.size w w4 := bl_trans2 B3 b4 (by omega)
    have len5 := body5.wst.rows.len
    clear R3 B3 HSu body5
    go_wp2_with fail
    refine (HC5.out).mono ?_
    rintro e w5 ⟨g6, hg6, rfl, row5, b5⟩
    have row6 := row5.mono (B' := w.heap.size + 2) (by omega)
    have R5 := R4.keep b5
    have B5 := bl_trans B4 b5
    have le5 : RLe (⟨some ⟨g6, 0, none⟩, v5.it.length, v5.it.length, a5, M.s + 1, c5, ys ++ [⟨newS v (v.se) ts, a2, n, c2⟩], A.a, A.n, A.c, A.a', A.n', A.c'⟩ : Rm) 2097152 := by
      have h := HM.out
      have h1 := HM1.out
      have h2 := HI5.out
      have h6 := len5.1
      have h7 := len5.2
      refine ⟨by show v5.it.length ≤ _; omega, by show M.s + 1 ≤ _; have := h1.s; omega, fun y hy => ?_, by show A.n ≤ _; omega, by show A.n' ≤ _; omega⟩
      rcases List.mem_append.1 hy with hy | hy
      · obtain ⟨x3, hx3, e3⟩ := hyn y hy
        rw [e3]
        exact h.f x3 hx3
      · rw [List.mem_singleton.1 hy]
        show n ≤ 2097152
        omega
    have HL5 := hidOf le5
    clear R4 B4 HC5 row5 le5
    have r0 := R5.cs 0 (by simp)
    have r1 := R5.cs 1 (by simp)
    have r2 := R5.cs 2 (by simp)
    have r3 := R5.cs 3 (by simp)
    have r4 := R5.cs 4 (by simp)
    have r5 := R5.cs 5 (by simp)
    have r6 := R5.cs 6 (by simp)
    have r7 := R5.cs 7 (by simp)
    have rf := R5.fr
    simp at r0 r1 r2 r3 r4 r5 r6 r7
    obtain ⟨Z, hZ⟩ : ∃ Z, ((((((((w5.setCell ⟨w.heap.size + 1, 0, none⟩ (.int .i64 v5.cp)).setCell ⟨w.heap.size + 1, 1, none⟩ (.int .i64 v5.se)).setCell ⟨w.heap.size + 1, 2, none⟩ (.slice (some ⟨g6, 0, none⟩) v5.it.length v5.it.length)).setCell ⟨w.heap.size + 1, 3, none⟩ (.int .i64 v5.nx)).setCell ⟨w.heap.size + 1, 4, none⟩ (.slice a5 (M.s + 1) c5)).setCell ⟨w.heap.size + 1, 5, none⟩ (.slice A.a A.n A.c)).setCell ⟨w.heap.size + 1, 6, none⟩ (.slice A.a' A.n' A.c')).setCell ⟨w.heap.size + 1, 7, none⟩ (.bool v5.cl)) = Z := ⟨_, rfl⟩
    have hZ2 : Z = setL w5 (w.heap.size + 1) 0 [.int .i64 v5.cp, .int .i64 v5.se, .slice (some ⟨g6, 0, none⟩) v5.it.length v5.it.length, .int .i64 v5.nx, .slice a5 (M.s + 1) c5, .slice A.a A.n A.c, .slice A.a' A.n' A.c', .bool v5.cl] := by rw [← hZ]; rfl
    have XZ : BoxL (w.heap.size + 1) [.int .i64 v5.cp, .int .i64 v5.se, .slice (some ⟨g6, 0, none⟩) v5.it.length v5.it.length, .int .i64 v5.nx, .slice a5 (M.s + 1) c5, .slice A.a A.n A.c, .slice A.a' A.n' A.c', .bool v5.cl] Z := by
      rw [← hZ]
      exact ((((((((R5.set 0 (by simp) _).set 1 (by simp) _).set 2 (by simp) _).set 3 (by simp) _).set 4 (by simp) _).set 5 (by simp) _).set 6 (by simp) _).set 7 (by simp) _)
    have HRZ := hidOf (show ROwn w.heap.size Z (⟨some ⟨g6, 0, none⟩, v5.it.length, v5.it.length, a5, M.s + 1, c5, ys ++ [⟨newS v (v.se) ts, a2, n, c2⟩], A.a, A.n, A.c, A.a', A.n', A.c'⟩ : Rm) v5 by
      rw [hZ2]
      exact ((row6.grown (setL_grown ⟨rfl, rfl, rfl, Nat.le_refl _, fun _ _ _ => rfl⟩) (row6.out (by omega))).mono (B' := w.heap.size) (by omega)).own)
    have HBZ := hidOf (show Below w.heap.size w Z by rw [hZ2]; exact setL_below (by omega) B5)
    have HLZ := hidOf (show RLe (⟨some ⟨g6, 0, none⟩, v5.it.length, v5.it.length, a5, M.s + 1, c5, ys ++ [⟨newS v (v.se) ts, a2, n, c2⟩], A.a, A.n, A.c, A.a', A.n', A.c'⟩ : Rm) 2097152 from HL5.out)
    have t0 := XZ.cs 0 (by simp)
    have t1 := XZ.cs 1 (by simp)
    have t2 := XZ.cs 2 (by simp)
    have t3 := XZ.cs 3 (by simp)
    have t4 := XZ.cs 4 (by simp)
    have t5 := XZ.cs 5 (by simp)
    have t6 := XZ.cs 6 (by simp)
    have t7 := XZ.cs 7 (by simp)
    simp at t0 t1 t2 t3 t4 t5 t6 t7
    clear hZ2 XZ R5
    go_wp2_with fail
    clear hZ
    exact bodyPost_ret (v := .tuple #[.agg #[.int .i64 v5.cp, .int .i64 v5.se, .slice (some ⟨g6, 0, none⟩) v5.it.length v5.it.length, .int .i64 v5.nx, .slice a5 (M.s + 1) c5, .slice A.a A.n A.c, .slice A.a' A.n' A.c', .bool v5.cl], .int .i64 (v.nx), .int .i64 0]) (by simp [results, Tryz.results59, go_sem, t0, t1, t2, t3, t4, t5, t6, t7]) rfl (show RgI w (sbsR v ts false) (sbsI v ts) (sbsC v ts) _ _ by rw [HE.out]; exact ⟨(⟨some ⟨g6, 0, none⟩, v5.it.length, v5.it.length, a5, M.s + 1, c5, ys ++ [⟨newS v (v.se) ts, a2, n, c2⟩], A.a, A.n, A.c, A.a', A.n', A.c'⟩ : Rm), rfl, HRZ.out, HLZ.out, HBZ.out⟩)
  · go_upto_region 10 with fail
    have HOl := hidOf (oldest_any w2.heap.size b A P f2 v sa M.s sc ys w3 body HM.out.s HHd.out.2.1 HHd.out.1)
    go_wp2_with fail
    refine (HOl.out).mono ?_
    rintro e w6 ⟨rfl, b6⟩
    have R6 := R3.keep b6
    have B6 := bl_trans B3 b6
    have body6 := body.keep b6
    clear R3 B3 body HOl
    have HSu := hidOf (subscribe_any w2.heap.size b A P f2 v sa M.s sc ys a n cap ts (oldR v) w6 body6 HM.out.s ((HT.out.keep B6)) (by omega) HNx.out)
    obtain ⟨v5, hv5⟩ : ∃ v5 : Rv, (⟨v.cp, v.se, v.it, v.nx + 1, v.sb ++ [newS v (oldR v) ts], v.ln, v.gs, v.cl⟩ : Rv) = v5 := ⟨_, rfl⟩
    have HE := hidOf (show RgI w (sbsR v ts true) (sbsI v ts) (sbsC v ts) = RgI w v5 v.nx 0 by
      have hc := HC0.out
      unfold sbsR sbsI
      rw [hc, if_pos rfl, if_pos rfl, ← hv5]
      rfl)
    have HI5 := hidOf (show v5.it.length ≤ 16 ∧ v5.ln.length ≤ 12 ∧ v5.gs.length ≤ 12 by
      rw [← hv5]
      exact ⟨HHd.out.2.2.2.1, HHd.out.2.2.2.2.2⟩)
    unfold SbsP at HSu
    rw [hv5] at HSu
    clear hv5 body6
    go_wp2_with fail
    refine (HSu.out).mono ?_
    rintro e w4 ⟨rfl, a5, c5, a2, c2, body5, b4⟩
    have HC5 := hidOf (ring_anyQ w2.heap.size b A P f2 v5 a5 (M.s + 1) c5 (ys ++ [⟨newS v (oldR v) ts, a2, n, c2⟩]) w4 body5)
    have R4 := R6.below b4 (by omega)
    have B4 : Below w.heap.size w w4 := bl_trans2 B6 b4 (by omega)
    have len5 := body5.wst.rows.len
    clear R6 B6 HSu body5
    go_wp2_with fail
    refine (HC5.out).mono ?_
    rintro e w5 ⟨g6, hg6, rfl, row5, b5⟩
    have row6 := row5.mono (B' := w.heap.size + 2) (by omega)
    have R5 := R4.keep b5
    have B5 := bl_trans B4 b5
    have le5 : RLe (⟨some ⟨g6, 0, none⟩, v5.it.length, v5.it.length, a5, M.s + 1, c5, ys ++ [⟨newS v (oldR v) ts, a2, n, c2⟩], A.a, A.n, A.c, A.a', A.n', A.c'⟩ : Rm) 2097152 := by
      have h := HM.out
      have h1 := HM1.out
      have h2 := HI5.out
      have h6 := len5.1
      have h7 := len5.2
      refine ⟨by show v5.it.length ≤ _; omega, by show M.s + 1 ≤ _; have := h1.s; omega, fun y hy => ?_, by show A.n ≤ _; omega, by show A.n' ≤ _; omega⟩
      rcases List.mem_append.1 hy with hy | hy
      · obtain ⟨x3, hx3, e3⟩ := hyn y hy
        rw [e3]
        exact h.f x3 hx3
      · rw [List.mem_singleton.1 hy]
        show n ≤ 2097152
        omega
    have HL5 := hidOf le5
    clear R4 B4 HC5 row5 le5
    have r0 := R5.cs 0 (by simp)
    have r1 := R5.cs 1 (by simp)
    have r2 := R5.cs 2 (by simp)
    have r3 := R5.cs 3 (by simp)
    have r4 := R5.cs 4 (by simp)
    have r5 := R5.cs 5 (by simp)
    have r6 := R5.cs 6 (by simp)
    have r7 := R5.cs 7 (by simp)
    have rf := R5.fr
    simp at r0 r1 r2 r3 r4 r5 r6 r7
    obtain ⟨Z, hZ⟩ : ∃ Z, ((((((((w5.setCell ⟨w.heap.size + 1, 0, none⟩ (.int .i64 v5.cp)).setCell ⟨w.heap.size + 1, 1, none⟩ (.int .i64 v5.se)).setCell ⟨w.heap.size + 1, 2, none⟩ (.slice (some ⟨g6, 0, none⟩) v5.it.length v5.it.length)).setCell ⟨w.heap.size + 1, 3, none⟩ (.int .i64 v5.nx)).setCell ⟨w.heap.size + 1, 4, none⟩ (.slice a5 (M.s + 1) c5)).setCell ⟨w.heap.size + 1, 5, none⟩ (.slice A.a A.n A.c)).setCell ⟨w.heap.size + 1, 6, none⟩ (.slice A.a' A.n' A.c')).setCell ⟨w.heap.size + 1, 7, none⟩ (.bool v5.cl)) = Z := ⟨_, rfl⟩
    have hZ2 : Z = setL w5 (w.heap.size + 1) 0 [.int .i64 v5.cp, .int .i64 v5.se, .slice (some ⟨g6, 0, none⟩) v5.it.length v5.it.length, .int .i64 v5.nx, .slice a5 (M.s + 1) c5, .slice A.a A.n A.c, .slice A.a' A.n' A.c', .bool v5.cl] := by rw [← hZ]; rfl
    have XZ : BoxL (w.heap.size + 1) [.int .i64 v5.cp, .int .i64 v5.se, .slice (some ⟨g6, 0, none⟩) v5.it.length v5.it.length, .int .i64 v5.nx, .slice a5 (M.s + 1) c5, .slice A.a A.n A.c, .slice A.a' A.n' A.c', .bool v5.cl] Z := by
      rw [← hZ]
      exact ((((((((R5.set 0 (by simp) _).set 1 (by simp) _).set 2 (by simp) _).set 3 (by simp) _).set 4 (by simp) _).set 5 (by simp) _).set 6 (by simp) _).set 7 (by simp) _)
    have HRZ := hidOf (show ROwn w.heap.size Z (⟨some ⟨g6, 0, none⟩, v5.it.length, v5.it.length, a5, M.s + 1, c5, ys ++ [⟨newS v (oldR v) ts, a2, n, c2⟩], A.a, A.n, A.c, A.a', A.n', A.c'⟩ : Rm) v5 by
      rw [hZ2]
      exact ((row6.grown (setL_grown ⟨rfl, rfl, rfl, Nat.le_refl _, fun _ _ _ => rfl⟩) (row6.out (by omega))).mono (B' := w.heap.size) (by omega)).own)
    have HBZ := hidOf (show Below w.heap.size w Z by rw [hZ2]; exact setL_below (by omega) B5)
    have HLZ := hidOf (show RLe (⟨some ⟨g6, 0, none⟩, v5.it.length, v5.it.length, a5, M.s + 1, c5, ys ++ [⟨newS v (oldR v) ts, a2, n, c2⟩], A.a, A.n, A.c, A.a', A.n', A.c'⟩ : Rm) 2097152 from HL5.out)
    have t0 := XZ.cs 0 (by simp)
    have t1 := XZ.cs 1 (by simp)
    have t2 := XZ.cs 2 (by simp)
    have t3 := XZ.cs 3 (by simp)
    have t4 := XZ.cs 4 (by simp)
    have t5 := XZ.cs 5 (by simp)
    have t6 := XZ.cs 6 (by simp)
    have t7 := XZ.cs 7 (by simp)
    simp at t0 t1 t2 t3 t4 t5 t6 t7
    clear hZ2 XZ R5
    go_wp2_with fail
    clear hZ
    exact bodyPost_ret (v := .tuple #[.agg #[.int .i64 v5.cp, .int .i64 v5.se, .slice (some ⟨g6, 0, none⟩) v5.it.length v5.it.length, .int .i64 v5.nx, .slice a5 (M.s + 1) c5, .slice A.a A.n A.c, .slice A.a' A.n' A.c', .bool v5.cl], .int .i64 (v.nx), .int .i64 0]) (by simp [results, Tryz.results59, go_sem, t0, t1, t2, t3, t4, t5, t6, t7]) rfl (show RgI w (sbsR v ts true) (sbsI v ts) (sbsC v ts) _ _ by rw [HE.out]; exact ⟨(⟨some ⟨g6, 0, none⟩, v5.it.length, v5.it.length, a5, M.s + 1, c5, ys ++ [⟨newS v (oldR v) ts, a2, n, c2⟩], A.a, A.n, A.c, A.a', A.n', A.c'⟩ : Rm), rfl, HRZ.out, HLZ.out, HBZ.out⟩)
end Go.Proofs.YtihdglmiecifjaaGreat
