/-
  The specification's Unwait.
-/
import Derived.Test.YtihdglmiecifjaaGreatZRa19
namespace Go.Proofs.YtihdglmiecifjaaGreat
open Go.RowKit Pl Il

set_option maxRecDepth 100000 in
set_option maxHeartbeats 8000000 in
theorem specUnwait_any : UnwaitDone 65 := by
  intro M v id w hI hm1 hcap hw hid
  have hm := hm1.mono (k' := 2097152) (by omega)
  obtain ⟨U0, hU0⟩ : ∃ W, W = (w.alloc (.cells #[.int .i64 v.cp, .int .i64 v.se, .slice M.ia M.i M.ic, .int .i64 v.nx, .slice M.sa M.s M.sc, .slice M.la M.l M.lc, .slice M.ga M.g M.gc, .bool v.cl] 28)).alloc (.cells #[.int .i64 0, .int .i64 0, .slice none 0 0, .int .i64 0, .slice none 0 0, .slice none 0 0, .slice none 0 0, .bool false] 28) := ⟨_, rfl⟩
  have B0 : Below w.heap.size w U0 := by rw [hU0]; exact bl_alloc (bl_alloc (Below.refl _ _) _) _
  have z0 : U0.heap.size = w.heap.size + 2 := by rw [hU0]; simp
  have A0 : BoxL w.heap.size (rC M v) U0 := by rw [hU0]; exact (BoxL.new w (rC M v) _).alloc _
  have R0 : BoxL (w.heap.size + 1) [.int .i64 0, .int .i64 0, .slice none 0 0, .int .i64 0, .slice none 0 0, .slice none 0 0, .slice none 0 0, .bool false] U0 := by
    rw [hU0]
    have h := BoxL.new (w.alloc (.cells (rC M v).toArray 28)) [.int .i64 0, .int .i64 0, .slice none 0 0, .int .i64 0, .slice none 0 0, .slice none 0 0, .slice none 0 0, .bool false] 28
    simpa using h
  have HC := hidOf (l9Copy_any M v U0 (hI.keep B0) hm)
  have p0 := A0.cs 0 (by simp)
  have p1 := A0.cs 1 (by simp)
  have p2 := A0.cs 2 (by simp)
  have p3 := A0.cs 3 (by simp)
  have p4 := A0.cs 4 (by simp)
  have p5 := A0.cs 5 (by simp)
  have p6 := A0.cs 6 (by simp)
  have p7 := A0.cs 7 (by simp)
  simp at p0 p1 p2 p3 p4 p5 p6 p7
  have HI := hidOf hI
  have HM := hidOf hm
  have HK := hidOf (fun (u : World) (hu : RIn u M v) => specRingOk_any M v u hu hm1 hcap hw)
  have hml := hm.l
  have hmg := hm.g
  clear hI hm hm1 hcap hw hid
  go_enter Tryz.func65, Tryz.ntmps65
  go_upto_region 1 with fail
  rw [← hU0]
  clear hU0
  go_wp2_with fail
  refine (HC.out).mono ?_
  rintro e w1 ⟨M1, rfl, row1, le1, b1⟩
  rw [z0] at row1
  obtain ⟨U1, hU1⟩ : ∃ W, w1.alloc (.cells #[.int .i64 v.cp, .int .i64 v.se, .slice M1.ia M1.i M1.ic, .int .i64 v.nx, .slice M1.sa M1.s M1.sc, .slice M1.la M1.l M1.lc, .slice M1.ga M1.g M1.gc, .bool v.cl] 28) = W := ⟨_, rfl⟩
  have ba : Below w1.heap.size w1 U1 := by rw [← hU1]; exact bl_alloc (Below.refl _ _) _
  have A1 := (A0.keep b1).keep ba
  have R1 := (R0.keep b1).keep ba
  have K1 : BoxL w1.heap.size (rC M1 v) U1 := by rw [← hU1]; exact BoxL.new w1 (rC M1 v) _
  have row2 := row1.keep ba
  have B1 := bl_trans (bl_trans B0 b1) ba
  have hs1 : w.heap.size + 2 ≤ w1.heap.size := by have := b1.size; omega
  have nK : some w1.heap.size ∉ blkR M1 := row1.new (Nat.le_refl _)
  have HLe := hidOf (le1 _ HM.out)
  have HK1 := hidOf (HK.out U1 (HI.out.keep B1))
  clear A0 R0 p0 p1 p2 p3 p4 p5 p6 p7 row1 b1 B0 HC HK z0
  have p0 := A1.cs 0 (by simp)
  have p1 := A1.cs 1 (by simp)
  have p2 := A1.cs 2 (by simp)
  have p3 := A1.cs 3 (by simp)
  have p4 := A1.cs 4 (by simp)
  have p5 := A1.cs 5 (by simp)
  have p6 := A1.cs 6 (by simp)
  have p7 := A1.cs 7 (by simp)
  simp at p0 p1 p2 p3 p4 p5 p6 p7
  obtain ⟨q, hq⟩ : ∃ q, okR restR v = q := ⟨_, rfl⟩
  rw [hq] at HK1
  have HQ := hidOf hq
  clear hq
  go_upto_region 2 with fail
  clear hU1
  go_wp2_with fail
  refine (HK1.out).mono ?_
  rintro e w2 ⟨rfl, b2⟩
  have A2 := A1.keep b2
  have R2 := R1.keep b2
  have K2 := K1.keep b2
  have row3 := row2.keep b2
  have B2 := bl_trans B1 b2
  clear A1 R1 K1 row2 B1 b2 ba HK1 p0 p1 p2 p3 p4 p5 p6 p7
  cases q
  · have HE := hidOf (show RgP w (unwR v id) (unwC v id) = RgP w v 1 by unfold unwR unwC; rw [if_neg (by rw [HQ.out]; simp), if_neg (by rw [HQ.out]; simp)])
    have o0 := K2.cs 0 (by simp)
    have o1 := K2.cs 1 (by simp)
    have o2 := K2.cs 2 (by simp)
    have o3 := K2.cs 3 (by simp)
    have o4 := K2.cs 4 (by simp)
    have o5 := K2.cs 5 (by simp)
    have o6 := K2.cs 6 (by simp)
    have o7 := K2.cs 7 (by simp)
    have r0 := R2.cs 0 (by simp)
    have r1 := R2.cs 1 (by simp)
    have r2 := R2.cs 2 (by simp)
    have r3 := R2.cs 3 (by simp)
    have r4 := R2.cs 4 (by simp)
    have r5 := R2.cs 5 (by simp)
    have r6 := R2.cs 6 (by simp)
    have r7 := R2.cs 7 (by simp)
    have rf := R2.fr
    simp at o0 o1 o2 o3 o4 o5 o6 o7 r0 r1 r2 r3 r4 r5 r6 r7
    obtain ⟨Z, hZ⟩ : ∃ Z, ((((((((w2.setCell ⟨w.heap.size + 1, 0, none⟩ (.int .i64 v.cp)).setCell ⟨w.heap.size + 1, 1, none⟩ (.int .i64 v.se)).setCell ⟨w.heap.size + 1, 2, none⟩ (.slice M1.ia M1.i M1.ic)).setCell ⟨w.heap.size + 1, 3, none⟩ (.int .i64 v.nx)).setCell ⟨w.heap.size + 1, 4, none⟩ (.slice M1.sa M1.s M1.sc)).setCell ⟨w.heap.size + 1, 5, none⟩ (.slice M1.la M1.l M1.lc)).setCell ⟨w.heap.size + 1, 6, none⟩ (.slice M1.ga M1.g M1.gc)).setCell ⟨w.heap.size + 1, 7, none⟩ (.bool v.cl)) = Z := ⟨_, rfl⟩
    have hZ2 : Z = setL w2 (w.heap.size + 1) 0 (rC M1 v) := by rw [← hZ]; rfl
    have XZ : BoxL (w.heap.size + 1) (rC M1 v) Z := by
      rw [← hZ]
      exact ((((((((R2.set 0 (by simp) _).set 1 (by simp) _).set 2 (by simp) _).set 3 (by simp) _).set 4 (by simp) _).set 5 (by simp) _).set 6 (by simp) _).set 7 (by simp) _)
    have HRZ := hidOf (show ROwn w.heap.size Z M1 v by
      rw [hZ2]
      exact ((row3.grown (setL_grown ⟨rfl, rfl, rfl, Nat.le_refl _, fun _ _ _ => rfl⟩) (row3.out (by omega))).mono (B' := w.heap.size) (by omega)).own)
    have HBZ := hidOf (show Below w.heap.size w Z by rw [hZ2]; exact setL_below (by omega) B2)
    have HLZ := hidOf HLe.out
    have t0 := XZ.cs 0 (by simp)
    have t1 := XZ.cs 1 (by simp)
    have t2 := XZ.cs 2 (by simp)
    have t3 := XZ.cs 3 (by simp)
    have t4 := XZ.cs 4 (by simp)
    have t5 := XZ.cs 5 (by simp)
    have t6 := XZ.cs 6 (by simp)
    have t7 := XZ.cs 7 (by simp)
    simp at t0 t1 t2 t3 t4 t5 t6 t7
    clear hZ2 XZ K2 R2
    go_wp2_with fail
    clear hZ
    exact bodyPost_ret (v := .tuple #[.agg #[.int .i64 v.cp, .int .i64 v.se, .slice M1.ia M1.i M1.ic, .int .i64 v.nx, .slice M1.sa M1.s M1.sc, .slice M1.la M1.l M1.lc, .slice M1.ga M1.g M1.gc, .bool v.cl], .int .i64 1]) (by simp [results, Tryz.results65, go_sem, t0, t1, t2, t3, t4, t5, t6, t7]) rfl (show RgP w (unwR v id) (unwC v id) _ _ by rw [HE.out]; exact ⟨M1, rfl, HRZ.out, HLZ.out, HBZ.out⟩)
  have p5 := A2.cs 5 (by simp)
  have p6 := A2.cs 6 (by simp)
  simp at p5 p6
  have H1 := hidOf (l2Has_any M.la M.l M.lc v.ln id w2 (HI.out.keep B2).ln hml)
  have H2 := hidOf (l2Has_any M.ga M.g M.gc v.gs id w2 (HI.out.keep B2).gs hmg)
  obtain ⟨a, ha⟩ : ∃ a, hasL v.ln id = a := ⟨_, rfl⟩
  obtain ⟨b, hb⟩ : ∃ b, hasL v.gs id = b := ⟨_, rfl⟩
  rw [ha] at H1
  rw [hb] at H2
  have HA := hidOf ha
  have HB := hidOf hb
  clear ha hb
  cases a
  · cases b
    · have HE := hidOf (show RgP w (unwR v id) (unwC v id) = RgP w v 3 by
        unfold unwR unwC
        rw [if_pos HQ.out, if_pos HQ.out, if_neg (by rw [HA.out, HB.out]; simp), if_neg (by rw [HA.out, HB.out]; simp)])
      go_upto_region 4 with fail
      go_wp2_with fail
      refine (H1.out).mono ?_
      rintro e w' ⟨rfl, hww⟩
      obtain rfl : w2 = w' := hww.symm
      go_wp2_with fail
      refine (H2.out).mono ?_
      rintro e w' ⟨rfl, hww⟩
      obtain rfl : w2 = w' := hww.symm
      go_upto_region 5 with fail
      have o0 := K2.cs 0 (by simp)
      have o1 := K2.cs 1 (by simp)
      have o2 := K2.cs 2 (by simp)
      have o3 := K2.cs 3 (by simp)
      have o4 := K2.cs 4 (by simp)
      have o5 := K2.cs 5 (by simp)
      have o6 := K2.cs 6 (by simp)
      have o7 := K2.cs 7 (by simp)
      have r0 := R2.cs 0 (by simp)
      have r1 := R2.cs 1 (by simp)
      have r2 := R2.cs 2 (by simp)
      have r3 := R2.cs 3 (by simp)
      have r4 := R2.cs 4 (by simp)
      have r5 := R2.cs 5 (by simp)
      have r6 := R2.cs 6 (by simp)
      have r7 := R2.cs 7 (by simp)
      have rf := R2.fr
      simp at o0 o1 o2 o3 o4 o5 o6 o7 r0 r1 r2 r3 r4 r5 r6 r7
      obtain ⟨Z, hZ⟩ : ∃ Z, ((((((((w2.setCell ⟨w.heap.size + 1, 0, none⟩ (.int .i64 v.cp)).setCell ⟨w.heap.size + 1, 1, none⟩ (.int .i64 v.se)).setCell ⟨w.heap.size + 1, 2, none⟩ (.slice M1.ia M1.i M1.ic)).setCell ⟨w.heap.size + 1, 3, none⟩ (.int .i64 v.nx)).setCell ⟨w.heap.size + 1, 4, none⟩ (.slice M1.sa M1.s M1.sc)).setCell ⟨w.heap.size + 1, 5, none⟩ (.slice M1.la M1.l M1.lc)).setCell ⟨w.heap.size + 1, 6, none⟩ (.slice M1.ga M1.g M1.gc)).setCell ⟨w.heap.size + 1, 7, none⟩ (.bool v.cl)) = Z := ⟨_, rfl⟩
      have hZ2 : Z = setL w2 (w.heap.size + 1) 0 (rC M1 v) := by rw [← hZ]; rfl
      have XZ : BoxL (w.heap.size + 1) (rC M1 v) Z := by
        rw [← hZ]
        exact ((((((((R2.set 0 (by simp) _).set 1 (by simp) _).set 2 (by simp) _).set 3 (by simp) _).set 4 (by simp) _).set 5 (by simp) _).set 6 (by simp) _).set 7 (by simp) _)
      have HRZ := hidOf (show ROwn w.heap.size Z M1 v by
        rw [hZ2]
        exact ((row3.grown (setL_grown ⟨rfl, rfl, rfl, Nat.le_refl _, fun _ _ _ => rfl⟩) (row3.out (by omega))).mono (B' := w.heap.size) (by omega)).own)
      have HBZ := hidOf (show Below w.heap.size w Z by rw [hZ2]; exact setL_below (by omega) B2)
      have HLZ := hidOf HLe.out
      have t0 := XZ.cs 0 (by simp)
      have t1 := XZ.cs 1 (by simp)
      have t2 := XZ.cs 2 (by simp)
      have t3 := XZ.cs 3 (by simp)
      have t4 := XZ.cs 4 (by simp)
      have t5 := XZ.cs 5 (by simp)
      have t6 := XZ.cs 6 (by simp)
      have t7 := XZ.cs 7 (by simp)
      simp at t0 t1 t2 t3 t4 t5 t6 t7
      clear hZ2 XZ K2 R2
      go_wp2_with fail
      clear hZ
      exact bodyPost_ret (v := .tuple #[.agg #[.int .i64 v.cp, .int .i64 v.se, .slice M1.ia M1.i M1.ic, .int .i64 v.nx, .slice M1.sa M1.s M1.sc, .slice M1.la M1.l M1.lc, .slice M1.ga M1.g M1.gc, .bool v.cl], .int .i64 3]) (by simp [results, Tryz.results65, go_sem, t0, t1, t2, t3, t4, t5, t6, t7]) rfl (show RgP w (unwR v id) (unwC v id) _ _ by rw [HE.out]; exact ⟨M1, rfl, HRZ.out, HLZ.out, HBZ.out⟩)
    · go_upto_region 4 with fail
      go_wp2_with fail
      refine (H1.out).mono ?_
      rintro e w' ⟨rfl, hww⟩
      obtain rfl : w2 = w' := hww.symm
      go_wp2_with fail
      refine (H2.out).mono ?_
      rintro e w' ⟨rfl, hww⟩
      obtain rfl : w2 = w' := hww.symm
      have HE := hidOf (show RgP w (unwR v id) (unwC v id) = RgP w (goneR v id) 0 by
        unfold unwR unwC
        rw [if_pos HQ.out, if_pos HQ.out, if_pos (by rw [HA.out, HB.out]; rfl), if_pos (by rw [HA.out, HB.out]; rfl)])
      have C4 := hidOf (l2Less_any M.la M.l M.lc v.ln id w2 (HI.out.keep B2).ln hml)
      have sK : w1.heap.size < w2.heap.size := K2.lt
      go_upto_region 6 with fail
      go_wp2_with fail
      refine (C4.out).mono ?_
      rintro e w4 ⟨g4, m4, c4, rfl, o4, b4⟩
      obtain ⟨U4, hU4⟩ : ∃ W, w4.setCell ⟨w1.heap.size, 5, none⟩ (.slice (some ⟨g4, 0, none⟩) m4 c4) = W := ⟨_, rfl⟩
      have Y4 := K2.keep b4
      have f4 := Y4.fr
      have q4 := Y4.cs 5 (by simp)
      simp at q4
      have g4p := owns_parts o4
      have K4 : BoxL w1.heap.size (rC { M1 with la := some ⟨g4, 0, none⟩, l := m4, lc := c4 } { v with ln := lessL v.ln id }) U4 := by rw [← hU4]; exact Y4.set 5 (by simp) _
      have R4 : BoxL (w.heap.size + 1) [.int .i64 0, .int .i64 0, .slice none 0 0, .int .i64 0, .slice none 0 0, .slice none 0 0, .slice none 0 0, .bool false] U4 := by rw [← hU4]; exact (R2.keep b4).far _ _ (by omega) _
      have A4 : BoxL w.heap.size (rC M v) U4 := by rw [← hU4]; exact (A2.keep b4).far _ _ (by omega) _
      have B4 : Below w.heap.size w U4 := by rw [← hU4]; exact bl_setB (bl_trans B2 b4) _ _ (by omega) _
      have r4 : U4.ownsRow (w.heap.size + 2) 3 1 (.slice (some ⟨g4, 0, none⟩) m4 c4) m4 (intsV (lessL v.ln id)) := by
        rw [← hU4]
        exact rowG (rowM o4 (by omega)) (grown_setC _ _ _ _) (fun q e e' => by
          injection e with e
          have e2 : g4 = q := by simpa [Value.ownBlock] using e'
          omega)
      have row4 : RRow (w.heap.size + 2) U4 { M1 with la := some ⟨g4, 0, none⟩, l := m4, lc := c4 } { v with ln := lessL v.ln id } := by
        have h1 : RRow (w.heap.size + 2) U4 M1 v := by rw [← hU4]; exact (row3.keep b4).grown (grown_setC _ _ _ _) nK
        exact h1.line r4 (row3.new g4p.2.1)
      have zU4 : U4.heap.size = w4.heap.size := by rw [← hU4]; simp
      have nK4 : some w1.heap.size ∉ blkR { M1 with la := some ⟨g4, 0, none⟩, l := m4, lc := c4 } := fun hmm => by
        unfold blkR at hmm nK
        simp only [List.mem_cons] at hmm nK
        rcases hmm with h | h | h | h | h
        · exact nK (.inl h)
        · exact nK (.inr (.inl h))
        · have e2 : w1.heap.size = g4 := by simpa [Value.ownBlock] using h
          have := g4p.2.1
          omega
        · exact nK (.inr (.inr (.inr (.inl h))))
        · exact nK (.inr (.inr (.inr (.inr h))))
      have sb4 := b4.size
      have C5 := hidOf (l2Less_any M.ga M.g M.gc v.gs id U4 (HI.out.keep B4).gs hmg)
      have p6 := A4.cs 6 (by simp)
      simp at p6
      have L4 : m4 ≤ 2097152 := by
        have h1 := g4p.1
        have h2 := lessL_len v.ln id
        have h3 := (HI.out).ln.len
        omega
      go_upto_region 7 with fail
      clear hU4 f4 q4 Y4 r4 o4 b4 K2 R2 A2 row3 p5
      go_wp2_with fail
      refine (C5.out).mono ?_
      rintro e w5 ⟨g5, m5, c5, rfl, o5, b5⟩
      obtain ⟨U5, hU5⟩ : ∃ W, w5.setCell ⟨w1.heap.size, 6, none⟩ (.slice (some ⟨g5, 0, none⟩) m5 c5) = W := ⟨_, rfl⟩
      have Y5 := K4.keep b5
      have f5 := Y5.fr
      have q5 := Y5.cs 6 (by simp)
      simp at q5
      have g5p := owns_parts o5
      obtain ⟨M5, hM5⟩ : ∃ M5 : Rm, M5 = { M1 with la := some ⟨g4, 0, none⟩, l := m4, lc := c4, ga := some ⟨g5, 0, none⟩, g := m5, gc := c5 } := ⟨_, rfl⟩
      obtain ⟨v5, hv5⟩ : ∃ v5 : Rv, v5 = goneR v id := ⟨_, rfl⟩
      have K5 : BoxL w1.heap.size (rC M5 v5) U5 := by rw [← hU5, hM5, hv5]; exact Y5.set 6 (by simp) _
      have R5 : BoxL (w.heap.size + 1) [.int .i64 0, .int .i64 0, .slice none 0 0, .int .i64 0, .slice none 0 0, .slice none 0 0, .slice none 0 0, .bool false] U5 := by rw [← hU5]; exact (R4.keep b5).far _ _ (by omega) _
      have B5 : Below w.heap.size w U5 := by rw [← hU5]; exact bl_setB (bl_trans B4 b5) _ _ (by omega) _
      have r5 : U5.ownsRow (w.heap.size + 2) 3 1 (.slice (some ⟨g5, 0, none⟩) m5 c5) m5 (intsV (lessL v.gs id)) := by
        rw [← hU5]
        exact rowG (rowM o5 (by omega)) (grown_setC _ _ _ _) (fun q e e' => by
          injection e with e
          have e2 : g5 = q := by simpa [Value.ownBlock] using e'
          omega)
      have row5 : RRow (w.heap.size + 2) U5 M5 v5 := by
        have h1 : RRow (w.heap.size + 2) U5 { M1 with la := some ⟨g4, 0, none⟩, l := m4, lc := c4 } { v with ln := lessL v.ln id } := by rw [← hU5]; exact (row4.keep b5).grown (grown_setC _ _ _ _) nK4
        rw [hM5, hv5]
        exact h1.grants r5 (row4.new g5p.2.1)
      have le5 : RLe M5 2097152 := by
        have h1 := HLe.out
        rw [hM5]
        refine ⟨h1.i, h1.s, h1.f, L4, ?_⟩
        have h2 := g5p.1
        have h3 := lessL_len v.gs id
        have h4 := (HI.out).gs.len
        show m5 ≤ 2097152
        omega
      have HL5 := hidOf le5
      have HV5 := hidOf hv5
      go_upto_region 8 with fail
      have HM5 := hidOf hM5
      clear hU5 f5 q5 Y5 r5 o5 b5 K4 R4 A4 row4 p6 hM5 hv5
      have o0 := K5.cs 0 (by simp)
      have o1 := K5.cs 1 (by simp)
      have o2 := K5.cs 2 (by simp)
      have o3 := K5.cs 3 (by simp)
      have o4 := K5.cs 4 (by simp)
      have o5 := K5.cs 5 (by simp)
      have o6 := K5.cs 6 (by simp)
      have o7 := K5.cs 7 (by simp)
      have r0 := R5.cs 0 (by simp)
      have r1 := R5.cs 1 (by simp)
      have r2 := R5.cs 2 (by simp)
      have r3 := R5.cs 3 (by simp)
      have r4 := R5.cs 4 (by simp)
      have r5 := R5.cs 5 (by simp)
      have r6 := R5.cs 6 (by simp)
      have r7 := R5.cs 7 (by simp)
      have rf := R5.fr
      simp at o0 o1 o2 o3 o4 o5 o6 o7 r0 r1 r2 r3 r4 r5 r6 r7
      obtain ⟨Z, hZ⟩ : ∃ Z, ((((((((U5.setCell ⟨w.heap.size + 1, 0, none⟩ (.int .i64 v5.cp)).setCell ⟨w.heap.size + 1, 1, none⟩ (.int .i64 v5.se)).setCell ⟨w.heap.size + 1, 2, none⟩ (.slice M5.ia M5.i M5.ic)).setCell ⟨w.heap.size + 1, 3, none⟩ (.int .i64 v5.nx)).setCell ⟨w.heap.size + 1, 4, none⟩ (.slice M5.sa M5.s M5.sc)).setCell ⟨w.heap.size + 1, 5, none⟩ (.slice M5.la M5.l M5.lc)).setCell ⟨w.heap.size + 1, 6, none⟩ (.slice M5.ga M5.g M5.gc)).setCell ⟨w.heap.size + 1, 7, none⟩ (.bool v5.cl)) = Z := ⟨_, rfl⟩
      have hZ2 : Z = setL U5 (w.heap.size + 1) 0 (rC M5 v5) := by rw [← hZ]; rfl
      have XZ : BoxL (w.heap.size + 1) (rC M5 v5) Z := by
        rw [← hZ]
        exact ((((((((R5.set 0 (by simp) _).set 1 (by simp) _).set 2 (by simp) _).set 3 (by simp) _).set 4 (by simp) _).set 5 (by simp) _).set 6 (by simp) _).set 7 (by simp) _)
      have HRZ := hidOf (show ROwn w.heap.size Z M5 v5 by
        rw [hZ2]
        exact ((row5.grown (setL_grown ⟨rfl, rfl, rfl, Nat.le_refl _, fun _ _ _ => rfl⟩) (row5.out (by omega))).mono (B' := w.heap.size) (by omega)).own)
      have HBZ := hidOf (show Below w.heap.size w Z by rw [hZ2]; exact setL_below (by omega) B5)
      have HLZ := hidOf HL5.out
      have t0 := XZ.cs 0 (by simp)
      have t1 := XZ.cs 1 (by simp)
      have t2 := XZ.cs 2 (by simp)
      have t3 := XZ.cs 3 (by simp)
      have t4 := XZ.cs 4 (by simp)
      have t5 := XZ.cs 5 (by simp)
      have t6 := XZ.cs 6 (by simp)
      have t7 := XZ.cs 7 (by simp)
      simp at t0 t1 t2 t3 t4 t5 t6 t7
      clear hZ2 XZ K5 R5
      go_wp2_with fail
      clear hZ
      exact bodyPost_ret (v := .tuple #[.agg #[.int .i64 v5.cp, .int .i64 v5.se, .slice M5.ia M5.i M5.ic, .int .i64 v5.nx, .slice M5.sa M5.s M5.sc, .slice M5.la M5.l M5.lc, .slice M5.ga M5.g M5.gc, .bool v5.cl], .int .i64 0]) (by simp [results, Tryz.results65, go_sem, t0, t1, t2, t3, t4, t5, t6, t7]) rfl (show RgP w (unwR v id) (unwC v id) _ _ by rw [HE.out, ← HV5.out]; exact ⟨M5, rfl, HRZ.out, HLZ.out, HBZ.out⟩)
  · go_upto_region 4 with fail
    go_wp2_with fail
    refine (H1.out).mono ?_
    rintro e w' ⟨rfl, hww⟩
    obtain rfl : w2 = w' := hww.symm
    have HE := hidOf (show RgP w (unwR v id) (unwC v id) = RgP w (goneR v id) 0 by
      unfold unwR unwC
      rw [if_pos HQ.out, if_pos HQ.out, if_pos (by rw [HA.out, HB.out]; rfl), if_pos (by rw [HA.out, HB.out]; rfl)])
    have C4 := hidOf (l2Less_any M.la M.l M.lc v.ln id w2 (HI.out.keep B2).ln hml)
    have sK : w1.heap.size < w2.heap.size := K2.lt
    go_upto_region 6 with fail
    go_wp2_with fail
    refine (C4.out).mono ?_
    rintro e w4 ⟨g4, m4, c4, rfl, o4, b4⟩
    obtain ⟨U4, hU4⟩ : ∃ W, w4.setCell ⟨w1.heap.size, 5, none⟩ (.slice (some ⟨g4, 0, none⟩) m4 c4) = W := ⟨_, rfl⟩
    have Y4 := K2.keep b4
    have f4 := Y4.fr
    have q4 := Y4.cs 5 (by simp)
    simp at q4
    have g4p := owns_parts o4
    have K4 : BoxL w1.heap.size (rC { M1 with la := some ⟨g4, 0, none⟩, l := m4, lc := c4 } { v with ln := lessL v.ln id }) U4 := by rw [← hU4]; exact Y4.set 5 (by simp) _
    have R4 : BoxL (w.heap.size + 1) [.int .i64 0, .int .i64 0, .slice none 0 0, .int .i64 0, .slice none 0 0, .slice none 0 0, .slice none 0 0, .bool false] U4 := by rw [← hU4]; exact (R2.keep b4).far _ _ (by omega) _
    have A4 : BoxL w.heap.size (rC M v) U4 := by rw [← hU4]; exact (A2.keep b4).far _ _ (by omega) _
    have B4 : Below w.heap.size w U4 := by rw [← hU4]; exact bl_setB (bl_trans B2 b4) _ _ (by omega) _
    have r4 : U4.ownsRow (w.heap.size + 2) 3 1 (.slice (some ⟨g4, 0, none⟩) m4 c4) m4 (intsV (lessL v.ln id)) := by
      rw [← hU4]
      exact rowG (rowM o4 (by omega)) (grown_setC _ _ _ _) (fun q e e' => by
        injection e with e
        have e2 : g4 = q := by simpa [Value.ownBlock] using e'
        omega)
    have row4 : RRow (w.heap.size + 2) U4 { M1 with la := some ⟨g4, 0, none⟩, l := m4, lc := c4 } { v with ln := lessL v.ln id } := by
      have h1 : RRow (w.heap.size + 2) U4 M1 v := by rw [← hU4]; exact (row3.keep b4).grown (grown_setC _ _ _ _) nK
      exact h1.line r4 (row3.new g4p.2.1)
    have zU4 : U4.heap.size = w4.heap.size := by rw [← hU4]; simp
    have nK4 : some w1.heap.size ∉ blkR { M1 with la := some ⟨g4, 0, none⟩, l := m4, lc := c4 } := fun hmm => by
      unfold blkR at hmm nK
      simp only [List.mem_cons] at hmm nK
      rcases hmm with h | h | h | h | h
      · exact nK (.inl h)
      · exact nK (.inr (.inl h))
      · have e2 : w1.heap.size = g4 := by simpa [Value.ownBlock] using h
        have := g4p.2.1
        omega
      · exact nK (.inr (.inr (.inr (.inl h))))
      · exact nK (.inr (.inr (.inr (.inr h))))
    have sb4 := b4.size
    have C5 := hidOf (l2Less_any M.ga M.g M.gc v.gs id U4 (HI.out.keep B4).gs hmg)
    have p6 := A4.cs 6 (by simp)
    simp at p6
    have L4 : m4 ≤ 2097152 := by
      have h1 := g4p.1
      have h2 := lessL_len v.ln id
      have h3 := (HI.out).ln.len
      omega
    go_upto_region 7 with fail
    clear hU4 f4 q4 Y4 r4 o4 b4 K2 R2 A2 row3 p5
    go_wp2_with fail
    refine (C5.out).mono ?_
    rintro e w5 ⟨g5, m5, c5, rfl, o5, b5⟩
    obtain ⟨U5, hU5⟩ : ∃ W, w5.setCell ⟨w1.heap.size, 6, none⟩ (.slice (some ⟨g5, 0, none⟩) m5 c5) = W := ⟨_, rfl⟩
    have Y5 := K4.keep b5
    have f5 := Y5.fr
    have q5 := Y5.cs 6 (by simp)
    simp at q5
    have g5p := owns_parts o5
    obtain ⟨M5, hM5⟩ : ∃ M5 : Rm, M5 = { M1 with la := some ⟨g4, 0, none⟩, l := m4, lc := c4, ga := some ⟨g5, 0, none⟩, g := m5, gc := c5 } := ⟨_, rfl⟩
    obtain ⟨v5, hv5⟩ : ∃ v5 : Rv, v5 = goneR v id := ⟨_, rfl⟩
    have K5 : BoxL w1.heap.size (rC M5 v5) U5 := by rw [← hU5, hM5, hv5]; exact Y5.set 6 (by simp) _
    have R5 : BoxL (w.heap.size + 1) [.int .i64 0, .int .i64 0, .slice none 0 0, .int .i64 0, .slice none 0 0, .slice none 0 0, .slice none 0 0, .bool false] U5 := by rw [← hU5]; exact (R4.keep b5).far _ _ (by omega) _
    have B5 : Below w.heap.size w U5 := by rw [← hU5]; exact bl_setB (bl_trans B4 b5) _ _ (by omega) _
    have r5 : U5.ownsRow (w.heap.size + 2) 3 1 (.slice (some ⟨g5, 0, none⟩) m5 c5) m5 (intsV (lessL v.gs id)) := by
      rw [← hU5]
      exact rowG (rowM o5 (by omega)) (grown_setC _ _ _ _) (fun q e e' => by
        injection e with e
        have e2 : g5 = q := by simpa [Value.ownBlock] using e'
        omega)
    have row5 : RRow (w.heap.size + 2) U5 M5 v5 := by
      have h1 : RRow (w.heap.size + 2) U5 { M1 with la := some ⟨g4, 0, none⟩, l := m4, lc := c4 } { v with ln := lessL v.ln id } := by rw [← hU5]; exact (row4.keep b5).grown (grown_setC _ _ _ _) nK4
      rw [hM5, hv5]
      exact h1.grants r5 (row4.new g5p.2.1)
    have le5 : RLe M5 2097152 := by
      have h1 := HLe.out
      rw [hM5]
      refine ⟨h1.i, h1.s, h1.f, L4, ?_⟩
      have h2 := g5p.1
      have h3 := lessL_len v.gs id
      have h4 := (HI.out).gs.len
      show m5 ≤ 2097152
      omega
    have HL5 := hidOf le5
    have HV5 := hidOf hv5
    go_upto_region 8 with fail
    have HM5 := hidOf hM5
    clear hU5 f5 q5 Y5 r5 o5 b5 K4 R4 A4 row4 p6 hM5 hv5
    have o0 := K5.cs 0 (by simp)
    have o1 := K5.cs 1 (by simp)
    have o2 := K5.cs 2 (by simp)
    have o3 := K5.cs 3 (by simp)
    have o4 := K5.cs 4 (by simp)
    have o5 := K5.cs 5 (by simp)
    have o6 := K5.cs 6 (by simp)
    have o7 := K5.cs 7 (by simp)
    have r0 := R5.cs 0 (by simp)
    have r1 := R5.cs 1 (by simp)
    have r2 := R5.cs 2 (by simp)
    have r3 := R5.cs 3 (by simp)
    have r4 := R5.cs 4 (by simp)
    have r5 := R5.cs 5 (by simp)
    have r6 := R5.cs 6 (by simp)
    have r7 := R5.cs 7 (by simp)
    have rf := R5.fr
    simp at o0 o1 o2 o3 o4 o5 o6 o7 r0 r1 r2 r3 r4 r5 r6 r7
    obtain ⟨Z, hZ⟩ : ∃ Z, ((((((((U5.setCell ⟨w.heap.size + 1, 0, none⟩ (.int .i64 v5.cp)).setCell ⟨w.heap.size + 1, 1, none⟩ (.int .i64 v5.se)).setCell ⟨w.heap.size + 1, 2, none⟩ (.slice M5.ia M5.i M5.ic)).setCell ⟨w.heap.size + 1, 3, none⟩ (.int .i64 v5.nx)).setCell ⟨w.heap.size + 1, 4, none⟩ (.slice M5.sa M5.s M5.sc)).setCell ⟨w.heap.size + 1, 5, none⟩ (.slice M5.la M5.l M5.lc)).setCell ⟨w.heap.size + 1, 6, none⟩ (.slice M5.ga M5.g M5.gc)).setCell ⟨w.heap.size + 1, 7, none⟩ (.bool v5.cl)) = Z := ⟨_, rfl⟩
    have hZ2 : Z = setL U5 (w.heap.size + 1) 0 (rC M5 v5) := by rw [← hZ]; rfl
    have XZ : BoxL (w.heap.size + 1) (rC M5 v5) Z := by
      rw [← hZ]
      exact ((((((((R5.set 0 (by simp) _).set 1 (by simp) _).set 2 (by simp) _).set 3 (by simp) _).set 4 (by simp) _).set 5 (by simp) _).set 6 (by simp) _).set 7 (by simp) _)
    have HRZ := hidOf (show ROwn w.heap.size Z M5 v5 by
      rw [hZ2]
      exact ((row5.grown (setL_grown ⟨rfl, rfl, rfl, Nat.le_refl _, fun _ _ _ => rfl⟩) (row5.out (by omega))).mono (B' := w.heap.size) (by omega)).own)
    have HBZ := hidOf (show Below w.heap.size w Z by rw [hZ2]; exact setL_below (by omega) B5)
    have HLZ := hidOf HL5.out
    have t0 := XZ.cs 0 (by simp)
    have t1 := XZ.cs 1 (by simp)
    have t2 := XZ.cs 2 (by simp)
    have t3 := XZ.cs 3 (by simp)
    have t4 := XZ.cs 4 (by simp)
    have t5 := XZ.cs 5 (by simp)
    have t6 := XZ.cs 6 (by simp)
    have t7 := XZ.cs 7 (by simp)
    simp at t0 t1 t2 t3 t4 t5 t6 t7
    clear hZ2 XZ K5 R5
    go_wp2_with fail
    clear hZ
    exact bodyPost_ret (v := .tuple #[.agg #[.int .i64 v5.cp, .int .i64 v5.se, .slice M5.ia M5.i M5.ic, .int .i64 v5.nx, .slice M5.sa M5.s M5.sc, .slice M5.la M5.l M5.lc, .slice M5.ga M5.g M5.gc, .bool v5.cl], .int .i64 0]) (by simp [results, Tryz.results65, go_sem, t0, t1, t2, t3, t4, t5, t6, t7]) rfl (show RgP w (unwR v id) (unwC v id) _ _ by rw [HE.out, ← HV5.out]; exact ⟨M5, rfl, HRZ.out, HLZ.out, HBZ.out⟩)
end Go.Proofs.YtihdglmiecifjaaGreat
