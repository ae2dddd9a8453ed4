/-
  The specification's CloseRing
-/
import Derived.Test.YtdboaoejlkkoeaaGreatZPo12
namespace Go.Proofs.YtdboaoejlkkoeaaGreat
open Go.RowKit Pl Il
theorem close_end {w U w7 : World} {k g7 n c7 : Nat} {M5 : Rm} {v5 : Rv} {xs : List Int} (R5 : BoxL (w.heap.size + 1) [.int .i64 0, .int .i64 0, .slice none 0 0, .int .i64 0, .slice none 0 0, .slice none 0 0, .slice none 0 0, .bool false] U) (K5 : BoxL k (rC M5 v5) U) (row5 : RRow (w.heap.size + 2) U M5 v5) (B5 : Below w.heap.size w U) (hlt : w.heap.size + 2 ≤ U.heap.size) (ho7 : Owns U.drew.heap.size w7 g7 n c7 xs) (hb7 : Below U.drew.heap.size U.drew w7) :
    BoxL k (rC M5 v5) w7 ∧ BoxL (w.heap.size + 1) [.int .i64 0, .int .i64 0, .slice none 0 0, .int .i64 0, .slice none 0 0, .slice none 0 0, .slice none 0 0, .bool false] w7 ∧ BoxL (w.heap.size + 1) (rC M5 v5) (setL w7 (w.heap.size + 1) 0 (rC M5 v5)) ∧ (RRow w.heap.size (setL w7 (w.heap.size + 1) 0 (rC M5 v5)) M5 v5 ∧ Il.OwnAt w.heap.size (setL w7 (w.heap.size + 1) 0 (rC M5 v5)) (some ⟨g7, 0, none⟩) n xs ∧ (∀ p, p ∈ allR M5 → Far p.1 p.2 (some ⟨g7, 0, none⟩) n) ∧ Below w.heap.size w (setL w7 (w.heap.size + 1) 0 (rC M5 v5))) := by
  have b : Below U.heap.size U w7 := bl_trans (Below.refl _ _).drew hb7
  have R7 := R5.keep b
  have r7 := row5.keep b
  have hg : w7.grownBy (setL w7 (w.heap.size + 1) 0 (rC M5 v5)) (some (w.heap.size + 1)) := setL_grown ⟨rfl, rfl, rfl, Nat.le_refl _, fun _ _ _ => rfl⟩
  have op := owns_parts ho7
  have hge : U.heap.size ≤ g7 := op.2.1
  refine ⟨K5.keep b, R7, ((((((((R7.set 0 (by simp) _).set 1 (by simp) _).set 2 (by simp) _).set 3 (by simp) _).set 4 (by simp) _).set 5 (by simp) _).set 6 (by simp) _).set 7 (by simp) _), ((r7.grown hg (r7.out (by omega))).mono (B' := w.heap.size) (by omega)), ?_, fun p hp => Far.mk (row5.own.rin.und p hp) (.inr fun b off e => by cases e; exact hge), setL_below (by omega) (bl_trans B5 b)⟩
  refine (row_own (rowG (rowM ho7 (B' := w.heap.size) ?_) hg fun q e e' => ?_)).1
  · show w.heap.size ≤ U.heap.size
    omega
  · injection e with e
    have e2 : g7 = q := by simpa [Value.ownBlock] using e'
    omega
set_option maxRecDepth 100000 in
set_option maxHeartbeats 8000000 in
theorem specClose_anyS : CloseDoneS 67 := by
 intro M v w hI hm1 hcap hw
 have hm := hm1.mono (k' := 2097152) (by omega)
 obtain ⟨U0, hU0⟩ : ∃ W, W = (w.alloc (.cells #[.int .i64 v.cp, .int .i64 v.se, .slice M.ia M.i M.ic, .int .i64 v.nx, .slice M.sa M.s M.sc, .slice M.la M.l M.lc, .slice M.ga M.g M.gc, .bool v.cl] 28)).alloc (.cells #[.int .i64 0, .int .i64 0, .slice none 0 0, .int .i64 0, .slice none 0 0, .slice none 0 0, .slice none 0 0, .bool false] 28) := ⟨_, rfl⟩
 have B0 : Below w.heap.size w U0 := by rw [hU0]; exact bl_alloc (bl_alloc (Below.refl _ _) _) _
 have z0 : U0.heap.size = w.heap.size + 2 := by rw [hU0]; simp
 have A0 : BoxL w.heap.size (rC M v) U0 := by rw [hU0]; exact (BoxL.new w (rC M v) _).alloc _
 have R0 : BoxL (w.heap.size + 1) [.int .i64 0, .int .i64 0, .slice none 0 0, .int .i64 0, .slice none 0 0, .slice none 0 0, .slice none 0 0, .bool false] U0 := by
  rw [hU0]
  have h := BoxL.new (w.alloc (.cells (rC M v).toArray 28)) [.int .i64 0, .int .i64 0, .slice none 0 0, .int .i64 0, .slice none 0 0, .slice none 0 0, .slice none 0 0, .bool false] 28
  simpa using h
 have HC := hidOf (l9Copy_any M v U0 (hI.keep B0) hm)
 have p0 := A0.cs 0 (by simp)
 have p1 := A0.cs 1 (by simp)
 have p2 := A0.cs 2 (by simp)
 have p3 := A0.cs 3 (by simp)
 have p4 := A0.cs 4 (by simp)
 have p5 := A0.cs 5 (by simp)
 have p6 := A0.cs 6 (by simp)
 have p7 := A0.cs 7 (by simp)
 simp at p0 p1 p2 p3 p4 p5 p6 p7
 have HI := hidOf hI
 have HM := hidOf hm
 have HM1 := hidOf hm1
 have HK := hidOf (fun (u : World) (hu : RIn u M v) => specRingOk_any M v u hu hm1 hcap hw)
 have hml := hm1.l
 have hmg := hm1.g
 clear hI hm hm1 hcap hw
 go_enter Tryz.func67, Tryz.ntmps67
 go_upto_region 1 with fail
 rw [← hU0]
 clear hU0
 go_wp2_with fail
 refine (HC.out).mono ?_
 rintro e w1 ⟨M1, rfl, row1, le1, b1⟩
 rw [z0] at row1
 obtain ⟨U1, hU1⟩ : ∃ W, w1.alloc (.cells #[.int .i64 v.cp, .int .i64 v.se, .slice M1.ia M1.i M1.ic, .int .i64 v.nx, .slice M1.sa M1.s M1.sc, .slice M1.la M1.l M1.lc, .slice M1.ga M1.g M1.gc, .bool v.cl] 28) = W := ⟨_, rfl⟩
 have ba : Below w1.heap.size w1 U1 := by rw [← hU1]; exact bl_alloc (Below.refl _ _) _
 have A1 := (A0.keep b1).keep ba
 have R1 := (R0.keep b1).keep ba
 have K1 : BoxL w1.heap.size (rC M1 v) U1 := by rw [← hU1]; exact BoxL.new w1 (rC M1 v) _
 have row2 := row1.keep ba
 have B1 := bl_trans (bl_trans B0 b1) ba
 have hs1 : w.heap.size + 2 ≤ w1.heap.size := by have := b1.size; omega
 have nK : some w1.heap.size ∉ blkR M1 := row1.new (Nat.le_refl _)
 have HLe := hidOf (le1 _ HM.out)
 have HLe1 := hidOf (le1 _ HM1.out)
 have HK1 := hidOf (HK.out U1 (HI.out.keep B1))
 clear A0 R0 p0 p1 p2 p3 p4 p5 p6 p7 row1 b1 B0 HC HK z0
 have p0 := A1.cs 0 (by simp)
 have p1 := A1.cs 1 (by simp)
 have p2 := A1.cs 2 (by simp)
 have p3 := A1.cs 3 (by simp)
 have p4 := A1.cs 4 (by simp)
 have p5 := A1.cs 5 (by simp)
 have p6 := A1.cs 6 (by simp)
 have p7 := A1.cs 7 (by simp)
 simp at p0 p1 p2 p3 p4 p5 p6 p7
 obtain ⟨q, hq⟩ : ∃ q, okR restR v = q := ⟨_, rfl⟩
 rw [hq] at HK1
 have HQ := hidOf hq
 clear hq
 go_upto_region 2 with fail
 clear hU1
 go_wp2_with fail
 refine (HK1.out).mono ?_
 rintro e w2 ⟨rfl, b2⟩
 have A2 := A1.keep b2
 have R2 := R1.keep b2
 have K2 := K1.keep b2
 have row3 := row2.keep b2
 have B2 := bl_trans B1 b2
 clear A1 R1 K1 row2 B1 b2 ba HK1 p0 p1 p2 p3 p4 p5 p6 p7
 cases q
 ·have HE := hidOf (show RgTS w (cloR v) (cloT v) (cloC v) = RgTS w v [] 1 by unfold cloR cloT cloC; rw [if_neg (by rw [HQ.out]; simp), if_neg (by rw [HQ.out]; simp), if_neg (by rw [HQ.out]; simp)])
  have o0 := K2.cs 0 (by simp)
  have o1 := K2.cs 1 (by simp)
  have o2 := K2.cs 2 (by simp)
  have o3 := K2.cs 3 (by simp)
  have o4 := K2.cs 4 (by simp)
  have o5 := K2.cs 5 (by simp)
  have o6 := K2.cs 6 (by simp)
  have o7 := K2.cs 7 (by simp)
  have r0 := R2.cs 0 (by simp)
  have r1 := R2.cs 1 (by simp)
  have r2 := R2.cs 2 (by simp)
  have r3 := R2.cs 3 (by simp)
  have r4 := R2.cs 4 (by simp)
  have r5 := R2.cs 5 (by simp)
  have r6 := R2.cs 6 (by simp)
  have r7 := R2.cs 7 (by simp)
  have rf := R2.fr
  simp at o0 o1 o2 o3 o4 o5 o6 o7 r0 r1 r2 r3 r4 r5 r6 r7
  obtain ⟨Z, hZ⟩ : ∃ Z, ((((((((w2.setCell ⟨w.heap.size + 1, 0, none⟩ (.int .i64 v.cp)).setCell ⟨w.heap.size + 1, 1, none⟩ (.int .i64 v.se)).setCell ⟨w.heap.size + 1, 2, none⟩ (.slice M1.ia M1.i M1.ic)).setCell ⟨w.heap.size + 1, 3, none⟩ (.int .i64 v.nx)).setCell ⟨w.heap.size + 1, 4, none⟩ (.slice M1.sa M1.s M1.sc)).setCell ⟨w.heap.size + 1, 5, none⟩ (.slice M1.la M1.l M1.lc)).setCell ⟨w.heap.size + 1, 6, none⟩ (.slice M1.ga M1.g M1.gc)).setCell ⟨w.heap.size + 1, 7, none⟩ (.bool v.cl)) = Z := ⟨_, rfl⟩
  have hZ2 : Z = setL w2 (w.heap.size + 1) 0 (rC M1 v) := by rw [← hZ]; rfl
  have XZ : BoxL (w.heap.size + 1) (rC M1 v) Z := by
   rw [← hZ]
   exact ((((((((R2.set 0 (by simp) _).set 1 (by simp) _).set 2 (by simp) _).set 3 (by simp) _).set 4 (by simp) _).set 5 (by simp) _).set 6 (by simp) _).set 7 (by simp) _)
  have HRZ := hidOf (show RRow w.heap.size Z M1 v by
   rw [hZ2]
   exact ((row3.grown (setL_grown ⟨rfl, rfl, rfl, Nat.le_refl _, fun _ _ _ => rfl⟩) (row3.out (by omega))).mono (B' := w.heap.size) (by omega)))
  have HBZ := hidOf (show Below w.heap.size w Z by rw [hZ2]; exact setL_below (by omega) B2)
  have HLZ := hidOf HLe.out
  have t0 := XZ.cs 0 (by simp)
  have t1 := XZ.cs 1 (by simp)
  have t2 := XZ.cs 2 (by simp)
  have t3 := XZ.cs 3 (by simp)
  have t4 := XZ.cs 4 (by simp)
  have t5 := XZ.cs 5 (by simp)
  have t6 := XZ.cs 6 (by simp)
  have t7 := XZ.cs 7 (by simp)
  simp at t0 t1 t2 t3 t4 t5 t6 t7
  clear hZ2 XZ K2 R2
  go_wp2_with fail
  clear hZ
  exact bodyPost_ret (v := .tuple #[.agg #[.int .i64 v.cp, .int .i64 v.se, .slice M1.ia M1.i M1.ic, .int .i64 v.nx, .slice M1.sa M1.s M1.sc, .slice M1.la M1.l M1.lc, .slice M1.ga M1.g M1.gc, .bool v.cl], .slice none 0 0, .int .i64 1]) (by simp [results, Tryz.results67, go_sem, t0, t1, t2, t3, t4, t5, t6, t7]) rfl (show RgTS w (cloR v) (cloT v) (cloC v) _ _ by rw [HE.out]; exact ⟨M1, none, 0, 0, rfl, HRZ.out, HLZ.out, ⟨⟨rfl, .inl rfl⟩, .inl rfl⟩, by omega, fun _ _ => .inr (.inl rfl), HBZ.out⟩)
 have p5 := A2.cs 5 (by simp)
 have p7 := A2.cs 7 (by simp)
 simp at p5 p7
 obtain ⟨b, hb⟩ : ∃ b, v.cl = b := ⟨_, rfl⟩
 rw [hb] at p7
 have HB := hidOf hb
 clear hb
 cases b
 case true =>
  have HE := hidOf (show RgTS w (cloR v) (cloT v) (cloC v) = RgTS w v [] 6 by unfold cloR cloT cloC; rw [if_pos HQ.out, if_pos HQ.out, if_pos HQ.out, if_pos HB.out, if_pos HB.out, if_pos HB.out])
  have o0 := K2.cs 0 (by simp)
  have o1 := K2.cs 1 (by simp)
  have o2 := K2.cs 2 (by simp)
  have o3 := K2.cs 3 (by simp)
  have o4 := K2.cs 4 (by simp)
  have o5 := K2.cs 5 (by simp)
  have o6 := K2.cs 6 (by simp)
  have o7 := K2.cs 7 (by simp)
  have r0 := R2.cs 0 (by simp)
  have r1 := R2.cs 1 (by simp)
  have r2 := R2.cs 2 (by simp)
  have r3 := R2.cs 3 (by simp)
  have r4 := R2.cs 4 (by simp)
  have r5 := R2.cs 5 (by simp)
  have r6 := R2.cs 6 (by simp)
  have r7 := R2.cs 7 (by simp)
  have rf := R2.fr
  simp at o0 o1 o2 o3 o4 o5 o6 o7 r0 r1 r2 r3 r4 r5 r6 r7
  obtain ⟨Z, hZ⟩ : ∃ Z, ((((((((w2.setCell ⟨w.heap.size + 1, 0, none⟩ (.int .i64 v.cp)).setCell ⟨w.heap.size + 1, 1, none⟩ (.int .i64 v.se)).setCell ⟨w.heap.size + 1, 2, none⟩ (.slice M1.ia M1.i M1.ic)).setCell ⟨w.heap.size + 1, 3, none⟩ (.int .i64 v.nx)).setCell ⟨w.heap.size + 1, 4, none⟩ (.slice M1.sa M1.s M1.sc)).setCell ⟨w.heap.size + 1, 5, none⟩ (.slice M1.la M1.l M1.lc)).setCell ⟨w.heap.size + 1, 6, none⟩ (.slice M1.ga M1.g M1.gc)).setCell ⟨w.heap.size + 1, 7, none⟩ (.bool v.cl)) = Z := ⟨_, rfl⟩
  have hZ2 : Z = setL w2 (w.heap.size + 1) 0 (rC M1 v) := by rw [← hZ]; rfl
  have XZ : BoxL (w.heap.size + 1) (rC M1 v) Z := by
   rw [← hZ]
   exact ((((((((R2.set 0 (by simp) _).set 1 (by simp) _).set 2 (by simp) _).set 3 (by simp) _).set 4 (by simp) _).set 5 (by simp) _).set 6 (by simp) _).set 7 (by simp) _)
  have HRZ := hidOf (show RRow w.heap.size Z M1 v by
   rw [hZ2]
   exact ((row3.grown (setL_grown ⟨rfl, rfl, rfl, Nat.le_refl _, fun _ _ _ => rfl⟩) (row3.out (by omega))).mono (B' := w.heap.size) (by omega)))
  have HBZ := hidOf (show Below w.heap.size w Z by rw [hZ2]; exact setL_below (by omega) B2)
  have HLZ := hidOf HLe.out
  have t0 := XZ.cs 0 (by simp)
  have t1 := XZ.cs 1 (by simp)
  have t2 := XZ.cs 2 (by simp)
  have t3 := XZ.cs 3 (by simp)
  have t4 := XZ.cs 4 (by simp)
  have t5 := XZ.cs 5 (by simp)
  have t6 := XZ.cs 6 (by simp)
  have t7 := XZ.cs 7 (by simp)
  simp at t0 t1 t2 t3 t4 t5 t6 t7
  clear hZ2 XZ K2 R2
  go_wp2_with fail
  clear hZ
  exact bodyPost_ret (v := .tuple #[.agg #[.int .i64 v.cp, .int .i64 v.se, .slice M1.ia M1.i M1.ic, .int .i64 v.nx, .slice M1.sa M1.s M1.sc, .slice M1.la M1.l M1.lc, .slice M1.ga M1.g M1.gc, .bool v.cl], .slice none 0 0, .int .i64 6]) (by simp [results, Tryz.results67, go_sem, t0, t1, t2, t3, t4, t5, t6, t7]) rfl (show RgTS w (cloR v) (cloT v) (cloC v) _ _ by rw [HE.out]; exact ⟨M1, none, 0, 0, rfl, HRZ.out, HLZ.out, ⟨⟨rfl, .inl rfl⟩, .inl rfl⟩, by omega, fun _ _ => .inr (.inl rfl), HBZ.out⟩)
 have HE := hidOf (show RgTS w (cloR v) (cloT v) (cloC v) = RgTS w (shutR v) v.ln 0 by unfold cloR cloT cloC; rw [if_pos HQ.out, if_pos HQ.out, if_pos HQ.out, if_neg (by rw [HB.out]; simp), if_neg (by rw [HB.out]; simp), if_neg (by rw [HB.out]; simp)])
 have sK : w1.heap.size < w2.heap.size := K2.lt
 obtain ⟨U, hU⟩ : ∃ W, w2.setCell ⟨w1.heap.size, 7, none⟩ (.bool true) = W := ⟨_, rfl⟩
 have f2 := K2.fr
 have q2 := K2.cs 7 (by simp)
 simp at q2
 have zU : U.heap.size = w2.heap.size := by rw [← hU]; simp
 have K3 : BoxL w1.heap.size (rC M1 { v with cl := true }) U := by rw [← hU]; exact K2.set 7 (by simp) _
 have R3 : BoxL (w.heap.size + 1) [.int .i64 0, .int .i64 0, .slice none 0 0, .int .i64 0, .slice none 0 0, .slice none 0 0, .slice none 0 0, .bool false] U := by rw [← hU]; exact R2.far _ _ (by omega) _
 have A3 : BoxL w.heap.size (rC M v) U := by rw [← hU]; exact A2.far _ _ (by omega) _
 have B3 : Below w.heap.size w U := by rw [← hU]; exact bl_setB B2 _ _ (by omega) _
 have row4 : RRow (w.heap.size + 2) U M1 { v with cl := true } := by rw [← hU]; exact (row3.grown (grown_setC _ _ _ _) nK).shut true
 have hl1 := HLe1.out.g
 obtain ⟨a3, c3, w4, hr, ho3, hg3, hl3⟩ := append_ownS (w.heap.size + 2) M1.g _ v.gs M.la M.l M.lc v.ln U row4.gs (by omega) (HI.out.keep B3).ln (by omega)
 have ne : ∀ N, some N ∉ blkR M1 → (Value.slice M1.ga M1.g M1.gc).ownBlock ≠ some N := fun N hN e => hN (by rw [← e]; simp [blkR])
 have K4 := K3.grownO hg3 (ne _ nK)
 have R4 := R3.grownO hg3 (ne _ (row4.out (by omega)))
 have A4 := A3.grownO hg3 (ne _ (row4.out (by omega)))
 have B4 : Below w.heap.size w w4 := B3.grown hg3 (by omega) (fun q e => by have := (row_lt row4.gs e).1; omega)
 have row5 := row4.growG ho3 hg3 hl3
 have s4 := hg3.size
 obtain ⟨M5, hM5⟩ : ∃ M5 : Rm, M5 = { M1 with la := none, l := 0, lc := 0, ga := a3, g := M1.g + M.l, gc := c3 } := ⟨_, rfl⟩
 obtain ⟨v5, hv5⟩ : ∃ v5 : Rv, v5 = shutR v := ⟨_, rfl⟩
 have nK4 : some w1.heap.size ∉ blkR { M1 with ga := a3, g := M1.g + M.l, gc := c3 } := fun hmm => by
  unfold blkR at hmm nK
  simp only [List.mem_cons] at hmm nK
  rcases hmm with h | h | h | h | h
  ·exact nK (.inl h)
  ·exact nK (.inr (.inl h))
  ·exact nK (.inr (.inr (.inl h)))
  ·rcases hl3 _ h.symm with k | k
   ·exact nK (.inr (.inr (.inr (.inl k.symm))))
   ·omega
  ·exact nK (.inr (.inr (.inr (.inr h))))
 obtain ⟨U5, hU5⟩ : ∃ W, (w4.setCell ⟨w1.heap.size, 6, none⟩ (.slice a3 (M1.g + M.l) c3)).setCell ⟨w1.heap.size, 5, none⟩ (.slice none 0 0) = W := ⟨_, rfl⟩
 have K5 : BoxL w1.heap.size (rC M5 v5) U5 := by rw [← hU5, hM5, hv5]; exact (K4.set 6 (by simp) _).set 5 (by simp) _
 have R5 : BoxL (w.heap.size + 1) [.int .i64 0, .int .i64 0, .slice none 0 0, .int .i64 0, .slice none 0 0, .slice none 0 0, .slice none 0 0, .bool false] U5 := by rw [← hU5]; exact (R4.far _ _ (by omega) _).far _ _ (by omega) _
 have A5 : BoxL w.heap.size (rC M v) U5 := by rw [← hU5]; exact (A4.far _ _ (by omega) _).far _ _ (by omega) _
 have B5 : Below w.heap.size w U5 := by rw [← hU5]; exact bl_setB (bl_setB B4 _ _ (by omega) _) _ _ (by omega) _
 have z5 : U5.heap.size = w4.heap.size := by rw [← hU5]; simp
 have row6 : RRow (w.heap.size + 2) U5 M5 v5 := by rw [← hU5, hM5, hv5]; exact ((row5.grown (grown_setC _ _ _ _) nK4).grown (grown_setC _ _ _ _) nK4).noLine
 have HL5 := hidOf (show RLe M5 2097152 by
  have h1 := HLe.out
  rw [hM5]
  refine ⟨h1.i, h1.s, h1.f, by show (0 : Nat) ≤ _; omega, ?_⟩
  show M1.g + M.l ≤ 2097152
  omega)
 have HCy := hidOf (l2Copy_any M.la M.l M.lc v.ln U5.drew ((HI.out.keep B5).ln.keep (Below.refl _ _).drew) (by omega))
 have HEnd := hidOf (fun (g7 c7 : Nat) (w7 : World) (ho7 : Owns U5.drew.heap.size w7 g7 M.l c7 v.ln) (hb7 : Below U5.drew.heap.size U5.drew w7) => close_end R5 K5 row6 B5 (by omega) ho7 hb7)
 have HV5 := hidOf hv5
 have Hr := hidOf hr
 have HS := hidOf sK
 have k0 := K3.cs 0 (by simp)
 have k1 := K3.cs 1 (by simp)
 have k2 := K3.cs 2 (by simp)
 have k3 := K3.cs 3 (by simp)
 have k4 := K3.cs 4 (by simp)
 have k5 := K3.cs 5 (by simp)
 have k6 := K3.cs 6 (by simp)
 have k7 := K3.cs 7 (by simp)
 simp at k0 k1 k2 k3 k4 k5 k6 k7
 have p5 := A3.cs 5 (by simp)
 simp at p5
 have kf := K4.fr
 have j5 := K4.cs 5 (by simp)
 have j6 := K4.cs 6 (by simp)
 simp at j5 j6
 have o5 := A5.cs 5 (by simp)
 simp at o5
 have g0 := K5.cs 0 (by simp)
 have g1 := K5.cs 1 (by simp)
 have g2 := K5.cs 2 (by simp)
 have g3 := K5.cs 3 (by simp)
 have g4 := K5.cs 4 (by simp)
 have g5 := K5.cs 5 (by simp)
 have g6 := K5.cs 6 (by simp)
 have g7 := K5.cs 7 (by simp)
 simp at g0 g1 g2 g3 g4 g5 g6 g7
 go_upto_region 7 with fail
 clear hU f2 q2 K2 R2 A2 K3 R3 A3 K4 R4 A4 K5 R5 A5 B2 B3 B4 B5 row3 row4 row5 row6 nK nK4 ne hr ho3 hg3 hl3 p7 zU z5 s4 hM5 hv5 sK
 go_wp2_with (at_builtin; refine wpList_append_run rfl _ _ 26 rfl _ _ _ rfl rfl Hr.out ?_)
 go_region_with (first
  | (go_at_call 87; refine (HCy.out).mono ?_; rintro e w7 ⟨g7, c7, rfl, ho7, hb7⟩; obtain ⟨k7, r7, t7, hF⟩ := HEnd.out g7 c7 w7 ho7 hb7; obtain ⟨Z, hZ⟩ : ∃ Z, ((((((((w7.setCell ⟨w.heap.size + 1, 0, none⟩ (.int .i64 v5.cp)).setCell ⟨w.heap.size + 1, 1, none⟩ (.int .i64 v5.se)).setCell ⟨w.heap.size + 1, 2, none⟩ (.slice M5.ia M5.i M5.ic)).setCell ⟨w.heap.size + 1, 3, none⟩ (.int .i64 v5.nx)).setCell ⟨w.heap.size + 1, 4, none⟩ (.slice M5.sa M5.s M5.sc)).setCell ⟨w.heap.size + 1, 5, none⟩ (.slice M5.la M5.l M5.lc)).setCell ⟨w.heap.size + 1, 6, none⟩ (.slice M5.ga M5.g M5.gc)).setCell ⟨w.heap.size + 1, 7, none⟩ (.bool v5.cl)) = Z := ⟨_, rfl⟩; have hZ2 : setL w7 (w.heap.size + 1) 0 (rC M5 v5) = Z := (by rw [← hZ]; rfl); rw [hZ2] at t7 hF; have HF := hidOf hF; have rf := r7.fr; have XZ := t7; clear t7; have XR := r7; clear r7; have o0 := k7.cs 0 (by simp); have o1 := k7.cs 1 (by simp); have o2 := k7.cs 2 (by simp); have o3 := k7.cs 3 (by simp); have o4 := k7.cs 4 (by simp); have o5 := k7.cs 5 (by simp); have o6 := k7.cs 6 (by simp); have o7 := k7.cs 7 (by simp); simp at o0 o1 o2 o3 o4 o5 o6 o7; have r0 := XR.cs 0 (by simp); have r1 := XR.cs 1 (by simp); have r2 := XR.cs 2 (by simp); have r3 := XR.cs 3 (by simp); have r4 := XR.cs 4 (by simp); have r5 := XR.cs 5 (by simp); have r6 := XR.cs 6 (by simp); have r7 := XR.cs 7 (by simp); simp at r0 r1 r2 r3 r4 r5 r6 r7; have t0 := XZ.cs 0 (by simp); have t1 := XZ.cs 1 (by simp); have t2 := XZ.cs 2 (by simp); have t3 := XZ.cs 3 (by simp); have t4 := XZ.cs 4 (by simp); have t5 := XZ.cs 5 (by simp); have t6 := XZ.cs 6 (by simp); have t7 := XZ.cs 7 (by simp); simp at t0 t1 t2 t3 t4 t5 t6 t7; clear hZ2 XZ XR k7 hF ho7 hb7))
 all_goals go_wp2_with fail
 all_goals clear hZ
 all_goals exact bodyPost_ret (v := .tuple #[.agg #[.int .i64 v5.cp, .int .i64 v5.se, .slice M5.ia M5.i M5.ic, .int .i64 v5.nx, .slice M5.sa M5.s M5.sc, .slice M5.la M5.l M5.lc, .slice M5.ga M5.g M5.gc, .bool v5.cl], .slice (some ⟨g7, 0, none⟩) M.l c7, .int .i64 0]) (by simp [results, Tryz.results67, go_sem, t0, t1, t2, t3, t4, t5, t6, t7]) rfl (show RgTS w (cloR v) (cloT v) (cloC v) _ _ by rw [HE.out, ← HV5.out]; exact ⟨M5, some ⟨g7, 0, none⟩, M.l, c7, rfl, HF.out.1, HL5.out, HF.out.2.1, by omega, HF.out.2.2.1, HF.out.2.2.2⟩)
end Go.Proofs.YtdboaoejlkkoeaaGreat
