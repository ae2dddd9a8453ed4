/-
  The program's Unsubscribe
-/
import Derived.Test.YtihdglmiecifjaaGreatZRk42
namespace Go.Proofs.YtihdglmiecifjaaGreat
open Go.RowKit Go.Maps Pl Il
set_option maxRecDepth 100000 in
set_option maxHeartbeats 16000000 in
theorem implUns_any : UnsDone 40 := by
 intro M v id w hI hm1 hcap hw hid
 have hm := hm1.mono (k' := 2097152) (by omega)
 obtain ⟨U0, hU0⟩ : ∃ W, W = (w.alloc (.cells #[.int .i64 v.cp, .int .i64 v.se, .slice M.ia M.i M.ic, .int .i64 v.nx, .slice M.sa M.s M.sc, .slice M.la M.l M.lc, .slice M.ga M.g M.gc, .bool v.cl] 28)).alloc (.cells #[.int .i64 0, .int .i64 0, .slice none 0 0, .int .i64 0, .slice none 0 0, .slice none 0 0, .slice none 0 0, .bool false] 28) := ⟨_, rfl⟩
 have B0 : Below w.heap.size w U0 := by rw [hU0]; exact bl_alloc (bl_alloc (Below.refl _ _) _) _
 have z0 : U0.heap.size = w.heap.size + 2 := by rw [hU0]; simp
 have A0 : BoxL w.heap.size (rC M v) U0 := by rw [hU0]; exact (BoxL.new w (rC M v) _).alloc _
 have R0 : BoxL (w.heap.size + 1) [.int .i64 0, .int .i64 0, .slice none 0 0, .int .i64 0, .slice none 0 0, .slice none 0 0, .slice none 0 0, .bool false] U0 := by
  rw [hU0]
  have h := BoxL.new (w.alloc (.cells (rC M v).toArray 28)) [.int .i64 0, .int .i64 0, .slice none 0 0, .int .i64 0, .slice none 0 0, .slice none 0 0, .slice none 0 0, .bool false] 28
  simpa using h
 have HK := hidOf (implRingOk_any M v U0 (hI.keep B0) hm1 hcap hw)
 have p0 := A0.cs 0 (by simp)
 have p1 := A0.cs 1 (by simp)
 have p2 := A0.cs 2 (by simp)
 have p3 := A0.cs 3 (by simp)
 have p4 := A0.cs 4 (by simp)
 have p5 := A0.cs 5 (by simp)
 have p6 := A0.cs 6 (by simp)
 have p7 := A0.cs 7 (by simp)
 simp at p0 p1 p2 p3 p4 p5 p6 p7
 have HI := hidOf hI
 have HM := hidOf hm
 have HW := hidOf hw
 have HCap := hidOf hcap
 have HId := hidOf hid
 obtain ⟨q, hq⟩ : ∃ q, okR restR v = q := ⟨_, rfl⟩
 rw [hq] at HK
 have HQ := hidOf hq
 clear hI hm hm1 hcap hw hid hq
 go_enter Tryz.func40, Tryz.ntmps40
 go_upto_region 1 with fail
 rw [← hU0]
 clear hU0
 go_wp2_with fail
 refine (HK.out).mono ?_
 rintro e w1 ⟨rfl, b1⟩
 have A1 := A0.keep b1
 have R1 := R0.keep b1
 have B1 := bl_trans B0 b1
 have hs1 : w.heap.size + 2 ≤ w1.heap.size := by have := b1.size; omega
 clear A0 R0 p0 p1 p2 p3 p4 p5 p6 p7 B0 b1 HK z0
 have p0 := A1.cs 0 (by simp)
 have p1 := A1.cs 1 (by simp)
 have p2 := A1.cs 2 (by simp)
 have p3 := A1.cs 3 (by simp)
 have p4 := A1.cs 4 (by simp)
 have p5 := A1.cs 5 (by simp)
 have p6 := A1.cs 6 (by simp)
 have p7 := A1.cs 7 (by simp)
 simp at p0 p1 p2 p3 p4 p5 p6 p7
 cases q
 ·skip
  have HE := hidOf (show RgP w (unsR v id) (unsC v id) = RgP w v 1 by
   unfold unsR unsC
   rw [if_neg (by rw [HQ.out]; simp), if_neg (by rw [HQ.out]; simp)])
  have HC := hidOf (copiedRing_any M v w1 (HI.out.keep B1) HM.out)
  go_wp2_with fail
  refine (HC.out).mono ?_
  rintro e w3 ⟨M2, rfl, row2, le2, b3⟩
  have row3 := row2.mono (B' := w.heap.size + 2) hs1
  have R3 := R1.keep b3
  have B3 := bl_trans B1 b3
  clear A1 R1 p0 p1 p2 p3 p4 p5 p6 p7
  have r0 := R3.cs 0 (by simp)
  have r1 := R3.cs 1 (by simp)
  have r2 := R3.cs 2 (by simp)
  have r3 := R3.cs 3 (by simp)
  have r4 := R3.cs 4 (by simp)
  have r5 := R3.cs 5 (by simp)
  have r6 := R3.cs 6 (by simp)
  have r7 := R3.cs 7 (by simp)
  have rf := R3.fr
  simp at r0 r1 r2 r3 r4 r5 r6 r7
  obtain ⟨Z, hZ⟩ : ∃ Z, ((((((((w3.setCell ⟨w.heap.size + 1, 0, none⟩ (.int .i64 v.cp)).setCell ⟨w.heap.size + 1, 1, none⟩ (.int .i64 v.se)).setCell ⟨w.heap.size + 1, 2, none⟩ (.slice M2.ia M2.i M2.ic)).setCell ⟨w.heap.size + 1, 3, none⟩ (.int .i64 v.nx)).setCell ⟨w.heap.size + 1, 4, none⟩ (.slice M2.sa M2.s M2.sc)).setCell ⟨w.heap.size + 1, 5, none⟩ (.slice M2.la M2.l M2.lc)).setCell ⟨w.heap.size + 1, 6, none⟩ (.slice M2.ga M2.g M2.gc)).setCell ⟨w.heap.size + 1, 7, none⟩ (.bool v.cl)) = Z := ⟨_, rfl⟩
  have hZ2 : Z = setL w3 (w.heap.size + 1) 0 [.int .i64 v.cp, .int .i64 v.se, .slice M2.ia M2.i M2.ic, .int .i64 v.nx, .slice M2.sa M2.s M2.sc, .slice M2.la M2.l M2.lc, .slice M2.ga M2.g M2.gc, .bool v.cl] := by rw [← hZ]; rfl
  have XZ : BoxL (w.heap.size + 1) [.int .i64 v.cp, .int .i64 v.se, .slice M2.ia M2.i M2.ic, .int .i64 v.nx, .slice M2.sa M2.s M2.sc, .slice M2.la M2.l M2.lc, .slice M2.ga M2.g M2.gc, .bool v.cl] Z := by
   rw [← hZ]
   exact ((((((((R3.set 0 (by simp) _).set 1 (by simp) _).set 2 (by simp) _).set 3 (by simp) _).set 4 (by simp) _).set 5 (by simp) _).set 6 (by simp) _).set 7 (by simp) _)
  have HRZ := hidOf (show ROwn w.heap.size Z M2 v by
   rw [hZ2]
   exact ((row3.grown (setL_grown ⟨rfl, rfl, rfl, Nat.le_refl _, fun _ _ _ => rfl⟩) (row3.out (by omega))).mono (B' := w.heap.size) (by omega)).own)
  have HBZ := hidOf (show Below w.heap.size w Z by rw [hZ2]; exact setL_below (by omega) B3)
  have HLZ := hidOf (show RLe M2 2097152 from le2 _ HM.out)
  have t0 := XZ.cs 0 (by simp)
  have t1 := XZ.cs 1 (by simp)
  have t2 := XZ.cs 2 (by simp)
  have t3 := XZ.cs 3 (by simp)
  have t4 := XZ.cs 4 (by simp)
  have t5 := XZ.cs 5 (by simp)
  have t6 := XZ.cs 6 (by simp)
  have t7 := XZ.cs 7 (by simp)
  simp at t0 t1 t2 t3 t4 t5 t6 t7
  clear hZ2 XZ R3
  go_wp2_with fail
  clear hZ
  exact bodyPost_ret (v := .tuple #[.agg #[.int .i64 v.cp, .int .i64 v.se, .slice M2.ia M2.i M2.ic, .int .i64 v.nx, .slice M2.sa M2.s M2.sc, .slice M2.la M2.l M2.lc, .slice M2.ga M2.g M2.gc, .bool v.cl], .int .i64 1]) (by simp [results, Tryz.results40, go_sem, t0, t1, t2, t3, t4, t5, t6, t7]) rfl (show RgP w (unsR v id) (unsC v id) _ _ by rw [HE.out]; exact ⟨M2, rfl, HRZ.out, HLZ.out, HBZ.out⟩)
 have HPl := hidOf (placeOfSub_any M.sa M.s M.sc M.xs id w1 (HI.out.keep B1).sb HM.out.s)
 rw [HI.out.sv] at HPl
 obtain ⟨at', hat⟩ : ∃ a, atR v.sb id = a := ⟨_, rfl⟩
 rw [hat] at HPl
 have HAt := hidOf hat
 clear hat
 go_wp2_with fail
 refine (HPl.out).mono ?_
 rintro e w2 ⟨rfl, b2⟩
 have A2 := A1.keep b2
 have R2 := R1.keep b2
 have B2 := bl_trans B1 b2
 have hs2 : w.heap.size + 2 ≤ w2.heap.size := by have := b2.size; omega
 clear A1 R1 B1 p0 p1 p2 p3 p4 p5 p6 p7 HPl
 have p0 := A2.cs 0 (by simp)
 have p1 := A2.cs 1 (by simp)
 have p2 := A2.cs 2 (by simp)
 have p3 := A2.cs 3 (by simp)
 have p4 := A2.cs 4 (by simp)
 have p5 := A2.cs 5 (by simp)
 have p6 := A2.cs 6 (by simp)
 have p7 := A2.cs 7 (by simp)
 simp at p0 p1 p2 p3 p4 p5 p6 p7
 by_cases hneg : at' < 0
 ·skip
  have HE := hidOf (show RgP w (unsR v id) (unsC v id) = RgP w v 3 by
   unfold unsR unsC
   rw [if_pos HQ.out, if_pos HQ.out, HAt.out, if_pos hneg, if_pos hneg])
  have HC := hidOf (copiedRing_any M v w2 (HI.out.keep B2) HM.out)
  go_wp2_with fail
  refine (HC.out).mono ?_
  rintro e w3 ⟨M2, rfl, row2, le2, b3⟩
  have row3 := row2.mono (B' := w.heap.size + 2) hs2
  have R3 := R2.keep b3
  have B3 := bl_trans B2 b3
  clear A2 R2 p0 p1 p2 p3 p4 p5 p6 p7
  have r0 := R3.cs 0 (by simp)
  have r1 := R3.cs 1 (by simp)
  have r2 := R3.cs 2 (by simp)
  have r3 := R3.cs 3 (by simp)
  have r4 := R3.cs 4 (by simp)
  have r5 := R3.cs 5 (by simp)
  have r6 := R3.cs 6 (by simp)
  have r7 := R3.cs 7 (by simp)
  have rf := R3.fr
  simp at r0 r1 r2 r3 r4 r5 r6 r7
  obtain ⟨Z, hZ⟩ : ∃ Z, ((((((((w3.setCell ⟨w.heap.size + 1, 0, none⟩ (.int .i64 v.cp)).setCell ⟨w.heap.size + 1, 1, none⟩ (.int .i64 v.se)).setCell ⟨w.heap.size + 1, 2, none⟩ (.slice M2.ia M2.i M2.ic)).setCell ⟨w.heap.size + 1, 3, none⟩ (.int .i64 v.nx)).setCell ⟨w.heap.size + 1, 4, none⟩ (.slice M2.sa M2.s M2.sc)).setCell ⟨w.heap.size + 1, 5, none⟩ (.slice M2.la M2.l M2.lc)).setCell ⟨w.heap.size + 1, 6, none⟩ (.slice M2.ga M2.g M2.gc)).setCell ⟨w.heap.size + 1, 7, none⟩ (.bool v.cl)) = Z := ⟨_, rfl⟩
  have hZ2 : Z = setL w3 (w.heap.size + 1) 0 [.int .i64 v.cp, .int .i64 v.se, .slice M2.ia M2.i M2.ic, .int .i64 v.nx, .slice M2.sa M2.s M2.sc, .slice M2.la M2.l M2.lc, .slice M2.ga M2.g M2.gc, .bool v.cl] := by rw [← hZ]; rfl
  have XZ : BoxL (w.heap.size + 1) [.int .i64 v.cp, .int .i64 v.se, .slice M2.ia M2.i M2.ic, .int .i64 v.nx, .slice M2.sa M2.s M2.sc, .slice M2.la M2.l M2.lc, .slice M2.ga M2.g M2.gc, .bool v.cl] Z := by
   rw [← hZ]
   exact ((((((((R3.set 0 (by simp) _).set 1 (by simp) _).set 2 (by simp) _).set 3 (by simp) _).set 4 (by simp) _).set 5 (by simp) _).set 6 (by simp) _).set 7 (by simp) _)
  have HRZ := hidOf (show ROwn w.heap.size Z M2 v by
   rw [hZ2]
   exact ((row3.grown (setL_grown ⟨rfl, rfl, rfl, Nat.le_refl _, fun _ _ _ => rfl⟩) (row3.out (by omega))).mono (B' := w.heap.size) (by omega)).own)
  have HBZ := hidOf (show Below w.heap.size w Z by rw [hZ2]; exact setL_below (by omega) B3)
  have HLZ := hidOf (show RLe M2 2097152 from le2 _ HM.out)
  have t0 := XZ.cs 0 (by simp)
  have t1 := XZ.cs 1 (by simp)
  have t2 := XZ.cs 2 (by simp)
  have t3 := XZ.cs 3 (by simp)
  have t4 := XZ.cs 4 (by simp)
  have t5 := XZ.cs 5 (by simp)
  have t6 := XZ.cs 6 (by simp)
  have t7 := XZ.cs 7 (by simp)
  simp at t0 t1 t2 t3 t4 t5 t6 t7
  clear hZ2 XZ R3
  go_wp2_with fail
  clear hZ
  exact bodyPost_ret (v := .tuple #[.agg #[.int .i64 v.cp, .int .i64 v.se, .slice M2.ia M2.i M2.ic, .int .i64 v.nx, .slice M2.sa M2.s M2.sc, .slice M2.la M2.l M2.lc, .slice M2.ga M2.g M2.gc, .bool v.cl], .int .i64 3]) (by simp [results, Tryz.results40, go_sem, t0, t1, t2, t3, t4, t5, t6, t7]) rfl (show RgP w (unsR v id) (unsC v id) _ _ by rw [HE.out]; exact ⟨M2, rfl, HRZ.out, HLZ.out, HBZ.out⟩)
 have HA := hidOf (show ¬ atR v.sb id < 0 by rw [HAt.out]; exact hneg)
 obtain ⟨f, hse, hi, hf⟩ := ok_first HQ.out
 have HC := hidOf (ringBodyOf_any M v w2 f (HI.out.keep B2) HM.out HCap.out hse hi hf)
 clear hse hi hf
 go_wp2_with fail
 refine (HC.out).mono ?_
 rintro e w3 ⟨b, A, P, f2, sa, sc, ys, rfl, body, hAn, hAn', hyn, b3⟩
 have R3 := R2.keep b3
 have B3 := bl_trans B2 b3
 obtain ⟨hlt, hk⟩ := at_lt (show ¬ atR v.sb id < 0 by have h := HA.out; omega)
 obtain ⟨k, hkk⟩ : ∃ k, (atR v.sb id).toNat = k := ⟨_, rfl⟩
 rw [hkk] at hlt hk
 have HKK := hidOf hkk
 obtain ⟨g, rfl, hsl, hky⟩ := body.sub_row hlt
 have hhd := ok_head HQ.out
 have hnd := ok_nodup HQ.out
 obtain ⟨d, hd, ho, htr⟩ := drop_first HQ.out id k body.se
 have HUn := hidOf (unsubscribe_any w2.heap.size b A P f2 v g M.s sc ys id w3 body HM.out.s k hk hky hsl (by have := HM.out.l; omega) (by have := HM.out.g; omega) HW.out.ln HW.out.gs HId.out hnd.1 hnd.2 hhd.2.1 hhd.1 d hd ho)
 obtain ⟨v5, hv5⟩ : ∃ v5 : Rv, { dropV v id k with it := v.it.drop d } = v5 := ⟨_, rfl⟩
 have HE := hidOf (show RgP w (unsR v id) (unsC v id) = RgP w v5 0 by
  unfold unsR unsC
  rw [HKK.out, if_pos HQ.out, if_pos HQ.out, if_neg (show ¬ atR v.sb id < 0 by have h := HA.out; omega), if_neg (show ¬ atR v.sb id < 0 by have h := HA.out; omega), htr, hv5])
 have HI5 := hidOf (show v5.it.length ≤ 16 ∧ v5.ln.length ≤ 12 ∧ v5.gs.length ≤ 12 by
  rw [← hv5]
  have h1 := hhd.2.2.2.1
  have h2 := lessL_len v.ln id
  have h3 := lessL_len v.gs id
  refine ⟨?_, by show (lessL v.ln id).length ≤ 12; omega, by show (lessL v.gs id).length ≤ 12; omega⟩
  show (v.it.drop d).length ≤ 16
  rw [List.length_drop]; omega)
 unfold UnsP at HUn
 rw [hv5] at HUn
 have HSl := hidOf hsl
 clear hk hkk body hAn hAn' hhd hnd hd ho htr hv5 hlt hsl A2 R2 p0 p1 p2 p3 p4 p5 p6 p7 HC hneg
 go_wp2_with fail
 refine (HUn.out).mono ?_
 rintro e w4 ⟨rfl, A5, P', body5, b4⟩
 have HC5 := hidOf (ring_anyQ w2.heap.size b A5 P' (f2 + d) v5 (some ⟨g, 0, none⟩) (M.s - 1) sc (ys.eraseIdx k) w4 body5)
 have R4 := R3.below b4 (by omega)
 have B4 : Below w.heap.size w w4 := bl_trans2 B3 b4 (by omega)
 have len5 := body5.wst.rows.len
 clear R3 B3 HUn body5
 go_wp2_with fail
 refine (HC5.out).mono ?_
 rintro e w5 ⟨g6, hg6, rfl, row5, b5⟩
 have row6 := row5.mono (B' := w.heap.size + 2) (by omega)
 have R5 := R4.keep b5
 have B5 := bl_trans B4 b5
 have le5 : RLe (⟨some ⟨g6, 0, none⟩, v5.it.length, v5.it.length, some ⟨g, 0, none⟩, M.s - 1, sc, ys.eraseIdx k, A5.a, A5.n, A5.c, A5.a', A5.n', A5.c'⟩ : Rm) 2097152 := by
  have h := HM.out
  have h2 := HI5.out
  have h6 := len5.1
  have h7 := len5.2
  exact ⟨by show v5.it.length ≤ _; omega, by show M.s - 1 ≤ _; have := h.s; omega, fun y hy => by
   obtain ⟨x3, hx3, e3⟩ := hyn y (erase_mem hy)
   rw [e3]
   exact h.f x3 hx3, by show A5.n ≤ _; omega, by show A5.n' ≤ _; omega⟩
 have HL5 := hidOf le5
 clear R4 B4 HC5 row5 le5
 have r0 := R5.cs 0 (by simp)
 have r1 := R5.cs 1 (by simp)
 have r2 := R5.cs 2 (by simp)
 have r3 := R5.cs 3 (by simp)
 have r4 := R5.cs 4 (by simp)
 have r5 := R5.cs 5 (by simp)
 have r6 := R5.cs 6 (by simp)
 have r7 := R5.cs 7 (by simp)
 have rf := R5.fr
 simp at r0 r1 r2 r3 r4 r5 r6 r7
 obtain ⟨Z, hZ⟩ : ∃ Z, ((((((((w5.setCell ⟨w.heap.size + 1, 0, none⟩ (.int .i64 v5.cp)).setCell ⟨w.heap.size + 1, 1, none⟩ (.int .i64 v5.se)).setCell ⟨w.heap.size + 1, 2, none⟩ (.slice (some ⟨g6, 0, none⟩) v5.it.length v5.it.length)).setCell ⟨w.heap.size + 1, 3, none⟩ (.int .i64 v5.nx)).setCell ⟨w.heap.size + 1, 4, none⟩ (.slice (some ⟨g, 0, none⟩) (M.s - 1) sc)).setCell ⟨w.heap.size + 1, 5, none⟩ (.slice A5.a A5.n A5.c)).setCell ⟨w.heap.size + 1, 6, none⟩ (.slice A5.a' A5.n' A5.c')).setCell ⟨w.heap.size + 1, 7, none⟩ (.bool v5.cl)) = Z := ⟨_, rfl⟩
 have hZ2 : Z = setL w5 (w.heap.size + 1) 0 [.int .i64 v5.cp, .int .i64 v5.se, .slice (some ⟨g6, 0, none⟩) v5.it.length v5.it.length, .int .i64 v5.nx, .slice (some ⟨g, 0, none⟩) (M.s - 1) sc, .slice A5.a A5.n A5.c, .slice A5.a' A5.n' A5.c', .bool v5.cl] := by rw [← hZ]; rfl
 have XZ : BoxL (w.heap.size + 1) [.int .i64 v5.cp, .int .i64 v5.se, .slice (some ⟨g6, 0, none⟩) v5.it.length v5.it.length, .int .i64 v5.nx, .slice (some ⟨g, 0, none⟩) (M.s - 1) sc, .slice A5.a A5.n A5.c, .slice A5.a' A5.n' A5.c', .bool v5.cl] Z := by
  rw [← hZ]
  exact ((((((((R5.set 0 (by simp) _).set 1 (by simp) _).set 2 (by simp) _).set 3 (by simp) _).set 4 (by simp) _).set 5 (by simp) _).set 6 (by simp) _).set 7 (by simp) _)
 have HRZ := hidOf (show ROwn w.heap.size Z (⟨some ⟨g6, 0, none⟩, v5.it.length, v5.it.length, some ⟨g, 0, none⟩, M.s - 1, sc, ys.eraseIdx k, A5.a, A5.n, A5.c, A5.a', A5.n', A5.c'⟩ : Rm) v5 by
  rw [hZ2]
  exact ((row6.grown (setL_grown ⟨rfl, rfl, rfl, Nat.le_refl _, fun _ _ _ => rfl⟩) (row6.out (by omega))).mono (B' := w.heap.size) (by omega)).own)
 have HBZ := hidOf (show Below w.heap.size w Z by rw [hZ2]; exact setL_below (by omega) B5)
 have HLZ := hidOf (show RLe (⟨some ⟨g6, 0, none⟩, v5.it.length, v5.it.length, some ⟨g, 0, none⟩, M.s - 1, sc, ys.eraseIdx k, A5.a, A5.n, A5.c, A5.a', A5.n', A5.c'⟩ : Rm) 2097152 from HL5.out)
 have t0 := XZ.cs 0 (by simp)
 have t1 := XZ.cs 1 (by simp)
 have t2 := XZ.cs 2 (by simp)
 have t3 := XZ.cs 3 (by simp)
 have t4 := XZ.cs 4 (by simp)
 have t5 := XZ.cs 5 (by simp)
 have t6 := XZ.cs 6 (by simp)
 have t7 := XZ.cs 7 (by simp)
 simp at t0 t1 t2 t3 t4 t5 t6 t7
 clear hZ2 XZ R5
 go_wp2_with fail
 clear hZ
 exact bodyPost_ret (v := .tuple #[.agg #[.int .i64 v5.cp, .int .i64 v5.se, .slice (some ⟨g6, 0, none⟩) v5.it.length v5.it.length, .int .i64 v5.nx, .slice (some ⟨g, 0, none⟩) (M.s - 1) sc, .slice A5.a A5.n A5.c, .slice A5.a' A5.n' A5.c', .bool v5.cl], .int .i64 0]) (by simp [results, Tryz.results40, go_sem, t0, t1, t2, t3, t4, t5, t6, t7]) rfl (show RgP w (unsR v id) (unsC v id) _ _ by rw [HE.out]; exact ⟨(⟨some ⟨g6, 0, none⟩, v5.it.length, v5.it.length, some ⟨g, 0, none⟩, M.s - 1, sc, ys.eraseIdx k, A5.a, A5.n, A5.c, A5.a', A5.n', A5.c'⟩ : Rm), rfl, HRZ.out, HLZ.out, HBZ.out⟩)
end Go.Proofs.YtihdglmiecifjaaGreat
