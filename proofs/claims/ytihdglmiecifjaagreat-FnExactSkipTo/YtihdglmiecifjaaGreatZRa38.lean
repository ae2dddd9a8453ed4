/-
  The program's Unwait.
-/
import Derived.Test.YtihdglmiecifjaaGreatZRa29
import Derived.Test.YtihdglmiecifjaaGreatZRa19
import Derived.Test.YtihdglmiecifjaaGreatZRa37
namespace Go.Proofs.YtihdglmiecifjaaGreat
open Go.RowKit Go.Maps Pl Il

theorem RBody.quit {B b : Nat} {A A' : Na} {P : Nat → Tm} {f : Nat} {v : Rv} {sa : Option Addr} {s sc : Nat} {ys : List Sa} {w w' : World} (id : Int) (h : RBody B b A P f v sa s sc ys w) (hW : WSt B b A' (lessL v.ln id) (lessL v.gs id) w') (hT : WTo B b w w') (ht : TurnB b w w' ∧ Shp b w w') (hA : A' = A ∨ NewA A' w.heap.size) : RBody B b A' P f (goneR v id) sa s sc ys w' where
  wst := hW
  rnd := by
    refine ⟨?_, fun j hj => ?_⟩
    · obtain ⟨cur, t, hg, hs⟩ := h.rnd.blk
      obtain ⟨cur', hg', hs'⟩ := ht.2 cur t hg
      exact ⟨cur', t, hg', by omega⟩
    · obtain ⟨h1, h2, h3⟩ := h.rnd.pl j hj
      exact ⟨by rw [hT.cells _ (by omega)]; exact h1, by rw [hT.cells _ (by omega)]; exact h2, by rw [hT.cells _ (by omega)]; exact h3⟩
  c2 := by rw [hT.cells _ (by omega)]; exact h.c2
  fst := by rw [hT.cells _ (by omega)]; exact h.fst
  nxt := by rw [hT.cells _ (by omega)]; exact h.nxt
  c56 := by rw [hT.cells _ (by omega)]; exact h.c56
  c57 := by rw [hT.cells _ (by omega)]; exact h.c57
  c58 := by rw [hT.cells _ (by omega)]; exact h.c58
  srow := ⟨rowTurn h.srow.sb ht.1 h.nb.1, fun x hx => rowTurn (h.srow.fl x hx) ht.1 (h.nb.2 x hx), h.srow.fls, h.srow.apt⟩
  sv := h.sv
  its := h.its
  sh := h.sh
  se := h.se
  few := h.few
  nb := h.nb
  ap := fun q hq => by
    rcases hA with rfl | hN
    · exact h.ap q hq
    · have hge : w.heap.size ≤ q := hq.elim (hN.1 q) (hN.2 q)
      exact ⟨fun e => by have := (row_lt h.srow.sb e).2; omega, fun x hx e => by have := (row_lt (h.srow.fl x hx) e).2; omega⟩
theorem ok_first {v : Rv} (h : okR restR v = true) : ∃ f : Nat, v.se = ((f + v.it.length : Nat) : Int) ∧ v.it.length ≤ 16 ∧ f + v.it.length ≤ 1000000000 := by
  have h0 := h
  simp only [okR, headR, lenR, Bool.and_eq_true, decide_eq_true_eq] at h0
  obtain ⟨⟨⟨⟨⟨hcp, hse⟩, _⟩, _⟩, h16⟩, _, ⟨hlen, _⟩, _⟩ := h0
  have := oldR_bd hse.1 hcp.1
  exact ⟨(oldR v).toNat, by omega, h16, by omega⟩
theorem ok_nodup {v : Rv} (h : okR restR v = true) : v.ln.Nodup ∧ v.gs.Nodup := by
  rw [← okI_eq] at h
  simp only [okI, waitI, Bool.and_eq_true, decide_eq_true_eq] at h
  have := dist_nodup h.2.2.2.2.2.2
  rw [List.nodup_append] at this
  exact ⟨this.1, this.2.1⟩
theorem turn_has (ln gs : List Int) (id : Int) : (if turnL ln gs id = 3 then (3 : Int) else 0) = if (hasL ln id || hasL gs id) = true then 0 else 3 := by
  rcases turn_cases ln gs id with ⟨h0, h1⟩ | ⟨h0, h1, h2⟩ | ⟨h0, h1, h2⟩
  · rw [h0, h1]; rfl
  · rw [h0, h1, h2]; rfl
  · rw [h0, h1, h2]; rfl
theorem gone_none {v : Rv} {id : Int} (h : ¬ (hasL v.ln id || hasL v.gs id) = true) : goneR v id = v := by
  simp only [Bool.or_eq_true, not_or, Bool.not_eq_true] at h
  have e1 : lessL v.ln id = v.ln := List.erase_of_not_mem (by simpa [hasL] using h.1)
  have e2 : lessL v.gs id = v.gs := List.erase_of_not_mem (by simpa [hasL] using h.2)
  unfold goneR
  rw [e1, e2]
set_option maxRecDepth 100000 in
set_option maxHeartbeats 8000000 in
theorem implUnwait_any : UnwaitDone 66 := by
  intro M v id w hI hm1 hcap hw hid
  have hm := hm1.mono (k' := 2097152) (by omega)
  obtain ⟨U0, hU0⟩ : ∃ W, W = (w.alloc (.cells #[.int .i64 v.cp, .int .i64 v.se, .slice M.ia M.i M.ic, .int .i64 v.nx, .slice M.sa M.s M.sc, .slice M.la M.l M.lc, .slice M.ga M.g M.gc, .bool v.cl] 28)).alloc (.cells #[.int .i64 0, .int .i64 0, .slice none 0 0, .int .i64 0, .slice none 0 0, .slice none 0 0, .slice none 0 0, .bool false] 28) := ⟨_, rfl⟩
  have B0 : Below w.heap.size w U0 := by rw [hU0]; exact bl_alloc (bl_alloc (Below.refl _ _) _) _
  have z0 : U0.heap.size = w.heap.size + 2 := by rw [hU0]; simp
  have A0 : BoxL w.heap.size (rC M v) U0 := by rw [hU0]; exact (BoxL.new w (rC M v) _).alloc _
  have R0 : BoxL (w.heap.size + 1) [.int .i64 0, .int .i64 0, .slice none 0 0, .int .i64 0, .slice none 0 0, .slice none 0 0, .slice none 0 0, .bool false] U0 := by
    rw [hU0]
    have h := BoxL.new (w.alloc (.cells (rC M v).toArray 28)) [.int .i64 0, .int .i64 0, .slice none 0 0, .int .i64 0, .slice none 0 0, .slice none 0 0, .slice none 0 0, .bool false] 28
    simpa using h
  have HK := hidOf (implRingOk_any M v U0 (hI.keep B0) hm1 hcap hw)
  have p0 := A0.cs 0 (by simp)
  have p1 := A0.cs 1 (by simp)
  have p2 := A0.cs 2 (by simp)
  have p3 := A0.cs 3 (by simp)
  have p4 := A0.cs 4 (by simp)
  have p5 := A0.cs 5 (by simp)
  have p6 := A0.cs 6 (by simp)
  have p7 := A0.cs 7 (by simp)
  simp at p0 p1 p2 p3 p4 p5 p6 p7
  have HI := hidOf hI
  have HM := hidOf hm
  have HW := hidOf hw
  have HCap := hidOf hcap
  have HId := hidOf hid
  obtain ⟨q, hq⟩ : ∃ q, okR restR v = q := ⟨_, rfl⟩
  rw [hq] at HK
  have HQ := hidOf hq
  clear hI hm hm1 hcap hw hid hq
  go_enter Tryz.func66, Tryz.ntmps66
  go_upto_region 1 with fail
  rw [← hU0]
  clear hU0
  go_wp2_with fail
  refine (HK.out).mono ?_
  rintro e w1 ⟨rfl, b1⟩
  have A1 := A0.keep b1
  have R1 := R0.keep b1
  have B1 := bl_trans B0 b1
  have hs1 : w.heap.size + 2 ≤ w1.heap.size := by have := b1.size; omega
  clear A0 R0 p0 p1 p2 p3 p4 p5 p6 p7 B0 b1 HK z0
  have p0 := A1.cs 0 (by simp)
  have p1 := A1.cs 1 (by simp)
  have p2 := A1.cs 2 (by simp)
  have p3 := A1.cs 3 (by simp)
  have p4 := A1.cs 4 (by simp)
  have p5 := A1.cs 5 (by simp)
  have p6 := A1.cs 6 (by simp)
  have p7 := A1.cs 7 (by simp)
  simp at p0 p1 p2 p3 p4 p5 p6 p7
  cases q
  · have HE := hidOf (show RgP w (unwR v id) (unwC v id) = RgP w v 1 by unfold unwR unwC; rw [if_neg (by rw [HQ.out]; simp), if_neg (by rw [HQ.out]; simp)])
    have HC := hidOf (copiedRing_any M v w1 (HI.out.keep B1) HM.out)
    go_wp2_with fail
    refine (HC.out).mono ?_
    rintro e w2 ⟨M2, rfl, row2, le2, b2⟩
    have row3 := row2.mono (B' := w.heap.size + 2) hs1
    have R2 := R1.keep b2
    have B2 := bl_trans B1 b2
    clear A1 R1 p0 p1 p2 p3 p4 p5 p6 p7
    have r0 := R2.cs 0 (by simp)
    have r1 := R2.cs 1 (by simp)
    have r2 := R2.cs 2 (by simp)
    have r3 := R2.cs 3 (by simp)
    have r4 := R2.cs 4 (by simp)
    have r5 := R2.cs 5 (by simp)
    have r6 := R2.cs 6 (by simp)
    have r7 := R2.cs 7 (by simp)
    have rf := R2.fr
    simp at r0 r1 r2 r3 r4 r5 r6 r7
    obtain ⟨Z, hZ⟩ : ∃ Z, ((((((((w2.setCell ⟨w.heap.size + 1, 0, none⟩ (.int .i64 v.cp)).setCell ⟨w.heap.size + 1, 1, none⟩ (.int .i64 v.se)).setCell ⟨w.heap.size + 1, 2, none⟩ (.slice M2.ia M2.i M2.ic)).setCell ⟨w.heap.size + 1, 3, none⟩ (.int .i64 v.nx)).setCell ⟨w.heap.size + 1, 4, none⟩ (.slice M2.sa M2.s M2.sc)).setCell ⟨w.heap.size + 1, 5, none⟩ (.slice M2.la M2.l M2.lc)).setCell ⟨w.heap.size + 1, 6, none⟩ (.slice M2.ga M2.g M2.gc)).setCell ⟨w.heap.size + 1, 7, none⟩ (.bool v.cl)) = Z := ⟨_, rfl⟩
    have hZ2 : Z = setL w2 (w.heap.size + 1) 0 [.int .i64 v.cp, .int .i64 v.se, .slice M2.ia M2.i M2.ic, .int .i64 v.nx, .slice M2.sa M2.s M2.sc, .slice M2.la M2.l M2.lc, .slice M2.ga M2.g M2.gc, .bool v.cl] := by rw [← hZ]; rfl
    have XZ : BoxL (w.heap.size + 1) [.int .i64 v.cp, .int .i64 v.se, .slice M2.ia M2.i M2.ic, .int .i64 v.nx, .slice M2.sa M2.s M2.sc, .slice M2.la M2.l M2.lc, .slice M2.ga M2.g M2.gc, .bool v.cl] Z := by
      rw [← hZ]
      exact ((((((((R2.set 0 (by simp) _).set 1 (by simp) _).set 2 (by simp) _).set 3 (by simp) _).set 4 (by simp) _).set 5 (by simp) _).set 6 (by simp) _).set 7 (by simp) _)
    have HRZ := hidOf (show ROwn w.heap.size Z M2 v by
      rw [hZ2]
      exact ((row3.grown (setL_grown ⟨rfl, rfl, rfl, Nat.le_refl _, fun _ _ _ => rfl⟩) (row3.out (by omega))).mono (B' := w.heap.size) (by omega)).own)
    have HBZ := hidOf (show Below w.heap.size w Z by rw [hZ2]; exact setL_below (by omega) B2)
    have HLZ := hidOf (show RLe M2 2097152 from le2 _ HM.out)
    have t0 := XZ.cs 0 (by simp)
    have t1 := XZ.cs 1 (by simp)
    have t2 := XZ.cs 2 (by simp)
    have t3 := XZ.cs 3 (by simp)
    have t4 := XZ.cs 4 (by simp)
    have t5 := XZ.cs 5 (by simp)
    have t6 := XZ.cs 6 (by simp)
    have t7 := XZ.cs 7 (by simp)
    simp at t0 t1 t2 t3 t4 t5 t6 t7
    clear hZ2 XZ R2
    go_wp2_with fail
    clear hZ
    exact bodyPost_ret (v := .tuple #[.agg #[.int .i64 v.cp, .int .i64 v.se, .slice M2.ia M2.i M2.ic, .int .i64 v.nx, .slice M2.sa M2.s M2.sc, .slice M2.la M2.l M2.lc, .slice M2.ga M2.g M2.gc, .bool v.cl], .int .i64 1]) (by simp [results, Tryz.results66, go_sem, t0, t1, t2, t3, t4, t5, t6, t7]) rfl (show RgP w (unwR v id) (unwC v id) _ _ by rw [HE.out]; exact ⟨M2, rfl, HRZ.out, HLZ.out, HBZ.out⟩)
  obtain ⟨f, hse, hi, hf⟩ := ok_first HQ.out
  have HC := hidOf (ringBodyOf_any M v w1 f (HI.out.keep B1) HM.out HCap.out hse hi hf)
  clear hse hi hf
  go_wp2_with fail
  refine (HC.out).mono ?_
  rintro e w2 ⟨b, A, P, f2, sa, sc, ys, rfl, body2, hAn, hAn', hyn, b2⟩
  have R2 := R1.keep b2
  have B2 := bl_trans B1 b2
  have hnd := ok_nodup HQ.out
  have HC3 := hidOf (quit_tf w1.heap.size b A v.ln v.gs id w2 body2.wst (by have := HM.out.l; omega) (by have := HM.out.g; omega) HW.out.ln HW.out.gs HId.out hnd.1 hnd.2)
  have HBo := hidOf body2
  have hbge := body2.wst.ge
  have hblt := body2.wst.lt
  clear A1 R1 p0 p1 p2 p3 p4 p5 p6 p7 body2 hnd HC
  go_wp2_with fail
  refine (HC3.out).mono ?_
  rintro e w3 ⟨A3, rfl, hW3, hT3, tt3, hA3⟩
  obtain ⟨cc, hcc⟩ : ∃ cc, (if turnL v.ln v.gs id = 3 then (3 : Int) else 0) = cc := ⟨_, rfl⟩
  rw [hcc]
  have HCc := hidOf hcc
  clear hcc
  have body3 := HBo.out.quit id hW3 hT3 tt3 hA3
  obtain ⟨v5, hv5⟩ : ∃ v5, goneR v id = v5 := ⟨_, rfl⟩
  have HLn := hidOf (show v5.ln.length ≤ v.ln.length ∧ v5.gs.length ≤ v.gs.length ∧ v5.it.length = v.it.length by rw [← hv5]; exact ⟨lessL_len _ _, lessL_len _ _, rfl⟩)
  rw [hv5] at body3
  have HV5 := hidOf hv5
  clear hv5
  have HC4 := hidOf (ring_any w1.heap.size b A3 P f2 v5 sa M.s sc ys w3 body3)
  have b3 : Below w1.heap.size w2 w3 := hT3.below
  have R3 := R2.below b3 (by omega)
  have B3 : Below w.heap.size w w3 := bl_trans2 B2 b3 (by omega)
  have len3 := body3.wst.rows.len
  clear hW3 hT3 tt3 hA3 body3 R2 B2 HBo HC3
  go_wp2_with fail
  refine (HC4.out).mono ?_
  rintro e w4 ⟨g, sa4, sc4, rfl, row4, b4⟩
  have row5 := row4.mono (B' := w.heap.size + 2) hs1
  have R4 := R3.keep b4
  have B4 := bl_trans B3 b4
  have HE := hidOf (show RgP w (unwR v id) (unwC v id) = RgP w v5 cc by
    rw [← HV5.out, ← HCc.out]
    unfold unwR unwC
    rw [if_pos HQ.out, if_pos HQ.out, turn_has]
    by_cases h : (hasL v.ln id || hasL v.gs id) = true
    · rw [if_pos h, if_pos h]
    · rw [if_neg h, if_neg h, gone_none h])
  have le5 : RLe (⟨some ⟨g, 0, none⟩, v5.it.length, v5.it.length, sa4, M.s, sc4, ys, A3.a, A3.n, A3.c, A3.a', A3.n', A3.c'⟩ : Rm) 2097152 := by
    have h := HM.out
    have h1 := HLn.out
    have h3 := HI.out.ln.len
    have h4 := HI.out.gs.len
    have h5 := HI.out.it.len
    have h6 := len3.1
    have h7 := len3.2
    have l1 := h.l
    have l2 := h.g
    have l3 := h.i
    exact ⟨by show v5.it.length ≤ _; omega, h.s, fun y hy => by
      obtain ⟨x, hx, e⟩ := hyn y hy
      rw [e]
      exact h.f x hx, by show A3.n ≤ _; omega, by show A3.n' ≤ _; omega⟩
  have HL5 := hidOf le5
  clear R3 B3 HC4 row4 le5
  have r0 := R4.cs 0 (by simp)
  have r1 := R4.cs 1 (by simp)
  have r2 := R4.cs 2 (by simp)
  have r3 := R4.cs 3 (by simp)
  have r4 := R4.cs 4 (by simp)
  have r5 := R4.cs 5 (by simp)
  have r6 := R4.cs 6 (by simp)
  have r7 := R4.cs 7 (by simp)
  have rf := R4.fr
  simp at r0 r1 r2 r3 r4 r5 r6 r7
  obtain ⟨Z, hZ⟩ : ∃ Z, ((((((((w4.setCell ⟨w.heap.size + 1, 0, none⟩ (.int .i64 v5.cp)).setCell ⟨w.heap.size + 1, 1, none⟩ (.int .i64 v5.se)).setCell ⟨w.heap.size + 1, 2, none⟩ (.slice (some ⟨g, 0, none⟩) v5.it.length v5.it.length)).setCell ⟨w.heap.size + 1, 3, none⟩ (.int .i64 v5.nx)).setCell ⟨w.heap.size + 1, 4, none⟩ (.slice sa4 M.s sc4)).setCell ⟨w.heap.size + 1, 5, none⟩ (.slice A3.a A3.n A3.c)).setCell ⟨w.heap.size + 1, 6, none⟩ (.slice A3.a' A3.n' A3.c')).setCell ⟨w.heap.size + 1, 7, none⟩ (.bool v5.cl)) = Z := ⟨_, rfl⟩
  have hZ2 : Z = setL w4 (w.heap.size + 1) 0 [.int .i64 v5.cp, .int .i64 v5.se, .slice (some ⟨g, 0, none⟩) v5.it.length v5.it.length, .int .i64 v5.nx, .slice sa4 M.s sc4, .slice A3.a A3.n A3.c, .slice A3.a' A3.n' A3.c', .bool v5.cl] := by rw [← hZ]; rfl
  have XZ : BoxL (w.heap.size + 1) [.int .i64 v5.cp, .int .i64 v5.se, .slice (some ⟨g, 0, none⟩) v5.it.length v5.it.length, .int .i64 v5.nx, .slice sa4 M.s sc4, .slice A3.a A3.n A3.c, .slice A3.a' A3.n' A3.c', .bool v5.cl] Z := by
    rw [← hZ]
    exact ((((((((R4.set 0 (by simp) _).set 1 (by simp) _).set 2 (by simp) _).set 3 (by simp) _).set 4 (by simp) _).set 5 (by simp) _).set 6 (by simp) _).set 7 (by simp) _)
  have HRZ := hidOf (show ROwn w.heap.size Z (⟨some ⟨g, 0, none⟩, v5.it.length, v5.it.length, sa4, M.s, sc4, ys, A3.a, A3.n, A3.c, A3.a', A3.n', A3.c'⟩ : Rm) v5 by
    rw [hZ2]
    exact ((row5.grown (setL_grown ⟨rfl, rfl, rfl, Nat.le_refl _, fun _ _ _ => rfl⟩) (row5.out (by omega))).mono (B' := w.heap.size) (by omega)).own)
  have HBZ := hidOf (show Below w.heap.size w Z by rw [hZ2]; exact setL_below (by omega) B4)
  have HLZ := hidOf (show RLe (⟨some ⟨g, 0, none⟩, v5.it.length, v5.it.length, sa4, M.s, sc4, ys, A3.a, A3.n, A3.c, A3.a', A3.n', A3.c'⟩ : Rm) 2097152 from HL5.out)
  have t0 := XZ.cs 0 (by simp)
  have t1 := XZ.cs 1 (by simp)
  have t2 := XZ.cs 2 (by simp)
  have t3 := XZ.cs 3 (by simp)
  have t4 := XZ.cs 4 (by simp)
  have t5 := XZ.cs 5 (by simp)
  have t6 := XZ.cs 6 (by simp)
  have t7 := XZ.cs 7 (by simp)
  simp at t0 t1 t2 t3 t4 t5 t6 t7
  clear hZ2 XZ R4
  go_wp2_with fail
  clear hZ
  exact bodyPost_ret (v := .tuple #[.agg #[.int .i64 v5.cp, .int .i64 v5.se, .slice (some ⟨g, 0, none⟩) v5.it.length v5.it.length, .int .i64 v5.nx, .slice sa4 M.s sc4, .slice A3.a A3.n A3.c, .slice A3.a' A3.n' A3.c', .bool v5.cl], .int .i64 cc]) (by simp [results, Tryz.results66, go_sem, t0, t1, t2, t3, t4, t5, t6, t7]) rfl (show RgP w (unwR v id) (unwC v id) _ _ by rw [HE.out]; exact ⟨(⟨some ⟨g, 0, none⟩, v5.it.length, v5.it.length, sa4, M.s, sc4, ys, A3.a, A3.n, A3.c, A3.a', A3.n', A3.c'⟩ : Rm), rfl, HRZ.out, HLZ.out, HBZ.out⟩)
end Go.Proofs.YtihdglmiecifjaaGreat
