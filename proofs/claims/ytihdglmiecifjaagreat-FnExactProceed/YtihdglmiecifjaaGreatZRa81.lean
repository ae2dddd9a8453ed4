/-
  The program's Proceed.
-/
import Derived.Test.YtihdglmiecifjaaGreatZRa77
import Derived.Test.YtihdglmiecifjaaGreatZRa80
namespace Go.Proofs.YtihdglmiecifjaaGreat
open Go.RowKit Go.Maps Pl Il

/-- What pass leaves. -/
def PassP (B b : Nat) (ln gs : List Int) (who : Int) (w : World) (e : Ending) (w' : World) : Prop :=
  (hasL ln who = true ∧ e = .returned (.int .i64 4) ∧ Below w.heap.size w w') ∨
  (hasL ln who = false ∧ hasL gs who = false ∧ e = .returned (.int .i64 3) ∧ Below w.heap.size w w') ∨
  (hasL ln who = false ∧ hasL gs who = true ∧ ∃ A', e = .returned (.int .i64 0) ∧ WSt B b A' ln (lessL gs who) w' ∧ WTo B b w w' ∧ (TurnB b w w' ∧ Shp b w w') ∧ NewA A' w.heap.size)
theorem pass_tf (B b : Nat) (A : Na) (ln gs : List Int) (who : Int) (w : World) (hS : WSt B b A ln gs w) (hn : A.n ≤ 2097152) (hn' : A.n' ≤ 2097152) (hw : wfL ln) (hw' : wfL gs) (hx : (Lit.int .i64 who).wf = true) (hl : ln.Nodup) (hl' : gs.Nodup) :
    Calls Tryz.prog 133 #[.pointer (some ⟨b, 0, none⟩), .int .i64 who] w fun e w' => PassP B b ln gs who w e w' := by
  have HS := hidOf hS
  clear hS
  go_enter Tryz.func133, Tryz.ntmps133
  go_wp2_with fail
  refine (turnOf_any B b A ln gs who w HS.out hn hn' hw hw' hx).mono ?_
  rintro e w1 ⟨rfl, hb1⟩
  have HS1 := hidOf (HS.out.keep hb1)
  have HT1 := hidOf (HS.out.to hb1)
  have TT1 := hidOf (And.intro (TurnL.ofBelow (ls := [(some ⟨b, 0, none⟩, 1)]) hb1) (Shp.ofBelow (b := b) hb1))
  clear HS
  have HRm := hidOf (remove_tf B b A ln gs who w1 HS1.out hn hn' hw hw' hx hl hl')
  rcases turn_cases ln gs who with ⟨h0, h1⟩ | ⟨h0, h1, h2⟩ | ⟨h0, h1, h2⟩
  · rw [h0]
    have HH := hidOf h1
    clear h0 h1
    go_wp2
    go_ret
    exact .inl ⟨HH.out, rfl, hb1⟩
  · rw [h0]
    have e1 : lessL ln who = ln := List.erase_of_not_mem (by simpa [hasL] using h1)
    have HE1 := hidOf e1
    have HH := hidOf (And.intro h1 h2)
    clear h0 h1 h2 e1
    go_wp2_with fail
    refine HRm.out.mono ?_
    rintro e w2 ⟨A', rfl, hS2, hT2, tt2, na2⟩
    rw [HE1.out] at hS2
    have HS2 := hidOf hS2
    have HT2 := hidOf (HT1.out.trans hT2)
    have TT2 := hidOf (And.intro (TT1.out.1.trans tt2.1) (TT1.out.2.trans tt2.2))
    have NA2 := hidOf (show NewA A' w.heap.size from ⟨fun q e => Nat.le_trans hb1.size (na2.1 q e), fun q e => Nat.le_trans hb1.size (na2.2 q e)⟩)
    clear tt2 na2 hS2 hT2 HRm
    go_wp2
    go_ret
    exact .inr (.inr ⟨HH.out.1, HH.out.2, A', rfl, HS2.out, HT2.out, TT2.out, NA2.out⟩)
  · rw [h0]
    have HH := hidOf (And.intro h1 h2)
    clear h0 h1 h2
    go_wp2
    go_ret
    exact .inr (.inl ⟨HH.out.1, HH.out.2, rfl, hb1⟩)
theorem RBody.passd {B b : Nat} {A A' : Na} {P : Nat → Tm} {f : Nat} {v : Rv} {sa : Option Addr} {s sc : Nat} {ys : List Sa} {w w' : World} {gs' : List Int} (h : RBody B b A P f v sa s sc ys w) (hW : WSt B b A' v.ln gs' w') (hT : WTo B b w w') (ht : TurnB b w w' ∧ Shp b w w') (hN : NewA A' w.heap.size) : RBody B b A' P f { v with gs := gs' } sa s sc ys w' where
  wst := hW
  rnd := by
    refine ⟨?_, fun j hj => ?_⟩
    · obtain ⟨cur, t, hg, hs⟩ := h.rnd.blk
      obtain ⟨cur', hg', hs'⟩ := ht.2 cur t hg
      exact ⟨cur', t, hg', by omega⟩
    · obtain ⟨h1, h2, h3⟩ := h.rnd.pl j hj
      exact ⟨by rw [hT.cells _ (by omega)]; exact h1, by rw [hT.cells _ (by omega)]; exact h2, by rw [hT.cells _ (by omega)]; exact h3⟩
  c2 := by rw [hT.cells _ (by omega)]; exact h.c2
  fst := by rw [hT.cells _ (by omega)]; exact h.fst
  nxt := by rw [hT.cells _ (by omega)]; exact h.nxt
  c56 := by rw [hT.cells _ (by omega)]; exact h.c56
  c57 := by rw [hT.cells _ (by omega)]; exact h.c57
  c58 := by rw [hT.cells _ (by omega)]; exact h.c58
  srow := ⟨rowTurn h.srow.sb ht.1 h.nb.1, fun x hx => rowTurn (h.srow.fl x hx) ht.1 (h.nb.2 x hx), h.srow.fls, h.srow.apt⟩
  sv := h.sv
  its := h.its
  sh := h.sh
  se := h.se
  few := h.few
  nb := h.nb
  ap := fun q hq => by
    have hge : w.heap.size ≤ q := hq.elim (hN.1 q) (hN.2 q)
    exact ⟨fun e => by have := (row_lt h.srow.sb e).2; omega, fun x hx e => by have := (row_lt (h.srow.fl x hx) e).2; omega⟩
set_option maxRecDepth 100000 in
set_option maxHeartbeats 16000000 in
theorem implProceed_any : ProDone 64 := by
  intro M v id w hI hm1 hcap hw hid hG
  have hm := hm1.mono (k' := 2097152) (by omega)
  obtain ⟨U0, hU0⟩ : ∃ W, W = ((w.alloc (.cells #[.int .i64 v.cp, .int .i64 v.se, .slice M.ia M.i M.ic, .int .i64 v.nx, .slice M.sa M.s M.sc, .slice M.la M.l M.lc, .slice M.ga M.g M.gc, .bool v.cl] 28)).alloc (.cells #[.int .i64 0, .int .i64 0, .slice none 0 0, .int .i64 0, .slice none 0 0, .slice none 0 0, .slice none 0 0, .bool false] 28)).alloc (.cells #[.int .i64 0, .int .i64 0, .int .i64 0, .string ⟨#[]⟩, .int .i64 0, .int .i64 0] 53) := ⟨_, rfl⟩
  have B0 : Below w.heap.size w U0 := by rw [hU0]; exact bl_alloc (bl_alloc (bl_alloc (Below.refl _ _) _) _) _
  have z0 : U0.heap.size = w.heap.size + 3 := by rw [hU0]; simp
  have A0 : BoxL w.heap.size (rC M v) U0 := by rw [hU0]; exact ((BoxL.new w (rC M v) _).alloc _).alloc _
  have R0 : BoxL (w.heap.size + 1) [.int .i64 0, .int .i64 0, .slice none 0 0, .int .i64 0, .slice none 0 0, .slice none 0 0, .slice none 0 0, .bool false] U0 := by rw [hU0]; exact (boxT1 w _ [.int .i64 0, .int .i64 0, .slice none 0 0, .int .i64 0, .slice none 0 0, .slice none 0 0, .slice none 0 0, .bool false] _).alloc _
  have T0 : BoxL (w.heap.size + 1 + 1) [.int .i64 0, .int .i64 0, .int .i64 0, .string ⟨#[]⟩, .int .i64 0, .int .i64 0] U0 := by rw [hU0]; exact boxT2 w _ _ [.int .i64 0, .int .i64 0, .int .i64 0, .string ⟨#[]⟩, .int .i64 0, .int .i64 0] _
  have HK := hidOf (implRingOk_any M v U0 (hI.keep B0) hm1 hcap hw)
  obtain ⟨p0, p1, p2, p3, p4, p5, p6, p7⟩ := box8 A0
  have HI := hidOf hI
  have HM := hidOf hm
  have HZ0 := hidOf z0
  have HG := hidOf hG
  have HW := hidOf hw
  have HCap := hidOf hcap
  have HId := hidOf hid
  obtain ⟨q, hq⟩ : ∃ q, okR restR v = q := ⟨_, rfl⟩
  rw [hq] at HK
  have HQ := hidOf hq
  clear hI hm hm1 hcap hw hid hG z0 hq
  go_enter Tryz.func64, Tryz.ntmps64
  go_upto_region 1 with fail
  rw [← hU0]
  clear hU0
  generalize hN1 : w.heap.size + 1 = N1 at R0 T0 ⊢
  generalize hN2 : N1 + 1 = N2 at T0 ⊢
  have HN12 := hidOf (show N1 ≠ N2 ∧ N2 ≠ N1 by omega)
  have HN0 := hidOf (show N1 = w.heap.size + 1 ∧ N2 = w.heap.size + 2 by omega)
  have n12 : ¬ N1 = N2 := HN12.out.1
  have n21 : ¬ N2 = N1 := HN12.out.2
  clear hN1 hN2
  go_wp2_with fail
  refine (HK.out).mono ?_
  rintro e w1 ⟨rfl, b1⟩
  have A1 := A0.keep b1
  have R1 := R0.keep b1
  have T1 := T0.keep b1
  have B1 := bl_trans B0 b1
  have hs1 : w.heap.size + 3 ≤ w1.heap.size := by have h := b1.size; have h2 := HZ0.out; omega
  have Hb1 := hidOf b1.size
  clear A0 R0 T0 B0 b1 HK p0 p1 p2 p3 p4 p5 p6 p7
  cases q
  · skip
    have HC := hidOf (copiedRing_any M v w1 (HI.out.keep B1) HM.out)
    obtain ⟨p0, p1, p2, p3, p4, p5, p6, p7⟩ := box8 A1
    go_wp2_with fail
    refine (HC.out).mono ?_
    rintro e w2 ⟨M2, rfl, row2, le2, b2⟩
    have row3 := row2.mono (B' := w.heap.size + 3) hs1
    have R2 := R1.keep b2
    have T2 := T1.keep b2
    have B2 := bl_trans B1 b2
    clear A1 R1 T1 p0 p1 p2 p3 p4 p5 p6 p7
    obtain ⟨r0, r1, r2, r3, r4, r5, r6, r7⟩ := box8 R2
    have rf := R2.fr
    obtain ⟨u0, u1, u2, u3, u4, u5⟩ := box6 T2
    have uf := T2.fr
    obtain ⟨Z1, hZ1⟩ : ∃ Z, ((((((((w2.setCell ⟨N1, 0, none⟩ (.int .i64 v.cp)).setCell ⟨N1, 1, none⟩ (.int .i64 v.se)).setCell ⟨N1, 2, none⟩ (.slice M2.ia M2.i M2.ic)).setCell ⟨N1, 3, none⟩ (.int .i64 v.nx)).setCell ⟨N1, 4, none⟩ (.slice M2.sa M2.s M2.sc)).setCell ⟨N1, 5, none⟩ (.slice M2.la M2.l M2.lc)).setCell ⟨N1, 6, none⟩ (.slice M2.ga M2.g M2.gc)).setCell ⟨N1, 7, none⟩ (.bool v.cl)) = Z := ⟨_, rfl⟩
    have hZ1b : Z1 = setL w2 N1 0 [.int .i64 v.cp, .int .i64 v.se, .slice M2.ia M2.i M2.ic, .int .i64 v.nx, .slice M2.sa M2.s M2.sc, .slice M2.la M2.l M2.lc, .slice M2.ga M2.g M2.gc, .bool v.cl] := by rw [← hZ1]; rfl
    have TZ1 : BoxL N2 [.int .i64 0, .int .i64 0, .int .i64 0, .string ⟨#[]⟩, .int .i64 0, .int .i64 0] Z1 := by rw [hZ1b]; exact T2.setFar HN12.out.2
    obtain ⟨z0, z1, z2, z3, z4, z5⟩ := box6 TZ1
    have zf := TZ1.fr
    obtain ⟨Zz, hZ⟩ : ∃ Z, ((((((Z1.setCell ⟨N2, 0, none⟩ (.int .i64 0)).setCell ⟨N2, 1, none⟩ (.int .i64 0)).setCell ⟨N2, 2, none⟩ (.int .i64 0)).setCell ⟨N2, 3, none⟩ (.string ⟨#[]⟩)).setCell ⟨N2, 4, none⟩ (.int .i64 0)).setCell ⟨N2, 5, none⟩ (.int .i64 0)) = Z := ⟨_, rfl⟩
    have hZ2 : Zz = setL (setL w2 N1 0 [.int .i64 v.cp, .int .i64 v.se, .slice M2.ia M2.i M2.ic, .int .i64 v.nx, .slice M2.sa M2.s M2.sc, .slice M2.la M2.l M2.lc, .slice M2.ga M2.g M2.gc, .bool v.cl]) N2 0 [.int .i64 0, .int .i64 0, .int .i64 0, .string ⟨#[]⟩, .int .i64 0, .int .i64 0] := by rw [← hZ, hZ1b]; rfl
    have XZ : BoxL N1 [.int .i64 v.cp, .int .i64 v.se, .slice M2.ia M2.i M2.ic, .int .i64 v.nx, .slice M2.sa M2.s M2.sc, .slice M2.la M2.l M2.lc, .slice M2.ga M2.g M2.gc, .bool v.cl] Zz := by rw [hZ2]; exact (R2.setAll (us := [.int .i64 v.cp, .int .i64 v.se, .slice M2.ia M2.i M2.ic, .int .i64 v.nx, .slice M2.sa M2.s M2.sc, .slice M2.la M2.l M2.lc, .slice M2.ga M2.g M2.gc, .bool v.cl]) rfl).setFar HN12.out.1
    have TZ : BoxL N2 [.int .i64 0, .int .i64 0, .int .i64 0, .string ⟨#[]⟩, .int .i64 0, .int .i64 0] Zz := by rw [hZ2]; exact (T2.setFar HN12.out.2).setAll (us := [.int .i64 0, .int .i64 0, .int .i64 0, .string ⟨#[]⟩, .int .i64 0, .int .i64 0]) rfl
    obtain ⟨t0, t1, t2, t3, t4, t5, t6, t7⟩ := box8 XZ
    obtain ⟨o0, o1, o2, o3, o4, o5⟩ := box6 TZ
    have HD := hidOf (show RgD w (proG v id) (proT v id) (proC v id) (.returned (.tuple #[.agg #[.int .i64 v.cp, .int .i64 v.se, .slice M2.ia M2.i M2.ic, .int .i64 v.nx, .slice M2.sa M2.s M2.sc, .slice M2.la M2.l M2.lc, .slice M2.ga M2.g M2.gc, .bool v.cl], .agg #[.int .i64 0, .int .i64 0, .int .i64 0, .string ⟨#[]⟩, .int .i64 0, .int .i64 0], .int .i64 1])) Zz by
      rw [show RgD w (proG v id) (proT v id) (proC v id) = RgD w v Td0 1 by unfold proG proT proC; rw [if_neg (by rw [HQ.out]; simp), if_neg (by rw [HQ.out]; simp), if_neg (by rw [HQ.out]; simp)]]
      rw [hZ2]
      have h := rgd_row (N1 := N1) (N2 := N2) (rs := [.int .i64 v.cp, .int .i64 v.se, .slice M2.ia M2.i M2.ic, .int .i64 v.nx, .slice M2.sa M2.s M2.sc, .slice M2.la M2.l M2.lc, .slice M2.ga M2.g M2.gc, .bool v.cl]) (ts := [.int .i64 0, .int .i64 0, .int .i64 0, .string ⟨#[]⟩, .int .i64 0, .int .i64 0]) row3 HN0.out.1 HN0.out.2 B2
      exact ⟨M2, rfl, h.1, le2 _ HM.out, h.2⟩)
    clear hZ2 XZ TZ TZ1 hZ1b R2 T2
    go_wp2_with fail
    try clear hZ
    try clear hZ1
    exact bodyPost_ret (v := .tuple #[.agg #[.int .i64 v.cp, .int .i64 v.se, .slice M2.ia M2.i M2.ic, .int .i64 v.nx, .slice M2.sa M2.s M2.sc, .slice M2.la M2.l M2.lc, .slice M2.ga M2.g M2.gc, .bool v.cl], .agg #[.int .i64 0, .int .i64 0, .int .i64 0, .string ⟨#[]⟩, .int .i64 0, .int .i64 0], .int .i64 1]) (by simp [results, Tryz.results64, go_sem, t0, t1, t2, t3, t4, t5, t6, t7, o0, o1, o2, o3, o4, o5]) rfl HD.out
  obtain ⟨f, hse, hi, hf⟩ := ok_first HQ.out
  have HBo0 := hidOf (ringBodyOf_any M v w1 f (HI.out.keep B1) HM.out HCap.out hse hi hf)
  obtain ⟨p0, p1, p2, p3, p4, p5, p6, p7⟩ := box8 A1
  clear hse hi hf
  go_wp2_with fail
  refine (HBo0.out).mono ?_
  rintro e w2 ⟨b, A, P, f2, sa, sc, ys, rfl, body2, hAn, hAn', hyn, b2⟩
  have A2 := A1.keep b2
  have R2 := R1.keep b2
  have T2 := T1.keep b2
  have B2 := bl_trans B1 b2
  have hnd := ok_nodup HQ.out
  have HPs := hidOf (pass_tf w1.heap.size b A v.ln v.gs id w2 body2.wst (by have h := HM.out.l; omega) (by have h := HM.out.g; omega) HW.out.ln HW.out.gs HId.out hnd.1 hnd.2)
  have HB2 := hidOf body2
  have hs4 : w.heap.size + 3 ≤ w2.heap.size := by have h := b2.size; omega
  have HAn1 := hidOf (And.intro hAn hAn')
  clear A1 R1 T1 B1 p0 p1 p2 p3 p4 p5 p6 p7 HBo0 body2 hnd hAn hAn' b2
  go_wp2_with fail
  refine (HPs.out).mono ?_
  rintro e w3 hps
  clear HPs
  rcases hps with ⟨h1, rfl, b3⟩ | ⟨h1, h2, rfl, b3⟩ | ⟨h1, h2, A1, rfl, hW3, hT3, ht3, hN3⟩
  · have A3 := A2.keep b3
    have R3 := R2.keep b3
    have T3 := T2.keep b3
    have B3 := bl_trans B2 b3
    have hs4 : w.heap.size + 3 ≤ w3.heap.size := by have h := b3.size; omega
    have HH := hidOf h1
    clear A2 R2 T2 B2 b3 h1
    have HC := hidOf (copiedRing_any M v w3 (HI.out.keep B3) HM.out)
    obtain ⟨p0, p1, p2, p3, p4, p5, p6, p7⟩ := box8 A3
    go_wp2_with fail
    refine (HC.out).mono ?_
    rintro e w9 ⟨M2, rfl, row2, le2, b2⟩
    have row3 := row2.mono (B' := w.heap.size + 3) hs4
    have R2 := R3.keep b2
    have T2 := T3.keep b2
    have B2 := bl_trans B3 b2
    clear A3 R3 T3 p0 p1 p2 p3 p4 p5 p6 p7
    obtain ⟨r0, r1, r2, r3, r4, r5, r6, r7⟩ := box8 R2
    have rf := R2.fr
    obtain ⟨u0, u1, u2, u3, u4, u5⟩ := box6 T2
    have uf := T2.fr
    obtain ⟨Z1, hZ1⟩ : ∃ Z, ((((((((w9.setCell ⟨N1, 0, none⟩ (.int .i64 v.cp)).setCell ⟨N1, 1, none⟩ (.int .i64 v.se)).setCell ⟨N1, 2, none⟩ (.slice M2.ia M2.i M2.ic)).setCell ⟨N1, 3, none⟩ (.int .i64 v.nx)).setCell ⟨N1, 4, none⟩ (.slice M2.sa M2.s M2.sc)).setCell ⟨N1, 5, none⟩ (.slice M2.la M2.l M2.lc)).setCell ⟨N1, 6, none⟩ (.slice M2.ga M2.g M2.gc)).setCell ⟨N1, 7, none⟩ (.bool v.cl)) = Z := ⟨_, rfl⟩
    have hZ1b : Z1 = setL w9 N1 0 [.int .i64 v.cp, .int .i64 v.se, .slice M2.ia M2.i M2.ic, .int .i64 v.nx, .slice M2.sa M2.s M2.sc, .slice M2.la M2.l M2.lc, .slice M2.ga M2.g M2.gc, .bool v.cl] := by rw [← hZ1]; rfl
    have TZ1 : BoxL N2 [.int .i64 0, .int .i64 0, .int .i64 0, .string ⟨#[]⟩, .int .i64 0, .int .i64 0] Z1 := by rw [hZ1b]; exact T2.setFar HN12.out.2
    obtain ⟨z0, z1, z2, z3, z4, z5⟩ := box6 TZ1
    have zf := TZ1.fr
    obtain ⟨Zz, hZ⟩ : ∃ Z, ((((((Z1.setCell ⟨N2, 0, none⟩ (.int .i64 0)).setCell ⟨N2, 1, none⟩ (.int .i64 0)).setCell ⟨N2, 2, none⟩ (.int .i64 0)).setCell ⟨N2, 3, none⟩ (.string ⟨#[]⟩)).setCell ⟨N2, 4, none⟩ (.int .i64 0)).setCell ⟨N2, 5, none⟩ (.int .i64 0)) = Z := ⟨_, rfl⟩
    have hZ2 : Zz = setL (setL w9 N1 0 [.int .i64 v.cp, .int .i64 v.se, .slice M2.ia M2.i M2.ic, .int .i64 v.nx, .slice M2.sa M2.s M2.sc, .slice M2.la M2.l M2.lc, .slice M2.ga M2.g M2.gc, .bool v.cl]) N2 0 [.int .i64 0, .int .i64 0, .int .i64 0, .string ⟨#[]⟩, .int .i64 0, .int .i64 0] := by rw [← hZ, hZ1b]; rfl
    have XZ : BoxL N1 [.int .i64 v.cp, .int .i64 v.se, .slice M2.ia M2.i M2.ic, .int .i64 v.nx, .slice M2.sa M2.s M2.sc, .slice M2.la M2.l M2.lc, .slice M2.ga M2.g M2.gc, .bool v.cl] Zz := by rw [hZ2]; exact (R2.setAll (us := [.int .i64 v.cp, .int .i64 v.se, .slice M2.ia M2.i M2.ic, .int .i64 v.nx, .slice M2.sa M2.s M2.sc, .slice M2.la M2.l M2.lc, .slice M2.ga M2.g M2.gc, .bool v.cl]) rfl).setFar HN12.out.1
    have TZ : BoxL N2 [.int .i64 0, .int .i64 0, .int .i64 0, .string ⟨#[]⟩, .int .i64 0, .int .i64 0] Zz := by rw [hZ2]; exact (T2.setFar HN12.out.2).setAll (us := [.int .i64 0, .int .i64 0, .int .i64 0, .string ⟨#[]⟩, .int .i64 0, .int .i64 0]) rfl
    obtain ⟨t0, t1, t2, t3, t4, t5, t6, t7⟩ := box8 XZ
    obtain ⟨o0, o1, o2, o3, o4, o5⟩ := box6 TZ
    have HD := hidOf (show RgD w (proG v id) (proT v id) (proC v id) (.returned (.tuple #[.agg #[.int .i64 v.cp, .int .i64 v.se, .slice M2.ia M2.i M2.ic, .int .i64 v.nx, .slice M2.sa M2.s M2.sc, .slice M2.la M2.l M2.lc, .slice M2.ga M2.g M2.gc, .bool v.cl], .agg #[.int .i64 0, .int .i64 0, .int .i64 0, .string ⟨#[]⟩, .int .i64 0, .int .i64 0], .int .i64 4])) Zz by
      rw [show RgD w (proG v id) (proT v id) (proC v id) = RgD w v Td0 4 by unfold proG proT proC; rw [if_pos HQ.out, if_pos HQ.out, if_pos HQ.out, if_pos HH.out, if_pos HH.out, if_pos HH.out]]
      rw [hZ2]
      have h := rgd_row (N1 := N1) (N2 := N2) (rs := [.int .i64 v.cp, .int .i64 v.se, .slice M2.ia M2.i M2.ic, .int .i64 v.nx, .slice M2.sa M2.s M2.sc, .slice M2.la M2.l M2.lc, .slice M2.ga M2.g M2.gc, .bool v.cl]) (ts := [.int .i64 0, .int .i64 0, .int .i64 0, .string ⟨#[]⟩, .int .i64 0, .int .i64 0]) row3 HN0.out.1 HN0.out.2 B2
      exact ⟨M2, rfl, h.1, le2 _ HM.out, h.2⟩)
    clear hZ2 XZ TZ TZ1 hZ1b R2 T2
    go_wp2_with fail
    try clear hZ
    try clear hZ1
    exact bodyPost_ret (v := .tuple #[.agg #[.int .i64 v.cp, .int .i64 v.se, .slice M2.ia M2.i M2.ic, .int .i64 v.nx, .slice M2.sa M2.s M2.sc, .slice M2.la M2.l M2.lc, .slice M2.ga M2.g M2.gc, .bool v.cl], .agg #[.int .i64 0, .int .i64 0, .int .i64 0, .string ⟨#[]⟩, .int .i64 0, .int .i64 0], .int .i64 4]) (by simp [results, Tryz.results64, go_sem, t0, t1, t2, t3, t4, t5, t6, t7, o0, o1, o2, o3, o4, o5]) rfl HD.out
  · have A3 := A2.keep b3
    have R3 := R2.keep b3
    have T3 := T2.keep b3
    have B3 := bl_trans B2 b3
    have hs4 : w.heap.size + 3 ≤ w3.heap.size := by have h := b3.size; omega
    have HH := hidOf (And.intro h1 h2)
    clear A2 R2 T2 B2 b3 h1 h2
    have HC := hidOf (copiedRing_any M v w3 (HI.out.keep B3) HM.out)
    obtain ⟨p0, p1, p2, p3, p4, p5, p6, p7⟩ := box8 A3
    go_wp2_with fail
    refine (HC.out).mono ?_
    rintro e w9 ⟨M2, rfl, row2, le2, b2⟩
    have row3 := row2.mono (B' := w.heap.size + 3) hs4
    have R2 := R3.keep b2
    have T2 := T3.keep b2
    have B2 := bl_trans B3 b2
    clear A3 R3 T3 p0 p1 p2 p3 p4 p5 p6 p7
    obtain ⟨r0, r1, r2, r3, r4, r5, r6, r7⟩ := box8 R2
    have rf := R2.fr
    obtain ⟨u0, u1, u2, u3, u4, u5⟩ := box6 T2
    have uf := T2.fr
    obtain ⟨Z1, hZ1⟩ : ∃ Z, ((((((((w9.setCell ⟨N1, 0, none⟩ (.int .i64 v.cp)).setCell ⟨N1, 1, none⟩ (.int .i64 v.se)).setCell ⟨N1, 2, none⟩ (.slice M2.ia M2.i M2.ic)).setCell ⟨N1, 3, none⟩ (.int .i64 v.nx)).setCell ⟨N1, 4, none⟩ (.slice M2.sa M2.s M2.sc)).setCell ⟨N1, 5, none⟩ (.slice M2.la M2.l M2.lc)).setCell ⟨N1, 6, none⟩ (.slice M2.ga M2.g M2.gc)).setCell ⟨N1, 7, none⟩ (.bool v.cl)) = Z := ⟨_, rfl⟩
    have hZ1b : Z1 = setL w9 N1 0 [.int .i64 v.cp, .int .i64 v.se, .slice M2.ia M2.i M2.ic, .int .i64 v.nx, .slice M2.sa M2.s M2.sc, .slice M2.la M2.l M2.lc, .slice M2.ga M2.g M2.gc, .bool v.cl] := by rw [← hZ1]; rfl
    have TZ1 : BoxL N2 [.int .i64 0, .int .i64 0, .int .i64 0, .string ⟨#[]⟩, .int .i64 0, .int .i64 0] Z1 := by rw [hZ1b]; exact T2.setFar HN12.out.2
    obtain ⟨z0, z1, z2, z3, z4, z5⟩ := box6 TZ1
    have zf := TZ1.fr
    obtain ⟨Zz, hZ⟩ : ∃ Z, ((((((Z1.setCell ⟨N2, 0, none⟩ (.int .i64 0)).setCell ⟨N2, 1, none⟩ (.int .i64 0)).setCell ⟨N2, 2, none⟩ (.int .i64 0)).setCell ⟨N2, 3, none⟩ (.string ⟨#[]⟩)).setCell ⟨N2, 4, none⟩ (.int .i64 0)).setCell ⟨N2, 5, none⟩ (.int .i64 0)) = Z := ⟨_, rfl⟩
    have hZ2 : Zz = setL (setL w9 N1 0 [.int .i64 v.cp, .int .i64 v.se, .slice M2.ia M2.i M2.ic, .int .i64 v.nx, .slice M2.sa M2.s M2.sc, .slice M2.la M2.l M2.lc, .slice M2.ga M2.g M2.gc, .bool v.cl]) N2 0 [.int .i64 0, .int .i64 0, .int .i64 0, .string ⟨#[]⟩, .int .i64 0, .int .i64 0] := by rw [← hZ, hZ1b]; rfl
    have XZ : BoxL N1 [.int .i64 v.cp, .int .i64 v.se, .slice M2.ia M2.i M2.ic, .int .i64 v.nx, .slice M2.sa M2.s M2.sc, .slice M2.la M2.l M2.lc, .slice M2.ga M2.g M2.gc, .bool v.cl] Zz := by rw [hZ2]; exact (R2.setAll (us := [.int .i64 v.cp, .int .i64 v.se, .slice M2.ia M2.i M2.ic, .int .i64 v.nx, .slice M2.sa M2.s M2.sc, .slice M2.la M2.l M2.lc, .slice M2.ga M2.g M2.gc, .bool v.cl]) rfl).setFar HN12.out.1
    have TZ : BoxL N2 [.int .i64 0, .int .i64 0, .int .i64 0, .string ⟨#[]⟩, .int .i64 0, .int .i64 0] Zz := by rw [hZ2]; exact (T2.setFar HN12.out.2).setAll (us := [.int .i64 0, .int .i64 0, .int .i64 0, .string ⟨#[]⟩, .int .i64 0, .int .i64 0]) rfl
    obtain ⟨t0, t1, t2, t3, t4, t5, t6, t7⟩ := box8 XZ
    obtain ⟨o0, o1, o2, o3, o4, o5⟩ := box6 TZ
    have HD := hidOf (show RgD w (proG v id) (proT v id) (proC v id) (.returned (.tuple #[.agg #[.int .i64 v.cp, .int .i64 v.se, .slice M2.ia M2.i M2.ic, .int .i64 v.nx, .slice M2.sa M2.s M2.sc, .slice M2.la M2.l M2.lc, .slice M2.ga M2.g M2.gc, .bool v.cl], .agg #[.int .i64 0, .int .i64 0, .int .i64 0, .string ⟨#[]⟩, .int .i64 0, .int .i64 0], .int .i64 3])) Zz by
      rw [show RgD w (proG v id) (proT v id) (proC v id) = RgD w v Td0 3 by have hn : ¬ hasL v.ln id = true := (by rw [HH.out.1]; simp); have hn2 : ¬ hasL v.gs id = true := (by rw [HH.out.2]; simp); unfold proG proT proC; rw [if_pos HQ.out, if_pos HQ.out, if_pos HQ.out, if_neg hn, if_neg hn, if_neg hn, if_neg hn2, if_neg hn2, if_neg hn2]]
      rw [hZ2]
      have h := rgd_row (N1 := N1) (N2 := N2) (rs := [.int .i64 v.cp, .int .i64 v.se, .slice M2.ia M2.i M2.ic, .int .i64 v.nx, .slice M2.sa M2.s M2.sc, .slice M2.la M2.l M2.lc, .slice M2.ga M2.g M2.gc, .bool v.cl]) (ts := [.int .i64 0, .int .i64 0, .int .i64 0, .string ⟨#[]⟩, .int .i64 0, .int .i64 0]) row3 HN0.out.1 HN0.out.2 B2
      exact ⟨M2, rfl, h.1, le2 _ HM.out, h.2⟩)
    clear hZ2 XZ TZ TZ1 hZ1b R2 T2
    go_wp2_with fail
    try clear hZ
    try clear hZ1
    exact bodyPost_ret (v := .tuple #[.agg #[.int .i64 v.cp, .int .i64 v.se, .slice M2.ia M2.i M2.ic, .int .i64 v.nx, .slice M2.sa M2.s M2.sc, .slice M2.la M2.l M2.lc, .slice M2.ga M2.g M2.gc, .bool v.cl], .agg #[.int .i64 0, .int .i64 0, .int .i64 0, .string ⟨#[]⟩, .int .i64 0, .int .i64 0], .int .i64 3]) (by simp [results, Tryz.results64, go_sem, t0, t1, t2, t3, t4, t5, t6, t7, o0, o1, o2, o3, o4, o5]) rfl HD.out
  · obtain ⟨v1, hv1⟩ : ∃ v1 : Rv, v1 = { v with gs := lessL v.gs id } := ⟨_, rfl⟩
    have body3 : RBody U0.heap.size b A1 P f2 v1 sa M.s sc ys w3 := by rw [hv1]; exact (HB2.out.passd hW3 hT3 ht3 hN3).mono Hb1.out
    have B3 : Below w.heap.size w w3 := bl_trans2 B2 hT3.below (by omega)
    have R3 := R2.below hT3.below (by have h := HN0.out; omega)
    have T3 := T2.below hT3.below (by have h := HN0.out; omega)
    have hA := at_has HQ.out h2
    obtain ⟨hlt, hk⟩ := at_lt hA
    obtain ⟨k, hkk⟩ : ∃ k, (atR v.sb id).toNat = k := ⟨_, rfl⟩
    rw [hkk] at hlt hk
    have hlt1 : k < v1.sb.length := by rw [hv1]; exact hlt
    obtain ⟨g, rfl, hsl, hky⟩ := body3.sub_row hlt1
    have hhd := ok_head HQ.out
    have hok1 : RdOk v1 k := by rw [hv1]; exact rd_gs _ (ok_rd HQ.out hlt)
    obtain ⟨v5, hv5⟩ : ∃ v5, trimR (waitV v1 k id) = v5 := ⟨_, rfl⟩
    obtain ⟨td, htd⟩ : ∃ td, readT v1 (v1.sb.getD k Sb0) = td := ⟨_, rfl⟩
    obtain ⟨cd, hcd⟩ : ∃ cd, readC v1 (v1.sb.getD k Sb0) = cd := ⟨_, rfl⟩
    have HEl := hidOf (show RgD w (proG v id) (proT v id) (proC v id) = RgD w v5 td cd by
      have hn : ¬ hasL v.ln id = true := by rw [h1]; simp
      unfold proG proT proC
      rw [if_pos HQ.out, if_pos HQ.out, if_pos HQ.out, if_neg hn, if_neg hn, if_neg hn, if_pos h2, if_pos h2, if_pos h2, hkk, ← hv5, ← htd, ← hcd, hv1]
      rfl)
    have HI5 := hidOf (show v5.it.length ≤ 16 by rw [← hv5]; exact trim_wait_len hok1)
    have HV := hidOf hv5
    have HTd := hidOf htd
    have HCd := hidOf hcd
    have hln1 : v1.ln = v.ln ∧ v1.gs = lessL v.gs id ∧ v1.sb = v.sb := by rw [hv1]; exact ⟨rfl, rfl, rfl⟩
    have hlnn := body3.wst.rows.len.1
    have hlnn' := body3.wst.rows.len.2
    have hll := lessL_len v.gs id
    have hgl := HI.out.gs.len
    rw [hln1.1] at hlnn
    rw [hln1.2.1] at hlnn'
    have HRc := hidOf (receive_any U0.heap.size b A1 P f2 v1 g M.s sc ys k id w3 body3 HM.out.s (by omega) (by rw [hln1.2.2]; exact hk) hok1 hky (fun y hy => by obtain ⟨z, hz, e⟩ := hyn y hy; rw [e]; exact HM.out.f z hz) (HG.out.keep B3) (by have h := HG.out.lt; have h2 := HZ0.out; omega) (by have h := hhd.2.2.2.2.2.1; omega))
    have HAn0 := hidOf (show A1.n ≤ 12 ∧ A1.n' ≤ M.g by have h := hhd.2.2.2.2.2.1; omega)
    have HYn := hidOf hyn
    have HKY := hidOf hky
    have RW := R3
    have TW := T3
    have BW := B3
    clear h1 h2 hkk hv5 htd hcd body3 hhd hlt hlt1 hsl hk hlnn hlnn' hyn hky hA hok1 hv1 hln1 hll hgl A2 R2 T2 B2 R3 T3 B3 hW3 hT3 ht3 hN3 HB2 HAn1 hs4 hs1
    go_wp2_with fail
    refine (HRc.out).mono ?_
    rintro e w13 ⟨he3, A', P', f', body3, hA3, hA3', b3⟩
    rw [HTd.out, HCd.out] at he3
    subst he3
    rw [HV.out] at body3
    have R3 := RW.below b3 (by have h := HZ0.out; have h2 := HN0.out; omega)
    have T3 := TW.below b3 (by have h := HZ0.out; have h2 := HN0.out; omega)
    have B3 : Below w.heap.size w w13 := bl_trans2 BW b3 (by have := HZ0.out; omega)
    obtain ⟨V2, hV2⟩ : ∃ V, V = w13.alloc (.cells #[.int .i64 td.kd, .int .i64 td.ms.1, .int .i64 td.ms.2.1, .string td.ms.2.2, .int .i64 td.ix, .int .i64 td.n] 53) := ⟨_, rfl⟩
    have bV2 : Below w13.heap.size w13 V2 := by rw [hV2]; exact bl_alloc (Below.refl _ _) _
    have K6 : BoxL w13.heap.size [.int .i64 td.kd, .int .i64 td.ms.1, .int .i64 td.ms.2.1, .string td.ms.2.2, .int .i64 td.ix, .int .i64 td.n] V2 := by rw [hV2]; exact BoxL.new w13 [.int .i64 td.kd, .int .i64 td.ms.1, .int .i64 td.ms.2.1, .string td.ms.2.2, .int .i64 td.ix, .int .i64 td.n] _
    have R6 := R3.keep bV2
    have T6 := T3.keep bV2
    have B6 := bl_trans B3 bV2
    have HBo := hidOf (body3.keep bV2)
    have HAn := hidOf (show A'.n ≤ 2000000 ∧ A'.n' ≤ M.g by have h := HAn0.out; omega)
    have l1 := R3.lt
    have l2 := T3.lt
    clear body3 RW TW BW R3 T3 B3 bV2 b3 hA3 hA3' HRc
    go_upto_region 8 with fail
    rw [← hV2]
    clear hV2
    generalize hNT : w13.heap.size = NT at K6 ⊢
    have HNT := hidOf (show NT ≠ N1 ∧ NT ≠ N2 by omega)
    clear hNT l1 l2
    have hS6 : (fun u : World => u.cell? ⟨NT, 0, none⟩ = some (.int .i64 td.kd) ∧ u.cell? ⟨NT, 1, none⟩ = some (.int .i64 td.ms.1) ∧ u.cell? ⟨NT, 2, none⟩ = some (.int .i64 td.ms.2.1) ∧ u.cell? ⟨NT, 3, none⟩ = some (.string td.ms.2.2) ∧ u.cell? ⟨NT, 4, none⟩ = some (.int .i64 td.ix) ∧ u.cell? ⟨NT, 5, none⟩ = some (.int .i64 td.n)) V2 := ⟨K6.cs 0 (by simp), K6.cs 1 (by simp), K6.cs 2 (by simp), K6.cs 3 (by simp), K6.cs 4 (by simp), K6.cs 5 (by simp)⟩
    have HRi := hidOf (ring_anyQ U0.heap.size b A' P' f' v5 (some ⟨g, 0, none⟩) M.s sc (ysS ys k (readS v1 (v1.sb.getD k Sb0))) V2.drew (HBo.out.keep (Below.refl _ _).drew))
    go_upto_region 8 with fail
    refine wp_region_noPanic ?_
    refine wp_region_held_drew (S := fun u => u.cell? ⟨NT, 0, none⟩ = some (.int .i64 td.kd) ∧ u.cell? ⟨NT, 1, none⟩ = some (.int .i64 td.ms.1) ∧ u.cell? ⟨NT, 2, none⟩ = some (.int .i64 td.ms.2.1) ∧ u.cell? ⟨NT, 3, none⟩ = some (.string td.ms.2.2) ∧ u.cell? ⟨NT, 4, none⟩ = some (.int .i64 td.ix) ∧ u.cell? ⟨NT, 5, none⟩ = some (.int .i64 td.n)) (by kernel_rfl) hS6 (fun hHeld => ?_)
    refine wpAnyH_take (i := 0) (v := ?_) rfl (by kernel_rfl) (by kernel_rfl) (by kernel_rfl) (fun _ _ _ h => h) (Or.inl ⟨by rfl, ?_⟩) (by assumption) ?_
    case refine_2 => (intro w hSw; (try dsimp only at hSw); go_simp; try with_reducible rfl)
    simp only [Act.put, List.getElem_toArray, List.getElem_cons_zero, List.setIfInBounds_toArray, List.set_cons_zero, List.set_cons_succ]
    refine wpAnyH_take (i := 2) (v := ?_) rfl (by kernel_rfl) (by kernel_rfl) (by kernel_rfl) (fun _ _ _ h => h) (Or.inl ⟨by rfl, ?_⟩) (by assumption) ?_
    case refine_2 => (intro w hSw; (try dsimp only at hSw); go_simp; try with_reducible rfl)
    simp only [Act.put, zGA, zG0, zGC, zSA, zS0, zSC]
    refine wpAnyH_take (i := 3) (v := ?_) rfl (by kernel_rfl) (by kernel_rfl) (by kernel_rfl) (fun _ _ _ h => h) (Or.inl ⟨by rfl, ?_⟩) (by assumption) ?_
    case refine_2 => (intro w hSw; (try dsimp only at hSw); go_simp; try with_reducible rfl)
    simp only [Act.put, zGA, zG0, zGC, zSA, zS0, zSC]
    refine wpAnyH_ready (rs := [1]) (by kernel_rfl) (by simp) ?_
    refine AllReadyH.cons rfl (fun K hK => ?_) AllReadyH.nil
    go_simp
    refine (HRi.out).mono ?_
    rintro e w7 ⟨g6, hg6, rfl, row4, b7⟩
    go_wp2_with fail
    have row5 := row4.mono (B' := w.heap.size + 3) (by have := HZ0.out; omega)
    have K7 := (K6.keep (Below.refl _ _).drew).keep b7
    have R7 := (R6.keep (Below.refl _ _).drew).keep b7
    have U7 := (T6.keep (Below.refl _ _).drew).keep b7
    have B7 := bl_trans B6.drew b7
    have hS7 : (fun u : World => u.cell? ⟨NT, 0, none⟩ = some (.int .i64 td.kd) ∧ u.cell? ⟨NT, 1, none⟩ = some (.int .i64 td.ms.1) ∧ u.cell? ⟨NT, 2, none⟩ = some (.int .i64 td.ms.2.1) ∧ u.cell? ⟨NT, 3, none⟩ = some (.string td.ms.2.2) ∧ u.cell? ⟨NT, 4, none⟩ = some (.int .i64 td.ix) ∧ u.cell? ⟨NT, 5, none⟩ = some (.int .i64 td.n)) w7 := ⟨K7.cs 0 (by simp), K7.cs 1 (by simp), K7.cs 2 (by simp), K7.cs 3 (by simp), K7.cs 4 (by simp), K7.cs 5 (by simp)⟩
    obtain ⟨r0, r1, r2, r3, r4, r5, r6, r7⟩ := box8 R7
    have rf := R7.fr
    obtain ⟨u0, u1, u2, u3, u4, u5⟩ := box6 U7
    have uf := U7.fr
    obtain ⟨Z1, hZ1⟩ : ∃ Z, ((((((((w7.setCell ⟨N1, 0, none⟩ (.int .i64 v5.cp)).setCell ⟨N1, 1, none⟩ (.int .i64 v5.se)).setCell ⟨N1, 2, none⟩ (.slice (some ⟨g6, 0, none⟩) v5.it.length v5.it.length)).setCell ⟨N1, 3, none⟩ (.int .i64 v5.nx)).setCell ⟨N1, 4, none⟩ (.slice (some ⟨g, 0, none⟩) M.s sc)).setCell ⟨N1, 5, none⟩ (.slice A'.a A'.n A'.c)).setCell ⟨N1, 6, none⟩ (.slice A'.a' A'.n' A'.c')).setCell ⟨N1, 7, none⟩ (.bool v5.cl)) = Z := ⟨_, rfl⟩
    have hZ1b : Z1 = setL w7 N1 0 [.int .i64 v5.cp, .int .i64 v5.se, .slice (some ⟨g6, 0, none⟩) v5.it.length v5.it.length, .int .i64 v5.nx, .slice (some ⟨g, 0, none⟩) M.s sc, .slice A'.a A'.n A'.c, .slice A'.a' A'.n' A'.c', .bool v5.cl] := by rw [← hZ1]; rfl
    have TZ1 : BoxL N2 [.int .i64 0, .int .i64 0, .int .i64 0, .string ⟨#[]⟩, .int .i64 0, .int .i64 0] Z1 := by rw [hZ1b]; exact U7.setFar HN12.out.2
    obtain ⟨z0, z1, z2, z3, z4, z5⟩ := box6 TZ1
    have zf := TZ1.fr
    obtain ⟨Zz, hZ⟩ : ∃ Z, ((((((Z1.setCell ⟨N2, 0, none⟩ (.int .i64 td.kd)).setCell ⟨N2, 1, none⟩ (.int .i64 td.ms.1)).setCell ⟨N2, 2, none⟩ (.int .i64 td.ms.2.1)).setCell ⟨N2, 3, none⟩ (.string td.ms.2.2)).setCell ⟨N2, 4, none⟩ (.int .i64 td.ix)).setCell ⟨N2, 5, none⟩ (.int .i64 td.n)) = Z := ⟨_, rfl⟩
    have hZ2 : Zz = setL (setL w7 N1 0 [.int .i64 v5.cp, .int .i64 v5.se, .slice (some ⟨g6, 0, none⟩) v5.it.length v5.it.length, .int .i64 v5.nx, .slice (some ⟨g, 0, none⟩) M.s sc, .slice A'.a A'.n A'.c, .slice A'.a' A'.n' A'.c', .bool v5.cl]) N2 0 [.int .i64 td.kd, .int .i64 td.ms.1, .int .i64 td.ms.2.1, .string td.ms.2.2, .int .i64 td.ix, .int .i64 td.n] := by rw [← hZ, hZ1b]; rfl
    have XZ : BoxL N1 [.int .i64 v5.cp, .int .i64 v5.se, .slice (some ⟨g6, 0, none⟩) v5.it.length v5.it.length, .int .i64 v5.nx, .slice (some ⟨g, 0, none⟩) M.s sc, .slice A'.a A'.n A'.c, .slice A'.a' A'.n' A'.c', .bool v5.cl] Zz := by rw [hZ2]; exact (R7.setAll (us := [.int .i64 v5.cp, .int .i64 v5.se, .slice (some ⟨g6, 0, none⟩) v5.it.length v5.it.length, .int .i64 v5.nx, .slice (some ⟨g, 0, none⟩) M.s sc, .slice A'.a A'.n A'.c, .slice A'.a' A'.n' A'.c', .bool v5.cl]) rfl).setFar HN12.out.1
    have TZ : BoxL N2 [.int .i64 td.kd, .int .i64 td.ms.1, .int .i64 td.ms.2.1, .string td.ms.2.2, .int .i64 td.ix, .int .i64 td.n] Zz := by rw [hZ2]; exact (U7.setFar HN12.out.2).setAll (us := [.int .i64 td.kd, .int .i64 td.ms.1, .int .i64 td.ms.2.1, .string td.ms.2.2, .int .i64 td.ix, .int .i64 td.n]) rfl
    obtain ⟨t0, t1, t2, t3, t4, t5, t6, t7⟩ := box8 XZ
    obtain ⟨o0, o1, o2, o3, o4, o5⟩ := box6 TZ
    have K8 : BoxL NT [.int .i64 td.kd, .int .i64 td.ms.1, .int .i64 td.ms.2.1, .string td.ms.2.2, .int .i64 td.ix, .int .i64 td.n] Z1 := by rw [hZ1b]; exact K7.setFar HNT.out.1
    have hS8 : (fun u : World => u.cell? ⟨NT, 0, none⟩ = some (.int .i64 td.kd) ∧ u.cell? ⟨NT, 1, none⟩ = some (.int .i64 td.ms.1) ∧ u.cell? ⟨NT, 2, none⟩ = some (.int .i64 td.ms.2.1) ∧ u.cell? ⟨NT, 3, none⟩ = some (.string td.ms.2.2) ∧ u.cell? ⟨NT, 4, none⟩ = some (.int .i64 td.ix) ∧ u.cell? ⟨NT, 5, none⟩ = some (.int .i64 td.n)) Z1 := ⟨K8.cs 0 (by simp), K8.cs 1 (by simp), K8.cs 2 (by simp), K8.cs 3 (by simp), K8.cs 4 (by simp), K8.cs 5 (by simp)⟩
    have K9 : BoxL NT [.int .i64 td.kd, .int .i64 td.ms.1, .int .i64 td.ms.2.1, .string td.ms.2.2, .int .i64 td.ix, .int .i64 td.n] Zz := by rw [hZ2, ← hZ1b]; exact K8.setFar HNT.out.2
    have HL5 := hidOf (show RLe (⟨some ⟨g6, 0, none⟩, v5.it.length, v5.it.length, some ⟨g, 0, none⟩, M.s, sc, ysS ys k (readS v1 (v1.sb.getD k Sb0)), A'.a, A'.n, A'.c, A'.a', A'.n', A'.c'⟩ : Rm) 2097152 from ⟨by have h := HI5.out; show v5.it.length ≤ _; omega, HM.out.s, fun y hy => by
      obtain ⟨x2, hx2, e2⟩ := ysS_mem HKY.out y hy
      obtain ⟨x3, hx3, e3⟩ := HYn.out x2 hx2
      rw [e2, e3]
      exact HM.out.f x3 hx3, by have h := HAn.out; show A'.n ≤ _; omega, by have h := HAn.out; have h2 := HM.out.g; show A'.n' ≤ _; omega⟩)
    have hS9 : (fun u : World => u.cell? ⟨NT, 0, none⟩ = some (.int .i64 td.kd) ∧ u.cell? ⟨NT, 1, none⟩ = some (.int .i64 td.ms.1) ∧ u.cell? ⟨NT, 2, none⟩ = some (.int .i64 td.ms.2.1) ∧ u.cell? ⟨NT, 3, none⟩ = some (.string td.ms.2.2) ∧ u.cell? ⟨NT, 4, none⟩ = some (.int .i64 td.ix) ∧ u.cell? ⟨NT, 5, none⟩ = some (.int .i64 td.n)) Zz := ⟨K9.cs 0 (by simp), K9.cs 1 (by simp), K9.cs 2 (by simp), K9.cs 3 (by simp), K9.cs 4 (by simp), K9.cs 5 (by simp)⟩
    have HD := hidOf (show RgD w (proG v id) (proT v id) (proC v id) (.returned (.tuple #[.agg #[.int .i64 v5.cp, .int .i64 v5.se, .slice (some ⟨g6, 0, none⟩) v5.it.length v5.it.length, .int .i64 v5.nx, .slice (some ⟨g, 0, none⟩) M.s sc, .slice A'.a A'.n A'.c, .slice A'.a' A'.n' A'.c', .bool v5.cl], .agg #[.int .i64 td.kd, .int .i64 td.ms.1, .int .i64 td.ms.2.1, .string td.ms.2.2, .int .i64 td.ix, .int .i64 td.n], .int .i64 cd])) Zz by
      rw [HEl.out, hZ2]
      have h := rgd_row (N1 := N1) (N2 := N2) (rs := [.int .i64 v5.cp, .int .i64 v5.se, .slice (some ⟨g6, 0, none⟩) v5.it.length v5.it.length, .int .i64 v5.nx, .slice (some ⟨g, 0, none⟩) M.s sc, .slice A'.a A'.n A'.c, .slice A'.a' A'.n' A'.c', .bool v5.cl]) (ts := [.int .i64 td.kd, .int .i64 td.ms.1, .int .i64 td.ms.2.1, .string td.ms.2.2, .int .i64 td.ix, .int .i64 td.n]) row5 HN0.out.1 HN0.out.2 B7
      exact ⟨(⟨some ⟨g6, 0, none⟩, v5.it.length, v5.it.length, some ⟨g, 0, none⟩, M.s, sc, ysS ys k (readS v1 (v1.sb.getD k Sb0)), A'.a, A'.n, A'.c, A'.a', A'.n', A'.c'⟩ : Rm), rfl, h.1, HL5.out, h.2⟩)
    clear hZ2 XZ TZ TZ1 hZ1b R7 U7 K7 K8 K9
    refine hK.out _ _ hS7 (fun hHeld => ?_)
    clear hK K
    refine wpAnyH_ready (rs := [4]) (by kernel_rfl) (by simp) ?_
    refine AllReadyH.cons rfl (fun K hK => ?_) AllReadyH.nil
    go_simp
    refine hK.out _ _ hS8 (fun hHeld => ?_)
    clear hK K
    refine wpAnyH_ready (rs := [5]) (by kernel_rfl) (by simp) ?_
    refine AllReadyH.cons rfl (fun K hK => ?_) AllReadyH.nil
    go_simp
    refine hK.out _ _ hS9 (fun hHeld => ?_)
    clear hK K
    refine wpAnyH_take (i := 6) (v := ?_) rfl (by kernel_rfl) (by kernel_rfl) (by kernel_rfl) (fun _ _ _ h => h) (Or.inl ⟨by rfl, ?_⟩) (by assumption) ?_
    case refine_2 => (intro w hSw; (try dsimp only at hSw); go_simp; try with_reducible rfl)
    simp only [Act.put, zGA, zG0, zGC, zSA, zS0, zSC]
    refine wpAnyH_done (by kernel_rfl) ?_ _
    refine NoPanic.normal ?_
    go_wp2_with fail
    exact bodyPost_ret (v := .tuple #[.agg #[.int .i64 v5.cp, .int .i64 v5.se, .slice (some ⟨g6, 0, none⟩) v5.it.length v5.it.length, .int .i64 v5.nx, .slice (some ⟨g, 0, none⟩) M.s sc, .slice A'.a A'.n A'.c, .slice A'.a' A'.n' A'.c', .bool v5.cl], .agg #[.int .i64 td.kd, .int .i64 td.ms.1, .int .i64 td.ms.2.1, .string td.ms.2.2, .int .i64 td.ix, .int .i64 td.n], .int .i64 cd]) (by simp [results, Tryz.results64, go_sem, t0, t1, t2, t3, t4, t5, t6, t7, o0, o1, o2, o3, o4, o5]) rfl HD.out
end Go.Proofs.YtihdglmiecifjaaGreat
