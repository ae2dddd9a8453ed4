/-
  The specification's Unsubscribe
-/
import Derived.Test.YtdboaoejlkkoeaaGreatZPo19
namespace Go.Proofs.YtdboaoejlkkoeaaGreat
open Go.RowKit Go.Maps Pl Il
theorem nstep_append_exU {P : Program} {ops : Array Oper} {o : Oper} {a : Act} {w : World} {K : Act → World → Prop} {Q : Exit → Act → World → Prop} {E : Prop} {R : Value → World → Prop} (hgd : o.guard = none) (s x : Operand) (t : TypeId)
    (ho : o.op = .call { callee := .builtin .append, args := #[s, x], argTypes := #[t, t] }) (v u : Value) (hs : a.eval s = v) (hx : a.eval x = u)
    (hr : ∃ v' w', (Builtin.append_ #[t, t] o.type #[v, u]).run P w = .ok v' w' ∧ R v' w') (h : ∀ v' w', R v' w' → K (a.put o.dst v') w') :
    if Region.wanted o (yielded ops a.tmps) = true then Oper.wp P o a w K Q else E := by
  have hw : Region.wanted o (yielded ops a.tmps) = true := by simp [Region.wanted, hgd]
  rw [if_pos hw]
  obtain ⟨v', w', hrun, hR⟩ := hr
  unfold Oper.wp execOp
  simp only [ho, resolve, invoke, builtin, Sem.run_bind, Sem.run_pure, Result.andThen_ok, List.map_toArray, List.map_cons, List.map_nil, hs, hx, hrun]
  exact h v' w' hR
theorem nstep_append_runU {P : Program} {ops : Array Oper} {o : Oper} {a : Act} {w w' : World} {K : Act → World → Prop} {Q : Exit → Act → World → Prop} {E : Prop} (hgd : o.guard = none) (s x : Operand) (t : TypeId)
    (ho : o.op = .call { callee := .builtin .append, args := #[s, x], argTypes := #[t, t] }) (v u v' : Value) (hs : a.eval s = v) (hx : a.eval x = u)
    (hr : (Builtin.append_ #[t, t] o.type #[v, u]).run P w = .ok v' w') (h : K (a.put o.dst v') w') :
    if Region.wanted o (yielded ops a.tmps) = true then Oper.wp P o a w K Q else E :=
  nstep_append_exU (R := fun v1 w1 => v1 = v' ∧ w1 = w') hgd s x t ho v u hs hx ⟨v', w', hr, rfl, rfl⟩ (fun _ _ h1 => by obtain ⟨rfl, rfl⟩ := h1; exact h)
theorem SubAt.take {w : World} {a : Option Addr} {n : Nat} {xs : List Sa} (h : SubAt w a n xs) {k : Nat} (hk : k ≤ n) : SubAt w a k (xs.take k) := by
  have hl := h.len
  refine ⟨by rw [List.length_take]; omega, fun x hx => h.fil x (List.mem_of_mem_take hx), ?_⟩
  rcases h.row with e | ⟨b, off, rfl, hlt, hc⟩
  · exact .inl (by omega)
  · refine .inr ⟨b, off, rfl, hlt, fun i hi => ?_⟩
    have e : sg (xs.take k) i = sg xs i := by unfold sg; rw [List.getD, List.getD, List.getElem?_take_of_lt hi]
    rw [e]; exact hc i (by omega)
theorem SubAt.drop {w : World} {b off n : Nat} {xs : List Sa} (h : SubAt w (some ⟨b, off, none⟩) n xs) {k : Nat} (hk : k ≤ n) : SubAt w (some ⟨b, off + k * 7, none⟩) (n - k) (xs.drop k) := by
  have hl := h.len
  refine ⟨by rw [List.length_drop]; omega, fun x hx => h.fil x (List.mem_of_mem_drop hx), ?_⟩
  rcases h.row with e | ⟨b', off', e, hlt, hc⟩
  · exact .inl (by omega)
  · cases e
    refine .inr ⟨b, off + k * 7, rfl, hlt, fun i hi => ?_⟩
    have e : sg (xs.drop k) i = sg xs (k + i) := by unfold sg; rw [List.getD, List.getD, List.getElem?_drop]
    rw [e, show off + k * 7 + i * 7 = off + (k + i) * 7 by omega]
    exact hc (k + i) (by omega)
theorem RRow.subs {B : Nat} {w' : World} {M : Rm} {v : Rv} {sa : Option Addr} {s sc : Nat} {ys : List Sa} (h : RRow B w' M v) (ho : w'.ownsRow B 41 7 (.slice sa s sc) s (sflat ys)) (hsub : ys.Sublist M.xs) (hn : ∀ q, (Value.slice sa s sc).ownBlock = some q → some q ∉ blkR M) :
    RRow B w' { M with sa := sa, s := s, sc := sc, xs := ys } { v with sb := svs ys } := by
  have hA : AptP _ _ _ _ _ := apt_iff.1 h.apt
  have inX : ∀ y, y ∈ ys.map (fun x => (Value.slice x.a x.n x.c).ownBlock) → y ∈ M.xs.map (fun x => (Value.slice x.a x.n x.c).ownBlock) := fun y hy => (hsub.map _).subset hy
  have inB : ∀ y, y ∈ M.xs.map (fun x => (Value.slice x.a x.n x.c).ownBlock) → y ∈ blkR M := fun y hy => by
    unfold blkR
    exact List.mem_cons_of_mem _ (List.mem_cons_of_mem _ (List.mem_cons_of_mem _ (List.mem_cons_of_mem _ hy)))
  refine ⟨h.it, h.its, ho, fun x hx => h.fl x (hsub.subset hx), fun x hx => h.fls x (hsub.subset hx), rfl, h.ln, h.gs, apt_iff.2 ⟨fun b e e' => ?_, hA.il, hA.ig, fun x hx => hA.ix x (inX x hx), fun b e e' => ?_, fun b e e' => ?_, fun x hx b e e' => ?_, hA.lg, fun x hx => hA.lx x (inX x hx), fun x hx => hA.gx x (inX x hx), hA.xx.sublist (hsub.map _)⟩⟩
  · exact hn b e' (by rw [← e]; simp [blkR])
  · exact hn b e (by rw [← e']; simp [blkR])
  · exact hn b e (by rw [← e']; simp [blkR])
  · exact hn b e (by rw [← e']; exact inB x (inX x hx))
set_option maxRecDepth 100000 in
set_option maxHeartbeats 16000000 in
theorem specUns_anyS : UnsDoneS 41 := by
 intro M v id w hI hm1 hcap hw hid
 have hm := hm1.mono (k' := 2097152) (by omega)
 obtain ⟨U0, hU0⟩ : ∃ W, W = (w.alloc (.cells #[.int .i64 v.cp, .int .i64 v.se, .slice M.ia M.i M.ic, .int .i64 v.nx, .slice M.sa M.s M.sc, .slice M.la M.l M.lc, .slice M.ga M.g M.gc, .bool v.cl] 28)).alloc (.cells #[.int .i64 0, .int .i64 0, .slice none 0 0, .int .i64 0, .slice none 0 0, .slice none 0 0, .slice none 0 0, .bool false] 28) := ⟨_, rfl⟩
 have B0 : Below w.heap.size w U0 := by rw [hU0]; exact bl_alloc (bl_alloc (Below.refl _ _) _) _
 have z0 : U0.heap.size = w.heap.size + 2 := by rw [hU0]; simp
 have A0 : BoxL w.heap.size (rC M v) U0 := by rw [hU0]; exact (BoxL.new w (rC M v) _).alloc _
 have R0 : BoxL (w.heap.size + 1) [.int .i64 0, .int .i64 0, .slice none 0 0, .int .i64 0, .slice none 0 0, .slice none 0 0, .slice none 0 0, .bool false] U0 := by
  rw [hU0]
  have h := BoxL.new (w.alloc (.cells (rC M v).toArray 28)) [.int .i64 0, .int .i64 0, .slice none 0 0, .int .i64 0, .slice none 0 0, .slice none 0 0, .slice none 0 0, .bool false] 28
  simpa using h
 have HC := hidOf (l9Copy_any M v U0 (hI.keep B0) hm)
 have p0 := A0.cs 0 (by simp)
 have p1 := A0.cs 1 (by simp)
 have p2 := A0.cs 2 (by simp)
 have p3 := A0.cs 3 (by simp)
 have p4 := A0.cs 4 (by simp)
 have p5 := A0.cs 5 (by simp)
 have p6 := A0.cs 6 (by simp)
 have p7 := A0.cs 7 (by simp)
 simp at p0 p1 p2 p3 p4 p5 p6 p7
 have HI := hidOf hI
 have HM := hidOf hm
 have HK := hidOf (fun (u : World) (hu : RIn u M v) => specRingOk_any M v u hu hm1 hcap hw)
 have hml := hm.l
 have hmg := hm.g
 clear hI hm hm1 hcap hw hid
 go_enter Tryz.func41, Tryz.ntmps41
 go_upto_region 1 with fail
 rw [← hU0]
 clear hU0
 go_wp2_with fail
 refine (HC.out).mono ?_
 rintro e w1 ⟨M1, rfl, row1, le1, b1⟩
 rw [z0] at row1
 obtain ⟨U1, hU1⟩ : ∃ W, w1.alloc (.cells #[.int .i64 v.cp, .int .i64 v.se, .slice M1.ia M1.i M1.ic, .int .i64 v.nx, .slice M1.sa M1.s M1.sc, .slice M1.la M1.l M1.lc, .slice M1.ga M1.g M1.gc, .bool v.cl] 28) = W := ⟨_, rfl⟩
 have ba : Below w1.heap.size w1 U1 := by rw [← hU1]; exact bl_alloc (Below.refl _ _) _
 have A1 := (A0.keep b1).keep ba
 have R1 := (R0.keep b1).keep ba
 have K1 : BoxL w1.heap.size (rC M1 v) U1 := by rw [← hU1]; exact BoxL.new w1 (rC M1 v) _
 have row2 := row1.keep ba
 have B1 := bl_trans (bl_trans B0 b1) ba
 have hs1 : w.heap.size + 2 ≤ w1.heap.size := by have := b1.size; omega
 have nK : some w1.heap.size ∉ blkR M1 := row1.new (Nat.le_refl _)
 have HLe := hidOf (le1 _ HM.out)
 have HAt := hidOf (l9At_any M v id U1 (HI.out.keep B1) HM.out)
 clear A0 R0 p0 p1 p2 p3 p4 p5 p6 p7 row1 b1 B0 HC z0
 have p0 := A1.cs 0 (by simp)
 have p1 := A1.cs 1 (by simp)
 have p2 := A1.cs 2 (by simp)
 have p3 := A1.cs 3 (by simp)
 have p4 := A1.cs 4 (by simp)
 have p5 := A1.cs 5 (by simp)
 have p6 := A1.cs 6 (by simp)
 have p7 := A1.cs 7 (by simp)
 simp at p0 p1 p2 p3 p4 p5 p6 p7
 obtain ⟨at', hat⟩ : ∃ a, atR v.sb id = a := ⟨_, rfl⟩
 rw [hat] at HAt
 have HAe := hidOf hat
 clear hat
 go_upto_region 2 with fail
 clear hU1
 go_wp2_with fail
 refine (HAt.out).mono ?_
 rintro e w2 ⟨rfl, b2⟩
 have A2 := A1.keep b2
 have R2 := R1.keep b2
 have K2 := K1.keep b2
 have row3 := row2.keep b2
 have B2 := bl_trans B1 b2
 have HK1 := hidOf (HK.out w2 (HI.out.keep B2))
 obtain ⟨q, hq⟩ : ∃ q, okR restR v = q := ⟨_, rfl⟩
 rw [hq] at HK1
 have HQ := hidOf hq
 clear hq A1 R1 K1 row2 B1 ba b2 HAt HK p0 p1 p2 p3 p4 p5 p6 p7
 have p0 := A2.cs 0 (by simp)
 have p1 := A2.cs 1 (by simp)
 have p2 := A2.cs 2 (by simp)
 have p3 := A2.cs 3 (by simp)
 have p4 := A2.cs 4 (by simp)
 have p5 := A2.cs 5 (by simp)
 have p6 := A2.cs 6 (by simp)
 have p7 := A2.cs 7 (by simp)
 simp at p0 p1 p2 p3 p4 p5 p6 p7
 go_wp2_with fail
 refine (HK1.out).mono ?_
 rintro e w4 ⟨rfl, b4⟩
 have A4 := A2.keep b4
 have R4 := R2.keep b4
 have K4 := K2.keep b4
 have row4 := row3.keep b4
 have B4 := bl_trans B2 b4
 clear A2 R2 K2 row3 B2 b4 HK1 p0 p1 p2 p3 p4 p5 p6 p7
 cases q
 ·have HE := hidOf (show RgPS w (unsR v id) (unsC v id) = RgPS w v 1 by unfold unsR unsC; rw [if_neg (by rw [HQ.out]; simp), if_neg (by rw [HQ.out]; simp)])
  have o0 := K4.cs 0 (by simp)
  have o1 := K4.cs 1 (by simp)
  have o2 := K4.cs 2 (by simp)
  have o3 := K4.cs 3 (by simp)
  have o4 := K4.cs 4 (by simp)
  have o5 := K4.cs 5 (by simp)
  have o6 := K4.cs 6 (by simp)
  have o7 := K4.cs 7 (by simp)
  have r0 := R4.cs 0 (by simp)
  have r1 := R4.cs 1 (by simp)
  have r2 := R4.cs 2 (by simp)
  have r3 := R4.cs 3 (by simp)
  have r4 := R4.cs 4 (by simp)
  have r5 := R4.cs 5 (by simp)
  have r6 := R4.cs 6 (by simp)
  have r7 := R4.cs 7 (by simp)
  have rf := R4.fr
  simp at o0 o1 o2 o3 o4 o5 o6 o7 r0 r1 r2 r3 r4 r5 r6 r7
  obtain ⟨Z, hZ⟩ : ∃ Z, ((((((((w4.setCell ⟨w.heap.size + 1, 0, none⟩ (.int .i64 v.cp)).setCell ⟨w.heap.size + 1, 1, none⟩ (.int .i64 v.se)).setCell ⟨w.heap.size + 1, 2, none⟩ (.slice M1.ia M1.i M1.ic)).setCell ⟨w.heap.size + 1, 3, none⟩ (.int .i64 v.nx)).setCell ⟨w.heap.size + 1, 4, none⟩ (.slice M1.sa M1.s M1.sc)).setCell ⟨w.heap.size + 1, 5, none⟩ (.slice M1.la M1.l M1.lc)).setCell ⟨w.heap.size + 1, 6, none⟩ (.slice M1.ga M1.g M1.gc)).setCell ⟨w.heap.size + 1, 7, none⟩ (.bool v.cl)) = Z := ⟨_, rfl⟩
  have hZ2 : Z = setL w4 (w.heap.size + 1) 0 (rC M1 v) := by rw [← hZ]; rfl
  have XZ : BoxL (w.heap.size + 1) (rC M1 v) Z := by
   rw [← hZ]
   exact ((((((((R4.set 0 (by simp) _).set 1 (by simp) _).set 2 (by simp) _).set 3 (by simp) _).set 4 (by simp) _).set 5 (by simp) _).set 6 (by simp) _).set 7 (by simp) _)
  have HRZ := hidOf (show RRow w.heap.size Z M1 v by
   rw [hZ2]
   exact ((row4.grown (setL_grown ⟨rfl, rfl, rfl, Nat.le_refl _, fun _ _ _ => rfl⟩) (row4.out (by omega))).mono (B' := w.heap.size) (by omega)))
  have HBZ := hidOf (show Below w.heap.size w Z by rw [hZ2]; exact setL_below (by omega) B4)
  have HLZ := hidOf HLe.out
  have t0 := XZ.cs 0 (by simp)
  have t1 := XZ.cs 1 (by simp)
  have t2 := XZ.cs 2 (by simp)
  have t3 := XZ.cs 3 (by simp)
  have t4 := XZ.cs 4 (by simp)
  have t5 := XZ.cs 5 (by simp)
  have t6 := XZ.cs 6 (by simp)
  have t7 := XZ.cs 7 (by simp)
  simp at t0 t1 t2 t3 t4 t5 t6 t7
  clear hZ2 XZ K4 R4
  go_wp2_with fail
  clear hZ
  exact bodyPost_ret (v := .tuple #[.agg #[.int .i64 v.cp, .int .i64 v.se, .slice M1.ia M1.i M1.ic, .int .i64 v.nx, .slice M1.sa M1.s M1.sc, .slice M1.la M1.l M1.lc, .slice M1.ga M1.g M1.gc, .bool v.cl], .int .i64 1]) (by simp [results, Tryz.results41, go_sem, t0, t1, t2, t3, t4, t5, t6, t7]) rfl (show RgPS w (unsR v id) (unsC v id) _ _ by rw [HE.out]; exact ⟨M1, rfl, HRZ.out, HLZ.out, HBZ.out⟩)
 by_cases hneg : at' < 0
 ·have HE := hidOf (show RgPS w (unsR v id) (unsC v id) = RgPS w v 3 by
   unfold unsR unsC
   rw [if_pos HQ.out, if_pos HQ.out, HAe.out, if_pos hneg, if_pos hneg])
  have o0 := K4.cs 0 (by simp)
  have o1 := K4.cs 1 (by simp)
  have o2 := K4.cs 2 (by simp)
  have o3 := K4.cs 3 (by simp)
  have o4 := K4.cs 4 (by simp)
  have o5 := K4.cs 5 (by simp)
  have o6 := K4.cs 6 (by simp)
  have o7 := K4.cs 7 (by simp)
  have r0 := R4.cs 0 (by simp)
  have r1 := R4.cs 1 (by simp)
  have r2 := R4.cs 2 (by simp)
  have r3 := R4.cs 3 (by simp)
  have r4 := R4.cs 4 (by simp)
  have r5 := R4.cs 5 (by simp)
  have r6 := R4.cs 6 (by simp)
  have r7 := R4.cs 7 (by simp)
  have rf := R4.fr
  simp at o0 o1 o2 o3 o4 o5 o6 o7 r0 r1 r2 r3 r4 r5 r6 r7
  obtain ⟨Z, hZ⟩ : ∃ Z, ((((((((w4.setCell ⟨w.heap.size + 1, 0, none⟩ (.int .i64 v.cp)).setCell ⟨w.heap.size + 1, 1, none⟩ (.int .i64 v.se)).setCell ⟨w.heap.size + 1, 2, none⟩ (.slice M1.ia M1.i M1.ic)).setCell ⟨w.heap.size + 1, 3, none⟩ (.int .i64 v.nx)).setCell ⟨w.heap.size + 1, 4, none⟩ (.slice M1.sa M1.s M1.sc)).setCell ⟨w.heap.size + 1, 5, none⟩ (.slice M1.la M1.l M1.lc)).setCell ⟨w.heap.size + 1, 6, none⟩ (.slice M1.ga M1.g M1.gc)).setCell ⟨w.heap.size + 1, 7, none⟩ (.bool v.cl)) = Z := ⟨_, rfl⟩
  have hZ2 : Z = setL w4 (w.heap.size + 1) 0 (rC M1 v) := by rw [← hZ]; rfl
  have XZ : BoxL (w.heap.size + 1) (rC M1 v) Z := by
   rw [← hZ]
   exact ((((((((R4.set 0 (by simp) _).set 1 (by simp) _).set 2 (by simp) _).set 3 (by simp) _).set 4 (by simp) _).set 5 (by simp) _).set 6 (by simp) _).set 7 (by simp) _)
  have HRZ := hidOf (show RRow w.heap.size Z M1 v by
   rw [hZ2]
   exact ((row4.grown (setL_grown ⟨rfl, rfl, rfl, Nat.le_refl _, fun _ _ _ => rfl⟩) (row4.out (by omega))).mono (B' := w.heap.size) (by omega)))
  have HBZ := hidOf (show Below w.heap.size w Z by rw [hZ2]; exact setL_below (by omega) B4)
  have HLZ := hidOf HLe.out
  have t0 := XZ.cs 0 (by simp)
  have t1 := XZ.cs 1 (by simp)
  have t2 := XZ.cs 2 (by simp)
  have t3 := XZ.cs 3 (by simp)
  have t4 := XZ.cs 4 (by simp)
  have t5 := XZ.cs 5 (by simp)
  have t6 := XZ.cs 6 (by simp)
  have t7 := XZ.cs 7 (by simp)
  simp at t0 t1 t2 t3 t4 t5 t6 t7
  clear hZ2 XZ K4 R4
  go_wp2_with fail
  clear hZ
  exact bodyPost_ret (v := .tuple #[.agg #[.int .i64 v.cp, .int .i64 v.se, .slice M1.ia M1.i M1.ic, .int .i64 v.nx, .slice M1.sa M1.s M1.sc, .slice M1.la M1.l M1.lc, .slice M1.ga M1.g M1.gc, .bool v.cl], .int .i64 3]) (by simp [results, Tryz.results41, go_sem, t0, t1, t2, t3, t4, t5, t6, t7]) rfl (show RgPS w (unsR v id) (unsC v id) _ _ by rw [HE.out]; exact ⟨M1, rfl, HRZ.out, HLZ.out, HBZ.out⟩)
 have HA := hidOf (show ¬ atR v.sb id < 0 by rw [HAe.out]; exact hneg)
 obtain ⟨hlt, hkI⟩ := at_lt HA.out
 obtain ⟨k, hkk⟩ : ∃ k, (atR v.sb id).toNat = k := ⟨_, rfl⟩
 rw [hkk] at hlt hkI
 have HKK := hidOf hkk
 obtain rfl : at' = (k : Int) := by rw [← HAe.out, hkI]
 have hlM1 : M1.xs.length = v.sb.length := by rw [← row4.sv]; simp [svs]
 obtain ⟨g1, hg1⟩ : ∃ g1, M1.sa = some ⟨g1, 0, none⟩ := by
  obtain ⟨hl1, ⟨e, e0⟩ | ⟨gg, cp, cur, e, _⟩⟩ := row4.sb
  ·rw [e0, length_sflat] at hl1; omega
  ·injection e with e1; exact ⟨gg, e1⟩
 have hMs1 : M1.s = M1.xs.length := by have h := row4.sb.1; rw [length_sflat] at h; omega
 have hcap1 : M1.s ≤ M1.sc := row4.cap.2.1
 have hms1 : M1.s ≤ 2097152 := HLe.out.s
 have hhd := ok_head HQ.out
 obtain ⟨f, _, hfse, _⟩ := ok_fst HQ.out
 have HF := hidOf hfse
 -- the two appends
 have hsub4 : SubAt w4.drew (some ⟨g1, 0, none⟩) M1.s M1.xs := by have h := (row4.keep (Below.refl _ _).drew).own.sb.sub; rw [hg1] at h; exact h
 have b0a : Below w4.heap.size w4 (w4.drew.alloc (.cells #[] 41)) := bl_alloc (Below.refl _ _).drew _
 have ho0 : (w4.drew.alloc (.cells #[] 41)).ownsRow w4.heap.size 41 7 (.slice (some ⟨w4.heap.size, 0, none⟩) 0 0) 0 (sflat []) := ⟨rfl, .inr ⟨w4.heap.size, 0, #[], rfl, Nat.le_refl _, heap_alloc_new w4.drew _, Nat.le_refl _, Nat.zero_le _, rfl, rfl⟩⟩
 have hsub5 := hsub4.keep (bl_alloc (Below.refl _ _) (.cells #[] 41))
 obtain ⟨a2, c2, V2, hr2, ho2, hgr2, hq2⟩ := append_subR w4.heap.size 0 _ [] (some ⟨g1, 0, none⟩) k M1.sc (M1.xs.take k) _ ho0 b0a.size (hsub5.take (by omega)) (by omega)
 rw [Nat.zero_add, List.nil_append] at ho2
 rw [Nat.zero_add] at hr2 hq2
 have bV2 : Below w4.heap.size w4 V2 := b0a.grown hgr2 b0a.size (fun j hj => (World.ownsRow.lt ho0 j hj).1)
 obtain ⟨n2, hn2⟩ : ∃ n, M1.s - (k + 1) = n := ⟨_, rfl⟩
 obtain ⟨a1, ha1⟩ : ∃ a : Option Addr, (if M1.sc = k + 1 then some (⟨g1, 0, none⟩ : Addr) else some ⟨g1, (k + 1) * 7, none⟩) = a := ⟨_, rfl⟩
 have hsubV : SubAt V2 (some ⟨g1, 0, none⟩) M1.s M1.xs := by have h := (row4.keep bV2).own.sb.sub; rw [hg1] at h; exact h
 have hsub6 : SubAt V2 a1 n2 (M1.xs.drop (k + 1)) := by
  rw [← ha1]
  by_cases hc : M1.sc = k + 1
  ·rw [if_pos hc]
   refine ⟨by rw [List.length_drop]; omega, fun x hx => hsubV.fil x (List.mem_of_mem_drop hx), .inl (by omega)⟩
  ·rw [if_neg hc]
   have h := hsubV.drop (k := k + 1) (by omega)
   rw [Nat.zero_add, hn2] at h
   exact h
 obtain ⟨a3, c3, V3, hr3, ho3, hgr3, hq3⟩ := append_subR w4.heap.size k _ (M1.xs.take k) a1 n2 (M1.sc - (k + 1)) (M1.xs.drop (k + 1)) V2 ho2 bV2.size hsub6 (by omega)
 rw [← erase_split] at ho3
 have bV3 : Below w4.heap.size w4 V3 := bV2.grown hgr3 bV2.size (fun j hj => (World.ownsRow.lt ho2 j hj).1)
 have hq3' : ∀ q, (Value.slice a3 (k + n2) c3).ownBlock = some q → w4.heap.size ≤ q := fun q e => (row_lt ho3 e).1
 obtain ⟨U7, hU7⟩ : ∃ U, V3.setCell ⟨w1.heap.size, 4, none⟩ (.slice a3 (k + n2) c3) = U := ⟨_, rfl⟩
 have hKlt : w1.heap.size < w4.heap.size := K4.lt
 have K5 := (K4.keep bV3).set 4 (by simp) (.slice a3 (k + n2) c3)
 rw [hU7] at K5
 have gU7 : V3.grownBy U7 (some w1.heap.size) := by rw [← hU7]; exact grown_setC _ _ _ _
 have R5 : BoxL (w.heap.size + 1) [.int .i64 0, .int .i64 0, .slice none 0 0, .int .i64 0, .slice none 0 0, .slice none 0 0, .slice none 0 0, .bool false] U7 := by rw [← hU7]; exact (R4.keep bV3).far _ _ (by omega) _
 have A5 : BoxL w.heap.size (rC M v) U7 := by rw [← hU7]; exact (A4.keep bV3).far _ _ (by omega) _
 have B5 : Below w.heap.size w U7 := by rw [← hU7]; exact bl_setB (bl_trans B4 bV3) _ _ (by omega) _
 have row5 : RRow (w.heap.size + 2) U7 { M1 with sa := a3, s := k + n2, sc := c3, xs := M1.xs.eraseIdx k } { v with sb := svs (M1.xs.eraseIdx k) } := by
  have h1 := (row4.keep bV3).grown gU7 nK
  exact h1.subs (rowM (rowG ho3 gU7 (fun q e e' => by injection e with e; have := hq3' q e'; omega)) (by omega)) (List.eraseIdx_sublist _ _) (fun q e => row4.new (hq3' q e))
 have nK5 : some w1.heap.size ∉ blkR { M1 with sa := a3, s := k + n2, sc := c3, xs := M1.xs.eraseIdx k } := fun hm => by
  unfold blkR at hm nK
  simp only [List.mem_cons] at hm nK
  rcases hm with h | h | h | h | h
  ·exact nK (.inl h)
  ·have := hq3' _ h.symm; omega
  ·exact nK (.inr (.inr (.inl h)))
  ·exact nK (.inr (.inr (.inr (.inl h))))
  ·exact nK (.inr (.inr (.inr (.inr (((List.eraseIdx_sublist M1.xs k).map _).subset h)))))
 have k4 : w4.cell? ⟨w1.heap.size, 4, none⟩ = some (.slice (some ⟨g1, 0, none⟩) M1.s M1.sc) := by have h := K4.cs 4 (by simp); simp at h; rw [hg1] at h; exact h
 have k4d := cellT k4 (Below.refl _ _).drew
 have k4a : (w4.drew.alloc (.cells #[] 41)).cell? ⟨w1.heap.size, 4, none⟩ = some (.slice (some ⟨g1, 0, none⟩) M1.s M1.sc) := cellT k4 b0a
 have k4b := cellT k4 bV2
 have k4c := cellT k4 bV3
 have kf3 := (K4.keep bV3).fr
 have hki : (k : Int) < (M1.s : Int) := by omega
 have hkle : k ≤ M1.s := by omega
 have hklc : k ≤ M1.sc := by omega
 have hk1le : k + 1 ≤ M1.s := by omega
 have hk1i : (k : Int) + 1 ≤ (M1.s : Int) := by omega
 have hk0 : (0 : Int) ≤ (k : Int) + 1 := by omega
 have hw1 : IntKind.i64.wrap ((k : Int) + 1) = (k : Int) + 1 := by rw [IntKind.wrap_i64]; omega
 have hsz4 : w4.drew.heap.size = w4.heap.size := rfl
 have HK5 := hidOf K5
 have HR5 := hidOf row5
 have HNK := hidOf nK5
 have HG := hidOf hg1
 have HL1 := hidOf (show ∀ y, y ∈ M1.xs.eraseIdx k → y.n ≤ 2097152 from fun y hy => HLe.out.f y (erase_mem hy))
 have HLs := hidOf (show k + n2 ≤ 2097152 by omega)
 have HHd := hidOf hhd
 have HLt := hidOf hlt
 have HSv := hidOf row4.sv
 clear hlM1 hg1 hMs1 hsub4 b0a ho0 hsub5 ho2 hgr2 hq2 bV2 hsubV hsub6 ho3 hgr3 hq3 bV3 hq3' K5 gU7 row5 nK5 nK row4 K4 R4 A4 B4 hfse hhd hlt hkI hkk
 go_upto_region 7 with fail
 go_cut [7] from 22 (fun v7 wx => v7 = .int .i64 (k : Int) ∧ wx = U7)
 case first =>
  refine wp_region_noPanic ?_
  refine wp_region_held_drew (S := fun _ => True) (by kernel_rfl) True.intro (fun hHeld => ?_)
  refine tR 1 ?_
  refine tR 3 ?_
  refine tR 6 ?_
  refine tR 8 ?_
  refine tR 9 ?_
  refine wpAnyH_ready (rs := [0, 2, 7]) (by kernel_rfl) (by simp) ?_
  refine AllReadyH.cons rfl (fun K hK => ?_) (AllReadyH.cons rfl (fun K hK => ?_) (AllReadyH.cons rfl (fun K hK => ?_) AllReadyH.nil))
  ·go_simp
   refine hK.out _ _ True.intro (fun hHeld => ?_)
   clear hK K
   refine wpAnyH_ready (rs := [2, 7]) (by kernel_rfl) (by simp) ?_
   refine AllReadyH.cons rfl (fun K hK => ?_) (AllReadyH.cons rfl (fun K hK => ?_) AllReadyH.nil)
   ·go_simp
    refine hK.out _ _ True.intro (fun hHeld => ?_)
    clear hK K
    refine tR 4 ?_
    refine wpAnyH_ready (rs := [5, 7]) (by kernel_rfl) (by simp) ?_
    refine AllReadyH.cons rfl (fun K hK => ?_) (AllReadyH.cons rfl (fun K hK => ?_) AllReadyH.nil)
    ·refine nstep_append_runU (by rfl) _ _ 25 (by rfl) (.slice (some ⟨w4.heap.size, 0, none⟩) 0 0) (.slice (some ⟨g1, 0, none⟩) k M1.sc) _ (by rfl) (by rfl) hr2 ?_
     refine hK.out _ _ True.intro (fun hHeld => ?_)
     clear hK K
     simp only [Act.put, zGA, zG0, zGC, zSA, zS0, zSC]
     refine tW 7 (fun K hK => ?_)
     go_simp
     refine hK.out _ _ True.intro (fun hHeld => ?_)
     clear hK K
     refine tR 10 ?_
     refine tW 11 (fun K hK => ?_)
     refine nstep_append_runU (by rfl) _ _ 25 (by rfl) (.slice a2 k c2) (.slice a1 n2 (M1.sc - (k + 1))) _ (by rfl) (by rfl) hr3 ?_
     refine hK.out _ _ True.intro (fun hHeld => ?_)
     clear hK K
     simp only [Act.put, zGA, zG0, zGC, zSA, zS0, zSC]
     refine tR 12 ?_
     refine tW 13 (fun K hK => ?_)
     go_simp
     refine hK.out _ _ True.intro (fun hHeld => ?_)
     clear hK K
     refine wpAnyH_done (by kernel_rfl) ?_ _
     refine NoPanic.normal ?_
     go_wp2_with fail
     go_meet
     exact ⟨rfl, rfl⟩
    ·go_simp
     refine hK.out _ _ True.intro (fun hHeld => ?_)
     clear hK K
     refine tR 10 ?_
     refine tW 5 (fun K hK => ?_)
     refine nstep_append_runU (by rfl) _ _ 25 (by rfl) (.slice (some ⟨w4.heap.size, 0, none⟩) 0 0) (.slice (some ⟨g1, 0, none⟩) k M1.sc) _ (by rfl) (by rfl) hr2 ?_
     refine hK.out _ _ True.intro (fun hHeld => ?_)
     clear hK K
     simp only [Act.put, zGA, zG0, zGC, zSA, zS0, zSC]
     refine tW 11 (fun K hK => ?_)
     refine nstep_append_runU (by rfl) _ _ 25 (by rfl) (.slice a2 k c2) (.slice a1 n2 (M1.sc - (k + 1))) _ (by rfl) (by rfl) hr3 ?_
     refine hK.out _ _ True.intro (fun hHeld => ?_)
     clear hK K
     simp only [Act.put, zGA, zG0, zGC, zSA, zS0, zSC]
     refine tR 12 ?_
     refine tW 13 (fun K hK => ?_)
     go_simp
     refine hK.out _ _ True.intro (fun hHeld => ?_)
     clear hK K
     refine wpAnyH_done (by kernel_rfl) ?_ _
     refine NoPanic.normal ?_
     go_wp2_with fail
     go_meet
     exact ⟨rfl, rfl⟩
   ·go_simp
    refine hK.out _ _ True.intro (fun hHeld => ?_)
    clear hK K
    refine tR 10 ?_
    refine tW 2 (fun K hK => ?_)
    go_simp
    refine hK.out _ _ True.intro (fun hHeld => ?_)
    clear hK K
    refine tR 4 ?_
    refine tW 5 (fun K hK => ?_)
    refine nstep_append_runU (by rfl) _ _ 25 (by rfl) (.slice (some ⟨w4.heap.size, 0, none⟩) 0 0) (.slice (some ⟨g1, 0, none⟩) k M1.sc) _ (by rfl) (by rfl) hr2 ?_
    refine hK.out _ _ True.intro (fun hHeld => ?_)
    clear hK K
    simp only [Act.put, zGA, zG0, zGC, zSA, zS0, zSC]
    refine tW 11 (fun K hK => ?_)
    refine nstep_append_runU (by rfl) _ _ 25 (by rfl) (.slice a2 k c2) (.slice a1 n2 (M1.sc - (k + 1))) _ (by rfl) (by rfl) hr3 ?_
    refine hK.out _ _ True.intro (fun hHeld => ?_)
    clear hK K
    simp only [Act.put, zGA, zG0, zGC, zSA, zS0, zSC]
    refine tR 12 ?_
    refine tW 13 (fun K hK => ?_)
    go_simp
    refine hK.out _ _ True.intro (fun hHeld => ?_)
    clear hK K
    refine wpAnyH_done (by kernel_rfl) ?_ _
    refine NoPanic.normal ?_
    go_wp2_with fail
    go_meet
    exact ⟨rfl, rfl⟩
  ·go_simp
   refine hK.out _ _ True.intro (fun hHeld => ?_)
   clear hK K
   refine tR 4 ?_
   refine wpAnyH_ready (rs := [0, 7]) (by kernel_rfl) (by simp) ?_
   refine AllReadyH.cons rfl (fun K hK => ?_) (AllReadyH.cons rfl (fun K hK => ?_) AllReadyH.nil)
   ·go_simp
    refine hK.out _ _ True.intro (fun hHeld => ?_)
    clear hK K
    refine wpAnyH_ready (rs := [5, 7]) (by kernel_rfl) (by simp) ?_
    refine AllReadyH.cons rfl (fun K hK => ?_) (AllReadyH.cons rfl (fun K hK => ?_) AllReadyH.nil)
    ·refine nstep_append_runU (by rfl) _ _ 25 (by rfl) (.slice (some ⟨w4.heap.size, 0, none⟩) 0 0) (.slice (some ⟨g1, 0, none⟩) k M1.sc) _ (by rfl) (by rfl) hr2 ?_
     refine hK.out _ _ True.intro (fun hHeld => ?_)
     clear hK K
     simp only [Act.put, zGA, zG0, zGC, zSA, zS0, zSC]
     refine tW 7 (fun K hK => ?_)
     go_simp
     refine hK.out _ _ True.intro (fun hHeld => ?_)
     clear hK K
     refine tR 10 ?_
     refine tW 11 (fun K hK => ?_)
     refine nstep_append_runU (by rfl) _ _ 25 (by rfl) (.slice a2 k c2) (.slice a1 n2 (M1.sc - (k + 1))) _ (by rfl) (by rfl) hr3 ?_
     refine hK.out _ _ True.intro (fun hHeld => ?_)
     clear hK K
     simp only [Act.put, zGA, zG0, zGC, zSA, zS0, zSC]
     refine tR 12 ?_
     refine tW 13 (fun K hK => ?_)
     go_simp
     refine hK.out _ _ True.intro (fun hHeld => ?_)
     clear hK K
     refine wpAnyH_done (by kernel_rfl) ?_ _
     refine NoPanic.normal ?_
     go_wp2_with fail
     go_meet
     exact ⟨rfl, rfl⟩
    ·go_simp
     refine hK.out _ _ True.intro (fun hHeld => ?_)
     clear hK K
     refine tR 10 ?_
     refine tW 5 (fun K hK => ?_)
     refine nstep_append_runU (by rfl) _ _ 25 (by rfl) (.slice (some ⟨w4.heap.size, 0, none⟩) 0 0) (.slice (some ⟨g1, 0, none⟩) k M1.sc) _ (by rfl) (by rfl) hr2 ?_
     refine hK.out _ _ True.intro (fun hHeld => ?_)
     clear hK K
     simp only [Act.put, zGA, zG0, zGC, zSA, zS0, zSC]
     refine tW 11 (fun K hK => ?_)
     refine nstep_append_runU (by rfl) _ _ 25 (by rfl) (.slice a2 k c2) (.slice a1 n2 (M1.sc - (k + 1))) _ (by rfl) (by rfl) hr3 ?_
     refine hK.out _ _ True.intro (fun hHeld => ?_)
     clear hK K
     simp only [Act.put, zGA, zG0, zGC, zSA, zS0, zSC]
     refine tR 12 ?_
     refine tW 13 (fun K hK => ?_)
     go_simp
     refine hK.out _ _ True.intro (fun hHeld => ?_)
     clear hK K
     refine wpAnyH_done (by kernel_rfl) ?_ _
     refine NoPanic.normal ?_
     go_wp2_with fail
     go_meet
     exact ⟨rfl, rfl⟩
   ·go_simp
    refine hK.out _ _ True.intro (fun hHeld => ?_)
    clear hK K
    refine tR 10 ?_
    refine tW 0 (fun K hK => ?_)
    go_simp
    refine hK.out _ _ True.intro (fun hHeld => ?_)
    clear hK K
    refine tW 5 (fun K hK => ?_)
    refine nstep_append_runU (by rfl) _ _ 25 (by rfl) (.slice (some ⟨w4.heap.size, 0, none⟩) 0 0) (.slice (some ⟨g1, 0, none⟩) k M1.sc) _ (by rfl) (by rfl) hr2 ?_
    refine hK.out _ _ True.intro (fun hHeld => ?_)
    clear hK K
    simp only [Act.put, zGA, zG0, zGC, zSA, zS0, zSC]
    refine tW 11 (fun K hK => ?_)
    refine nstep_append_runU (by rfl) _ _ 25 (by rfl) (.slice a2 k c2) (.slice a1 n2 (M1.sc - (k + 1))) _ (by rfl) (by rfl) hr3 ?_
    refine hK.out _ _ True.intro (fun hHeld => ?_)
    clear hK K
    simp only [Act.put, zGA, zG0, zGC, zSA, zS0, zSC]
    refine tR 12 ?_
    refine tW 13 (fun K hK => ?_)
    go_simp
    refine hK.out _ _ True.intro (fun hHeld => ?_)
    clear hK K
    refine wpAnyH_done (by kernel_rfl) ?_ _
    refine NoPanic.normal ?_
    go_wp2_with fail
    go_meet
    exact ⟨rfl, rfl⟩
  ·go_simp
   refine hK.out _ _ True.intro (fun hHeld => ?_)
   clear hK K
   refine tR 10 ?_
   refine wpAnyH_ready (rs := [0, 2]) (by kernel_rfl) (by simp) ?_
   refine AllReadyH.cons rfl (fun K hK => ?_) (AllReadyH.cons rfl (fun K hK => ?_) AllReadyH.nil)
   ·go_simp
    refine hK.out _ _ True.intro (fun hHeld => ?_)
    clear hK K
    refine tW 2 (fun K hK => ?_)
    go_simp
    refine hK.out _ _ True.intro (fun hHeld => ?_)
    clear hK K
    refine tR 4 ?_
    refine tW 5 (fun K hK => ?_)
    refine nstep_append_runU (by rfl) _ _ 25 (by rfl) (.slice (some ⟨w4.heap.size, 0, none⟩) 0 0) (.slice (some ⟨g1, 0, none⟩) k M1.sc) _ (by rfl) (by rfl) hr2 ?_
    refine hK.out _ _ True.intro (fun hHeld => ?_)
    clear hK K
    simp only [Act.put, zGA, zG0, zGC, zSA, zS0, zSC]
    refine tW 11 (fun K hK => ?_)
    refine nstep_append_runU (by rfl) _ _ 25 (by rfl) (.slice a2 k c2) (.slice a1 n2 (M1.sc - (k + 1))) _ (by rfl) (by rfl) hr3 ?_
    refine hK.out _ _ True.intro (fun hHeld => ?_)
    clear hK K
    simp only [Act.put, zGA, zG0, zGC, zSA, zS0, zSC]
    refine tR 12 ?_
    refine tW 13 (fun K hK => ?_)
    go_simp
    refine hK.out _ _ True.intro (fun hHeld => ?_)
    clear hK K
    refine wpAnyH_done (by kernel_rfl) ?_ _
    refine NoPanic.normal ?_
    go_wp2_with fail
    go_meet
    exact ⟨rfl, rfl⟩
   ·go_simp
    refine hK.out _ _ True.intro (fun hHeld => ?_)
    clear hK K
    refine tR 4 ?_
    refine tW 0 (fun K hK => ?_)
    go_simp
    refine hK.out _ _ True.intro (fun hHeld => ?_)
    clear hK K
    refine tW 5 (fun K hK => ?_)
    refine nstep_append_runU (by rfl) _ _ 25 (by rfl) (.slice (some ⟨w4.heap.size, 0, none⟩) 0 0) (.slice (some ⟨g1, 0, none⟩) k M1.sc) _ (by rfl) (by rfl) hr2 ?_
    refine hK.out _ _ True.intro (fun hHeld => ?_)
    clear hK K
    simp only [Act.put, zGA, zG0, zGC, zSA, zS0, zSC]
    refine tW 11 (fun K hK => ?_)
    refine nstep_append_runU (by rfl) _ _ 25 (by rfl) (.slice a2 k c2) (.slice a1 n2 (M1.sc - (k + 1))) _ (by rfl) (by rfl) hr3 ?_
    refine hK.out _ _ True.intro (fun hHeld => ?_)
    clear hK K
    simp only [Act.put, zGA, zG0, zGC, zSA, zS0, zSC]
    refine tR 12 ?_
    refine tW 13 (fun K hK => ?_)
    go_simp
    refine hK.out _ _ True.intro (fun hHeld => ?_)
    clear hK K
    refine wpAnyH_done (by kernel_rfl) ?_ _
    refine NoPanic.normal ?_
    go_wp2_with fail
    go_meet
    exact ⟨rfl, rfl⟩
 case rest =>
  obtain ⟨rfl, hwc⟩ := hcut
  obtain rfl : U7 = wc := hwc.symm
  clear hwc hU7 k4 k4d k4a k4b k4c kf3 hr2 hr3 ha1 hn2
  obtain ⟨M2, hM2⟩ : ∃ M2 : Rm, { M1 with sa := a3, s := k + n2, sc := c3, xs := M1.xs.eraseIdx k } = M2 := ⟨_, rfl⟩
  obtain ⟨v2, hv2⟩ : ∃ v2 : Rv, { v with sb := svs (M1.xs.eraseIdx k) } = v2 := ⟨_, rfl⟩
  have K5 : BoxL w1.heap.size (rC M2 v2) U7 := by rw [← hM2, ← hv2]; exact HK5.out
  have row5 : RRow (w.heap.size + 2) U7 M2 v2 := by rw [← hM2, ← hv2]; exact HR5.out
  have nK5 : some w1.heap.size ∉ blkR M2 := by rw [← hM2]; exact HNK.out
  have HLe2 := hidOf (show RLe M2 2097152 by rw [← hM2]; exact ⟨HLe.out.i, HLs.out, HL1.out, HLe.out.l, HLe.out.g⟩)
  have HV2 := hidOf (show ({ v2 with ln := lessL v.ln id, gs := lessL v.gs id } : Rv) = dropV v id k by rw [← hv2]; unfold dropV; rw [svs_erase, HSv.out])
  have p5 := A5.cs 5 (by simp)
  simp at p5
  clear HK5 HR5 HNK hM2 hv2
  have C8 := hidOf (l2Less_any M.la M.l M.lc v.ln id U7 (HI.out.keep B5).ln hml)
  have sK : w1.heap.size < U7.heap.size := K5.lt
  go_upto_region 8 with fail
  go_wp2_with fail
  refine (C8.out).mono ?_
  rintro e w8 ⟨g8, m8, c8, rfl, o8, b8⟩
  obtain ⟨U8, hU8⟩ : ∃ W, w8.setCell ⟨w1.heap.size, 5, none⟩ (.slice (some ⟨g8, 0, none⟩) m8 c8) = W := ⟨_, rfl⟩
  have Y8 := K5.keep b8
  have f8 := Y8.fr
  have q8 := Y8.cs 5 (by simp)
  simp at q8
  have g8p := owns_parts o8
  have K8 : BoxL w1.heap.size (rC { M2 with la := some ⟨g8, 0, none⟩, l := m8, lc := c8 } { v2 with ln := lessL v.ln id }) U8 := by rw [← hU8]; exact Y8.set 5 (by simp) _
  have R8 : BoxL (w.heap.size + 1) [.int .i64 0, .int .i64 0, .slice none 0 0, .int .i64 0, .slice none 0 0, .slice none 0 0, .slice none 0 0, .bool false] U8 := by rw [← hU8]; exact (R5.keep b8).far _ _ (by omega) _
  have A8 : BoxL w.heap.size (rC M v) U8 := by rw [← hU8]; exact (A5.keep b8).far _ _ (by omega) _
  have B8 : Below w.heap.size w U8 := by rw [← hU8]; exact bl_setB (bl_trans B5 b8) _ _ (by omega) _
  have r8 : U8.ownsRow (w.heap.size + 2) 3 1 (.slice (some ⟨g8, 0, none⟩) m8 c8) m8 (intsV (lessL v.ln id)) := by
   rw [← hU8]
   exact rowG (rowM o8 (by omega)) (grown_setC _ _ _ _) (fun q e e' => by
    injection e with e
    have e2 : g8 = q := by simpa [Value.ownBlock] using e'
    omega)
  have row8 : RRow (w.heap.size + 2) U8 { M2 with la := some ⟨g8, 0, none⟩, l := m8, lc := c8 } { v2 with ln := lessL v.ln id } := by
   have h1 : RRow (w.heap.size + 2) U8 M2 v2 := by rw [← hU8]; exact (row5.keep b8).grown (grown_setC _ _ _ _) nK5
   exact h1.line r8 (row5.new g8p.2.1)
  have zU8 : U8.heap.size = w8.heap.size := by rw [← hU8]; simp
  have nK8 : some w1.heap.size ∉ blkR { M2 with la := some ⟨g8, 0, none⟩, l := m8, lc := c8 } := fun hmm => by
   unfold blkR at hmm nK5
   simp only [List.mem_cons] at hmm nK5
   rcases hmm with h | h | h | h | h
   ·exact nK5 (.inl h)
   ·exact nK5 (.inr (.inl h))
   ·have e2 : w1.heap.size = g8 := by simpa [Value.ownBlock] using h
    have := g8p.2.1
    omega
   ·exact nK5 (.inr (.inr (.inr (.inl h))))
   ·exact nK5 (.inr (.inr (.inr (.inr h))))
  have sb8 := b8.size
  have C9 := hidOf (l2Less_any M.ga M.g M.gc v.gs id U8 (HI.out.keep B8).gs hmg)
  have p6 := A8.cs 6 (by simp)
  simp at p6
  have L8 : m8 ≤ 2097152 := by
   have h1 := g8p.1
   have h2 := lessL_len v.ln id
   have h3 := (HI.out).ln.len
   omega
  go_upto_region 9 with fail
  clear hU8 f8 q8 Y8 r8 o8 b8 K5 R5 A5 row5 p5
  go_wp2_with fail
  refine (C9.out).mono ?_
  rintro e w9 ⟨g9, m9, c9, rfl, o9, b9⟩
  obtain ⟨U9, hU9⟩ : ∃ W, w9.setCell ⟨w1.heap.size, 6, none⟩ (.slice (some ⟨g9, 0, none⟩) m9 c9) = W := ⟨_, rfl⟩
  have Y9 := K8.keep b9
  have f9 := Y9.fr
  have q9 := Y9.cs 6 (by simp)
  simp at q9
  have g9p := owns_parts o9
  obtain ⟨M9, hM9⟩ : ∃ M9 : Rm, M9 = { M2 with la := some ⟨g8, 0, none⟩, l := m8, lc := c8, ga := some ⟨g9, 0, none⟩, g := m9, gc := c9 } := ⟨_, rfl⟩
  obtain ⟨v9, hv9⟩ : ∃ v9 : Rv, v9 = { v2 with ln := lessL v.ln id, gs := lessL v.gs id } := ⟨_, rfl⟩
  have K9 : BoxL w1.heap.size (rC M9 v9) U9 := by rw [← hU9, hM9, hv9]; exact Y9.set 6 (by simp) _
  have R9 : BoxL (w.heap.size + 1) [.int .i64 0, .int .i64 0, .slice none 0 0, .int .i64 0, .slice none 0 0, .slice none 0 0, .slice none 0 0, .bool false] U9 := by rw [← hU9]; exact (R8.keep b9).far _ _ (by omega) _
  have B9 : Below w.heap.size w U9 := by rw [← hU9]; exact bl_setB (bl_trans B8 b9) _ _ (by omega) _
  have r9 : U9.ownsRow (w.heap.size + 2) 3 1 (.slice (some ⟨g9, 0, none⟩) m9 c9) m9 (intsV (lessL v.gs id)) := by
   rw [← hU9]
   exact rowG (rowM o9 (by omega)) (grown_setC _ _ _ _) (fun q e e' => by
    injection e with e
    have e2 : g9 = q := by simpa [Value.ownBlock] using e'
    omega)
  have row9 : RRow (w.heap.size + 2) U9 M9 v9 := by
   have h1 : RRow (w.heap.size + 2) U9 { M2 with la := some ⟨g8, 0, none⟩, l := m8, lc := c8 } { v2 with ln := lessL v.ln id } := by rw [← hU9]; exact (row8.keep b9).grown (grown_setC _ _ _ _) nK8
   rw [hM9, hv9]
   exact h1.grants r9 (row8.new g9p.2.1)
  have le9 : RLe M9 2097152 := by
   have h1 := HLe2.out
   rw [hM9]
   refine ⟨h1.i, h1.s, h1.f, L8, ?_⟩
   have h2 := g9p.1
   have h3 := lessL_len v.gs id
   have hh := (HI.out).gs.len
   show m9 ≤ 2097152
   omega
  have HL9 := hidOf le9
  have HV9 := hidOf hv9
  have HM9 := hidOf hM9
  rw [HV2.out] at hv9
  have hse9 : v9.se = v.se := by rw [hv9]; rfl
  have hcp9 : v9.cp = v.cp := by rw [hv9]; rfl
  have hob := oldR_bd (v := v9) (by rw [hse9]; exact HHd.out.2.1.1) (by rw [hcp9]; exact HHd.out.1.1)
  have HTr := hidOf (l9Trim_any (w.heap.size + 2) M9 v9 U9 row9 (by have := K9.lt; omega) le9 (by rw [hse9]; exact HHd.out.2.1) (by rw [hcp9]; exact HHd.out.1) hob.2 hob.1)
  obtain ⟨d, hd, ho, htr⟩ := drop_first HQ.out id k HF.out
  rw [← hv9] at htr
  obtain ⟨v7, hv7⟩ : ∃ v7 : Rv, trimR v9 = v7 := ⟨_, rfl⟩
  have e7 : v9.cp = v7.cp ∧ v9.se = v7.se ∧ v9.nx = v7.nx ∧ v9.cl = v7.cl := by rw [← hv7, htr]; exact ⟨rfl, rfl, rfl, rfl⟩
  have HV7 := hidOf hv7
  have HE7 := hidOf e7
  have HE := hidOf (show RgPS w (unsR v id) (unsC v id) = RgPS w v7 0 by
   rw [← hv7, hv9]
   unfold unsR unsC
   rw [HKK.out, if_pos HQ.out, if_pos HQ.out, if_neg (show ¬ atR v.sb id < 0 by have h := HA.out; omega), if_neg (show ¬ atR v.sb id < 0 by have h := HA.out; omega)])
  clear hob hse9 hcp9 hd ho htr hv7 e7 hv9 hM9 row9 le9 HV2 HV9
  have o0 := K9.cs 0 (by simp)
  have o1 := K9.cs 1 (by simp)
  have o2 := K9.cs 2 (by simp)
  have o3 := K9.cs 3 (by simp)
  have o4 := K9.cs 4 (by simp)
  have o5 := K9.cs 5 (by simp)
  have o6 := K9.cs 6 (by simp)
  have o7 := K9.cs 7 (by simp)
  simp at o0 o1 o2 o3 o4 o5 o6 o7
  go_upto_region 10 with fail
  try rw [hU9]
  clear hU9 f9 q9 Y9 r9 o9 b9 K8 R8 A8 row8 p6
  go_wp2_with fail
  refine (HTr.out).mono ?_
  rintro e w7 ⟨ia7, i7, ic7, rfl, row7, hi7, b7⟩
  have e7 := HE7.out
  have row10 : RRow (w.heap.size + 2) w7 { M9 with ia := ia7, i := i7, ic := ic7 } v7 := by rw [← HV7.out]; exact row7
  have R10 := R9.keep b7
  have B10 := bl_trans B9 b7
  rw [e7.1, e7.2.1, e7.2.2.1, e7.2.2.2]
  have HL10 := hidOf (show RLe { M9 with ia := ia7, i := i7, ic := ic7 } 2097152 from ⟨Nat.le_trans hi7 HL9.out.i, HL9.out.s, HL9.out.f, HL9.out.l, HL9.out.g⟩)
  clear R9 B9 row7 HTr e7 K9 o0 o1 o2 o3 o4 o5 o6 o7
  have r0 := R10.cs 0 (by simp)
  have r1 := R10.cs 1 (by simp)
  have r2 := R10.cs 2 (by simp)
  have r3 := R10.cs 3 (by simp)
  have r4 := R10.cs 4 (by simp)
  have r5 := R10.cs 5 (by simp)
  have r6 := R10.cs 6 (by simp)
  have r7 := R10.cs 7 (by simp)
  have rf := R10.fr
  simp at r0 r1 r2 r3 r4 r5 r6 r7
  obtain ⟨Z, hZ⟩ : ∃ Z, ((((((((w7.setCell ⟨w.heap.size + 1, 0, none⟩ (.int .i64 v7.cp)).setCell ⟨w.heap.size + 1, 1, none⟩ (.int .i64 v7.se)).setCell ⟨w.heap.size + 1, 2, none⟩ (.slice ia7 i7 ic7)).setCell ⟨w.heap.size + 1, 3, none⟩ (.int .i64 v7.nx)).setCell ⟨w.heap.size + 1, 4, none⟩ (.slice M9.sa M9.s M9.sc)).setCell ⟨w.heap.size + 1, 5, none⟩ (.slice M9.la M9.l M9.lc)).setCell ⟨w.heap.size + 1, 6, none⟩ (.slice M9.ga M9.g M9.gc)).setCell ⟨w.heap.size + 1, 7, none⟩ (.bool v7.cl)) = Z := ⟨_, rfl⟩
  have hZ2 : Z = setL w7 (w.heap.size + 1) 0 [.int .i64 v7.cp, .int .i64 v7.se, .slice ia7 i7 ic7, .int .i64 v7.nx, .slice M9.sa M9.s M9.sc, .slice M9.la M9.l M9.lc, .slice M9.ga M9.g M9.gc, .bool v7.cl] := by rw [← hZ]; rfl
  have XZ : BoxL (w.heap.size + 1) [.int .i64 v7.cp, .int .i64 v7.se, .slice ia7 i7 ic7, .int .i64 v7.nx, .slice M9.sa M9.s M9.sc, .slice M9.la M9.l M9.lc, .slice M9.ga M9.g M9.gc, .bool v7.cl] Z := by
   rw [← hZ]
   exact ((((((((R10.set 0 (by simp) _).set 1 (by simp) _).set 2 (by simp) _).set 3 (by simp) _).set 4 (by simp) _).set 5 (by simp) _).set 6 (by simp) _).set 7 (by simp) _)
  have HRZ := hidOf (show RRow w.heap.size Z ({ M9 with ia := ia7, i := i7, ic := ic7 } : Rm) v7 by
   rw [hZ2]
   exact ((row10.grown (setL_grown ⟨rfl, rfl, rfl, Nat.le_refl _, fun _ _ _ => rfl⟩) (row10.out (by omega))).mono (B' := w.heap.size) (by omega)))
  have HBZ := hidOf (show Below w.heap.size w Z by rw [hZ2]; exact setL_below (by omega) B10)
  have HLZ := hidOf (show RLe ({ M9 with ia := ia7, i := i7, ic := ic7 } : Rm) 2097152 from HL10.out)
  have t0 := XZ.cs 0 (by simp)
  have t1 := XZ.cs 1 (by simp)
  have t2 := XZ.cs 2 (by simp)
  have t3 := XZ.cs 3 (by simp)
  have t4 := XZ.cs 4 (by simp)
  have t5 := XZ.cs 5 (by simp)
  have t6 := XZ.cs 6 (by simp)
  have t7 := XZ.cs 7 (by simp)
  simp at t0 t1 t2 t3 t4 t5 t6 t7
  clear hZ2 XZ R10
  go_wp2_with fail
  clear hZ
  exact bodyPost_ret (v := .tuple #[.agg #[.int .i64 v7.cp, .int .i64 v7.se, .slice ia7 i7 ic7, .int .i64 v7.nx, .slice M9.sa M9.s M9.sc, .slice M9.la M9.l M9.lc, .slice M9.ga M9.g M9.gc, .bool v7.cl], .int .i64 0]) (by simp [results, Tryz.results41, go_sem, t0, t1, t2, t3, t4, t5, t6, t7]) rfl (show RgPS w (unsR v id) (unsC v id) _ _ by rw [HE.out]; exact ⟨({ M9 with ia := ia7, i := i7, ic := ic7 } : Rm), rfl, HRZ.out, HLZ.out, HBZ.out⟩)
end Go.Proofs.YtdboaoejlkkoeaaGreat
