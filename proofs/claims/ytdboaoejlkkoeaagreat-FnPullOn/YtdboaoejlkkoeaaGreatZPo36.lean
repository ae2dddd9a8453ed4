/-
  The specification's Send
-/
import Derived.Test.YtdboaoejlkkoeaaGreatZPo29
namespace Go.Proofs.YtdboaoejlkkoeaaGreat
open Go.RowKit Go.Maps Pl Il
theorem RRow.growI {B : Nat} {w w' : World} {M : Rm} {v : Rv} {a' : Option Addr} {n' c' : Nat} {ts : List Tm} (h : RRow B w M v) (ho : w'.ownsRow B 30 3 (.slice a' n' c') n' (qflat ts)) (hts : ∀ p, p ∈ ts → p.2.2.size ≤ maxLen) (hg : w.grownBy w' (Value.slice M.ia M.i M.ic).ownBlock)
    (hl : ∀ q, (Value.slice a' n' c').ownBlock = some q → (Value.slice M.ia M.i M.ic).ownBlock = some q ∨ w.heap.size ≤ q) : RRow B w' { M with ia := a', i := n', ic := c' } { v with it := ts } := by
  have hA : AptP _ _ _ _ _ := apt_iff.1 h.apt
  have lt : ∀ {z : Option Nat}, z ∈ blkR M → ∀ q, z = some q → q < w.heap.size := fun hz q e => (h.blk q (by rw [← e]; exact hz)).2
  have inX : ∀ y, y ∈ M.xs.map (fun x => (Value.slice x.a x.n x.c).ownBlock) → y ∈ blkR M := fun y hy => by
    unfold blkR
    exact List.mem_cons_of_mem _ (List.mem_cons_of_mem _ (List.mem_cons_of_mem _ (List.mem_cons_of_mem _ hy)))
  have nw : ∀ {z : Option Nat}, (∀ b, z = some b → (Value.slice M.ia M.i M.ic).ownBlock ≠ some b) → z ∈ blkR M → ∀ b, z = some b → (Value.slice a' n' c').ownBlock ≠ some b := fun hz hin b ez e => by
    rcases hl b e with k | k
    · exact hz b ez k
    · have := lt hin b ez; omega
  have swap : ∀ {y z : Option Nat}, (∀ b, y = some b → z ≠ some b) → ∀ b, z = some b → y ≠ some b := fun hyz b e e' => hyz b e' e
  refine ⟨ho, hts, rowG h.sb hg hA.is, fun x hx => rowG (h.fl x hx) hg (hA.ix _ (List.mem_map.2 ⟨x, hx, rfl⟩)), h.fls, h.sv, rowG h.ln hg hA.il, rowG h.gs hg hA.ig, apt_iff.2 ⟨swap (nw (swap hA.is) (by simp [blkR])), swap (nw (swap hA.il) (by simp [blkR])), swap (nw (swap hA.ig) (by simp [blkR])), fun x hx => swap (nw (swap (hA.ix x hx)) (inX x hx)), hA.sl, hA.sg, hA.sx, hA.lg, hA.lx, hA.gx, hA.xx⟩⟩
theorem one_msg (w : World) (m1 m2 : Int) (m3 : ByteArray) (h : m3.size ≤ maxLen) : TmAt (w.alloc (.cells #[.int .i64 m1, .int .i64 m2, .string m3] 30)) (some ⟨w.heap.size, 0, none⟩) 1 [(m1, m2, m3)] := by
  have X := BoxL.new w [.int .i64 m1, .int .i64 m2, .string m3] 30
  refine ⟨rfl, fun p hp => by rw [List.mem_singleton.1 hp]; exact h, .inr ⟨w.heap.size, 0, rfl, by simp, fun i hi => ?_⟩⟩
  have : i = 0 := by omega
  subst this
  exact ⟨X.cs 0 (by simp), X.cs 1 (by simp), X.cs 2 (by simp)⟩
set_option maxRecDepth 100000 in
set_option maxHeartbeats 16000000 in
theorem specSend_anyS : SendDoneS 21 := by
 rintro M v ⟨m1, m2, m3⟩ w hI hm1 hcap hw hms hG
 have hm := hm1.mono (k' := 2097152) (by omega)
 obtain ⟨U0, hU0⟩ : ∃ W, W = ((w.alloc (.cells #[.int .i64 v.cp, .int .i64 v.se, .slice M.ia M.i M.ic, .int .i64 v.nx, .slice M.sa M.s M.sc, .slice M.la M.l M.lc, .slice M.ga M.g M.gc, .bool v.cl] 28)).alloc (.cells #[.int .i64 m1, .int .i64 m2, .string m3] 30)).alloc (.cells #[.int .i64 0, .int .i64 0, .slice none 0 0, .int .i64 0, .slice none 0 0, .slice none 0 0, .slice none 0 0, .bool false] 28) := ⟨_, rfl⟩
 have B0 : Below w.heap.size w U0 := by rw [hU0]; exact bl_alloc (bl_alloc (bl_alloc (Below.refl _ _) _) _) _
 have z0 : U0.heap.size = w.heap.size + 3 := by rw [hU0]; simp
 have A0 : BoxL w.heap.size (rC M v) U0 := by rw [hU0]; exact ((BoxL.new w (rC M v) _).alloc _).alloc _
 have X0 : BoxL (w.heap.size + 1) [.int .i64 m1, .int .i64 m2, .string m3] U0 := by rw [hU0]; exact (boxT1 w _ [.int .i64 m1, .int .i64 m2, .string m3] _).alloc _
 have R0 : BoxL (w.heap.size + 1 + 1) [.int .i64 0, .int .i64 0, .slice none 0 0, .int .i64 0, .slice none 0 0, .slice none 0 0, .slice none 0 0, .bool false] U0 := by rw [hU0]; exact boxT2 w _ _ [.int .i64 0, .int .i64 0, .slice none 0 0, .int .i64 0, .slice none 0 0, .slice none 0 0, .slice none 0 0, .bool false] _
 have HC := hidOf (l9Copy_any M v U0 (hI.keep B0) hm)
 obtain ⟨p0, p1, p2, p3, p4, p5, p6, p7⟩ := box8 A0
 have HI := hidOf hI
 have HM := hidOf hm
 have HM1 := hidOf hm1
 have HK := hidOf (fun (u : World) (hu : RIn u M v) => specRingOk_any M v u hu hm1 hcap hw)
 have HZ0 := hidOf z0
 have HMs := hidOf (show m3.size ≤ maxLen from hms)
 clear hI hm hm1 hcap hw z0 hG hms
 go_enter Tryz.func21, Tryz.ntmps21
 go_upto_region 1 with fail
 rw [← hU0]
 clear hU0
 generalize hNM : w.heap.size + 1 = NM at X0 R0 ⊢
 generalize hN1 : NM + 1 = N1 at R0 ⊢
 have HN0 := hidOf (show N1 = w.heap.size + 2 by omega)
 have HNM := hidOf (show NM = w.heap.size + 1 by omega)
 clear hN1 hNM
 go_wp2_with fail
 refine (HC.out).mono ?_
 rintro e w1 ⟨M1, rfl, row1, le1, b1⟩
 rw [HZ0.out] at row1
 obtain ⟨U1, hU1⟩ : ∃ W, w1.alloc (.cells #[.int .i64 v.cp, .int .i64 v.se, .slice M1.ia M1.i M1.ic, .int .i64 v.nx, .slice M1.sa M1.s M1.sc, .slice M1.la M1.l M1.lc, .slice M1.ga M1.g M1.gc, .bool v.cl] 28) = W := ⟨_, rfl⟩
 have ba : Below w1.heap.size w1 U1 := by rw [← hU1]; exact bl_alloc (Below.refl _ _) _
 have A2 := (A0.keep b1).keep ba
 have R2 := (R0.keep b1).keep ba
 have X2 := (X0.keep b1).keep ba
 have K2 : BoxL w1.heap.size (rC M1 v) U1 := by rw [← hU1]; exact BoxL.new w1 (rC M1 v) _
 have row3 := row1.keep ba
 have B2 := bl_trans (bl_trans B0 b1) ba
 have HLe := hidOf (le1 _ HM1.out)
 have HNb := hidOf (show some w1.heap.size ∉ blkR M1 from row1.new (Nat.le_refl _))
 have HNge := hidOf (show w.heap.size + 3 ≤ w1.heap.size by have h := b1.size; have h2 := HZ0.out; omega)
 have HK1 := hidOf (HK.out U1 (HI.out.keep B2))
 obtain ⟨q, hq⟩ : ∃ q, okR restR v = q := ⟨_, rfl⟩
 rw [hq] at HK1
 have HQ := hidOf hq
 clear A0 R0 X0 p0 p1 p2 p3 p4 p5 p6 p7 row1 b1 B0 HC hq
 obtain ⟨p0, p1, p2, p3, p4, p5, p6, p7⟩ := box8 A2
 go_upto_region 2 with fail
 try rw [hU1]
 clear hU1
 generalize hNK : w1.heap.size = NK at K2 HNb HNge ⊢
 clear hNK
 go_wp2_with fail
 refine (HK1.out).mono ?_
 rintro e w4 ⟨rfl, b4⟩
 have A4 := A2.keep b4
 have R4 := R2.keep b4
 have X4 := X2.keep b4
 have K4 := K2.keep b4
 have row4 := row3.keep b4
 have B4 := bl_trans B2 b4
 clear A2 R2 X2 K2 row3 B2 b4 HK1 p0 p1 p2 p3 p4 p5 p6 p7 HK
 cases q
 ·skip
  obtain ⟨k0, k1, k2, k3, k4, k5, k6, k7⟩ := box8 K4
  obtain ⟨r0, r1, r2, r3, r4, r5, r6, r7⟩ := box8 R4
  have rf := R4.fr
  obtain ⟨Zz, hZ⟩ : ∃ Z, ((((((((w4.setCell ⟨N1, 0, none⟩ (.int .i64 v.cp)).setCell ⟨N1, 1, none⟩ (.int .i64 v.se)).setCell ⟨N1, 2, none⟩ (.slice M1.ia M1.i M1.ic)).setCell ⟨N1, 3, none⟩ (.int .i64 v.nx)).setCell ⟨N1, 4, none⟩ (.slice M1.sa M1.s M1.sc)).setCell ⟨N1, 5, none⟩ (.slice M1.la M1.l M1.lc)).setCell ⟨N1, 6, none⟩ (.slice M1.ga M1.g M1.gc)).setCell ⟨N1, 7, none⟩ (.bool v.cl)) = Z := ⟨_, rfl⟩
  have hZ2 : Zz = setL w4 N1 0 [.int .i64 v.cp, .int .i64 v.se, .slice M1.ia M1.i M1.ic, .int .i64 v.nx, .slice M1.sa M1.s M1.sc, .slice M1.la M1.l M1.lc, .slice M1.ga M1.g M1.gc, .bool v.cl] := by rw [← hZ]; rfl
  have XZ : BoxL N1 [.int .i64 v.cp, .int .i64 v.se, .slice M1.ia M1.i M1.ic, .int .i64 v.nx, .slice M1.sa M1.s M1.sc, .slice M1.la M1.l M1.lc, .slice M1.ga M1.g M1.gc, .bool v.cl] Zz := by rw [hZ2]; exact R4.setAll (us := [.int .i64 v.cp, .int .i64 v.se, .slice M1.ia M1.i M1.ic, .int .i64 v.nx, .slice M1.sa M1.s M1.sc, .slice M1.la M1.l M1.lc, .slice M1.ga M1.g M1.gc, .bool v.cl]) rfl
  obtain ⟨t0, t1, t2, t3, t4, t5, t6, t7⟩ := box8 XZ
  have HD := hidOf (show RgTS w (snR v (m1, m2, m3)) (snT v (m1, m2, m3)) (snC v (m1, m2, m3)) (.returned (.tuple #[.agg #[.int .i64 v.cp, .int .i64 v.se, .slice M1.ia M1.i M1.ic, .int .i64 v.nx, .slice M1.sa M1.s M1.sc, .slice M1.la M1.l M1.lc, .slice M1.ga M1.g M1.gc, .bool v.cl], .slice none 0 0, .int .i64 1])) Zz by
   rw [show RgTS w (snR v (m1, m2, m3)) (snT v (m1, m2, m3)) (snC v (m1, m2, m3)) = RgTS w v [] 1 by unfold snR snT snC; rw [if_neg (by rw [HQ.out]; simp), if_neg (by rw [HQ.out]; simp), if_neg (by rw [HQ.out]; simp)]]
   rw [hZ2]
   have h := rgt_rowS (N1 := N1) (rs := [.int .i64 v.cp, .int .i64 v.se, .slice M1.ia M1.i M1.ic, .int .i64 v.nx, .slice M1.sa M1.s M1.sc, .slice M1.la M1.l M1.lc, .slice M1.ga M1.g M1.gc, .bool v.cl]) row4 HN0.out B4
   exact ⟨M1, none, 0, 0, rfl, h.1, HLe.out.mono (by omega), ⟨⟨rfl, .inl rfl⟩, .inl rfl⟩, Nat.zero_le _, fun p _ => .inr (.inl rfl), h.2⟩)
  clear hZ2 XZ R4
  go_wp2_with fail
  try clear hZ
  exact bodyPost_ret (v := .tuple #[.agg #[.int .i64 v.cp, .int .i64 v.se, .slice M1.ia M1.i M1.ic, .int .i64 v.nx, .slice M1.sa M1.s M1.sc, .slice M1.la M1.l M1.lc, .slice M1.ga M1.g M1.gc, .bool v.cl], .slice none 0 0, .int .i64 1]) (by simp [results, Tryz.results21, go_sem, t0, t1, t2, t3, t4, t5, t6, t7]) rfl HD.out
 obtain ⟨cv, hcv⟩ : ∃ c, v.cl = c := ⟨_, rfl⟩
 have HCv := hidOf hcv
 have p7c : w4.cell? ⟨w.heap.size, 7, none⟩ = some (.bool cv) := by rw [← hcv]; exact A4.cs 7 (by simp)
 clear hcv
 cases cv
 case true =>
  go_upto_region 5 with fail
  clear p7c
  obtain ⟨k0, k1, k2, k3, k4, k5, k6, k7⟩ := box8 K4
  obtain ⟨r0, r1, r2, r3, r4, r5, r6, r7⟩ := box8 R4
  have rf := R4.fr
  obtain ⟨Zz, hZ⟩ : ∃ Z, ((((((((w4.setCell ⟨N1, 0, none⟩ (.int .i64 v.cp)).setCell ⟨N1, 1, none⟩ (.int .i64 v.se)).setCell ⟨N1, 2, none⟩ (.slice M1.ia M1.i M1.ic)).setCell ⟨N1, 3, none⟩ (.int .i64 v.nx)).setCell ⟨N1, 4, none⟩ (.slice M1.sa M1.s M1.sc)).setCell ⟨N1, 5, none⟩ (.slice M1.la M1.l M1.lc)).setCell ⟨N1, 6, none⟩ (.slice M1.ga M1.g M1.gc)).setCell ⟨N1, 7, none⟩ (.bool v.cl)) = Z := ⟨_, rfl⟩
  have hZ2 : Zz = setL w4 N1 0 [.int .i64 v.cp, .int .i64 v.se, .slice M1.ia M1.i M1.ic, .int .i64 v.nx, .slice M1.sa M1.s M1.sc, .slice M1.la M1.l M1.lc, .slice M1.ga M1.g M1.gc, .bool v.cl] := by rw [← hZ]; rfl
  have XZ : BoxL N1 [.int .i64 v.cp, .int .i64 v.se, .slice M1.ia M1.i M1.ic, .int .i64 v.nx, .slice M1.sa M1.s M1.sc, .slice M1.la M1.l M1.lc, .slice M1.ga M1.g M1.gc, .bool v.cl] Zz := by rw [hZ2]; exact R4.setAll (us := [.int .i64 v.cp, .int .i64 v.se, .slice M1.ia M1.i M1.ic, .int .i64 v.nx, .slice M1.sa M1.s M1.sc, .slice M1.la M1.l M1.lc, .slice M1.ga M1.g M1.gc, .bool v.cl]) rfl
  obtain ⟨t0, t1, t2, t3, t4, t5, t6, t7⟩ := box8 XZ
  have HD := hidOf (show RgTS w (snR v (m1, m2, m3)) (snT v (m1, m2, m3)) (snC v (m1, m2, m3)) (.returned (.tuple #[.agg #[.int .i64 v.cp, .int .i64 v.se, .slice M1.ia M1.i M1.ic, .int .i64 v.nx, .slice M1.sa M1.s M1.sc, .slice M1.la M1.l M1.lc, .slice M1.ga M1.g M1.gc, .bool v.cl], .slice none 0 0, .int .i64 6])) Zz by
   rw [show RgTS w (snR v (m1, m2, m3)) (snT v (m1, m2, m3)) (snC v (m1, m2, m3)) = RgTS w v [] 6 by unfold snR snT snC; rw [if_pos HQ.out, if_pos HQ.out, if_pos HQ.out, if_pos HCv.out, if_pos HCv.out, if_pos HCv.out]]
   rw [hZ2]
   have h := rgt_rowS (N1 := N1) (rs := [.int .i64 v.cp, .int .i64 v.se, .slice M1.ia M1.i M1.ic, .int .i64 v.nx, .slice M1.sa M1.s M1.sc, .slice M1.la M1.l M1.lc, .slice M1.ga M1.g M1.gc, .bool v.cl]) row4 HN0.out B4
   exact ⟨M1, none, 0, 0, rfl, h.1, HLe.out.mono (by omega), ⟨⟨rfl, .inl rfl⟩, .inl rfl⟩, Nat.zero_le _, fun p _ => .inr (.inl rfl), h.2⟩)
  clear hZ2 XZ R4
  go_wp2_with fail
  try clear hZ
  exact bodyPost_ret (v := .tuple #[.agg #[.int .i64 v.cp, .int .i64 v.se, .slice M1.ia M1.i M1.ic, .int .i64 v.nx, .slice M1.sa M1.s M1.sc, .slice M1.la M1.l M1.lc, .slice M1.ga M1.g M1.gc, .bool v.cl], .slice none 0 0, .int .i64 6]) (by simp [results, Tryz.results21, go_sem, t0, t1, t2, t3, t4, t5, t6, t7]) rfl HD.out
 have hncl : Hid (¬ v.cl = true) := hidOf (by rw [HCv.out]; simp)
 go_upto_region 6 with fail
 clear p7c
 have HMo := hidOf (specMsgOk_any m1 m2 m3 w4 HMs.out)
 obtain ⟨qo, hqo⟩ : ∃ q, okB m1 m2 m3 = q := ⟨_, rfl⟩
 rw [hqo] at HMo
 have HQo := hidOf hqo
 clear hqo
 have x0 : w4.cell? ⟨NM, 0, none⟩ = some (.int .i64 m1) := X4.cs 0 (by simp)
 have x1 : w4.cell? ⟨NM, 1, none⟩ = some (.int .i64 m2) := X4.cs 1 (by simp)
 have x2 : w4.cell? ⟨NM, 2, none⟩ = some (.string m3) := X4.cs 2 (by simp)
 go_wp2_with fail
 refine (HMo.out).mono ?_
 rintro e w5 ⟨rfl, b5⟩
 have A5 := A4.keep b5
 have R5 := R4.keep b5
 have X5 := X4.keep b5
 have K5 := K4.keep b5
 have row5 := row4.keep b5
 have B5 := bl_trans B4 b5
 clear A4 R4 X4 K4 row4 B4 b5 x0 x1 x2 HMo
 cases qo
 ·skip
  obtain ⟨k0, k1, k2, k3, k4, k5, k6, k7⟩ := box8 K5
  obtain ⟨r0, r1, r2, r3, r4, r5, r6, r7⟩ := box8 R5
  have rf := R5.fr
  obtain ⟨Zz, hZ⟩ : ∃ Z, ((((((((w5.setCell ⟨N1, 0, none⟩ (.int .i64 v.cp)).setCell ⟨N1, 1, none⟩ (.int .i64 v.se)).setCell ⟨N1, 2, none⟩ (.slice M1.ia M1.i M1.ic)).setCell ⟨N1, 3, none⟩ (.int .i64 v.nx)).setCell ⟨N1, 4, none⟩ (.slice M1.sa M1.s M1.sc)).setCell ⟨N1, 5, none⟩ (.slice M1.la M1.l M1.lc)).setCell ⟨N1, 6, none⟩ (.slice M1.ga M1.g M1.gc)).setCell ⟨N1, 7, none⟩ (.bool v.cl)) = Z := ⟨_, rfl⟩
  have hZ2 : Zz = setL w5 N1 0 [.int .i64 v.cp, .int .i64 v.se, .slice M1.ia M1.i M1.ic, .int .i64 v.nx, .slice M1.sa M1.s M1.sc, .slice M1.la M1.l M1.lc, .slice M1.ga M1.g M1.gc, .bool v.cl] := by rw [← hZ]; rfl
  have XZ : BoxL N1 [.int .i64 v.cp, .int .i64 v.se, .slice M1.ia M1.i M1.ic, .int .i64 v.nx, .slice M1.sa M1.s M1.sc, .slice M1.la M1.l M1.lc, .slice M1.ga M1.g M1.gc, .bool v.cl] Zz := by rw [hZ2]; exact R5.setAll (us := [.int .i64 v.cp, .int .i64 v.se, .slice M1.ia M1.i M1.ic, .int .i64 v.nx, .slice M1.sa M1.s M1.sc, .slice M1.la M1.l M1.lc, .slice M1.ga M1.g M1.gc, .bool v.cl]) rfl
  obtain ⟨t0, t1, t2, t3, t4, t5, t6, t7⟩ := box8 XZ
  have HD := hidOf (show RgTS w (snR v (m1, m2, m3)) (snT v (m1, m2, m3)) (snC v (m1, m2, m3)) (.returned (.tuple #[.agg #[.int .i64 v.cp, .int .i64 v.se, .slice M1.ia M1.i M1.ic, .int .i64 v.nx, .slice M1.sa M1.s M1.sc, .slice M1.la M1.l M1.lc, .slice M1.ga M1.g M1.gc, .bool v.cl], .slice none 0 0, .int .i64 1])) Zz by
   rw [show RgTS w (snR v (m1, m2, m3)) (snT v (m1, m2, m3)) (snC v (m1, m2, m3)) = RgTS w v [] 1 by have hn := hncl.out; have hk : ¬ okB m1 m2 m3 = true := (by rw [HQo.out]; simp); unfold snR snT snC; rw [if_pos HQ.out, if_pos HQ.out, if_pos HQ.out, if_neg hn, if_neg hn, if_neg hn, if_neg hk, if_neg hk, if_neg hk]]
   rw [hZ2]
   have h := rgt_rowS (N1 := N1) (rs := [.int .i64 v.cp, .int .i64 v.se, .slice M1.ia M1.i M1.ic, .int .i64 v.nx, .slice M1.sa M1.s M1.sc, .slice M1.la M1.l M1.lc, .slice M1.ga M1.g M1.gc, .bool v.cl]) row5 HN0.out B5
   exact ⟨M1, none, 0, 0, rfl, h.1, HLe.out.mono (by omega), ⟨⟨rfl, .inl rfl⟩, .inl rfl⟩, Nat.zero_le _, fun p _ => .inr (.inl rfl), h.2⟩)
  clear hZ2 XZ R5
  go_wp2_with fail
  try clear hZ
  exact bodyPost_ret (v := .tuple #[.agg #[.int .i64 v.cp, .int .i64 v.se, .slice M1.ia M1.i M1.ic, .int .i64 v.nx, .slice M1.sa M1.s M1.sc, .slice M1.la M1.l M1.lc, .slice M1.ga M1.g M1.gc, .bool v.cl], .slice none 0 0, .int .i64 1]) (by simp [results, Tryz.results21, go_sem, t0, t1, t2, t3, t4, t5, t6, t7]) rfl HD.out
 have p1 : w5.cell? ⟨w.heap.size, 1, none⟩ = some (.int .i64 v.se) := A5.cs 1 (by simp)
 have hhd := ok_head HQ.out
 have HHd := hidOf hhd
 by_cases hse : 1000000000 ≤ v.se
 ·have HSe := hidOf (show v.se = 1000000000 by have h := hhd.2.1; omega)
  clear hhd
  go_upto_region 9 with fail
  clear p1 hse
  obtain ⟨k0, k1, k2, k3, k4, k5, k6, k7⟩ := box8 K5
  obtain ⟨r0, r1, r2, r3, r4, r5, r6, r7⟩ := box8 R5
  have rf := R5.fr
  obtain ⟨Zz, hZ⟩ : ∃ Z, ((((((((w5.setCell ⟨N1, 0, none⟩ (.int .i64 v.cp)).setCell ⟨N1, 1, none⟩ (.int .i64 v.se)).setCell ⟨N1, 2, none⟩ (.slice M1.ia M1.i M1.ic)).setCell ⟨N1, 3, none⟩ (.int .i64 v.nx)).setCell ⟨N1, 4, none⟩ (.slice M1.sa M1.s M1.sc)).setCell ⟨N1, 5, none⟩ (.slice M1.la M1.l M1.lc)).setCell ⟨N1, 6, none⟩ (.slice M1.ga M1.g M1.gc)).setCell ⟨N1, 7, none⟩ (.bool v.cl)) = Z := ⟨_, rfl⟩
  have hZ2 : Zz = setL w5 N1 0 [.int .i64 v.cp, .int .i64 v.se, .slice M1.ia M1.i M1.ic, .int .i64 v.nx, .slice M1.sa M1.s M1.sc, .slice M1.la M1.l M1.lc, .slice M1.ga M1.g M1.gc, .bool v.cl] := by rw [← hZ]; rfl
  have XZ : BoxL N1 [.int .i64 v.cp, .int .i64 v.se, .slice M1.ia M1.i M1.ic, .int .i64 v.nx, .slice M1.sa M1.s M1.sc, .slice M1.la M1.l M1.lc, .slice M1.ga M1.g M1.gc, .bool v.cl] Zz := by rw [hZ2]; exact R5.setAll (us := [.int .i64 v.cp, .int .i64 v.se, .slice M1.ia M1.i M1.ic, .int .i64 v.nx, .slice M1.sa M1.s M1.sc, .slice M1.la M1.l M1.lc, .slice M1.ga M1.g M1.gc, .bool v.cl]) rfl
  obtain ⟨t0, t1, t2, t3, t4, t5, t6, t7⟩ := box8 XZ
  have HD := hidOf (show RgTS w (snR v (m1, m2, m3)) (snT v (m1, m2, m3)) (snC v (m1, m2, m3)) (.returned (.tuple #[.agg #[.int .i64 v.cp, .int .i64 v.se, .slice M1.ia M1.i M1.ic, .int .i64 v.nx, .slice M1.sa M1.s M1.sc, .slice M1.la M1.l M1.lc, .slice M1.ga M1.g M1.gc, .bool v.cl], .slice none 0 0, .int .i64 2])) Zz by
   rw [show RgTS w (snR v (m1, m2, m3)) (snT v (m1, m2, m3)) (snC v (m1, m2, m3)) = RgTS w v [] 2 by have hn := hncl.out; unfold snR snT snC; rw [if_pos HQ.out, if_pos HQ.out, if_pos HQ.out, if_neg hn, if_neg hn, if_neg hn, if_pos HQo.out, if_pos HQo.out, if_pos HQo.out, if_pos HSe.out, if_pos HSe.out, if_pos HSe.out]]
   rw [hZ2]
   have h := rgt_rowS (N1 := N1) (rs := [.int .i64 v.cp, .int .i64 v.se, .slice M1.ia M1.i M1.ic, .int .i64 v.nx, .slice M1.sa M1.s M1.sc, .slice M1.la M1.l M1.lc, .slice M1.ga M1.g M1.gc, .bool v.cl]) row5 HN0.out B5
   exact ⟨M1, none, 0, 0, rfl, h.1, HLe.out.mono (by omega), ⟨⟨rfl, .inl rfl⟩, .inl rfl⟩, Nat.zero_le _, fun p _ => .inr (.inl rfl), h.2⟩)
  clear hZ2 XZ R5
  go_wp2_with fail
  try clear hZ
  exact bodyPost_ret (v := .tuple #[.agg #[.int .i64 v.cp, .int .i64 v.se, .slice M1.ia M1.i M1.ic, .int .i64 v.nx, .slice M1.sa M1.s M1.sc, .slice M1.la M1.l M1.lc, .slice M1.ga M1.g M1.gc, .bool v.cl], .slice none 0 0, .int .i64 2]) (by simp [results, Tryz.results21, go_sem, t0, t1, t2, t3, t4, t5, t6, t7]) rfl HD.out
 have HSe := hidOf (show v.se ≤ 999999999 by omega)
 have hwse : IntKind.i64.wrap (v.se + 1) = v.se + 1 := by have h := hhd.2.1; rw [IntKind.wrap_i64]; omega
 clear hhd
 go_upto_region 10 with fail
 clear p1 hse
 obtain ⟨W7, hW7⟩ : ∃ W, (w5.alloc (.cells #[] 3)).alloc (.cells #[] 3) = W := ⟨_, rfl⟩
 have b7 : Below w5.heap.size w5 W7 := by rw [← hW7]; exact bl_alloc (bl_alloc (Below.refl _ _) _) _
 have z7 : W7.heap.size = w5.heap.size + 2 := by rw [← hW7]; simp
 have told7 : W7.ownsRow w5.heap.size 3 1 (.slice (some ⟨w5.heap.size, 0, none⟩) 0 0) 0 [] := by rw [← hW7]; exact ownsRow_keep (row_empty w5 3 1) (bl_alloc (Below.refl _ _) _)
 have stay7 : W7.ownsRow (w5.heap.size + 1) 3 1 (.slice (some ⟨w5.heap.size + 1, 0, none⟩) 0 0) 0 [] := by
  have h := row_empty (w5.alloc (.cells #[] 3)) 3 1
  rw [hW7] at h
  simpa using h
 have HZ7 := hidOf z7
 have A7 := A5.keep b7
 have R7 := R5.keep b7
 have X7 := X5.keep b7
 have K7 := K5.keep b7
 have row7 := row5.keep b7
 have B7 := bl_trans B5 b7
 have hK5 := K5.lt
 have HLt5 := hidOf (show ∀ q, some q ∈ blkR M1 → q < w5.heap.size from fun q hq => (row5.blk q hq).2)
 go_upto_region 12 with fail
 try rw [hW7]
 clear hW7 z7 A5 R5 X5 K5 row5 B5 b7
 generalize hNT : w5.heap.size = NT at told7 stay7 HZ7 hK5 HLt5 ⊢
 clear hNT
 obtain ⟨V8, hV8⟩ : ∃ V, W7.alloc (.cells #[.int .i64 m1, .int .i64 m2, .string m3] 30) = V := ⟨_, rfl⟩
 have bV8 : Below W7.heap.size W7 V8 := by rw [← hV8]; exact bl_alloc (Below.refl _ _) _
 have zV8 : V8.heap.size = W7.heap.size + 1 := by rw [← hV8]; simp
 have hBle : w.heap.size + 3 ≤ V8.heap.size := by have h := HNge.out; have h2 := HZ7.out; omega
 obtain ⟨a8, c8, w8, hr8, ho8, hg8, hl8⟩ := append_msgR (w.heap.size + 3) M1.i (.slice M1.ia M1.i M1.ic) v.it (some ⟨W7.heap.size, 0, none⟩) 1 1 [(m1, m2, m3)] V8 (ownsRow_keep row7.it bV8) hBle (by rw [← hV8]; exact one_msg W7 m1 m2 m3 HMs.out) (by have h := HLe.out.i; omega)
 have rowV := row7.keep bV8
 have row8 := rowV.growI ho8 (fun p hp => by
  rcases List.mem_append.1 hp with h | h
  ·exact row7.its p h
  ·rw [List.mem_singleton.1 h]; exact HMs.out) hg8 hl8
 have hoth : ∀ n, n < V8.heap.size → some n ∉ blkR M1 → V8.heap[n]? = w8.heap[n]? := fun n hn hno => (hg8.block n hn (fun e => hno (by rw [e]; simp [blkR]))).symm
 have hNb8 : ∀ n, n < V8.heap.size → some n ∉ blkR M1 → some n ∉ blkR ({ M1 with ia := a8, i := M1.i + 1, ic := c8 } : Rm) := fun n hn hno hm => by
  unfold blkR at hm hno
  rw [List.mem_cons] at hm hno
  rcases hm with e | e
  ·rcases hl8 n e.symm with h | h
   ·exact hno (.inl h.symm)
   ·omega
  ·exact hno (.inr e)
 have hnn : ∀ n, n < w.heap.size + 3 → some n ∉ blkR M1 := fun n hn hm => by have h := (row7.blk n hm).1; omega
 have hn1 : some N1 ∉ blkR M1 := hnn N1 (by have h := HN0.out; omega)
 have hnm : some NM ∉ blkR M1 := hnn NM (by have h := HNM.out; omega)
 have hnr : some w.heap.size ∉ blkR M1 := hnn _ (by omega)
 have hntd : some NT ∉ blkR M1 := fun h => by have h2 := HLt5.out NT h; omega
 have hnst : some (NT + 1) ∉ blkR M1 := fun h => by have h2 := HLt5.out _ h; omega
 obtain ⟨U9, hU9⟩ : ∃ U, w8.setCell ⟨NK, 2, none⟩ (.slice a8 (M1.i + 1) c8) = U := ⟨_, rfl⟩
 obtain ⟨U10, hU10⟩ : ∃ U, U9.setCell ⟨NK, 1, none⟩ (.int .i64 (v.se + 1)) = U := ⟨_, rfl⟩
 have hz7 := HZ7.out
 have hNKlt : NK < V8.heap.size := by omega
 have K8 : BoxL NK (rC M1 v) w8 := (K7.keep bV8).of_block (hoth NK hNKlt HNb.out).symm (Nat.lt_of_lt_of_le hNKlt hg8.size)
 have A8 : BoxL w.heap.size (rC M v) w8 := (A7.keep bV8).of_block (hoth _ (A7.keep bV8).lt hnr).symm (Nat.lt_of_lt_of_le (A7.keep bV8).lt hg8.size)
 have R8 : BoxL N1 [.int .i64 0, .int .i64 0, .slice none 0 0, .int .i64 0, .slice none 0 0, .slice none 0 0, .slice none 0 0, .bool false] w8 := (R7.keep bV8).of_block (hoth _ (R7.keep bV8).lt hn1).symm (Nat.lt_of_lt_of_le (R7.keep bV8).lt hg8.size)
 have X8 : BoxL NM [.int .i64 m1, .int .i64 m2, .string m3] w8 := (X7.keep bV8).of_block (hoth _ (X7.keep bV8).lt hnm).symm (Nat.lt_of_lt_of_le (X7.keep bV8).lt hg8.size)
 have told8 := rowG (ownsRow_keep told7 bV8) hg8 (fun q e e' => hntd (by
  have e2 : NT = q := by simpa [Value.ownBlock] using e'
  rw [e2, ← e]; simp [blkR]))
 have stay8 := rowG (ownsRow_keep stay7 bV8) hg8 (fun q e e' => hnst (by
  have e2 : NT + 1 = q := by simpa [Value.ownBlock] using e'
  rw [e2, ← e]; simp [blkR]))
 have B8 : Below w.heap.size w w8 := (bl_trans B7 bV8).grown hg8 (by omega) (fun q e => by have h := (row7.blk q (by rw [← e]; simp [blkR])).1; omega)
 obtain ⟨M2, hM2⟩ : ∃ M2 : Rm, M2 = { M1 with ia := a8, i := M1.i + 1, ic := c8 } := ⟨_, rfl⟩
 obtain ⟨v2, hv2⟩ : ∃ v2 : Rv, v2 = { v with it := v.it ++ [(m1, m2, m3)], se := v.se + 1 } := ⟨_, rfl⟩
 have K10 : BoxL NK (rC M2 v2) U10 := by rw [← hU10, ← hU9, hM2, hv2]; exact (K8.set 2 (by simp) _).set 1 (by simp) _
 have hne := HNge.out
 have hN0 := HN0.out
 have hNM0 := HNM.out
 have A10 : BoxL w.heap.size (rC M v) U10 := by rw [← hU10, ← hU9]; exact (A8.far _ _ (by omega) _).far _ _ (by omega) _
 have R10 : BoxL N1 [.int .i64 0, .int .i64 0, .slice none 0 0, .int .i64 0, .slice none 0 0, .slice none 0 0, .slice none 0 0, .bool false] U10 := by rw [← hU10, ← hU9]; exact (R8.far _ _ (by omega) _).far _ _ (by omega) _
 have X10 : BoxL NM [.int .i64 m1, .int .i64 m2, .string m3] U10 := by rw [← hU10, ← hU9]; exact (X8.far _ _ (by omega) _).far _ _ (by omega) _
 have g10 : w8.grownBy U10 (some NK) := by rw [← hU10, ← hU9]; exact (grown_setC _ _ _ _).trans (grown_setC _ _ _ _)
 have told10 := rowG told8 g10 (fun q e e' => by
  injection e with e
  have e2 : NT = q := by simpa [Value.ownBlock] using e'
  omega)
 have stay10 := rowG stay8 g10 (fun q e e' => by
  injection e with e
  have e2 : NT + 1 = q := by simpa [Value.ownBlock] using e'
  omega)
 have row10 : RRow (w.heap.size + 3) U10 M2 v2 := by
  have h := row8.grown g10 (hNb8 NK hNKlt HNb.out)
  rw [hM2, hv2]
  exact ⟨h.it, h.its, h.sb, h.fl, h.fls, h.sv, h.ln, h.gs, h.apt⟩
 have B10 : Below w.heap.size w U10 := by rw [← hU10, ← hU9]; exact bl_setB (bl_setB B8 _ _ (by omega) _) _ _ (by omega) _
 have hnb10 : some NT ∉ blkR M2 ∧ some (NT + 1) ∉ blkR M2 ∧ some NK ∉ blkR M2 ∧ some N1 ∉ blkR M2 := by
  rw [hM2]
  exact ⟨hNb8 _ (by omega) hntd, hNb8 _ (by omega) hnst, hNb8 _ hNKlt HNb.out, hNb8 _ (by omega) hn1⟩
 have k2 : w8.cell? ⟨NK, 2, none⟩ = some (.slice M1.ia M1.i M1.ic) := K8.cs 2 (by simp)
 have k2a : ∀ o, (W7.alloc o).cell? ⟨NK, 2, none⟩ = some (.slice M1.ia M1.i M1.ic) := fun o => (K7.alloc o).cs 2 (by simp)
 have k2b : W7.cell? ⟨NK, 2, none⟩ = some (.slice M1.ia M1.i M1.ic) := K7.cs 2 (by simp)
 have kf := K8.fr
 have x0 : W7.cell? ⟨NM, 0, none⟩ = some (.int .i64 m1) := X7.cs 0 (by simp)
 have x1 : W7.cell? ⟨NM, 1, none⟩ = some (.int .i64 m2) := X7.cs 1 (by simp)
 have x2 : W7.cell? ⟨NM, 2, none⟩ = some (.string m3) := X7.cs 2 (by simp)
 have K9 : BoxL NK (rC { M1 with ia := a8, i := M1.i + 1, ic := c8 } v) U9 := by rw [← hU9]; exact K8.set 2 (by simp) _
 have k1 : U9.cell? ⟨NK, 1, none⟩ = some (.int .i64 v.se) := K9.cs 1 (by simp)
 have kf9 := K9.fr
 have Hr8 := hidOf hr8
 subst hV8
 have HLe2 := hidOf (show RLe M2 2000000 by
  have h := HLe.out
  rw [hM2]
  exact ⟨by show M1.i + 1 ≤ _; have := h.i; omega, by have := h.s; show M1.s ≤ _; omega, fun x hx => by have := h.f x hx; omega, by have := h.l; show M1.l ≤ _; omega, by have := h.g; show M1.g ≤ _; omega⟩)
 have HMv := hidOf (And.intro hM2 hv2)
 have HKT := hidOf hK5
 clear hM2 hv2 hr8 ho8 hg8 hl8 rowV row8 hoth hNb8 hnn K8 A8 R8 X8 told8 stay8 B8 K9 g10 K7 A7 R7 X7 row7 B7 told7 stay7 bV8 zV8 hBle hNKlt hz7 hne hN0 hNM0 hK5
 go_upto_region 13 with (at_builtin; refine wpList_append_run rfl _ _ 24 rfl _ _ _ rfl rfl Hr8.out ?_)
 try rw [hU9]
 clear hU9 k2 k2a k2b kf x0 x1 x2
 go_upto_region 14 with fail
 try rw [hU10]
 clear hU10 k1 kf9 hwse
 have HL0 := hidOf (show SpL w NM N1 NK NT M v M2 v2 [.int .i64 m1, .int .i64 m2, .string m3] [.int .i64 0, .int .i64 0, .slice none 0 0, .int .i64 0, .slice none 0 0, .slice none 0 0, .slice none 0 0, .bool false] (sndB v.sb (m1, m2, m3) (v.ln.take 0)) M2.xs (sndT v.sb (m1, m2, m3) (v.ln.take 0)) (sndS v.sb (m1, m2, m3) (v.ln.take 0)) (some ⟨NT, 0, none⟩) 0 0 (some ⟨NT + 1, 0, none⟩) 0 0 U10 by
  refine ⟨A10, X10, R10, K10, ?_, rfl, fun y hy => ⟨y, hy, rfl⟩, told10, rowM stay10 (by omega), fun q e e' => ?_, fun q e => ?_, fun q e => ?_, B10, ?_⟩
  ·have e : ({ v2 with sb := v.sb } : Rv) = v2 := by rw [HMv.out.2]
   show RRow _ _ M2 { v2 with sb := v.sb }
   rw [e]; exact row10
  ·have e1 : NT = q := by simpa [Value.ownBlock] using e
   have e2 : NT + 1 = q := by simpa [Value.ownBlock] using e'
   omega
  ·have e1 : NT = q := by simpa [Value.ownBlock] using e
   rw [← e1]; exact hnb10.1
  ·have e1 : NT + 1 = q := by simpa [Value.ownBlock] using e
   rw [← e1]; exact hnb10.2.1
  ·have h := (row_lt told10 (q := NT) (by simp [Value.ownBlock])).2
   omega)
 have HF := hidOf (show SpF w NM N1 NK NT M2 from ⟨HNM.out, HN0.out, HNge.out, HKT.out, hnb10.2.2.1⟩)
 have HLn := hidOf (HI.out.ln.len)
 have HMl := hidOf (show M.l ≤ 12 by
  have h := HHd.out.2.2.2.2.2.1
  have h2 := HI.out.ln.len
  omega)
 clear A10 X10 R10 K10 row10 told10 stay10 hnb10 B10
 go_wp2_with fail
 go_loopw [8, 9, 10] (fun t z i wr => ∃ (j : Nat) (ta : Option Addr) (tn tc : Nat) (za : Option Addr) (zn zc : Nat) (ys : List Sa), j ≤ M.l ∧ t = .slice ta tn tc ∧ z = .slice za zn zc ∧ i = .int .i64 j ∧ SpL w NM N1 NK NT M v M2 v2 [.int .i64 m1, .int .i64 m2, .string m3] [.int .i64 0, .int .i64 0, .slice none 0 0, .int .i64 0, .slice none 0 0, .slice none 0 0, .slice none 0 0, .bool false] (sndB v.sb (m1, m2, m3) (v.ln.take j)) ys (sndT v.sb (m1, m2, m3) (v.ln.take j)) (sndS v.sb (m1, m2, m3) (v.ln.take j)) ta tn tc za zn zc wr) (fun _ _ i _ => M.l - (intOf i).toNat)
 case atStart => exact ⟨0, _, 0, 0, _, 0, 0, M2.xs, Nat.zero_le _, rfl, rfl, rfl, HL0.out⟩
 case round =>
  rename World => wr
  obtain ⟨j, ta, tn, tc, za, zn, zc, ys, hj, rfl, rfl, rfl, hL⟩ := hrel
  clear HL0
  by_cases hlt : j < M.l
  ·have hlt' : (j : Int) < (M.l : Int) := by omega
   have hwj : IntKind.i64.wrap ((j : Int) + 1) = (j : Int) + 1 := by have h := HMl.out; rw [IntKind.wrap_i64]; omega
   obtain ⟨lb, off, hla, hlbl, hlc⟩ : ∃ b off, M.la = some ⟨b, off, none⟩ ∧ b < w.heap.size ∧ ∀ i, i < M.l → w.cell? ⟨b, off + i, none⟩ = some (.int .i64 (v.ln.getD i 0)) := by
    rcases HI.out.ln.row with h0 | h0
    ·omega
    ·exact h0
   obtain ⟨id, hid⟩ : ∃ id, v.ln.getD j 0 = id := ⟨_, rfl⟩
   have hjl : j < v.ln.length := by have h := HLn.out; omega
   have htk := take_getD hjl
   rw [hid] at htk
   have hcj := hlc j hlt
   rw [hid] at hcj
   have hat := at_line HQ.out hjl
   rw [hid] at hat
   obtain ⟨hk0, hkI⟩ := at_lt hat
   obtain ⟨k, hkk⟩ : ∃ k, (atR v.sb id).toNat = k := ⟨_, rfl⟩
   rw [hkk] at hk0 hkI
   have hS := SpS.mk' hL hla hlbl hcj
   have HAt := hidOf (fun (u : World) (hu : SpL w NM N1 NK NT M v M2 v2 [.int .i64 m1, .int .i64 m2, .string m3] [.int .i64 0, .int .i64 0, .slice none 0 0, .int .i64 0, .slice none 0 0, .slice none 0 0, .slice none 0 0, .bool false] (sndB v.sb (m1, m2, m3) (v.ln.take j)) ys (sndT v.sb (m1, m2, m3) (v.ln.take j)) (sndS v.sb (m1, m2, m3) (v.ln.take j)) ta tn tc za zn zc u) => l9At_any M v id u (HI.out.keep hu.bel) HM.out)
   rw [hla, hkI] at HAt
   have p5 : wr.cell? ⟨w.heap.size, 5, none⟩ = some (.slice (some ⟨lb, off, none⟩) M.l M.lc) := hS.2.2.2.2.2.1
   have HT := hidOf htk
   have HKk := hidOf (And.intro hk0 (And.intro hkI hkk))
   have HLa := hidOf (And.intro hla (And.intro hlbl hcj))
   clear hL hla hlbl hlc hid hjl htk hcj hat hk0 hkI hkk
   go_upto_region 17 with fail
   clear p5
   refine wp_region_noPanic ?_
   refine wp_region_held_drew (S := fun u => SpS w NM N1 NK NT M v M2 v2 [.int .i64 m1, .int .i64 m2, .string m3] [.int .i64 0, .int .i64 0, .slice none 0 0, .int .i64 0, .slice none 0 0, .slice none 0 0, .slice none 0 0, .bool false] (sndB v.sb (m1, m2, m3) (v.ln.take j)) ys (sndT v.sb (m1, m2, m3) (v.ln.take j)) (sndS v.sb (m1, m2, m3) (v.ln.take j)) ta tn tc za zn zc lb off j id u) (by kernel_rfl) hS.drew (fun hHeld => ?_)
   refine tK 0 ?_ rfl (by kernel_rfl) (by rfl) ?_ (by assumption) (fun _ _ _ h => h) ?_
   case refine_2 => (intro w hSw; (try dsimp only at hSw); go_simp; try with_reducible rfl)
   simp only [Act.put, List.getElem_toArray, List.getElem_cons_zero, List.setIfInBounds_toArray, List.set_cons_zero, List.set_cons_succ]
   refine tR 1 ?_
   refine tR 2 ?_
   refine tR 3 ?_
   refine tR 4 ?_
   refine tR 5 ?_
   refine tW 6 (fun K hK => ?_)
   go_simp
   refine (HAt.out _ (SpS.spl (by assumption))).mono ?_
   rintro e w11 ⟨rfl, hb11⟩
   go_wp2_with fail
   refine hK.out _ _ (SpS.keep (by assumption) hb11) (fun hHeld => ?_)
   clear hK K hb11
   refine tR 7 ?_
   refine wpAnyH_done (by kernel_rfl) ?_ _
   refine NoPanic.normal ?_
   have hL1 := hHeld.spl
   clear hHeld hS HAt
   obtain ⟨bs, of2, hsa, hbl, hcell⟩ : ∃ b off, M.sa = some ⟨b, off, none⟩ ∧ b < w.heap.size ∧ ∀ i, i < M.s → SCell w b (off + i * 7) (sg M.xs i) := by
    rcases HI.out.sb.row with h0 | h0
    ·have h1 := HI.out.sb.len
     have h2 : M.xs.length = v.sb.length := by rw [← HI.out.sv]; simp [svs]
     have h3 := HKk.out.1
     omega
    ·exact h0
   have hkM : k < M.s := by
    have h1 := HI.out.sb.len
    have h2 : M.xs.length = v.sb.length := by rw [← HI.out.sv]; simp [svs]
    have h3 := HKk.out.1
    omega
   have hkX : k < M.xs.length := by have h1 := HI.out.sb.len; omega
   obtain ⟨x, hx⟩ : ∃ x, sg M.xs k = x := ⟨_, rfl⟩
   have hc6 := (hcell k hkM).c6
   rw [hx] at hc6
   have hxs : x.s = v.sb.getD k Sb0 := by rw [← HI.out.sv, ← hx]; exact (sg_svs2 hkX).symm
   have hfl : flAt v.sb id = x.s.fl := by unfold flAt; rw [HKk.out.2.2, hxs]
   have hokf : okF x.s.fl = true := by
    have h := ok_sub HQ.out HKk.out.1
    simp only [subR, Bool.and_eq_true] at h
    rw [hxs]; exact h.2.2
   have hT1 := SpT.mk' hL1 hsa hbl hc6
   have hxm : x ∈ M.xs := by rw [← hx]; exact sg_mem hkX
   have HCl := hidOf (fun (u : World) (hu : SpL w NM N1 NK NT M v M2 v2 [.int .i64 m1, .int .i64 m2, .string m3] [.int .i64 0, .int .i64 0, .slice none 0 0, .int .i64 0, .slice none 0 0, .slice none 0 0, .slice none 0 0, .bool false] (sndB v.sb (m1, m2, m3) (v.ln.take j)) ys (sndT v.sb (m1, m2, m3) (v.ln.take j)) (sndS v.sb (m1, m2, m3) (v.ln.take j)) ta tn tc za zn zc u) => l8Left_any x.a x.n x.c x.s.fl m1 m2 m3 u ((HI.out.keep hu.bel).sb.fil x hxm) hokf HQo.out)
   obtain ⟨q, hq⟩ : ∃ q, passP x.s.fl (bdOf m1 m2 m3) = q := ⟨_, rfl⟩
   rw [hq] at HCl
   have HQq := hidOf (show pasR (flAt v.sb id) (m1, m2, m3) = q by rw [hfl]; exact hq)
   have hkMi : (k : Int) < (M.s : Int) := by omega
   clear hL1 hsa hbl hcell hkX hx hc6 hxs hfl hokf hxm hq
   go_upto_region 18 with fail
   refine wp_region_noPanic ?_
   refine wp_region_held_drew (S := fun u => SpT w NM N1 NK NT M v M2 v2 m1 m2 m3 [.int .i64 0, .int .i64 0, .slice none 0 0, .int .i64 0, .slice none 0 0, .slice none 0 0, .slice none 0 0, .bool false] (sndB v.sb (m1, m2, m3) (v.ln.take j)) ys (sndT v.sb (m1, m2, m3) (v.ln.take j)) (sndS v.sb (m1, m2, m3) (v.ln.take j)) ta tn tc za zn zc bs of2 k x u) (by kernel_rfl) hT1.drew (fun hHeld => ?_)
   refine tK 0 ?_ rfl (by kernel_rfl) (by rfl) ?_ (by assumption) (fun _ _ _ h => h) ?_
   case refine_2 => (intro w hSw; (try dsimp only at hSw); go_simp; try with_reducible rfl)
   simp only [Act.put, List.getElem_toArray, List.getElem_cons_zero, List.setIfInBounds_toArray, List.set_cons_zero, List.set_cons_succ]
   refine tR 1 ?_
   refine tR 2 ?_
   refine tR 3 ?_
   refine tR 4 ?_
   refine tR 5 ?_
   refine tR 6 ?_
   refine tW 7 (fun K hK => ?_)
   go_simp
   refine (HCl.out _ (SpT.spl (by assumption))).mono ?_
   rintro e w12 ⟨rfl, hb12⟩
   go_wp2_with fail
   refine hK.out _ _ (SpT.keep (by assumption) hb12) (fun hHeld => ?_)
   clear hK K hb12
   refine wpAnyH_done (by kernel_rfl) ?_ _
   refine NoPanic.normal ?_
   have hL2 := hHeld.spl
   clear hHeld hT1 HCl hkMi hkM
   have HTn := hidOf (show tn ≤ 12 ∧ zn ≤ 12 by
    have h1 := hL2.told.1
    have h2 := hL2.stay.1
    have h3 : (sndT v.sb (m1, m2, m3) (v.ln.take j)).length ≤ (v.ln.take j).length := List.length_filter_le _ _
    have h4 : (sndS v.sb (m1, m2, m3) (v.ln.take j)).length ≤ (v.ln.take j).length := List.length_filter_le _ _
    have h5 : (v.ln.take j).length ≤ 12 := by rw [List.length_take]; have h := HHd.out.2.2.2.2.2.1; omega
    simp only [intsV, List.length_map] at h1 h2
    omega)
   rename World => w12
   cases q
   ·obtain ⟨hlen1, hrow1⟩ := hL2.row.sb
    simp only at hlen1 hrow1
    rw [length_sflat] at hlen1
    have hky : k < ys.length := by rw [hL2.lenY, sndB_len]; exact HKk.out.1
    obtain ⟨g, hg⟩ : ∃ g, M2.sa = some ⟨g, 0, none⟩ := by
     rcases hrow1 with ⟨e, e0⟩ | ⟨g, cp, cur, e, _⟩
     ·injection e with e1 e2 e3
      omega
     ·injection e with e1; exact ⟨g, e1⟩
    have hkM2 : (k : Int) < (M2.s : Int) := by omega
    obtain ⟨y, hy⟩ : ∃ y, sg ys k = y := ⟨_, rfl⟩
    have hsy : (sndB v.sb (m1, m2, m3) (v.ln.take j)).getD k Sb0 = y.s := by rw [← hy]; exact hL2.getY hky
    have hyb := sndB_bd v.sb (m1, m2, m3) 1000000000 1000000000 (fun z hz => by
     obtain ⟨i, hi, e⟩ := List.getElem_of_mem hz
     have h := ok_nums HQ.out hi
     rw [List.getD, List.getElem?_eq_getElem hi, Option.getD_some, e] at h
     have h2 := HHd.out.2.1
     omega) (v.ln.take j) y.s (by rw [← hsy, List.getD, List.getElem?_eq_getElem (by rw [sndB_len]; exact HKk.out.1), Option.getD_some]; exact List.getElem_mem _)
    have htl : (v.ln.take j).length ≤ 12 := by rw [List.length_take]; have h := HHd.out.2.2.2.2.2.1; omega
    have s2 : w12.cell? ⟨g, k * 7 + 2, none⟩ = some (.int .i64 y.s.cu) := by rw [hL2.cell hg hky (by omega), hy]; rfl
    have fr := hL2.frz hg
    have hw2 : IntKind.i64.wrap (y.s.cu + 1) = y.s.cu + 1 := by rw [IntKind.wrap_i64]; omega
    have hw5 : IntKind.i64.wrap (y.s.pa + 1) = y.s.pa + 1 := by rw [IntKind.wrap_i64]; omega
    obtain ⟨U1, hU1⟩ : ∃ U, w12.drew.setCell ⟨g, k * 7 + 2, none⟩ (.int .i64 (y.s.cu + 1)) = U := ⟨_, rfl⟩
    have L3 := hL2.drew.put HF.out hg hky (by omega) (by omega) (r := 2) (y.s.cu + 1)
    rw [hU1] at L3
    have hk3 : k < (putS ys k 2 (y.s.cu + 1)).length := by rw [putS_len]; exact hky
    have hg3 : sg (putS ys k 2 (y.s.cu + 1)) k = putA y 2 (y.s.cu + 1) := by rw [putS_get hky, if_pos rfl, hy]
    have s5 : U1.cell? ⟨g, k * 7 + 5, none⟩ = some (.int .i64 y.s.pa) := by rw [L3.cell hg hk3 (by omega), hg3]; rfl
    have fr1 := L3.frz hg
    obtain ⟨U2, hU2⟩ : ∃ U, U1.drew.setCell ⟨g, k * 7 + 5, none⟩ (.int .i64 (y.s.pa + 1)) = U := ⟨_, rfl⟩
    have L4 := L3.drew.put HF.out hg hk3 (by omega) (by omega) (r := 5) (y.s.pa + 1)
    rw [hU2] at L4
    have hS3 : w12.cell? ⟨NK, 4, none⟩ = some (.slice (some ⟨g, 0, none⟩) M2.s M2.sc) ∧ True := ⟨by have h := hL2.O.cs 4 (by simp); rw [← hg]; exact h, True.intro⟩
    have hS4 : U1.cell? ⟨NK, 4, none⟩ = some (.slice (some ⟨g, 0, none⟩) M2.s M2.sc) ∧ True := ⟨by have h := L3.O.cs 4 (by simp); rw [← hg]; exact h, True.intro⟩
    have hS5 : U2.cell? ⟨NK, 4, none⟩ = some (.slice (some ⟨g, 0, none⟩) M2.s M2.sc) ∧ True := ⟨by have h := L4.O.cs 4 (by simp); rw [← hg]; exact h, True.intro⟩
    obtain ⟨g6, c6, w6, hr6, ho6, hg6, hl6⟩ := append_own1 NT zn _ (sndS v.sb (m1, m2, m3) (v.ln.take j)) id U2 L4.stay L4.ge (by have h := HTn.out; omega)
    have HL6 := hidOf (L4.stayS HF.out hg6 ho6 hl6)
    have hsb : putV (putV (sndB v.sb (m1, m2, m3) (v.ln.take j)) k 2 (y.s.cu + 1)) k 5 (y.s.pa + 1) = sndB v.sb (m1, m2, m3) (v.ln.take (j + 1)) := by
     have h := put_bump (sb := sndB v.sb (m1, m2, m3) (v.ln.take j)) (k := k) (by rw [sndB_len]; exact HKk.out.1)
     rw [hsy] at h
     rw [h, HT.out, sndB_snoc, if_neg (by rw [HQq.out]; simp), HKk.out.2.2]
    rw [hsb, show sndS v.sb (m1, m2, m3) (v.ln.take j) ++ [id] = sndS v.sb (m1, m2, m3) (v.ln.take (j + 1)) by rw [HT.out, sndS_snoc, if_neg (by rw [HQq.out]; simp)], show sndT v.sb (m1, m2, m3) (v.ln.take j) = sndT v.sb (m1, m2, m3) (v.ln.take (j + 1)) by rw [HT.out, sndT_snoc, if_neg (by rw [HQq.out]; simp)]] at HL6
    have Hr6 := hidOf hr6
    have p5 : U2.cell? ⟨w.heap.size, 5, none⟩ = some (.slice (some ⟨lb, off, none⟩) M.l M.lc) := by
     have h := L4.A.cs 5 (by simp)
     rw [← HLa.out.1]; exact h
    have pc : U2.cell? ⟨lb, off + j, none⟩ = some (.int .i64 id) := by rw [L4.bel.cell (p := ⟨lb, off + j, none⟩) HLa.out.2.1]; exact HLa.out.2.2
    clear hr6 ho6 hg6 hl6 hL2 L3 L4 hsb hk3 hg3 hyb htl hsy hy hlen1 hrow1 hg hky
    go_upto_region 20 with fail
    refine wp_region_noPanic ?_
    refine wp_region_held_drew (S := fun u => u.cell? ⟨NK, 4, none⟩ = some (.slice (some ⟨g, 0, none⟩) M2.s M2.sc) ∧ True) (by kernel_rfl) hS3 (fun hHeld => ?_)
    refine tK 0 ?_ rfl (by kernel_rfl) (by rfl) ?_ (by assumption) (fun _ _ _ h => h) ?_
    case refine_2 => (intro w hSw; (try dsimp only at hSw); go_simp; try with_reducible rfl)
    simp only [Act.put, List.getElem_toArray, List.getElem_cons_zero, List.setIfInBounds_toArray, List.set_cons_zero, List.set_cons_succ]
    refine tR 1 ?_
    refine tR 2 ?_
    refine tR 3 ?_
    refine tR 4 ?_
    refine tR 5 ?_
    refine tR 6 ?_
    refine tR 7 ?_
    refine tW 8 (fun K hK => ?_)
    go_simp
    refine hK.out _ _ hHeld (fun hHeld => ?_)
    clear hK K
    refine tR 9 ?_
    refine tR 10 ?_
    refine tR 11 ?_
    refine tW 12 (fun K hK => ?_)
    go_simp
    refine hK.out _ _ hS4 (fun hHeld => ?_)
    clear hK K
    refine wpAnyH_done (by kernel_rfl) ?_ _
    refine NoPanic.normal ?_
    clear hU1 hS3 hHeld s2 fr hw2
    go_upto_region 21 with fail
    refine wp_region_noPanic ?_
    refine wp_region_held_drew (S := fun u => u.cell? ⟨NK, 4, none⟩ = some (.slice (some ⟨g, 0, none⟩) M2.s M2.sc) ∧ True) (by kernel_rfl) hS4 (fun hHeld => ?_)
    refine tK 0 ?_ rfl (by kernel_rfl) (by rfl) ?_ (by assumption) (fun _ _ _ h => h) ?_
    case refine_2 => (intro w hSw; (try dsimp only at hSw); go_simp; try with_reducible rfl)
    simp only [Act.put, List.getElem_toArray, List.getElem_cons_zero, List.setIfInBounds_toArray, List.set_cons_zero, List.set_cons_succ]
    refine tR 1 ?_
    refine tR 2 ?_
    refine tR 3 ?_
    refine tR 4 ?_
    refine tR 5 ?_
    refine tR 6 ?_
    refine tR 7 ?_
    refine tW 8 (fun K hK => ?_)
    go_simp
    refine hK.out _ _ hHeld (fun hHeld => ?_)
    clear hK K
    refine tR 9 ?_
    refine tR 10 ?_
    refine tR 11 ?_
    refine tW 12 (fun K hK => ?_)
    go_simp
    refine hK.out _ _ hS5 (fun hHeld => ?_)
    clear hK K
    refine wpAnyH_done (by kernel_rfl) ?_ _
    refine NoPanic.normal ?_
    clear hU2 hS4 hHeld s5 fr1 hw5 hS5 hkM2
    go_wp2_with (at_builtin; refine wpList_append_run rfl _ _ 26 rfl _ _ _ rfl rfl Hr6.out ?_)
    go_roundw
    case rel => exact ⟨j + 1, _, _, _, _, _, _, _, hlt, rfl, rfl, by simp, HL6.out⟩
    case measure => simp [intOf]; omega
   ·have hw12 : NT ≤ w12.heap.size := hL2.ge
    obtain ⟨g6, c6, w6, hr6, ho6, hg6, hl6⟩ := append_own1 NT tn _ (sndT v.sb (m1, m2, m3) (v.ln.take j)) id w12 hL2.told hw12 (by have h := HTn.out; omega)
    have HL6 := hidOf (hL2.tell HF.out hg6 ho6 hl6)
    rw [show sndT v.sb (m1, m2, m3) (v.ln.take j) ++ [id] = sndT v.sb (m1, m2, m3) (v.ln.take (j + 1)) by rw [HT.out, sndT_snoc, if_pos HQq.out], show sndB v.sb (m1, m2, m3) (v.ln.take j) = sndB v.sb (m1, m2, m3) (v.ln.take (j + 1)) by rw [HT.out, sndB_snoc, if_pos HQq.out], show sndS v.sb (m1, m2, m3) (v.ln.take j) = sndS v.sb (m1, m2, m3) (v.ln.take (j + 1)) by rw [HT.out, sndS_snoc, if_pos HQq.out]] at HL6
    have Hr6 := hidOf hr6
    have p5 : w12.cell? ⟨w.heap.size, 5, none⟩ = some (.slice (some ⟨lb, off, none⟩) M.l M.lc) := by
     have h := hL2.A.cs 5 (by simp)
     rw [← HLa.out.1]; exact h
    have pc : w12.cell? ⟨lb, off + j, none⟩ = some (.int .i64 id) := by rw [hL2.bel.cell (p := ⟨lb, off + j, none⟩) HLa.out.2.1]; exact HLa.out.2.2
    clear hr6 ho6 hg6 hl6 hL2 hw12
    go_wp2_with (at_builtin; refine wpList_append_run rfl _ _ 26 rfl _ _ _ rfl rfl Hr6.out ?_)
    go_roundw
    case rel => exact ⟨j + 1, _, _, _, _, _, _, ys, hlt, rfl, rfl, by simp, HL6.out⟩
    case measure => simp [intOf]; omega
  ·have hnlt : ¬ (j : Int) < (M.l : Int) := by omega
   have hln : v.ln.take j = v.ln := List.take_of_length_le (by have h := HLn.out; omega)
   rw [hln] at hL
   have p5 : wr.cell? ⟨w.heap.size, 5, none⟩ = some (.slice M.la M.l M.lc) := hL.A.cs 5 (by simp)
   have k5 : wr.cell? ⟨NK, 5, none⟩ = some (.slice M2.la M2.l M2.lc) := hL.O.cs 5 (by simp)
   have kf := hL.O.fr
   have HTn := hidOf (show tn ≤ 12 ∧ zn ≤ 12 by
    have h1 := hL.told.1
    have h2 := hL.stay.1
    have h3 : (sndT v.sb (m1, m2, m3) v.ln).length ≤ v.ln.length := List.length_filter_le _ _
    have h4 : (sndS v.sb (m1, m2, m3) v.ln).length ≤ v.ln.length := List.length_filter_le _ _
    have h5 := HHd.out.2.2.2.2.2.1
    simp only [intsV, List.length_map] at h1 h2
    omega)
   have HNs := hidOf hL.ns
   have S1 := hL.line HF.out
   obtain ⟨U1, hU1⟩ : ∃ U, wr.setCell ⟨NK, 5, none⟩ (.slice za zn zc) = U := ⟨_, rfl⟩
   rw [hU1] at S1
   clear hL
   obtain ⟨M3, hM3⟩ : ∃ M3 : Rm, ({ M2 with xs := ys, la := za, l := zn, lc := zc } : Rm) = M3 := ⟨_, rfl⟩
   obtain ⟨v3, hv3⟩ : ∃ v3 : Rv, ({ v2 with sb := sndB v.sb (m1, m2, m3) v.ln, ln := sndS v.sb (m1, m2, m3) v.ln } : Rv) = v3 := ⟨_, rfl⟩
   rw [hM3, hv3] at S1
   have HM3 := hidOf hM3
   have HV3 := hidOf hv3
   clear hM3 hv3
   go_upto_region 23 with fail
   go_upto_region 24 with fail
   try rw [hU1]
   clear hU1 p5 k5 kf hnlt
   have HG3 := hidOf (show M3.g ≤ 2000000 by rw [← HM3.out]; exact HLe2.out.g)
   have hU1s : w.heap.size + 3 ≤ U1.heap.size := by have h := S1.ge; have h2 := HKT.out; have h3 := HNge.out; omega
   obtain ⟨a4, c4, w4g, hr4, ho4, hg4, hl4⟩ := append_ownS (w.heap.size + 3) M3.g _ v3.gs ta tn tc (sndT v.sb (m1, m2, m3) v.ln) U1 S1.row.gs hU1s (ints_row S1.told) (by have h := HG3.out; have h2 := HTn.out; omega)
   obtain ⟨S5, O4⟩ := S1.grants HF.out ho4 hg4 hl4
   obtain ⟨U5, hU5⟩ : ∃ U, w4g.setCell ⟨NK, 6, none⟩ (.slice a4 (M3.g + tn) c4) = U := ⟨_, rfl⟩
   rw [hU5] at S5
   have k6 : U1.cell? ⟨NK, 6, none⟩ = some (.slice M3.ga M3.g M3.gc) := S1.O.cs 6 (by simp)
   have k6b : w4g.cell? ⟨NK, 6, none⟩ = some (.slice M3.ga M3.g M3.gc) := O4.cs 6 (by simp)
   have kf := O4.fr
   have Hr4 := hidOf hr4
   obtain ⟨M5, hM5⟩ : ∃ M5 : Rm, ({ M3 with ga := a4, g := M3.g + tn, gc := c4 } : Rm) = M5 := ⟨_, rfl⟩
   have hv5 : ({ v3 with gs := v3.gs ++ sndT v.sb (m1, m2, m3) v.ln } : Rv) = sndV v (m1, m2, m3) := by rw [← HV3.out, HMv.out.2]; rfl
   rw [hM5, hv5] at S5
   have HL5 := hidOf (show RLe M5 2097152 by
    rw [← hM5, ← HM3.out]
    have h := HLe2.out
    have h2 := HTn.out
    refine ⟨by have := h.i; show M2.i ≤ _; omega, by have := h.s; show M2.s ≤ _; omega, fun y hy => ?_, by show zn ≤ _; omega, by have := h.g; show M2.g + tn ≤ _; omega⟩
    obtain ⟨x, hx, e⟩ := HNs.out y hy
    have := h.f x hx
    omega)
   clear hr4 ho4 hg4 hl4 S1 O4 hM5 hv5
   go_upto_region 25 with (at_builtin; refine wpList_append_run rfl _ _ 26 rfl _ _ _ rfl rfl Hr4.out ?_)
   try rw [hU5]
   clear hU5 k6 k6b kf
   obtain ⟨v5, hv5⟩ : ∃ v5 : Rv, sndV v (m1, m2, m3) = v5 := ⟨_, rfl⟩
   have hse5 : v5.se = v.se + 1 ∧ v5.cp = v.cp := by rw [← hv5]; exact ⟨rfl, rfl⟩
   rw [hv5] at S5
   have hob := oldR_bd (v := v5) (by have h := HHd.out; omega) (by have h := HHd.out; omega)
   have HTr := hidOf (l9Trim_any2 (w.heap.size + 3) M5 v5 U5 S5.row (by have h := S5.ge; have h2 := HKT.out; have h3 := HNge.out; omega) HL5.out (by have h := HHd.out; have h2 := HSe.out; omega) (by have h := HHd.out; omega) hob.2 hob.1)
   obtain ⟨d, hd, ho, htr⟩ := snd_first (m := (m1, m2, m3)) HQ.out (f := (v.se - v.it.length).toNat) (by have h := HHd.out; have h2 := oldR_bd (v := v) (by omega) (by omega); omega)
   rw [hv5] at htr
   have HV5 := hidOf hv5
   have HT5 := hidOf htr
   have HS5 := hidOf S5
   obtain ⟨k0, k1, k2, k3, k4, k5, k6, k7⟩ := box8 S5.O
   clear hd ho htr hv5 hob hse5 S5
   go_wp2_with fail
   refine (HTr.out).mono ?_
   rintro e w7 ⟨ia7, i7, ic7, rfl, row7, hi7, b7, hq7⟩
   have told7 := ownsRow_keep HS5.out.told b7
   have HCy := hidOf (l2Copy_any ta tn tc (sndT v.sb (m1, m2, m3) v.ln) w7 (ints_row told7) (by have h := HTn.out; omega))
   have R7 := HS5.out.R.keep b7
   have B7 := bl_trans HS5.out.bel b7
   have HI7 := hidOf hi7
   clear told7 k0 k1 k2 k3 k4 k5 k6 k7 HTr b7 hq7 hi7
   go_wp2_with fail
   refine (HCy.out).mono ?_
   rintro e w8 ⟨g8, c8, rfl, ho8, b8⟩
   have R8 := R7.keep b8
   have B8 := bl_trans B7 b8
   have row8 := row7.keep b8
   have hge := (owns_parts ho8).2.1
   have HFar := hidOf (show ∀ p, p ∈ allR ({ M5 with ia := ia7, i := i7, ic := ic7 } : Rm) → Far p.1 p.2 (some ⟨g8, 0, none⟩) tn from fun p hp => Far.mk (row7.own.rin.und p hp) (.inr fun b off e => by cases e; exact hge))
   have hlt7 : N1 < w7.heap.size := R7.lt
   have HE := hidOf (show RgTS w (snR v (m1, m2, m3)) (snT v (m1, m2, m3)) (snC v (m1, m2, m3)) = RgTS w (trimR v5) (sndT v.sb (m1, m2, m3) v.ln) 0 by
    have hn := hncl.out
    have h2 : ¬ v.se = 1000000000 := by have h := HSe.out; omega
    unfold snR snT snC
    rw [if_pos HQ.out, if_pos HQ.out, if_pos HQ.out, if_neg hn, if_neg hn, if_neg hn, if_pos HQo.out, if_pos HQo.out, if_pos HQo.out, if_neg h2, if_neg h2, if_neg h2, HV5.out])
   have HL8 := hidOf (show RLe ({ M5 with ia := ia7, i := i7, ic := ic7 } : Rm) 2097152 from ⟨Nat.le_trans HI7.out HL5.out.i, HL5.out.s, HL5.out.f, HL5.out.l, HL5.out.g⟩)
   clear R7 B7 row7 HCy b8
   obtain ⟨r0, r1, r2, r3, r4, r5, r6, r7⟩ := box8 R8
   have rf := R8.fr
   obtain ⟨Zz, hZ⟩ : ∃ Z, ((((((((w8.setCell ⟨N1, 0, none⟩ (.int .i64 v5.cp)).setCell ⟨N1, 1, none⟩ (.int .i64 v5.se)).setCell ⟨N1, 2, none⟩ (.slice ia7 i7 ic7)).setCell ⟨N1, 3, none⟩ (.int .i64 v5.nx)).setCell ⟨N1, 4, none⟩ (.slice M5.sa M5.s M5.sc)).setCell ⟨N1, 5, none⟩ (.slice M5.la M5.l M5.lc)).setCell ⟨N1, 6, none⟩ (.slice M5.ga M5.g M5.gc)).setCell ⟨N1, 7, none⟩ (.bool v5.cl)) = Z := ⟨_, rfl⟩
   have hZ2 : Zz = setL w8 N1 0 [.int .i64 v5.cp, .int .i64 v5.se, .slice ia7 i7 ic7, .int .i64 v5.nx, .slice M5.sa M5.s M5.sc, .slice M5.la M5.l M5.lc, .slice M5.ga M5.g M5.gc, .bool v5.cl] := by rw [← hZ]; rfl
   have XZ : BoxL N1 [.int .i64 v5.cp, .int .i64 v5.se, .slice ia7 i7 ic7, .int .i64 v5.nx, .slice M5.sa M5.s M5.sc, .slice M5.la M5.l M5.lc, .slice M5.ga M5.g M5.gc, .bool v5.cl] Zz := by rw [hZ2]; exact R8.setAll (us := [.int .i64 v5.cp, .int .i64 v5.se, .slice ia7 i7 ic7, .int .i64 v5.nx, .slice M5.sa M5.s M5.sc, .slice M5.la M5.l M5.lc, .slice M5.ga M5.g M5.gc, .bool v5.cl]) rfl
   obtain ⟨t0, t1, t2, t3, t4, t5, t6, t7⟩ := box8 XZ
   have HD := hidOf (show RgTS w (snR v (m1, m2, m3)) (snT v (m1, m2, m3)) (snC v (m1, m2, m3)) (.returned (.tuple #[.agg #[.int .i64 v5.cp, .int .i64 v5.se, .slice ia7 i7 ic7, .int .i64 v5.nx, .slice M5.sa M5.s M5.sc, .slice M5.la M5.l M5.lc, .slice M5.ga M5.g M5.gc, .bool v5.cl], .slice (some ⟨g8, 0, none⟩) tn c8, .int .i64 0])) Zz by
    rw [HE.out, hZ2]
    have h := rgt_rowS (N1 := N1) (rs := [.int .i64 v5.cp, .int .i64 v5.se, .slice ia7 i7 ic7, .int .i64 v5.nx, .slice M5.sa M5.s M5.sc, .slice M5.la M5.l M5.lc, .slice M5.ga M5.g M5.gc, .bool v5.cl]) row8 HN0.out B8
    have htd := rowG ho8 (setL_grown (g := N1) (o := 0) (vs := [.int .i64 v5.cp, .int .i64 v5.se, .slice ia7 i7 ic7, .int .i64 v5.nx, .slice M5.sa M5.s M5.sc, .slice M5.la M5.l M5.lc, .slice M5.ga M5.g M5.gc, .bool v5.cl]) ⟨rfl, rfl, rfl, Nat.le_refl _, fun _ _ _ => rfl⟩) (fun q e e' => by injection e with e; subst e; have h1 := (row_lt ho8 e').1; omega)
    have hwl : w.heap.size ≤ w7.heap.size := by have h2 := HN0.out; omega
    refine ⟨({ M5 with ia := ia7, i := i7, ic := ic7 } : Rm), some ⟨g8, 0, none⟩, tn, c8, ?_, h.1, HL8.out, (row_own (rowM htd hwl)).1, by have h := HTn.out; omega, HFar.out, h.2⟩
    rw [HT5.out])
   clear hZ2 XZ R8
   go_wp2_with fail
   try clear hZ
   exact bodyPost_ret (v := .tuple #[.agg #[.int .i64 v5.cp, .int .i64 v5.se, .slice ia7 i7 ic7, .int .i64 v5.nx, .slice M5.sa M5.s M5.sc, .slice M5.la M5.l M5.lc, .slice M5.ga M5.g M5.gc, .bool v5.cl], .slice (some ⟨g8, 0, none⟩) tn c8, .int .i64 0]) (by simp [results, Tryz.results21, go_sem, t0, t1, t2, t3, t4, t5, t6, t7]) rfl HD.out
end Go.Proofs.YtdboaoejlkkoeaaGreat
