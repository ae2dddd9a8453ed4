/-
  The program's copy of a ring
-/
import Derived.Test.YtdboaoejlkkoeaaGreatZPo4
import Derived.Test.YtdboaoejlkkoeaaGreatZPo5
namespace Go.Proofs.YtdboaoejlkkoeaaGreat
open Go.RowKit Pl Il
theorem SRow.keep {B : Nat} {w w' : World} {a : Option Addr} {n c : Nat} {ys : List Sa} (h : SRow B w a n c ys) (hb : Below w.heap.size w w') : SRow B w' a n c ys := ⟨ownsRow_keep h.sb hb, fun x hx => ownsRow_keep (h.fl x hx) hb, h.fls, h.apt⟩
theorem SRow.mono {B B' : Nat} {w : World} {a : Option Addr} {n c : Nat} {ys : List Sa} (h : SRow B w a n c ys) (hb : B' ≤ B) : SRow B' w a n c ys := ⟨rowM h.sb hb, fun x hx => rowM (h.fl x hx) hb, h.fls, h.apt⟩
theorem SRow.set {B : Nat} {w : World} {a : Option Addr} {n c : Nat} {ys : List Sa} (h : SRow B w a n c ys) (N o : Nat) (hN : N < B) (x : Value) : SRow B (w.setCell ⟨N, o, none⟩ x) a n c ys :=
  ⟨rowG h.sb (grown_setC _ _ _ _) (fun q e e' => by injection e with e; have := (row_lt h.sb e').1; omega), fun y hy => rowG (h.fl y hy) (grown_setC _ _ _ _) (fun q e e' => by injection e with e; have := (row_lt (h.fl y hy) e').1; omega), h.fls, h.apt⟩
theorem SRow.blk {B : Nat} {w : World} {a : Option Addr} {n c : Nat} {ys : List Sa} (h : SRow B w a n c ys) : (∀ q, (Value.slice a n c).ownBlock = some q → B ≤ q ∧ q < w.heap.size) ∧ ∀ x, x ∈ ys → ∀ q, (Value.slice x.a x.n x.c).ownBlock = some q → B ≤ q ∧ q < w.heap.size := ⟨fun _ e => row_lt h.sb e, fun x hx _ e => row_lt (h.fl x hx) e⟩
theorem rowSet {B : Nat} {w : World} {t : TypeId} {s : Nat} {v : Value} {n : Nat} {xs : List Value} (h : w.ownsRow B t s v n xs) (N o : Nat) (hN : N < B) (x : Value) : (w.setCell ⟨N, o, none⟩ x).ownsRow B t s v n xs :=
  rowG h (grown_setC _ _ _ _) (fun q e e' => by injection e with e; have := (row_lt h e').1; omega)
theorem apt_chain {i s l g : Option Nat} {xs : List (Option Nat)} {K1 K2 K3 : Nat} (hi : ∀ q, i = some q → q < K1) (hs : ∀ q, s = some q → K1 ≤ q ∧ q < K2) (hx : ∀ x, x ∈ xs → ∀ q, x = some q → K1 ≤ q ∧ q < K2) (hl : ∀ q, l = some q → K2 ≤ q ∧ q < K3) (hg : ∀ q, g = some q → K3 ≤ q) (ha : Apt (s :: xs)) (h12 : K1 ≤ K2) (h23 : K2 ≤ K3) : Apt (i :: s :: l :: g :: xs) := by
  unfold Apt at ha
  rw [List.pairwise_cons] at ha
  refine apt_iff.2 ⟨fun b e e' => ?_, fun b e e' => ?_, fun b e e' => ?_, fun x h b e e' => ?_, fun b e e' => ?_, fun b e e' => ?_, ha.1, fun b e e' => ?_, fun x h b e e' => ?_, fun x h b e e' => ?_, ha.2⟩
  · have := hi b e; have := hs b e'; omega
  · have := hi b e; have := hl b e'; omega
  · have := hi b e; have := hg b e'; omega
  · have := hi b e; have := hx x h b e'; omega
  · have := hs b e; have := hl b e'; omega
  · have := hs b e; have := hg b e'; omega
  · have := hl b e; have := hg b e'; omega
  · have := hl b e; have := hx x h b e'; omega
  · have := hg b e; have := hx x h b e'; omega
set_option maxRecDepth 100000 in
set_option maxHeartbeats 8000000 in
theorem copiedRing_any (M : Rm) (v : Rv) (w : World) (hI : RIn w M v) (hm : RLe M 2097152) :
  Calls Tryz.prog 78 #[.agg #[.int .i64 v.cp, .int .i64 v.se, .slice M.ia M.i M.ic, .int .i64 v.nx, .slice M.sa M.s M.sc, .slice M.la M.l M.lc, .slice M.ga M.g M.gc, .bool v.cl]] w fun e w' => CpR w M v e w' := by
 obtain ⟨U0, hU0⟩ : ∃ W, W = (w.alloc (.cells #[.int .i64 v.cp, .int .i64 v.se, .slice M.ia M.i M.ic, .int .i64 v.nx, .slice M.sa M.s M.sc, .slice M.la M.l M.lc, .slice M.ga M.g M.gc, .bool v.cl] 28)).alloc (.cells #[.int .i64 0, .int .i64 0, .slice none 0 0, .int .i64 0, .slice none 0 0, .slice none 0 0, .slice none 0 0, .bool false] 28) := ⟨_, rfl⟩
 have B0 : Below w.heap.size w U0 := by rw [hU0]; exact bl_alloc (bl_alloc (Below.refl _ _) _) _
 have z0 : U0.heap.size = w.heap.size + 2 := by rw [hU0]; simp
 have X0 : BoxL w.heap.size [.int .i64 v.cp, .int .i64 v.se, .slice M.ia M.i M.ic, .int .i64 v.nx, .slice M.sa M.s M.sc, .slice M.la M.l M.lc, .slice M.ga M.g M.gc, .bool v.cl] U0 := by rw [hU0]; exact (BoxL.new w (rC M v) _).alloc _
 have R0 : BoxL (w.heap.size + 1) [.int .i64 0, .int .i64 0, .slice none 0 0, .int .i64 0, .slice none 0 0, .slice none 0 0, .slice none 0 0, .bool false] U0 := by
  rw [hU0]
  have h := BoxL.new (w.alloc (.cells (rC M v).toArray 28)) [.int .i64 0, .int .i64 0, .slice none 0 0, .int .i64 0, .slice none 0 0, .slice none 0 0, .slice none 0 0, .bool false] 28
  simpa using h
 have HI := hidOf hI
 have HM := hidOf hm
 have HZ := hidOf z0
 have hmi := hm.i
 have hms := hm.s
 have hml := hm.l
 have hmg := hm.g
 have HC := hidOf (copiedM_any M.ia M.i M.ic v.it U0 (hI.keep B0).it hmi)
 have p2 := X0.cs 2 (by simp)
 simp at p2
 clear hI hm z0
 go_enter Tryz.func78, Tryz.ntmps78
 go_upto_region 1 with fail
 rw [← hU0]
 clear hU0
 go_wp2_with fail
 refine (HC.out).mono ?_
 rintro e w1 ⟨a1, c1, rfl, o1, b1⟩
 obtain ⟨U1, hU1⟩ : ∃ W, w1.setCell ⟨w.heap.size, 2, none⟩ (.slice a1 M.i c1) = W := ⟨_, rfl⟩
 have hz1 := HZ.out
 have sz1 := b1.size
 have Y1 := X0.keep b1
 have f1 := Y1.fr
 have q1 := Y1.cs 2 (by simp)
 simp at q1
 have X1 : BoxL w.heap.size [.int .i64 v.cp, .int .i64 v.se, .slice a1 M.i c1, .int .i64 v.nx, .slice M.sa M.s M.sc, .slice M.la M.l M.lc, .slice M.ga M.g M.gc, .bool v.cl] U1 := by rw [← hU1]; exact Y1.set 2 (by simp) _
 have R1 : BoxL (w.heap.size + 1) [.int .i64 0, .int .i64 0, .slice none 0 0, .int .i64 0, .slice none 0 0, .slice none 0 0, .slice none 0 0, .bool false] U1 := by rw [← hU1]; exact (R0.keep b1).far _ _ (by omega) _
 have B1 : Below w.heap.size w U1 := by rw [← hU1]; exact bl_setB (bl_trans B0 b1) _ _ (Nat.le_refl _) _
 have zU1 : U1.heap.size = w1.heap.size := by rw [← hU1]; simp
 have gU1 : U0.heap.size ≤ U0.heap.size := by exact Nat.le_refl _
 have r1_1 : U1.ownsRow U0.heap.size 30 3 (.slice a1 M.i c1) M.i (qflat v.it) := by rw [← hU1]; exact rowSet o1 _ _ (by omega) _
 have LT1 := hidOf (fun q (e : (Value.slice a1 M.i c1).ownBlock = some q) => (row_lt r1_1 e).2)
 have HC1 := hidOf (copiedSubs_any M.sa M.s M.sc M.xs U1 (HI.out.keep B1).sb hms HM.out.f)
 have p3 := X1.cs 4 (by simp)
 simp at p3
 clear HC
 have HC := HC1
 clear HC1
 clear Y1 o1 X0 R0 p2
 go_upto_region 2 with fail
 clear hU1 f1 q1 b1
 go_wp2_with fail
 refine (HC.out).mono ?_
 rintro e w2 ⟨a2, c2, ys, rfl, o2, hsv, hyn, b2⟩
 obtain ⟨U2, hU2⟩ : ∃ W, w2.setCell ⟨w.heap.size, 4, none⟩ (.slice a2 M.s c2) = W := ⟨_, rfl⟩
 have hz2 := HZ.out
 have sz2 := b2.size
 have Y2 := X1.keep b2
 have f2 := Y2.fr
 have q2 := Y2.cs 4 (by simp)
 simp at q2
 have X2 : BoxL w.heap.size [.int .i64 v.cp, .int .i64 v.se, .slice a1 M.i c1, .int .i64 v.nx, .slice a2 M.s c2, .slice M.la M.l M.lc, .slice M.ga M.g M.gc, .bool v.cl] U2 := by rw [← hU2]; exact Y2.set 4 (by simp) _
 have R2 : BoxL (w.heap.size + 1) [.int .i64 0, .int .i64 0, .slice none 0 0, .int .i64 0, .slice none 0 0, .slice none 0 0, .slice none 0 0, .bool false] U2 := by rw [← hU2]; exact (R1.keep b2).far _ _ (by omega) _
 have B2 : Below w.heap.size w U2 := by rw [← hU2]; exact bl_setB (bl_trans B1 b2) _ _ (Nat.le_refl _) _
 have zU2 : U2.heap.size = w2.heap.size := by rw [← hU2]; simp
 have gU2 : U0.heap.size ≤ U1.heap.size := by omega
 have r1_2 : U2.ownsRow U0.heap.size 30 3 (.slice a1 M.i c1) M.i (qflat v.it) := by rw [← hU2]; exact rowSet (ownsRow_keep r1_1 b2) _ _ (by omega) _
 have r2_2 : SRow U1.heap.size U2 a2 M.s c2 ys := by rw [← hU2]; exact o2.set _ _ (by omega) _
 have LT2 := hidOf (And.intro (fun q (e : (Value.slice a2 M.s c2).ownBlock = some q) => (r2_2.blk.1 q e).2) (fun y (hy : y ∈ ys) q (e : (Value.slice y.a y.n y.c).ownBlock = some q) => (r2_2.blk.2 y hy q e).2))
 have HC2 := hidOf (copied_row M.la M.l M.lc v.ln U2 (HI.out.keep B2).ln hml)
 have p4 := X2.cs 5 (by simp)
 simp at p4
 clear HC
 have HC := HC2
 clear HC2
 clear Y2 o2 X1 R1 p3
 go_upto_region 3 with fail
 clear hU2 f2 q2 b2
 go_wp2_with fail
 refine (HC.out).mono ?_
 rintro e w3 ⟨a3, c3, rfl, o3, b3⟩
 obtain ⟨U3, hU3⟩ : ∃ W, w3.setCell ⟨w.heap.size, 5, none⟩ (.slice a3 M.l c3) = W := ⟨_, rfl⟩
 have hz3 := HZ.out
 have sz3 := b3.size
 have Y3 := X2.keep b3
 have f3 := Y3.fr
 have q3 := Y3.cs 5 (by simp)
 simp at q3
 have X3 : BoxL w.heap.size [.int .i64 v.cp, .int .i64 v.se, .slice a1 M.i c1, .int .i64 v.nx, .slice a2 M.s c2, .slice a3 M.l c3, .slice M.ga M.g M.gc, .bool v.cl] U3 := by rw [← hU3]; exact Y3.set 5 (by simp) _
 have R3 : BoxL (w.heap.size + 1) [.int .i64 0, .int .i64 0, .slice none 0 0, .int .i64 0, .slice none 0 0, .slice none 0 0, .slice none 0 0, .bool false] U3 := by rw [← hU3]; exact (R2.keep b3).far _ _ (by omega) _
 have B3 : Below w.heap.size w U3 := by rw [← hU3]; exact bl_setB (bl_trans B2 b3) _ _ (Nat.le_refl _) _
 have zU3 : U3.heap.size = w3.heap.size := by rw [← hU3]; simp
 have gU3 : U0.heap.size ≤ U2.heap.size := by omega
 have r1_3 : U3.ownsRow U0.heap.size 30 3 (.slice a1 M.i c1) M.i (qflat v.it) := by rw [← hU3]; exact rowSet (ownsRow_keep r1_2 b3) _ _ (by omega) _
 have r2_3 : SRow U1.heap.size U3 a2 M.s c2 ys := by rw [← hU3]; exact (r2_2.keep b3).set _ _ (by omega) _
 have r3_3 : U3.ownsRow U2.heap.size 3 1 (.slice a3 M.l c3) M.l (intsV v.ln) := by rw [← hU3]; exact rowSet o3 _ _ (by omega) _
 have LT3 := hidOf (fun q (e : (Value.slice a3 M.l c3).ownBlock = some q) => (row_lt r3_3 e).2)
 have HC3 := hidOf (copied_row M.ga M.g M.gc v.gs U3 (HI.out.keep B3).gs hmg)
 have p5 := X3.cs 6 (by simp)
 simp at p5
 clear HC
 have HC := HC3
 clear HC3
 clear Y3 o3 X2 R2 p4
 go_upto_region 4 with fail
 clear hU3 f3 q3 b3
 go_wp2_with fail
 refine (HC.out).mono ?_
 rintro e w4 ⟨a4, c4, rfl, o4, b4⟩
 obtain ⟨U4, hU4⟩ : ∃ W, w4.setCell ⟨w.heap.size, 6, none⟩ (.slice a4 M.g c4) = W := ⟨_, rfl⟩
 have hz4 := HZ.out
 have sz4 := b4.size
 have Y4 := X3.keep b4
 have f4 := Y4.fr
 have q4 := Y4.cs 6 (by simp)
 simp at q4
 have X4 : BoxL w.heap.size [.int .i64 v.cp, .int .i64 v.se, .slice a1 M.i c1, .int .i64 v.nx, .slice a2 M.s c2, .slice a3 M.l c3, .slice a4 M.g c4, .bool v.cl] U4 := by rw [← hU4]; exact Y4.set 6 (by simp) _
 have R4 : BoxL (w.heap.size + 1) [.int .i64 0, .int .i64 0, .slice none 0 0, .int .i64 0, .slice none 0 0, .slice none 0 0, .slice none 0 0, .bool false] U4 := by rw [← hU4]; exact (R3.keep b4).far _ _ (by omega) _
 have B4 : Below w.heap.size w U4 := by rw [← hU4]; exact bl_setB (bl_trans B3 b4) _ _ (Nat.le_refl _) _
 have zU4 : U4.heap.size = w4.heap.size := by rw [← hU4]; simp
 have gU4 : U0.heap.size ≤ U3.heap.size := by omega
 have r1_4 : U4.ownsRow U0.heap.size 30 3 (.slice a1 M.i c1) M.i (qflat v.it) := by rw [← hU4]; exact rowSet (ownsRow_keep r1_3 b4) _ _ (by omega) _
 have r2_4 : SRow U1.heap.size U4 a2 M.s c2 ys := by rw [← hU4]; exact (r2_3.keep b4).set _ _ (by omega) _
 have r3_4 : U4.ownsRow U2.heap.size 3 1 (.slice a3 M.l c3) M.l (intsV v.ln) := by rw [← hU4]; exact rowSet (ownsRow_keep r3_3 b4) _ _ (by omega) _
 have r4_4 : U4.ownsRow U3.heap.size 3 1 (.slice a4 M.g c4) M.g (intsV v.gs) := by rw [← hU4]; exact rowSet o4 _ _ (by omega) _
 clear HC p5 Y4 o4 X3 R3
 have HRb := hidOf (show RRow U0.heap.size U4 ⟨a1, M.i, c1, a2, M.s, c2, ys, a3, M.l, c3, a4, M.g, c4⟩ v from
  ⟨rowM r1_4 (by omega), HI.out.it.short, rowM r2_4.sb (by omega), fun x hx => rowM (r2_4.fl x hx) (by omega), r2_4.fls, hsv.trans HI.out.sv, rowM r3_4 (by omega), rowM r4_4 (by omega),
   apt_chain (K1 := U1.heap.size) (K2 := U2.heap.size) (K3 := U3.heap.size) (fun q e => LT1.out q e) (fun q e => ⟨(r2_4.blk.1 q e).1, LT2.out.1 q e⟩) (fun x hx q e => by
    obtain ⟨y, hy, rfl⟩ := List.mem_map.1 hx
    exact ⟨(r2_4.blk.2 y hy q e).1, LT2.out.2 y hy q e⟩) (fun q e => ⟨(row_lt r3_4 e).1, LT3.out q e⟩) (fun q e => (row_lt r4_4 e).1) r2_4.apt (by omega) (by omega)⟩)
 have HR := hidOf (HRb.out.mono (B' := w.heap.size) (by omega))
 have NB := hidOf (fun q hq => (HRb.out.blk q hq).1)
 have HL := hidOf (show ∀ k, RLe M k → RLe (⟨a1, M.i, c1, a2, M.s, c2, ys, a3, M.l, c3, a4, M.g, c4⟩ : Rm) k from fun k h => ⟨h.i, h.s, fun y hy => (by
  obtain ⟨x, hx, e⟩ := hyn y hy
  rw [e]
  exact h.f x hx), h.l, h.g⟩)
 have HB4 := hidOf B4
 have HR4 := hidOf R4
 go_upto_region 5 with fail
 have o0 := X4.cs 0 (by simp)
 have o1 := X4.cs 1 (by simp)
 have o2 := X4.cs 2 (by simp)
 have o3 := X4.cs 3 (by simp)
 have o4 := X4.cs 4 (by simp)
 have o5 := X4.cs 5 (by simp)
 have o6 := X4.cs 6 (by simp)
 have o7 := X4.cs 7 (by simp)
 have r0 := R4.cs 0 (by simp)
 have r1 := R4.cs 1 (by simp)
 have r2 := R4.cs 2 (by simp)
 have r3 := R4.cs 3 (by simp)
 have r4 := R4.cs 4 (by simp)
 have r5 := R4.cs 5 (by simp)
 have r6 := R4.cs 6 (by simp)
 have r7 := R4.cs 7 (by simp)
 have rf := R4.fr
 simp at o0 o1 o2 o3 o4 o5 o6 o7 r0 r1 r2 r3 r4 r5 r6 r7
 obtain ⟨Z, hZ⟩ : ∃ Z, ((((((((U4.setCell ⟨w.heap.size + 1, 0, none⟩ (.int .i64 v.cp)).setCell ⟨w.heap.size + 1, 1, none⟩ (.int .i64 v.se)).setCell ⟨w.heap.size + 1, 2, none⟩ (.slice a1 M.i c1)).setCell ⟨w.heap.size + 1, 3, none⟩ (.int .i64 v.nx)).setCell ⟨w.heap.size + 1, 4, none⟩ (.slice a2 M.s c2)).setCell ⟨w.heap.size + 1, 5, none⟩ (.slice a3 M.l c3)).setCell ⟨w.heap.size + 1, 6, none⟩ (.slice a4 M.g c4)).setCell ⟨w.heap.size + 1, 7, none⟩ (.bool v.cl)) = Z := ⟨_, rfl⟩
 have hZ2 : Z = setL U4 (w.heap.size + 1) 0 [.int .i64 v.cp, .int .i64 v.se, .slice a1 M.i c1, .int .i64 v.nx, .slice a2 M.s c2, .slice a3 M.l c3, .slice a4 M.g c4, .bool v.cl] := by rw [← hZ]; rfl
 have XZ : BoxL (w.heap.size + 1) [.int .i64 v.cp, .int .i64 v.se, .slice a1 M.i c1, .int .i64 v.nx, .slice a2 M.s c2, .slice a3 M.l c3, .slice a4 M.g c4, .bool v.cl] Z := by
  rw [← hZ]
  exact ((((((((HR4.out.set 0 (by simp) _).set 1 (by simp) _).set 2 (by simp) _).set 3 (by simp) _).set 4 (by simp) _).set 5 (by simp) _).set 6 (by simp) _).set 7 (by simp) _)
 have HRZ := hidOf (show RRow w.heap.size Z ⟨a1, M.i, c1, a2, M.s, c2, ys, a3, M.l, c3, a4, M.g, c4⟩ v by
  rw [hZ2]
  refine HR.out.grown (setL_grown ⟨rfl, rfl, rfl, Nat.le_refl _, fun _ _ _ => rfl⟩) (fun hm => ?_)
  have := NB.out _ hm
  omega)
 have HBZ := hidOf (show Below w.heap.size w Z by rw [hZ2]; exact setL_below (by omega) HB4.out)
 have t0 := XZ.cs 0 (by simp)
 have t1 := XZ.cs 1 (by simp)
 have t2 := XZ.cs 2 (by simp)
 have t3 := XZ.cs 3 (by simp)
 have t4 := XZ.cs 4 (by simp)
 have t5 := XZ.cs 5 (by simp)
 have t6 := XZ.cs 6 (by simp)
 have t7 := XZ.cs 7 (by simp)
 simp at t0 t1 t2 t3 t4 t5 t6 t7
 clear hZ2 XZ r1_1 r1_2 r1_3 r1_4 r2_2 r2_3 r2_4 r3_3 r3_4 r4_4 X4 R4 hU4 f4 q4 b4 B4 B3 B2 B1 B0 LT1 LT2 LT3 hz1 hz2 hz3 hz4 sz1 sz2 sz3 sz4 zU1 zU2 zU3 zU4 gU1 gU2 gU3 gU4
 go_wp2_with fail
 clear hZ
 exact bodyPost_ret (v := .agg #[.int .i64 v.cp, .int .i64 v.se, .slice a1 M.i c1, .int .i64 v.nx, .slice a2 M.s c2, .slice a3 M.l c3, .slice a4 M.g c4, .bool v.cl]) (by simp [results, Tryz.results78, go_sem, t0, t1, t2, t3, t4, t5, t6, t7]) rfl ⟨⟨a1, M.i, c1, a2, M.s, c2, ys, a3, M.l, c3, a4, M.g, c4⟩, rfl, HRZ.out, HL.out, HBZ.out⟩
end Go.Proofs.YtdboaoejlkkoeaaGreat
