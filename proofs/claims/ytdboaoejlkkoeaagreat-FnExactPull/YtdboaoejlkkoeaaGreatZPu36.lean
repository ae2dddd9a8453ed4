/-
  Walk of the law on Pull, out of the contracts of the specification's a
-/
import Derived.Test.YtdboaoejlkkoeaaGreatZPu35
namespace Go.Proofs.YtdboaoejlkkoeaaGreat
open Go.RowKit Pl Il
set_option maxRecDepth 100000 in
set_option maxHeartbeats 8000000 in
theorem exactPull_of (id most : Int) (v r : Rv) (td : List Td) (c : Int) (hSp : ∀ (M : Rm) (w : World), RIn w M v → RLe M 1048576 → RCap M → Calls Tryz.prog 32 #[.agg #[.int .i64 v.cp, .int .i64 v.se, .slice M.ia M.i M.ic, .int .i64 v.nx, .slice M.sa M.s M.sc, .slice M.la M.l M.lc, .slice M.ga M.g M.gc, .bool v.cl], .int .i64 id, .int .i64 most] w fun e w' => RgTd w r td c e w')
  (hIm : ∀ (M : Rm) (w : World), RIn w M v → RLe M 1048576 → RCap M → GOk w → Calls Tryz.prog 31 #[.agg #[.int .i64 v.cp, .int .i64 v.se, .slice M.ia M.i M.ic, .int .i64 v.nx, .slice M.sa M.s M.sc, .slice M.la M.l M.lc, .slice M.ga M.g M.gc, .bool v.cl], .int .i64 id, .int .i64 most] w fun e w' => RgTd w r td c e w') (M : Rm) (w : World) (hI : RIn w M v) (hm : RLe M 9223372036854775807) (hG : GOk w) :
  Calls Tryz.prog 15 #[.agg #[.int .i64 v.cp, .int .i64 v.se, .slice M.ia M.i M.ic, .int .i64 v.nx, .slice M.sa M.s M.sc, .slice M.la M.l M.lc, .slice M.ga M.g M.gc, .bool v.cl], .int .i64 id, .int .i64 most] w fun e w' => e = .returned (.bool true) ∧ Below w.heap.size w w' := by
 obtain ⟨W0, hW0⟩ : ∃ W, W = w.alloc (.cells #[.int .i64 v.cp, .int .i64 v.se, .slice M.ia M.i M.ic, .int .i64 v.nx, .slice M.sa M.s M.sc, .slice M.la M.l M.lc, .slice M.ga M.g M.gc, .bool v.cl] 68) := ⟨_, rfl⟩
 have b0 : Below w.heap.size w W0 := by rw [hW0]; exact bl_alloc (Below.refl _ _) _
 have X0 : BoxL w.heap.size (rC M v) W0 := by rw [hW0]; exact BoxL.new w (rC M v) _
 have HI := hidOf hI
 have HM := hidOf hm
 have HG := hidOf hG
 have HSp := hidOf hSp
 have HIm := hidOf hIm
 clear hI hm hSp hIm hG
 go_enter Tryz.func15, Tryz.ntmps15
 go_wp2_with fail
 rw [← hW0]
 clear hW0
 refine (szRing_any M v _ _ (HI.out.keep b0) HM.out (by omega) (by omega)).mono ?_
 rintro e w1 ⟨⟨k, rfl, hk⟩, hb1⟩
 have x1 := X0.keep hb1
 have B1 := bl_trans b0 hb1
 clear X0 hb1 b0
 rcases hk with hk | ⟨k0, k1, hle⟩
 ·go_wp2
  go_ret
  exact ⟨rfl, B1⟩
 have hk' : ¬ k < 0 := by omega
 have HL := hidOf (hle.mono (k' := 2097152) (by omega))
 have HL1 := hidOf hle
 clear hle HM k1
 have p0 := x1.cs 0 (by simp)
 have p1 := x1.cs 1 (by simp)
 have p2 := x1.cs 2 (by simp)
 have p3 := x1.cs 3 (by simp)
 have p4 := x1.cs 4 (by simp)
 have p5 := x1.cs 5 (by simp)
 have p6 := x1.cs 6 (by simp)
 have p7 := x1.cs 7 (by simp)
 simp at p0 p1 p2 p3 p4 p5 p6 p7
 go_wp2_with fail
 refine (toRing_any M v _ (HI.out.keep B1) HL.out).mono ?_
 rintro e w2 ⟨M2, rfl, hO2, hL2, hC2, hb2⟩
 have x2 := x1.keep hb2
 have B2 := bl_trans B1 hb2
 clear p0 p1 p2 p3 p4 p5 p6 p7 x1 hb2 B1
 go_wp2_with fail
 refine (HSp.out M2 _ hO2.rin (hL2 _ HL1.out) hC2).mono ?_
 rintro e w3 ⟨Mw, tw, nw, kw, rfl, hOw, hLw, hTw, hnw, hFw, hb3⟩
 have x3 := x2.keep hb3
 have B3 := bl_trans B2 hb3
 clear x2 hb3 B2 hO2 hL2 hC2 hFw
 obtain ⟨W3, hW3⟩ : ∃ W, w3.alloc (.cells #[.int .i64 r.cp, .int .i64 r.se, .slice Mw.ia Mw.i Mw.ic, .int .i64 r.nx, .slice Mw.sa Mw.s Mw.sc, .slice Mw.la Mw.l Mw.lc, .slice Mw.ga Mw.g Mw.gc, .bool r.cl] 28) = W := ⟨_, rfl⟩
 have b3 : Below w3.heap.size w3 W3 := by rw [← hW3]; exact bl_alloc (Below.refl _ _) _
 have y3 : BoxL w3.heap.size (rC Mw r) W3 := by rw [← hW3]; exact BoxL.new w3 (rC Mw r) _
 have x3b := x3.keep b3
 have B3b := bl_trans B3 b3
 have Iw := hidOf (hOw.rin.keep b3)
 have Tw := hidOf (hTw.td.keep b3)
 have Nw := hidOf hnw
 have Ow := hidOf hLw
 have UW := hidOf Iw.out.und
 have UT := hidOf (und_d Tw.out)
 clear hOw b3 x3 B3 hLw hTw hnw
 have p0 := x3b.cs 0 (by simp)
 have p1 := x3b.cs 1 (by simp)
 have p2 := x3b.cs 2 (by simp)
 have p3 := x3b.cs 3 (by simp)
 have p4 := x3b.cs 4 (by simp)
 have p5 := x3b.cs 5 (by simp)
 have p6 := x3b.cs 6 (by simp)
 have p7 := x3b.cs 7 (by simp)
 simp at p0 p1 p2 p3 p4 p5 p6 p7
 go_wp2_with fail
 refine (toRing_any M v _ (HI.out.keep B3b) HL.out).mono ?_
 rintro e w4 ⟨M4, rfl, hO4, hL4, hC4, hb4⟩
 clear p0 p1 p2 p3 p4 p5 p6 p7
 obtain ⟨W4, hW4⟩ : ∃ W, w4.alloc (.cells #[.int .i64 v.cp, .int .i64 v.se, .slice M4.ia M4.i M4.ic, .int .i64 v.nx, .slice M4.sa M4.s M4.sc, .slice M4.la M4.l M4.lc, .slice M4.ga M4.g M4.gc, .bool v.cl] 28) = W := ⟨_, rfl⟩
 have b4 : Below w4.heap.size w4 W4 := by rw [← hW4]; exact bl_alloc (Below.refl _ _) _
 have z4 : BoxL w4.heap.size (rC M4 v) W4 := by rw [← hW4]; exact BoxL.new w4 (rC M4 v) _
 have hb34 := bl_trans hb4 b4
 have x4 := x3b.keep hb34
 have y4 := y3.keep hb34
 have B4 := bl_trans B3b hb34
 have A4 := hidOf hO4.abv
 have U4 := hidOf hO4.rin.und
 have s34 := hidOf (show W3.heap.size ≤ W4.heap.size from hb34.size)
 have s4 := hidOf (show w4.heap.size ≤ W4.heap.size from b4.size)
 have O4 := hidOf (hO4.keep b4)
 have I4 := hidOf (Iw.out.keep hb34)
 have T4 := hidOf (Tw.out.keep hb34)
 have HLe4 := hidOf (hL4 _ HL.out)
 have HLe41 := hidOf (hL4 _ HL1.out)
 have HC4 := hidOf hC4
 have lx := hidOf x3b.lt
 have ly := hidOf y3.lt
 clear x3b y3 hb34 hb4 b4 hO4 hL4 hC4 Iw hW3 Tw
 have p0 := z4.cs 0 (by simp)
 have p1 := z4.cs 1 (by simp)
 have p2 := z4.cs 2 (by simp)
 have p3 := z4.cs 3 (by simp)
 have p4 := z4.cs 4 (by simp)
 have p5 := z4.cs 5 (by simp)
 have p6 := z4.cs 6 (by simp)
 have p7 := z4.cs 7 (by simp)
 simp at p0 p1 p2 p3 p4 p5 p6 p7
 go_wp2_with fail
 refine (HIm.out M4 _ O4.out.rin HLe41.out HC4.out (HG.out.keep B4)).mono ?_
 rintro e w6 ⟨M6, t6, n6, k6, rfl, hO6, hL6, hT6, hn6, hF6, hb6⟩
 clear p0 p1 p2 p3 p4 p5 p6 p7
 obtain ⟨W7, hW7⟩ : ∃ W, w6.alloc (.cells #[.int .i64 r.cp, .int .i64 r.se, .slice M6.ia M6.i M6.ic, .int .i64 r.nx, .slice M6.sa M6.s M6.sc, .slice M6.la M6.l M6.lc, .slice M6.ga M6.g M6.gc, .bool r.cl] 28) = W := ⟨_, rfl⟩
 have b7 : Below w6.heap.size w6 W7 := by rw [← hW7]; exact bl_alloc (Below.refl _ _) _
 have g7 : BoxL w6.heap.size (rC M6 r) W7 := by rw [← hW7]; exact BoxL.new w6 (rC M6 r) _
 have hb67 := bl_trans hb6 b7
 have x7 := x4.keep hb67
 have y7 := y4.keep hb67
 have z7 := z4.keep hb67
 have B7 := bl_trans B4 hb67
 have A6 := hidOf hO6.abv
 have AT := hidOf (abv_d hT6)
 have U6 := hidOf hO6.rin.und
 have UT6 := hidOf (und_d hT6.td)
 have F6 := hidOf hF6
 have N6 := hidOf hn6
 have O4b := hidOf (O4.out.keep hb67)
 have O6 := hidOf (hO6.keep b7)
 have T6 := hidOf (hT6.keep b7)
 have I7 := hidOf (I4.out.keep hb67)
 have T7 := hidOf (T4.out.keep hb67)
 have HL6 := hidOf hL6
 have s46 := hidOf (show W4.heap.size ≤ w6.heap.size from hb6.size)
 clear x4 y4 z4 B4 hb67 b7 hb6 hO6 hL6 O4 I4 hW4 hT6 hn6 hF6 T4
 have p0 := y7.cs 0 (by simp)
 have p1 := y7.cs 1 (by simp)
 have p2 := y7.cs 2 (by simp)
 have p3 := y7.cs 3 (by simp)
 have p4 := y7.cs 4 (by simp)
 have p5 := y7.cs 5 (by simp)
 have p6 := y7.cs 6 (by simp)
 have p7 := y7.cs 7 (by simp)
 simp at p0 p1 p2 p3 p4 p5 p6 p7
 have q0 := g7.cs 0 (by simp)
 have q1 := g7.cs 1 (by simp)
 have q2 := g7.cs 2 (by simp)
 have q3 := g7.cs 3 (by simp)
 have q4 := g7.cs 4 (by simp)
 have q5 := g7.cs 5 (by simp)
 have q6 := g7.cs 6 (by simp)
 have q7 := g7.cs 7 (by simp)
 simp at q0 q1 q2 q3 q4 q5 q6 q7
 go_wp2_with fail
 refine (eqRing_same M6 Mw r _ O6.out.rin I7.out HL6.out Ow.out).mono ?_
 rintro e w8a ⟨rfl, hb8a⟩
 have HEq := hidOf (eqToldS_two t6 tw n6 nw k6 kw td w8a (T6.out.td.keep hb8a) (T7.out.keep hb8a) N6.out)
 go_wp2_with fail
 refine HEq.out.mono ?_
 rintro e w8 ⟨rfl, hb8b⟩
 have hb8 := bl_trans hb8a hb8b
 have hS : LawXS w w4.heap.size M M4 v w8 w8 := LawX.s ⟨x7.keep hb8, z7.keep hb8, O4b.out.rin.keep hb8, bl_trans B7 hb8, Below.refl _ _⟩
 have y8 := y7.keep hb8
 have g8 := g7.keep hb8
 have O4c := hidOf (O4b.out.keep hb8)
 have O6b := hidOf (O6.out.keep hb8)
 have T6b := hidOf (T6.out.keep hb8)
 have I8 := hidOf (I7.out.keep hb8)
 have T8 := hidOf (T7.out.keep hb8)
 clear p0 p1 p2 p3 p4 p5 p6 p7 q0 q1 q2 q3 q4 q5 q6 q7 x7 y7 z7 g7 B7 hb8 O4b O6 I7 hW7 hb8a hb8b HEq T6 T7
 have Y8 := hidOf y8
 have G8 := hidOf g8
 clear y8 g8
 go_wp2_with fail
 go_region_held3 (fun w' => LawXS w w4.heap.size M M4 v w8 w') (first | (exact hS.drew) | (exact LawXS.keep (by assumption) (by assumption)))
  (first
   | (go_at_call 48; refine (toRing_any M v _ (HI.out.keep (LawXS.law (by assumption)).below) HL.out).mono ?_; rintro e w9 ⟨M9, rfl, hO9, hL9, hC9, hb9⟩)
   | (go_at_call 50; refine (eqRing_same M4 M9 v _ (LawXS.law (by assumption)).cop hO9.rin HLe4.out (hL9 _ HL.out)).mono ?_; rintro e w10 ⟨rfl, hb10⟩))
 rename_i u9 hT
 have L9 := hidOf (LawXS.law hT)
 clear hS hT
 have z9 := L9.out.own
 have HMk := hidOf (markRing_any W3.heap.size M4 v 1 _ (O4c.out.keep L9.out.since) HLe4.out (by omega) (by omega))
 have p0 := z9.cs 0 (by simp)
 have p1 := z9.cs 1 (by simp)
 have p2 := z9.cs 2 (by simp)
 have p3 := z9.cs 3 (by simp)
 have p4 := z9.cs 4 (by simp)
 have p5 := z9.cs 5 (by simp)
 have p6 := z9.cs 6 (by simp)
 have p7 := z9.cs 7 (by simp)
 simp at p0 p1 p2 p3 p4 p5 p6 p7
 go_wp2_with fail
 refine HMk.out.mono ?_
 rintro e w10 ⟨he, -, t10⟩
 obtain ⟨m4, hm4⟩ : ∃ m : Int, ((1 + cntR M4 : Nat) : Int) = m := ⟨_, rfl⟩
 rw [hm4] at he
 subst he
 have n4 : ¬ m4 < 0 := by omega
 have y10 := (Y8.out.keep L9.out.since).turnA t10 ly.out A4.out
 have x10 := L9.out.arg.turnA t10 lx.out A4.out
 have g10 := (G8.out.keep L9.out.since).turn t10 fun p hp => (U4.out p hp).mono (Nat.le_trans s4.out s46.out)
 have I10 := hidOf ((I8.out.keep L9.out.since).turn t10 fun p hp q hq => (Far.mk (UW.out q hq) (A4.out p hp)).symm)
 have Tw10 := hidOf (TdAt.turn (T8.out.keep L9.out.since) t10 fun p hp => (Far.mk UT.out (A4.out p hp)).symm)
 have O10 := hidOf ((O6b.out.keep L9.out.since).turn t10 fun p hp q hq => Far.mk ((U4.out p hp).mono s4.out) (A6.out q hq))
 have To10 := hidOf (OwnD.turn (T6b.out.keep L9.out.since) t10 fun p hp => Far.mk ((U4.out p hp).mono s4.out) AT.out)
 have B10 := L9.out.below.trans (t10.below L9.out.below.size fun p hp => (A4.out p hp).mono (Nat.le_of_lt lx.out))
 clear p0 p1 p2 p3 p4 p5 p6 p7 z9 HMk L9 Y8 G8 I8 O4c O6b hm4 t10 T6b T8
 have p0 := y10.cs 0 (by simp)
 have p1 := y10.cs 1 (by simp)
 have p2 := y10.cs 2 (by simp)
 have p3 := y10.cs 3 (by simp)
 have p4 := y10.cs 4 (by simp)
 have p5 := y10.cs 5 (by simp)
 have p6 := y10.cs 6 (by simp)
 have p7 := y10.cs 7 (by simp)
 simp at p0 p1 p2 p3 p4 p5 p6 p7
 have q0 := g10.cs 0 (by simp)
 have q1 := g10.cs 1 (by simp)
 have q2 := g10.cs 2 (by simp)
 have q3 := g10.cs 3 (by simp)
 have q4 := g10.cs 4 (by simp)
 have q5 := g10.cs 5 (by simp)
 have q6 := g10.cs 6 (by simp)
 have q7 := g10.cs 7 (by simp)
 simp at q0 q1 q2 q3 q4 q5 q6 q7
 go_wp2_with fail
 refine (eqRing_same M6 Mw r _ O10.out.rin I10.out HL6.out Ow.out).mono ?_
 rintro e w11a ⟨rfl, hb11a⟩
 have HEq := hidOf (eqToldS_two t6 tw n6 nw k6 kw td w11a (To10.out.td.keep hb11a) (Tw10.out.keep hb11a) N6.out)
 go_wp2_with fail
 refine HEq.out.mono ?_
 rintro e w11 ⟨rfl, hb11b⟩
 have hb11 := bl_trans hb11a hb11b
 have y11 := y10.keep hb11
 have x11 := x10.keep hb11
 have g11 := g10.keep hb11
 have I11 := hidOf (I10.out.keep hb11)
 have Tw11 := hidOf (Tw10.out.keep hb11)
 have To11 := hidOf (To10.out.keep hb11)
 have B11 := bl_trans B10 hb11
 have HMk := hidOf (markRing_any W4.heap.size M6 r 1 _ (O10.out.keep hb11) HL6.out (by omega) (by omega))
 have hl6 := hidOf O10.out.sb.sub.len
 clear p0 p1 p2 p3 p4 p5 p6 p7 q0 q1 q2 q3 q4 q5 q6 q7 y10 x10 g10 I10 O10 B10 hb11 hb11a hb11b HEq Tw10 To10
 have q0 := g11.cs 0 (by simp)
 have q1 := g11.cs 1 (by simp)
 have q2 := g11.cs 2 (by simp)
 have q3 := g11.cs 3 (by simp)
 have q4 := g11.cs 4 (by simp)
 have q5 := g11.cs 5 (by simp)
 have q6 := g11.cs 6 (by simp)
 have q7 := g11.cs 7 (by simp)
 simp at q0 q1 q2 q3 q4 q5 q6 q7
 go_wp2_with fail
 refine HMk.out.mono ?_
 rintro e w12 ⟨he, o12, t12⟩
 obtain ⟨m6, hm6⟩ : ∃ m : Nat, 1 + cntR M6 = m := ⟨_, rfl⟩
 rw [hm6] at he
 subst he
 have n6' : ¬ (m6 : Int) < 0 := by omega
 have p6 : 0 < m6 := by omega
 have hm6le : m6 + 6 * n6 ≤ 4000000000000000000 := by have := cntR_le HL6.out hl6.out; have := N6.out; omega
 have Hm6 := hidOf hm6
 have y12 := y11.turnA t12 (Nat.lt_of_lt_of_le ly.out s34.out) A6.out
 have x12 := x11.turnA t12 (Nat.lt_of_lt_of_le lx.out s34.out) A6.out
 have g12 := g11.turn t12 U6.out
 have I12 := hidOf (I11.out.turn t12 fun p hp q hq => (Far.mk ((UW.out q hq).mono s34.out) (A6.out p hp)).symm)
 have Tw12 := hidOf (TdAt.turn Tw11.out t12 fun p hp => (Far.mk (UT.out.mono s34.out) (A6.out p hp)).symm)
 have To12 := hidOf (OwnD.turn To11.out t12 fun p hp => F6.out p hp)
 have K12 := hidOf o12.rin
 have B12 := B11.trans (t12.below B11.size fun p hp => (A6.out p hp).mono (Nat.le_of_lt (Nat.lt_of_lt_of_le lx.out s34.out)))
 have HMi := hidOf (markToldS_any W4.heap.size t6 n6 k6 td m6 w12 To12.out N6.out p6 hm6le)
 clear q0 q1 q2 q3 q4 q5 q6 q7 y11 x11 g11 I11 B11 HMk o12 t12 hm6 Tw11 To11 To12
 go_wp2_with fail
 refine HMi.out.mono ?_
 rintro e w12b ⟨he, o12b, t12b⟩
 have tt := TurnL.ofF t12b
 obtain ⟨m7, hm7⟩ : ∃ m : Nat, m6 + 6 * n6 = m := ⟨_, rfl⟩
 rw [hm7] at he
 subst he
 have n7 : ¬ (m7 : Int) < 0 := by omega
 have Hm7 := hidOf hm7
 have oneT : ∀ {Q : Option Addr × Nat → Prop}, Q (t6, n6) → ∀ p, p ∈ [(t6, n6)] → Q p := fun h p hp => by rw [List.mem_singleton] at hp; subst hp; exact h
 have y12b := y12.turnA tt (Nat.lt_of_lt_of_le ly.out s34.out) (oneT AT.out)
 have x12b := x12.turnA tt (Nat.lt_of_lt_of_le lx.out s34.out) (oneT AT.out)
 have g12b := g12.turn tt (oneT UT6.out)
 have I12b := hidOf (I12.out.turn tt (oneT fun q hq => (Far.mk ((UW.out q hq).mono s34.out) AT.out).symm))
 have Tw12b := hidOf (TdAt.turn Tw12.out tt (oneT (Far.mk (UT.out.mono s34.out) AT.out).symm))
 have K12b := hidOf (K12.out.turn tt (oneT fun q hq => (F6.out q (by rw [allR_mk] at hq; exact hq)).symm))
 have Kt := hidOf o12b.td
 have B12b := B12.trans (tt.below B12.size (oneT (AT.out.mono (Nat.le_of_lt (Nat.lt_of_lt_of_le lx.out s34.out)))))
 clear y12 x12 g12 I12 Tw12 K12 B12 HMi o12b t12b tt hm7 oneT
 have q0 := g12b.cs 0 (by simp)
 have q1 := g12b.cs 1 (by simp)
 have q2 := g12b.cs 2 (by simp)
 have q3 := g12b.cs 3 (by simp)
 have q4 := g12b.cs 4 (by simp)
 have q5 := g12b.cs 5 (by simp)
 have q6 := g12b.cs 6 (by simp)
 have q7 := g12b.cs 7 (by simp)
 simp at q0 q1 q2 q3 q4 q5 q6 q7
 go_wp2_with fail
 refine (heldRing_marks M6 r r 1 _ K12b.out HL6.out (by omega) (by omega) hl6.out).mono ?_
 rintro e w13 ⟨he, hb13⟩
 rw [Hm6.out] at he
 subst he
 have HHi := hidOf (heldToldS_marks t6 n6 k6 m6 w13 (Kt.out.keep hb13) N6.out p6 hm6le)
 rw [Hm7.out] at HHi
 have y13 := y12b.keep hb13
 have x13 := x12b.keep hb13
 have g13 := g12b.keep hb13
 have I13 := hidOf (I12b.out.keep hb13)
 have Tw13 := hidOf (Tw12b.out.keep hb13)
 have K13 := hidOf (K12b.out.keep hb13)
 have Kt13 := hidOf (Kt.out.keep hb13)
 have B13 := bl_trans B12b hb13
 clear q0 q1 q2 q3 q4 q5 q6 q7 y12b x12b g12b I12b K12b B12b hb13 Tw12b Kt
 go_wp2_with fail
 refine HHi.out.mono ?_
 rintro e w13b ⟨rfl, hb13b⟩
 replace y13 := y13.keep hb13b
 replace g13 := g13.keep hb13b
 replace I13 := hidOf (I13.out.keep hb13b)
 replace Tw13 := hidOf (Tw13.out.keep hb13b)
 replace K13 := hidOf (K13.out.keep hb13b)
 replace Kt13 := hidOf (Kt13.out.keep hb13b)
 replace B13 := bl_trans B13 hb13b
 replace x13 := x13.keep hb13b
 clear hb13b
 have p0 := x13.cs 0 (by simp)
 have p1 := x13.cs 1 (by simp)
 have p2 := x13.cs 2 (by simp)
 have p3 := x13.cs 3 (by simp)
 have p4 := x13.cs 4 (by simp)
 have p5 := x13.cs 5 (by simp)
 have p6 := x13.cs 6 (by simp)
 have p7 := x13.cs 7 (by simp)
 simp at p0 p1 p2 p3 p4 p5 p6 p7
 go_wp2_with fail
 refine (toRing_any M v _ (HI.out.keep B13) HL.out).mono ?_
 rintro e w14 ⟨M14, rfl, hO14, hL14, hC14, hb14⟩
 have y14 := y13.keep hb14
 have g14 := g13.keep hb14
 have I14 := hidOf (I13.out.keep hb14)
 have Tw14 := hidOf (Tw13.out.keep hb14)
 have K14 := hidOf (K13.out.keep hb14)
 have Kt14 := hidOf (Kt13.out.keep hb14)
 have B14 := bl_trans B13 hb14
 clear p0 p1 p2 p3 p4 p5 p6 p7 x13 y13 g13 I13 K13 B13 hb14 Tw13 Kt13 HHi
 go_wp2_with fail
 refine (HIm.out M14 _ hO14.rin (hL14 _ HL1.out) hC14 (HG.out.keep B14)).mono ?_
 rintro e w15 ⟨M15, t15, n15, k15, rfl, hO15, hL15, hT15, hn15, hF15, hb15⟩
 obtain ⟨W16, hW16⟩ : ∃ W, w15.alloc (.cells #[.int .i64 r.cp, .int .i64 r.se, .slice M15.ia M15.i M15.ic, .int .i64 r.nx, .slice M15.sa M15.s M15.sc, .slice M15.la M15.l M15.lc, .slice M15.ga M15.g M15.gc, .bool r.cl] 28) = W := ⟨_, rfl⟩
 have b16 : Below w15.heap.size w15 W16 := by rw [← hW16]; exact bl_alloc (Below.refl _ _) _
 have z16 : BoxL w15.heap.size (rC M15 r) W16 := by rw [← hW16]; exact BoxL.new w15 (rC M15 r) _
 have hb16 := bl_trans hb15 b16
 have y16 := y14.keep hb16
 have g16 := g14.keep hb16
 have I16 := hidOf (I14.out.keep hb16)
 have Tw16 := hidOf (Tw14.out.keep hb16)
 have K16 := hidOf (K14.out.keep hb16)
 have Kt16 := hidOf (Kt14.out.keep hb16)
 have B16 := bl_trans B14 hb16
 have J16 := hidOf (hO15.rin.keep b16)
 have Jt16 := hidOf (hT15.td.keep b16)
 have N15 := hidOf hn15
 have HL15 := hidOf hL15
 clear y14 g14 I14 K14 B14 hb16 b16 hb15 hO14 hL14 hC14 hO15 hL15 Tw14 Kt14 hT15 hn15 hF15
 have p0 := y16.cs 0 (by simp)
 have p1 := y16.cs 1 (by simp)
 have p2 := y16.cs 2 (by simp)
 have p3 := y16.cs 3 (by simp)
 have p4 := y16.cs 4 (by simp)
 have p5 := y16.cs 5 (by simp)
 have p6 := y16.cs 6 (by simp)
 have p7 := y16.cs 7 (by simp)
 simp at p0 p1 p2 p3 p4 p5 p6 p7
 have q0 := z16.cs 0 (by simp)
 have q1 := z16.cs 1 (by simp)
 have q2 := z16.cs 2 (by simp)
 have q3 := z16.cs 3 (by simp)
 have q4 := z16.cs 4 (by simp)
 have q5 := z16.cs 5 (by simp)
 have q6 := z16.cs 6 (by simp)
 have q7 := z16.cs 7 (by simp)
 simp at q0 q1 q2 q3 q4 q5 q6 q7
 go_wp2_with fail
 refine (eqRing_same M15 Mw r _ J16.out I16.out HL15.out Ow.out).mono ?_
 rintro e w17a ⟨rfl, hb17a⟩
 have HEq := hidOf (eqToldS_two t15 tw n15 nw k15 kw td w17a (Jt16.out.keep hb17a) (Tw16.out.keep hb17a) N15.out)
 go_wp2_with fail
 refine HEq.out.mono ?_
 rintro e w17 ⟨rfl, hb17b⟩
 have hb17 := bl_trans hb17a hb17b
 have g17 := g16.keep hb17
 have K17 := hidOf (K16.out.keep hb17)
 have Kt17 := hidOf (Kt16.out.keep hb17)
 have B17 := bl_trans B16 hb17
 clear p0 p1 p2 p3 p4 p5 p6 p7 q0 q1 q2 q3 q4 q5 q6 q7 y16 z16 g16 I16 K16 B16 hb17 hW16 hb17a hb17b HEq Tw16 Kt16 Jt16
 have q0 := g17.cs 0 (by simp)
 have q1 := g17.cs 1 (by simp)
 have q2 := g17.cs 2 (by simp)
 have q3 := g17.cs 3 (by simp)
 have q4 := g17.cs 4 (by simp)
 have q5 := g17.cs 5 (by simp)
 have q6 := g17.cs 6 (by simp)
 have q7 := g17.cs 7 (by simp)
 simp at q0 q1 q2 q3 q4 q5 q6 q7
 go_wp2_with fail
 refine (heldRing_marks M6 r r 1 _ K17.out HL6.out (by omega) (by omega) hl6.out).mono ?_
 rintro e w18 ⟨he, hb18⟩
 rw [Hm6.out] at he
 subst he
 have HHi := hidOf (heldToldS_marks t6 n6 k6 m6 w18 (Kt17.out.keep hb18) N6.out p6 hm6le)
 rw [Hm7.out] at HHi
 have B18 := bl_trans B17 hb18
 clear q0 q1 q2 q3 q4 q5 q6 q7 g17 K17 B17 hb18 Kt17
 go_wp2_with fail
 refine HHi.out.mono ?_
 rintro e w19 ⟨rfl, hb19⟩
 replace B18 := bl_trans B18 hb19
 go_wp2
 go_ret
 exact ⟨rfl, B18⟩
end Go.Proofs.YtdboaoejlkkoeaaGreat
