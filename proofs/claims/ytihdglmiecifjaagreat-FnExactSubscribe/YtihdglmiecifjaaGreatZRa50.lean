/-
  Walk of the law on Subscribe, out of the contracts of the specification's and the program's.
-/
import Derived.Test.YtihdglmiecifjaaGreatZRa19
import Derived.Test.YtihdglmiecifjaaGreatZRa49
import Derived.Test.YtihdglmiecifjaaGreatZRa7
import Derived.Deep.RegionHeld3
namespace Go.Proofs.YtihdglmiecifjaaGreat
open Go.RowKit Pl Il

set_option maxRecDepth 100000 in
set_option maxHeartbeats 8000000 in
theorem exactSubscribe_of (n : Nat) (ts : List Tm) (back : Bool) (v r : Rv) (ic c : Int) (hSp : ∀ (M : Rm) (a : Option Addr) (cap : Nat) (w : World), RIn w M v → RLe M 1048576 → RCap M → TmAt w a n ts → n ≤ 1048576 → Calls Tryz.prog 57 #[.agg #[.int .i64 v.cp, .int .i64 v.se, .slice M.ia M.i M.ic, .int .i64 v.nx, .slice M.sa M.s M.sc, .slice M.la M.l M.lc, .slice M.ga M.g M.gc, .bool v.cl], .slice a n cap, .bool back] w fun e w' => RgI w r ic c e w') (hIm : ∀ (M : Rm) (a : Option Addr) (cap : Nat) (w : World), RIn w M v → RLe M 1048576 → RCap M → TmAt w a n ts → n ≤ 1048576 → Calls Tryz.prog 59 #[.agg #[.int .i64 v.cp, .int .i64 v.se, .slice M.ia M.i M.ic, .int .i64 v.nx, .slice M.sa M.s M.sc, .slice M.la M.l M.lc, .slice M.ga M.g M.gc, .bool v.cl], .slice a n cap, .bool back] w fun e w' => RgI w r ic c e w') (M : Rm) (a : Option Addr) (cap : Nat) (w : World) (hI : RIn w M v) (hm : RLe M 9223372036854775807) (hT : TmAt w a n ts) (hn : n ≤ 9223372036854775807) :
    Calls Tryz.prog 9 #[.agg #[.int .i64 v.cp, .int .i64 v.se, .slice M.ia M.i M.ic, .int .i64 v.nx, .slice M.sa M.s M.sc, .slice M.la M.l M.lc, .slice M.ga M.g M.gc, .bool v.cl], .slice a n cap, .bool back] w fun e w' => e = .returned (.bool true) ∧ Below w.heap.size w w' := by
  have HT := hidOf hT
  have HN := hidOf hn
  clear hT hn
  obtain ⟨W0, hW0⟩ : ∃ W, W = w.alloc (.cells #[.int .i64 v.cp, .int .i64 v.se, .slice M.ia M.i M.ic, .int .i64 v.nx, .slice M.sa M.s M.sc, .slice M.la M.l M.lc, .slice M.ga M.g M.gc, .bool v.cl] 68) := ⟨_, rfl⟩
  have b0 : Below w.heap.size w W0 := by rw [hW0]; exact bl_alloc (Below.refl _ _) _
  have X0 : BoxL w.heap.size (rC M v) W0 := by rw [hW0]; exact BoxL.new w (rC M v) _
  have HI := hidOf hI
  have HM := hidOf hm
  have HSp := hidOf hSp
  have HIm := hidOf hIm
  clear hI hm hSp hIm
  go_enter Tryz.func9, Tryz.ntmps9
  go_wp2_with fail
  rw [← hW0]
  clear hW0
  refine (szRing_any M v _ _ (HI.out.keep b0) HM.out (by omega) (by omega)).mono ?_
  rintro e w1 ⟨⟨k, rfl, hk⟩, hb1⟩
  have x1 := X0.keep hb1
  have B1 := bl_trans b0 hb1
  clear X0 hb1 b0
  rcases hk with hk | ⟨k0, k1, hle⟩
  · go_wp2
    go_ret
    exact ⟨rfl, B1⟩
  have hk' : ¬ k < 0 := by omega
  have HL := hidOf (hle.mono (k' := 2097152) (by omega))
  have HL1 := hidOf hle
  clear hle HM
  go_wp2_with fail
  refine (szTermS_any a n cap ts k _ (HT.out.keep B1) HN.out k0 k1).mono ?_
  rintro e w1b ⟨⟨k2, rfl, hk2⟩, hb1b⟩
  have x1 := x1.keep hb1b
  have B1 := bl_trans B1 hb1b
  clear hb1b
  rcases hk2 with hk2 | ⟨k20, k21, hn1⟩
  · go_wp2
    go_ret
    exact ⟨rfl, B1⟩
  have hk2' : ¬ k2 < 0 := by omega
  have HN1 := hidOf hn1
  have HN2 := hidOf (show n ≤ 2097152 by omega)
  clear hn1 k1 k21
  have p0 := x1.cs 0 (by simp)
  have p1 := x1.cs 1 (by simp)
  have p2 := x1.cs 2 (by simp)
  have p3 := x1.cs 3 (by simp)
  have p4 := x1.cs 4 (by simp)
  have p5 := x1.cs 5 (by simp)
  have p6 := x1.cs 6 (by simp)
  have p7 := x1.cs 7 (by simp)
  simp at p0 p1 p2 p3 p4 p5 p6 p7
  go_wp2_with fail
  refine (toRing_any M v _ (HI.out.keep B1) HL.out).mono ?_
  rintro e w2 ⟨M2, rfl, hO2, hL2, hC2, hb2⟩
  have x2 := x1.keep hb2
  have B2 := bl_trans B1 hb2
  clear p0 p1 p2 p3 p4 p5 p6 p7 x1 hb2 B1
  go_wp2_with fail
  refine (toTermS_any a n cap ts _ (HT.out.keep B2) HN2.out).mono ?_
  rintro e w2t ⟨rfl, hF2, hb2t⟩
  have x2 := x2.keep hb2t
  have B2 := bl_trans B2 hb2t
  have hO2 := hO2.keep hb2t
  go_wp2_with fail
  refine (HSp.out M2 _ _ _ hO2.rin (hL2 _ HL1.out) hC2 hF2.tm HN1.out).mono ?_
  rintro e w3 ⟨Mw, rfl, hOw, hLw, hb3⟩
  have x3 := x2.keep hb3
  have B3 := bl_trans B2 hb3
  clear x2 hb3 B2 hO2 hL2 hC2
  obtain ⟨W3, hW3⟩ : ∃ W, w3.alloc (.cells #[.int .i64 r.cp, .int .i64 r.se, .slice Mw.ia Mw.i Mw.ic, .int .i64 r.nx, .slice Mw.sa Mw.s Mw.sc, .slice Mw.la Mw.l Mw.lc, .slice Mw.ga Mw.g Mw.gc, .bool r.cl] 28) = W := ⟨_, rfl⟩
  have b3 : Below w3.heap.size w3 W3 := by rw [← hW3]; exact bl_alloc (Below.refl _ _) _
  have y3 : BoxL w3.heap.size (rC Mw r) W3 := by rw [← hW3]; exact BoxL.new w3 (rC Mw r) _
  have x3b := x3.keep b3
  have B3b := bl_trans B3 b3
  have Iw := hidOf (hOw.rin.keep b3)
  have Ow := hidOf hLw
  have UW := hidOf Iw.out.und
  clear hOw b3 x3 B3 hLw
  have p0 := x3b.cs 0 (by simp)
  have p1 := x3b.cs 1 (by simp)
  have p2 := x3b.cs 2 (by simp)
  have p3 := x3b.cs 3 (by simp)
  have p4 := x3b.cs 4 (by simp)
  have p5 := x3b.cs 5 (by simp)
  have p6 := x3b.cs 6 (by simp)
  have p7 := x3b.cs 7 (by simp)
  simp at p0 p1 p2 p3 p4 p5 p6 p7
  go_wp2_with fail
  refine (toRing_any M v _ (HI.out.keep B3b) HL.out).mono ?_
  rintro e w4 ⟨M4, rfl, hO4, hL4, hC4, hb4⟩
  clear p0 p1 p2 p3 p4 p5 p6 p7
  obtain ⟨W4a, hW4⟩ : ∃ W, w4.alloc (.cells #[.int .i64 v.cp, .int .i64 v.se, .slice M4.ia M4.i M4.ic, .int .i64 v.nx, .slice M4.sa M4.s M4.sc, .slice M4.la M4.l M4.lc, .slice M4.ga M4.g M4.gc, .bool v.cl] 28) = W := ⟨_, rfl⟩
  have b4a : Below w4.heap.size w4 W4a := by rw [← hW4]; exact bl_alloc (Below.refl _ _) _
  have z4a : BoxL w4.heap.size (rC M4 v) W4a := by rw [← hW4]; exact BoxL.new w4 (rC M4 v) _
  go_wp2_with fail
  refine (toTermS_any a n cap ts _ (HT.out.keep (bl_trans (bl_trans B3b hb4) b4a)) HN2.out).mono ?_
  rintro e W4 ⟨rfl, hF4, hb4t⟩
  have b4 := bl_trans b4a hb4t
  have z4 := z4a.keep hb4t
  obtain ⟨fa, hfa⟩ : ∃ fa : Option Addr, some (⟨W4a.heap.size, 0, none⟩ : Addr) = fa := ⟨_, rfl⟩
  rw [hfa] at hF4
  have AF := hidOf (show Abv fa n W3.heap.size from .inr fun b off e => by rw [← hfa] at e; cases e; have h1 := hb4.size; have h2 := b4a.size; omega)
  have UF := hidOf (show Und fa n W4.heap.size by
    rcases hF4.tm.row with h | ⟨b, off, e, hlt, _⟩
    · exact .inl h
    · exact .inr fun b' o' e' => by rw [e] at e'; cases e'; exact hlt)
  have AF4 := hidOf (show Abv fa n w4.heap.size from .inr fun b off e => by rw [← hfa] at e; cases e; have h2 := b4a.size; omega)
  have hF4 := hidOf hF4
  clear z4a b4a hb4t hW4
  have hb34 := bl_trans hb4 b4
  have x4 := x3b.keep hb34
  have y4 := y3.keep hb34
  have B4 := bl_trans B3b hb34
  have A4 := hidOf hO4.abv
  have U4 := hidOf hO4.rin.und
  have s34 := hidOf (show W3.heap.size ≤ W4.heap.size from hb34.size)
  have s4 := hidOf (show w4.heap.size ≤ W4.heap.size from b4.size)
  have O4 := hidOf (hO4.keep b4)
  have I4 := hidOf (Iw.out.keep hb34)
  have HLe4 := hidOf (hL4 _ HL.out)
  have HLe41 := hidOf (hL4 _ HL1.out)
  have HC4 := hidOf hC4
  have lx := hidOf x3b.lt
  have ly := hidOf y3.lt
  clear x3b y3 hb34 hb4 b4 hO4 hL4 hC4 Iw hW3
  try rw [hfa]
  clear hfa
  have p0 := z4.cs 0 (by simp)
  have p1 := z4.cs 1 (by simp)
  have p2 := z4.cs 2 (by simp)
  have p3 := z4.cs 3 (by simp)
  have p4 := z4.cs 4 (by simp)
  have p5 := z4.cs 5 (by simp)
  have p6 := z4.cs 6 (by simp)
  have p7 := z4.cs 7 (by simp)
  simp at p0 p1 p2 p3 p4 p5 p6 p7
  go_wp2_with fail
  refine (HIm.out M4 _ _ _ O4.out.rin HLe41.out HC4.out hF4.out.tm HN1.out).mono ?_
  rintro e w6 ⟨M6, rfl, hO6, hL6, hb6⟩
  clear p0 p1 p2 p3 p4 p5 p6 p7
  obtain ⟨W7, hW7⟩ : ∃ W, w6.alloc (.cells #[.int .i64 r.cp, .int .i64 r.se, .slice M6.ia M6.i M6.ic, .int .i64 r.nx, .slice M6.sa M6.s M6.sc, .slice M6.la M6.l M6.lc, .slice M6.ga M6.g M6.gc, .bool r.cl] 28) = W := ⟨_, rfl⟩
  have b7 : Below w6.heap.size w6 W7 := by rw [← hW7]; exact bl_alloc (Below.refl _ _) _
  have g7 : BoxL w6.heap.size (rC M6 r) W7 := by rw [← hW7]; exact BoxL.new w6 (rC M6 r) _
  have hb67 := bl_trans hb6 b7
  have x7 := x4.keep hb67
  have y7 := y4.keep hb67
  have z7 := z4.keep hb67
  have B7 := bl_trans B4 hb67
  have A6 := hidOf hO6.abv
  have U6 := hidOf hO6.rin.und
  have O4b := hidOf (O4.out.keep hb67)
  have O6 := hidOf (hO6.keep b7)
  have I7 := hidOf (I4.out.keep hb67)
  have HL6 := hidOf hL6
  have s46 := hidOf (show W4.heap.size ≤ w6.heap.size from hb6.size)
  have F7 := hidOf (hF4.out.keep hb67)
  clear x4 y4 z4 B4 hb67 b7 hb6 hO6 hL6 O4 I4 hF4
  have p0 := y7.cs 0 (by simp)
  have p1 := y7.cs 1 (by simp)
  have p2 := y7.cs 2 (by simp)
  have p3 := y7.cs 3 (by simp)
  have p4 := y7.cs 4 (by simp)
  have p5 := y7.cs 5 (by simp)
  have p6 := y7.cs 6 (by simp)
  have p7 := y7.cs 7 (by simp)
  simp at p0 p1 p2 p3 p4 p5 p6 p7
  have q0 := g7.cs 0 (by simp)
  have q1 := g7.cs 1 (by simp)
  have q2 := g7.cs 2 (by simp)
  have q3 := g7.cs 3 (by simp)
  have q4 := g7.cs 4 (by simp)
  have q5 := g7.cs 5 (by simp)
  have q6 := g7.cs 6 (by simp)
  have q7 := g7.cs 7 (by simp)
  simp at q0 q1 q2 q3 q4 q5 q6 q7
  go_wp2_with fail
  refine (eqRing_same M6 Mw r _ O6.out.rin I7.out HL6.out Ow.out).mono ?_
  rintro e w8 ⟨rfl, hb8⟩
  have hS : LawXS w w4.heap.size M M4 v w8 w8 := LawX.s ⟨x7.keep hb8, z7.keep hb8, O4b.out.rin.keep hb8, bl_trans B7 hb8, Below.refl _ _⟩
  have y8 := y7.keep hb8
  have g8 := g7.keep hb8
  have O4c := hidOf (O4b.out.keep hb8)
  have O6b := hidOf (O6.out.keep hb8)
  have I8 := hidOf (I7.out.keep hb8)
  have F8 := hidOf (F7.out.keep hb8)
  clear p0 p1 p2 p3 p4 p5 p6 p7 q0 q1 q2 q3 q4 q5 q6 q7 x7 y7 z7 g7 B7 hb8 O4b O6 I7 hW7
  have Y8 := hidOf y8
  have G8 := hidOf g8
  clear y8 g8
  go_wp2_with fail
  go_region_held3 (fun w' => LawXS w w4.heap.size M M4 v w8 w') (first | (exact hS.drew) | (exact LawXS.keep (by assumption) (by assumption)))
    (first
      | (go_at_call 48; refine (toRing_any M v _ (HI.out.keep (LawXS.law (by assumption)).below) HL.out).mono ?_; rintro e w9 ⟨M9, rfl, hO9, hL9, hC9, hb9⟩)
      | (go_at_call 50; refine (eqRing_same M4 M9 v _ (LawXS.law (by assumption)).cop hO9.rin HLe4.out (hL9 _ HL.out)).mono ?_; rintro e w10 ⟨rfl, hb10⟩))
  rename_i u9 hT
  have L9 := hidOf (LawXS.law hT)
  clear hS hT F7
  go_wp2_with fail
  refine (toTermS_any a n cap ts _ (HT.out.keep L9.out.below) HN2.out).mono ?_
  rintro e w9t ⟨rfl, hF9, hb9t⟩
  go_wp2_with fail
  refine (eqTermS_any _ _ _ _ _ _ ts ts _ ((F8.out.keep L9.out.since).keep hb9t).tm hF9.tm HN2.out HN2.out).mono ?_
  rintro e w9e ⟨he, hb9e⟩
  rw [eqFL_self] at he
  subst he
  have L9 := hidOf ((L9.out.keep hb9t).keep hb9e)
  have z9 := L9.out.own
  have HMk := hidOf (markRing_any W3.heap.size M4 v 1 _ (O4c.out.keep L9.out.since) HLe4.out (by omega) (by omega))
  have p0 := z9.cs 0 (by simp)
  have p1 := z9.cs 1 (by simp)
  have p2 := z9.cs 2 (by simp)
  have p3 := z9.cs 3 (by simp)
  have p4 := z9.cs 4 (by simp)
  have p5 := z9.cs 5 (by simp)
  have p6 := z9.cs 6 (by simp)
  have p7 := z9.cs 7 (by simp)
  simp at p0 p1 p2 p3 p4 p5 p6 p7
  go_wp2_with fail
  refine HMk.out.mono ?_
  rintro e w10 ⟨he, -, t10⟩
  obtain ⟨K4, hm4⟩ : ∃ K : Nat, 1 + cntR M4 = K := ⟨_, rfl⟩
  have HK4 := hidOf (show 0 < K4 ∧ K4 ≤ 1000000000000000000 by
    have h := HLe4.out
    have h1 := cntS_le h.f M4.xs.length
    rw [List.take_length] at h1
    have h2 := O4c.out.sb.sub.len
    have h3 := h.s
    have h4 := h.i
    have h5 := h.l
    have h6 := h.g
    have h7 : M4.xs.length * (6 + 3 * 2097152) ≤ 2097152 * (6 + 3 * 2097152) := Nat.mul_le_mul_right _ (by omega)
    rw [← hm4]
    unfold cntR
    omega)
  rw [hm4] at he
  subst he
  have y10 := (Y8.out.keep L9.out.since).turnA t10 ly.out A4.out
  have x10 := L9.out.arg.turnA t10 lx.out A4.out
  have g10 := (G8.out.keep L9.out.since).turn t10 fun p hp => (U4.out p hp).mono (Nat.le_trans s4.out s46.out)
  have I10 := hidOf ((I8.out.keep L9.out.since).turn t10 fun p hp q hq => (Far.mk (UW.out q hq) (A4.out p hp)).symm)
  have O10 := hidOf ((O6b.out.keep L9.out.since).turn t10 fun p hp q hq => Far.mk ((U4.out p hp).mono s4.out) (A6.out q hq))
  have B10 := L9.out.below.trans (t10.below L9.out.below.size fun p hp => (A4.out p hp).mono (Nat.le_of_lt lx.out))
  have F10 := hidOf ((F8.out.keep L9.out.since).turn t10 fun p hp => Far.mk (U4.out p hp) AF4.out)
  clear p0 p1 p2 p3 p4 p5 p6 p7 z9 HMk L9 Y8 G8 I8 O4c O6b hm4 t10
  have HMf := hidOf (markTermS_any W4a.heap.size fa n n ts K4 w10 F10.out HN2.out HK4.out.1 (by have := HK4.out; have := HN2.out; omega))
  go_wp2_with fail
  refine (HMf.out).mono ?_
  rintro e w10f ⟨he, -, tf⟩
  have t10f := TurnL.ofF tf
  obtain ⟨m4, hm4⟩ : ∃ m : Int, ((K4 + 3 * n : Nat) : Int) = m := ⟨_, rfl⟩
  rw [hm4] at he
  subst he
  have n4 : ¬ m4 < 0 := by omega
  have y10 := y10.turnA t10f ly.out (fun p hp => by rw [List.mem_singleton.1 hp]; exact AF.out)
  have x10 := x10.turnA t10f lx.out (fun p hp => by rw [List.mem_singleton.1 hp]; exact AF.out)
  have g10 := g10.turn t10f (fun p hp => by rw [List.mem_singleton.1 hp]; exact UF.out.mono s46.out)
  have I10 := hidOf (I10.out.turn t10f fun p hp q hq => by rw [List.mem_singleton.1 hp]; exact (Far.mk (UW.out q hq) AF.out).symm)
  have O10 := hidOf (O10.out.turn t10f fun p hp q hq => by rw [List.mem_singleton.1 hp]; exact Far.mk UF.out (A6.out q hq))
  have B10 := B10.trans (t10f.below B10.size fun p hp => by rw [List.mem_singleton.1 hp]; exact AF.out.mono (Nat.le_of_lt lx.out))
  clear HMf F10 F8 hm4 tf t10f
  have p0 := y10.cs 0 (by simp)
  have p1 := y10.cs 1 (by simp)
  have p2 := y10.cs 2 (by simp)
  have p3 := y10.cs 3 (by simp)
  have p4 := y10.cs 4 (by simp)
  have p5 := y10.cs 5 (by simp)
  have p6 := y10.cs 6 (by simp)
  have p7 := y10.cs 7 (by simp)
  simp at p0 p1 p2 p3 p4 p5 p6 p7
  have q0 := g10.cs 0 (by simp)
  have q1 := g10.cs 1 (by simp)
  have q2 := g10.cs 2 (by simp)
  have q3 := g10.cs 3 (by simp)
  have q4 := g10.cs 4 (by simp)
  have q5 := g10.cs 5 (by simp)
  have q6 := g10.cs 6 (by simp)
  have q7 := g10.cs 7 (by simp)
  simp at q0 q1 q2 q3 q4 q5 q6 q7
  go_wp2_with fail
  refine (eqRing_same M6 Mw r _ O10.out.rin I10.out HL6.out Ow.out).mono ?_
  rintro e w11 ⟨rfl, hb11⟩
  have y11 := y10.keep hb11
  have x11 := x10.keep hb11
  have g11 := g10.keep hb11
  have I11 := hidOf (I10.out.keep hb11)
  have B11 := bl_trans B10 hb11
  have HMk := hidOf (markRing_any W4.heap.size M6 r 1 _ (O10.out.keep hb11) HL6.out (by omega) (by omega))
  have hl6 := hidOf O10.out.sb.sub.len
  clear p0 p1 p2 p3 p4 p5 p6 p7 q0 q1 q2 q3 q4 q5 q6 q7 y10 x10 g10 I10 O10 B10 hb11
  have q0 := g11.cs 0 (by simp)
  have q1 := g11.cs 1 (by simp)
  have q2 := g11.cs 2 (by simp)
  have q3 := g11.cs 3 (by simp)
  have q4 := g11.cs 4 (by simp)
  have q5 := g11.cs 5 (by simp)
  have q6 := g11.cs 6 (by simp)
  have q7 := g11.cs 7 (by simp)
  simp at q0 q1 q2 q3 q4 q5 q6 q7
  go_wp2_with fail
  refine HMk.out.mono ?_
  rintro e w12 ⟨he, o12, t12⟩
  obtain ⟨m6, hm6⟩ : ∃ m : Int, ((1 + cntR M6 : Nat) : Int) = m := ⟨_, rfl⟩
  rw [hm6] at he
  subst he
  have n6 : ¬ m6 < 0 := by omega
  have Hm6 := hidOf hm6
  have y12 := y11.turnA t12 (Nat.lt_of_lt_of_le ly.out s34.out) A6.out
  have x12 := x11.turnA t12 (Nat.lt_of_lt_of_le lx.out s34.out) A6.out
  have g12 := g11.turn t12 U6.out
  have I12 := hidOf (I11.out.turn t12 fun p hp q hq => (Far.mk ((UW.out q hq).mono s34.out) (A6.out p hp)).symm)
  have K12 := hidOf o12.rin
  have B12 := B11.trans (t12.below B11.size fun p hp => (A6.out p hp).mono (Nat.le_of_lt (Nat.lt_of_lt_of_le lx.out s34.out)))
  clear q0 q1 q2 q3 q4 q5 q6 q7 y11 x11 g11 I11 B11 HMk o12 t12 hm6
  have q0 := g12.cs 0 (by simp)
  have q1 := g12.cs 1 (by simp)
  have q2 := g12.cs 2 (by simp)
  have q3 := g12.cs 3 (by simp)
  have q4 := g12.cs 4 (by simp)
  have q5 := g12.cs 5 (by simp)
  have q6 := g12.cs 6 (by simp)
  have q7 := g12.cs 7 (by simp)
  simp at q0 q1 q2 q3 q4 q5 q6 q7
  go_wp2_with fail
  refine (heldRing_marks M6 r r 1 _ K12.out HL6.out (by omega) (by omega) hl6.out).mono ?_
  rintro e w13 ⟨he, hb13⟩
  rw [Hm6.out] at he
  subst he
  have y13 := y12.keep hb13
  have x13 := x12.keep hb13
  have g13 := g12.keep hb13
  have I13 := hidOf (I12.out.keep hb13)
  have K13 := hidOf (K12.out.keep hb13)
  have B13 := bl_trans B12 hb13
  clear q0 q1 q2 q3 q4 q5 q6 q7 y12 x12 g12 I12 K12 B12 hb13
  have p0 := x13.cs 0 (by simp)
  have p1 := x13.cs 1 (by simp)
  have p2 := x13.cs 2 (by simp)
  have p3 := x13.cs 3 (by simp)
  have p4 := x13.cs 4 (by simp)
  have p5 := x13.cs 5 (by simp)
  have p6 := x13.cs 6 (by simp)
  have p7 := x13.cs 7 (by simp)
  simp at p0 p1 p2 p3 p4 p5 p6 p7
  go_wp2_with fail
  refine (toRing_any M v _ (HI.out.keep B13) HL.out).mono ?_
  rintro e w14 ⟨M14, rfl, hO14, hL14, hC14, hb14⟩
  have y14 := y13.keep hb14
  have g14 := g13.keep hb14
  have I14 := hidOf (I13.out.keep hb14)
  have K14 := hidOf (K13.out.keep hb14)
  have B14 := bl_trans B13 hb14
  clear p0 p1 p2 p3 p4 p5 p6 p7 x13 y13 g13 I13 K13 B13 hb14
  go_wp2_with fail
  refine (toTermS_any a n cap ts _ (HT.out.keep B14) HN2.out).mono ?_
  rintro e w14t ⟨rfl, hF14, hb14t⟩
  have y14 := y14.keep hb14t
  have g14 := g14.keep hb14t
  have I14 := hidOf (I14.out.keep hb14t)
  have K14 := hidOf (K14.out.keep hb14t)
  have B14 := bl_trans B14 hb14t
  have hO14 := hO14.keep hb14t
  go_wp2_with fail
  refine (HIm.out M14 _ _ _ hO14.rin (hL14 _ HL1.out) hC14 hF14.tm HN1.out).mono ?_
  rintro e w15 ⟨M15, rfl, hO15, hL15, hb15⟩
  obtain ⟨W16, hW16⟩ : ∃ W, w15.alloc (.cells #[.int .i64 r.cp, .int .i64 r.se, .slice M15.ia M15.i M15.ic, .int .i64 r.nx, .slice M15.sa M15.s M15.sc, .slice M15.la M15.l M15.lc, .slice M15.ga M15.g M15.gc, .bool r.cl] 28) = W := ⟨_, rfl⟩
  have b16 : Below w15.heap.size w15 W16 := by rw [← hW16]; exact bl_alloc (Below.refl _ _) _
  have z16 : BoxL w15.heap.size (rC M15 r) W16 := by rw [← hW16]; exact BoxL.new w15 (rC M15 r) _
  have hb16 := bl_trans hb15 b16
  have y16 := y14.keep hb16
  have g16 := g14.keep hb16
  have I16 := hidOf (I14.out.keep hb16)
  have K16 := hidOf (K14.out.keep hb16)
  have B16 := bl_trans B14 hb16
  have J16 := hidOf (hO15.rin.keep b16)
  have HL15 := hidOf hL15
  clear y14 g14 I14 K14 B14 hb16 b16 hb15 hO14 hL14 hC14 hO15 hL15
  have p0 := y16.cs 0 (by simp)
  have p1 := y16.cs 1 (by simp)
  have p2 := y16.cs 2 (by simp)
  have p3 := y16.cs 3 (by simp)
  have p4 := y16.cs 4 (by simp)
  have p5 := y16.cs 5 (by simp)
  have p6 := y16.cs 6 (by simp)
  have p7 := y16.cs 7 (by simp)
  simp at p0 p1 p2 p3 p4 p5 p6 p7
  have q0 := z16.cs 0 (by simp)
  have q1 := z16.cs 1 (by simp)
  have q2 := z16.cs 2 (by simp)
  have q3 := z16.cs 3 (by simp)
  have q4 := z16.cs 4 (by simp)
  have q5 := z16.cs 5 (by simp)
  have q6 := z16.cs 6 (by simp)
  have q7 := z16.cs 7 (by simp)
  simp at q0 q1 q2 q3 q4 q5 q6 q7
  go_wp2_with fail
  refine (eqRing_same M15 Mw r _ J16.out I16.out HL15.out Ow.out).mono ?_
  rintro e w17 ⟨rfl, hb17⟩
  have g17 := g16.keep hb17
  have K17 := hidOf (K16.out.keep hb17)
  have B17 := bl_trans B16 hb17
  clear p0 p1 p2 p3 p4 p5 p6 p7 q0 q1 q2 q3 q4 q5 q6 q7 y16 z16 g16 I16 K16 B16 hb17 hW16
  have q0 := g17.cs 0 (by simp)
  have q1 := g17.cs 1 (by simp)
  have q2 := g17.cs 2 (by simp)
  have q3 := g17.cs 3 (by simp)
  have q4 := g17.cs 4 (by simp)
  have q5 := g17.cs 5 (by simp)
  have q6 := g17.cs 6 (by simp)
  have q7 := g17.cs 7 (by simp)
  simp at q0 q1 q2 q3 q4 q5 q6 q7
  go_wp2_with fail
  refine (heldRing_marks M6 r r 1 _ K17.out HL6.out (by omega) (by omega) hl6.out).mono ?_
  rintro e w18 ⟨he, hb18⟩
  rw [Hm6.out] at he
  subst he
  have B18 := bl_trans B17 hb18
  clear q0 q1 q2 q3 q4 q5 q6 q7 g17 K17 B17 hb18
  go_wp2
  go_ret
  exact ⟨rfl, B18⟩
end Go.Proofs.YtihdglmiecifjaaGreat
