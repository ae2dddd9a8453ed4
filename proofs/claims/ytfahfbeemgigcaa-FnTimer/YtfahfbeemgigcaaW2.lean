/-
  Walk of the law on SetTimer, out of the contracts.
-/
import Derived.Test.YtfahfbeemgigcaaW0
import Derived.Test.YtfahfbeemgigcaaSC4
namespace Go.Proofs.Ytfahfbeemgigcaa
open Go.RowKit Pl Il Th

theorem insL_length : ∀ (x : Int × Int) (l : List (Int × Int)), (insL x l).length = l.length + 1
  | _, [] => rfl
  | x, y :: l => by
    simp only [insL]
    split
    · rfl
    · simp [insL_length x l]
theorem setT_len (now : Int) (ts : List (Int × Int)) (i tok : Int) : (setT now ts i tok).1.length ≤ ts.length + 1 := by
  unfold setT
  split
  · split
    · simp
    · simp [insL_length]
  · simp
/-- What is asked of the program's SetTimer. -/
def ImplSetTimer : Prop := ∀ (now i tok : Int) (a : Option Addr) (n cap : Nat) (ts : List (Int × Int)) (w : World), TimAt w a n ts → n ≤ 2097152 →
  Calls Try.prog 17 #[.agg #[.int .i64 now, .slice a n cap], .int .i64 i, .int .i64 tok] w fun e w' => OutC w now (setT now ts i tok).1 [.int .i64 (setT now ts i tok).2] e w'

set_option maxHeartbeats 2000000 in
theorem exactSetTimer_of (hI : ImplSetTimer) (now i tok : Int) (a : Option Addr) (n c : Nat) (w : World) (hn : n ≤ 9223372036854775807) (hA : ∃ ts, TimAt w a n ts) :
    Calls Try.prog 6 #[.agg #[.int .i64 now, .slice a n c], .int .i64 i, .int .i64 tok] w fun e w' => e = .returned (.bool true) ∧ Below w.heap.size w w' := by
  obtain ⟨ts, hT⟩ := hA
  generalize hW0 : w.alloc (.cells #[.int .i64 now, .slice a n c] 44) = W0
  have B0 : Below w.heap.size w W0 := by subst hW0; exact bl_alloc (Below.refl _ _) _
  have x0 : Box2 w.heap.size (.int .i64 now) (.slice a n c) W0 := by subst hW0; exact Box2.new w _ _ _
  have hul := setT_len now ts i tok
  have hlp := hT.len
  have HT := hidOf hT
  obtain ⟨_, p0, p1, _⟩ := id x0
  clear hT
  go_enter Try.func6, Try.ntmps6
  go_wp2_with fail
  refine (szClock_any now a n c _ hn).mono ?_
  rintro e w1 ⟨⟨k, rfl, hk⟩, hb1⟩
  have x1 := x0.keep hb1
  have B1 := bl_trans B0 hb1
  obtain ⟨_, q0, q1, _⟩ := id x1
  clear p0 p1 x0 hb1 B0 hW0
  rcases hk with hk | ⟨hk, hnn⟩
  · go_wp2
    go_ret
    exact ⟨rfl, B1⟩
  · have hk' : ¬ k < 0 := by omega
    have hm2 := mark_nn n
    clear hk
    go_wp2_with fail
    refine (toClock_any now a n c ts _ (HT.out.keep B1) (by omega)).mono ?_
    rintro e w2 ⟨g2, rfl, ho2, hb2⟩
    have x2 := x1.keep hb2
    have B2 := bl_trans B1 hb2
    clear x1 q0 q1 hb2 B1
    go_wp2_with fail
    refine (specSet_any now i tok _ n n ts _ ho2.tim (by omega)).mono ?_
    intro e w3 hout3
    obtain ⟨aw, mw, cw, rfl, how, hb3⟩ := hout3.open
    generalize hW3 : w3.alloc (.cells #[.int .i64 now, .slice aw mw cw] 26) = W3
    have b3' : Below w3.heap.size w3 W3 := by subst hW3; exact bl_alloc (Below.refl _ _) _
    have u3 : Box2 w3.heap.size (.int .i64 now) (.slice aw mw cw) W3 := by subst hW3; exact Box2.new w3 _ _ _
    have x3 := (x2.keep hb3).keep b3'
    have B3 := bl_trans (bl_trans B2 hb3) b3'
    have HW := (how.keep b3').tim
    have hlw := HW.len
    obtain ⟨_, q0, q1, _⟩ := id x3
    have HI3 := HT.out.keep B3
    clear x2 hb3 B2 ho2 how HT b3' hout3
    generalize hnl : (setT now ts i tok) = r at *
    go_wp2_with fail
    refine (toClock_any now a n c ts _ HI3 (by omega)).mono ?_
    rintro e w4 ⟨g, rfl, ho4, hb4⟩
    have hlt3 := u3.lt
    generalize hW5 : w4.alloc (.cells #[.int .i64 now, .slice (some ⟨g, 0, none⟩) n n] 26) = W5
    have b5 : Below w4.heap.size w4 W5 := by subst hW5; exact bl_alloc (Below.refl _ _) _
    have y5 : Box2 w4.heap.size (.int .i64 now) (.slice (some ⟨g, 0, none⟩) n n) W5 := by subst hW5; exact Box2.new w4 _ _ _
    have s5 : W5.heap.size = w4.heap.size + 1 := by subst hW5; simp
    have S5 := bl_trans hb4 b5
    have ho5 := ho4.keep b5
    have hsp := ho4.span
    have hs34 := hb4.size
    obtain ⟨_, r0, r1, _⟩ := id y5
    clear hb4 q0 q1 ho4 b5 hW3
    go_wp2_with fail
    have hcall := hI now i tok (some ⟨g, 0, none⟩) n n ts W5 ho5.tim (by omega)
    rw [hnl] at hcall
    refine hcall.mono ?_
    intro e w6 hout6
    obtain ⟨a6, m6, c6, rfl, G6, hb6⟩ := hout6.open
    have hm6 := G6.tim.len
    obtain rfl : m6 = mw := by omega
    have hspg := G6.span
    have hs56 := hb6.size
    generalize hW7 : w6.alloc (.cells #[.int .i64 now, .slice a6 m6 c6] 26) = W7
    have b7 : Below w6.heap.size w6 W7 := by subst hW7; exact bl_alloc (Below.refl _ _) _
    have z7 : Box2 w6.heap.size (.int .i64 now) (.slice a6 m6 c6) W7 := by subst hW7; exact Box2.new w6 _ _ _
    have s7 : W7.heap.size = w6.heap.size + 1 := by subst hW7; simp
    have b67 := bl_trans hb6 b7
    have S7 := bl_trans S5 b67
    have X7 := ho5.keep b67
    have y7 := y5.keep b67
    have G7 := G6.keep b7
    obtain ⟨_, t0, t1, _⟩ := id z7
    obtain ⟨_, u0, u1, _⟩ := u3.keep S7
    have hnm := mark_nn m6
    clear r0 r1 hb6 S5 ho5 hW5 y5 b67 b7 G6 hcall hout6
    go_wp2_with fail
    refine (eqClock_any now now _ _ m6 m6 c6 cw r.1 r.1 _ G7.tim (HW.keep S7) (by omega) (by omega)).mono ?_
    rintro e w8 ⟨rfl, hb8⟩
    rw [eqTL_self]
    have S8 := bl_trans S7 hb8
    have G8 := G7.keep hb8
    have X8 := X7.keep hb8
    have y8 := y7.keep hb8
    have z8 := z7.keep hb8
    have x8 := x3.keep S8
    have hs8 := hb8.size
    have hB8 := bl_trans B3 S8
    have hS : LawS w w4.heap.size (.int .i64 now) (.slice a n c) (.int .i64 now) (.slice (some ⟨g, 0, none⟩) n n) w8 := ⟨x8.c0, x8.c1, y8.c0, y8.c1, x8.lt, y8.lt, hB8⟩
    have HS8 := hidOf S8
    have HG8 := hidOf G8
    have HX8 := hidOf X8
    have HY8 := hidOf y8
    have HZ8 := hidOf z8
    clear S7 G7 X7 y7 z7 hb8 x8 y8 z8 S8 G8 X8 hB8 t0 t1 u0 u1 hW7
    simp only [decide_true, Bool.true_and]
    go_wp2_with fail
    go_region_held3 (fun w' => LawS w w4.heap.size (.int .i64 now) (.slice a n c) (.int .i64 now) (.slice (some ⟨g, 0, none⟩) n n) w') (first | (exact hS.drew) | (exact LawS.keep (by assumption) (by assumption)))
      (first
        | (go_at_call 23; refine (toClock_any now a n c ts _ (HI3.keep (bl_trans HS8.out (Below.refl _ w8).drew)) (by omega)).mono ?_; rintro e w9 ⟨g9, rfl, ho9, hb9⟩; have b89 := bl_trans (Below.refl w8.heap.size w8).drew hb9; have X9 := HX8.out.keep b89)
        | (go_at_call 25; refine (eqClock_any now now _ _ n n n n ts ts _ X9.tim ho9.tim (by omega) (by omega)).mono ?_; rintro e w10 ⟨rfl, hb10⟩))
    all_goals simp only [eqTL_self, Bool.not_true]
    have b810 := bl_trans b89 hb10
    have S10 := bl_trans HS8.out b810
    have G10 := HG8.out.keep b810
    have X10 := HX8.out.keep b810
    have y10 := HY8.out.keep b810
    have z10 := HZ8.out.keep b810
    have hs10 := b810.size
    obtain ⟨_, t0, t1, _⟩ := id y10
    clear hS HS8 HG8 HX8 HY8 HZ8 b89 b810 ho9 hb9 hb10 X9
    rename_i hHeld
    clear hHeld
    go_wp2_with fail
    refine (markClock_any W3.heap.size now _ n n ts 1 _ X10 (by omega) (by omega) (by omega)).mono ?_
    rintro e w11 ⟨rfl, _, hM⟩
    have G11 := G10.turned hM (span_lt W5.heap.size hsp (by omega))
    have z11 := z10.turned hM (span_lt w6.heap.size hsp (by omega))
    have S11 := S10.trans (hM.below (B := W3.heap.size) (by omega) (span_ge W3.heap.size hsp (Nat.le_refl _)))
    have hs11 := hM.size
    obtain ⟨_, v0, v1, _⟩ := id z11
    obtain ⟨_, u0, u1, _⟩ := u3.keep S11
    clear S10 G10 X10 y10 z10 hM t0 t1
    go_wp2_with fail
    refine (eqClock_any now now _ _ m6 m6 c6 cw r.1 r.1 _ G11.tim (HW.keep S11) (by omega) (by omega)).mono ?_
    rintro e w12 ⟨rfl, hb12⟩
    rw [eqTL_self]
    have S12 := bl_trans S11 hb12
    have G12 := G11.keep hb12
    have z12 := z11.keep hb12
    have hs12 := hb12.size
    obtain ⟨_, t0, t1, _⟩ := id z12
    clear S11 G11 z11 hb12 v0 v1 u0 u1
    simp only [decide_true, Bool.true_and]
    go_wp2_with fail
    refine (markClock_any W5.heap.size now _ m6 c6 r.1 1 _ G12 (by omega) (by omega) (by omega)).mono ?_
    rintro e w13 ⟨rfl, G13, hM⟩
    have z13 := z12.turned hM (span_lt w6.heap.size hspg (by omega))
    have S13 := S12.trans (hM.below (B := W3.heap.size) (by omega) (span_ge W3.heap.size hspg (by omega)))
    have hs13 := hM.size
    obtain ⟨_, v0, v1, _⟩ := id z13
    clear S12 G12 z12 hM t0 t1
    go_wp2_with fail
    refine (heldClock_marks now _ m6 c6 1 _ G13.tim (by omega) (by omega) (by omega)).mono ?_
    rintro e w14 ⟨rfl, hb14⟩
    have S14 := bl_trans S13 hb14
    have G14 := G13.keep hb14
    have z14 := z13.keep hb14
    obtain ⟨_, t0, t1, _⟩ := x3.keep S14
    clear S13 G13 z13 hb14 v0 v1
    go_wp2_with fail
    refine (toClock_any now a n c ts _ (HI3.keep S14) (by omega)).mono ?_
    rintro e w15 ⟨g15, rfl, ho15, hb15⟩
    have S15 := bl_trans S14 hb15
    have G15 := G14.keep hb15
    have z15 := z14.keep hb15
    clear S14 G14 z14 hb15 t0 t1
    go_wp2_with fail
    have hcall := hI now i tok (some ⟨g15, 0, none⟩) n n ts w15 ho15.tim (by omega)
    rw [hnl] at hcall
    refine hcall.mono ?_
    intro e w16 hout16
    obtain ⟨a16, m16, c16, rfl, K16, hb16⟩ := hout16.open
    have hm16 := K16.tim.len
    obtain rfl : m16 = m6 := by omega
    generalize hW17 : w16.alloc (.cells #[.int .i64 now, .slice a16 m16 c16] 26) = W17
    have b17 : Below w16.heap.size w16 W17 := by subst hW17; exact bl_alloc (Below.refl _ _) _
    have k17 : Box2 w16.heap.size (.int .i64 now) (.slice a16 m16 c16) W17 := by subst hW17; exact Box2.new w16 _ _ _
    have b1617 := bl_trans hb16 b17
    have S17 := bl_trans S15 b1617
    have G17 := G15.keep b1617
    have z17 := z15.keep b1617
    have K17 := K16.keep b17
    obtain ⟨_, t0, t1, _⟩ := id k17
    obtain ⟨_, u0, u1, _⟩ := u3.keep S17
    clear S15 G15 z15 hb16 b17 b1617 K16 k17 ho15 hcall hout16
    go_wp2_with fail
    refine (eqClock_any now now _ _ m16 m16 c16 cw r.1 r.1 _ K17.tim (HW.keep S17) (by omega) (by omega)).mono ?_
    rintro e w18 ⟨rfl, hb18⟩
    rw [eqTL_self]
    have S18 := bl_trans S17 hb18
    have G18 := G17.keep hb18
    obtain ⟨_, v0, v1, _⟩ := z17.keep hb18
    clear S17 G17 K17 hb18 z17 t0 t1 u0 u1 hW17
    simp only [decide_true, Bool.true_and]
    go_wp2_with fail
    refine (heldClock_marks now _ m16 c6 1 _ G18.tim (by omega) (by omega) (by omega)).mono ?_
    rintro e w19 ⟨rfl, hb19⟩
    have hE := bl_trans B3 (bl_trans S18 hb19)
    clear S18 G18 hb19 HW HI3 B3 x3 u3
    go_wp2
    go_ret
    exact ⟨rfl, hE⟩
end Go.Proofs.Ytfahfbeemgigcaa
