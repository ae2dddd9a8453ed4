/-
  Walk of the law on Advance, out of the contracts.
-/
import Derived.Test.YtfahfbeemgigcaaW0
import Derived.Test.YtfahfbeemgigcaaSC6
namespace Go.Proofs.Ytfahfbeemgigcaa
open Go.RowKit Pl Il Th

theorem advT_len (now : Int) (ts : List (Int × Int)) (d : Int) : (advT now ts d).2.1.length ≤ ts.length ∧ (advT now ts d).2.2.1.length ≤ ts.length := by
  unfold advT
  split
  · refine ⟨List.length_filter_le _ _, ?_⟩
    simp only [List.length_map]
    exact List.length_filter_le _ _
  · exact ⟨Nat.le_refl _, Nat.zero_le _⟩
theorem turnI {a : Option Addr} {n : Nat} {w w' : World} (h : n = 0 ∧ w' = w ∨ 0 < n ∧ ∃ b off, a = some ⟨b, off, none⟩ ∧ w.grownBy w' (some b)) : TurnT a n w w' := by
  rcases h with ⟨h, rfl⟩ | h
  · exact .inl ⟨h, Below.refl _ _⟩
  · exact .inr h
/-- Which blocks a turn leaves alone. -/
theorem turn_key {a a1 : Option Addr} {n n1 b1 off : Nat} {w w' : World} (ht : TurnT a1 n1 w w') (hlt : b1 < w.heap.size) (ha : a = some ⟨b1, off, none⟩) (hn : 0 < n) (hne : n = 0 ∨ n1 = 0 ∨ ∀ b off b' off', a = some ⟨b, off, none⟩ → a1 = some ⟨b', off', none⟩ → b ≠ b') : w'.heap[b1]? = w.heap[b1]? := by
  obtain ⟨_, _, _, _, o5⟩ := ht.block
  refine o5 b1 hlt (fun o hp e => ?_)
  rcases hne with h | h | h
  · omega
  · omega
  · exact h _ _ _ _ ha e rfl
theorem OwnT.turnX {B : Nat} {w w' : World} {a : Option Addr} {n : Nat} {ts : List (Int × Int)} {a1 : Option Addr} {n1 : Nat} (h : OwnT B w a n ts) (ht : TurnT a1 n1 w w') (hne : n = 0 ∨ n1 = 0 ∨ ∀ b off b' off', a = some ⟨b, off, none⟩ → a1 = some ⟨b', off', none⟩ → b ≠ b') : OwnT B w' a n ts := by
  have o4 := ht.size
  obtain ⟨⟨hl, hr⟩, ho⟩ := h
  rcases Nat.eq_zero_or_pos n with h0 | hp
  · exact ⟨⟨hl, .inl h0⟩, .inl h0⟩
  rcases hr with h0 | ⟨b1, off, e, hlt, hc⟩
  · omega
  rcases ho with h0 | ⟨b', off', e', hB, hf⟩
  · omega
  have key := turn_key ht hlt e hp hne
  subst e
  cases e'
  refine ⟨⟨hl, .inr ⟨b1, off, rfl, Nat.lt_of_lt_of_le hlt o4, fun i hi => ?_⟩⟩, .inr ⟨b1, off, rfl, hB, fun o => ?_⟩⟩
  · rw [World.cell?_of_block (w := w) (a := ⟨b1, off + i * 2, none⟩) key, World.cell?_of_block (w := w) (a := ⟨b1, off + i * 2 + 1, none⟩) key]; exact hc i hi
  · rw [← hf o]; exact World.frozen?_of_block key
theorem ownAt_turnX {B : Nat} {w w' : World} {a : Option Addr} {n : Nat} {xs : List Int} {a1 : Option Addr} {n1 : Nat} (h : Il.OwnAt B w a n xs) (ht : TurnT a1 n1 w w') (hne : n = 0 ∨ n1 = 0 ∨ ∀ b off b' off', a = some ⟨b, off, none⟩ → a1 = some ⟨b', off', none⟩ → b ≠ b') : Il.OwnAt B w' a n xs := by
  have o4 := ht.size
  obtain ⟨⟨hl, hr⟩, ho⟩ := h
  rcases Nat.eq_zero_or_pos n with h0 | hp
  · exact ⟨⟨hl, .inl h0⟩, .inl h0⟩
  rcases hr with h0 | ⟨b1, off, e, hlt, hc⟩
  · omega
  rcases ho with h0 | ⟨b', off', e', hB, hf⟩
  · omega
  have key := turn_key ht hlt e hp hne
  subst e
  cases e'
  refine ⟨⟨hl, .inr ⟨b1, off, rfl, Nat.lt_of_lt_of_le hlt o4, fun i hi => ?_⟩⟩, .inr ⟨b1, off, rfl, hB, fun i hi => ?_⟩⟩
  · rw [← hc i hi]; exact World.cell?_of_block key
  · rw [← hf i hi]; exact World.frozen?_of_block key
theorem ownAt_span {B : Nat} {w : World} {a : Option Addr} {n : Nat} {xs : List Int} (h : Il.OwnAt B w a n xs) : n = 0 ∨ ∀ b off, a = some ⟨b, off, none⟩ → B ≤ b ∧ b < w.heap.size := by
  rcases h.ints.row with h0 | ⟨b, off, rfl, hlt, _⟩
  · exact .inl h0
  · rcases h.own with h0 | ⟨b', off', e, hB, _⟩
    · exact .inl h0
    · cases e
      exact .inr fun b1 o1 e => by cases e; exact ⟨hB, hlt⟩
theorem spans_ne {a a1 : Option Addr} {n n1 B C D E : Nat} (h : n = 0 ∨ ∀ b off, a = some ⟨b, off, none⟩ → B ≤ b ∧ b < C) (h1 : n1 = 0 ∨ ∀ b off, a1 = some ⟨b, off, none⟩ → D ≤ b ∧ b < E) (hE : E ≤ B) : n = 0 ∨ n1 = 0 ∨ ∀ b off b' off', a = some ⟨b, off, none⟩ → a1 = some ⟨b', off', none⟩ → b ≠ b' := by
  rcases h with h | h
  · exact .inl h
  · rcases h1 with h1 | h1
    · exact .inr (.inl h1)
    · exact .inr (.inr fun b off b' off' e e' => by have := h _ _ e; have := h1 _ _ e'; omega)
theorem eqIL_self' (xs : List Int) : eqL xs xs = true := by simp [eqL]
/-- What is handed back: a list of timers and a list of tokens. -/
structure GO (B : Nat) (w : World) (a1 : Option Addr) (n1 : Nat) (ts : List (Int × Int)) (a2 : Option Addr) (n2 : Nat) (told : List Int) : Prop where
  one : OwnT B w a1 n1 ts
  two : Il.OwnAt B w a2 n2 told
theorem GO.keep {B : Nat} {w u : World} {a1 : Option Addr} {n1 : Nat} {ts : List (Int × Int)} {a2 : Option Addr} {n2 : Nat} {told : List Int} (h : GO B w a1 n1 ts a2 n2 told) (hb : Below w.heap.size w u) : GO B u a1 n1 ts a2 n2 told := ⟨h.one.keep hb, h.two.keep hb⟩
theorem ap_swap {a1 a2 : Option Addr} {n1 n2 : Nat} (h : n1 = 0 ∨ n2 = 0 ∨ ∀ b off b' off', a1 = some ⟨b, off, none⟩ → a2 = some ⟨b', off', none⟩ → b ≠ b') : n2 = 0 ∨ n1 = 0 ∨ ∀ b off b' off', a2 = some ⟨b, off, none⟩ → a1 = some ⟨b', off', none⟩ → b ≠ b' := by
  rcases h with h | h | h
  · exact .inr (.inl h)
  · exact .inl h
  · exact .inr (.inr fun b off b' off' e e' => (h _ _ _ _ e' e).symm)
theorem mark_nn2 (n m : Nat) : ¬ 1 + 2 * (n : Int) + (m : Int) < 0 := by omega

/-- What is asked of the program's Advance. -/
def ImplAdvance : Prop := ∀ (now tok : Int) (a : Option Addr) (n cap : Nat) (ts : List (Int × Int)) (w : World), TimAt w a n ts → n ≤ 2097152 →
  Calls Try.prog 11 #[.agg #[.int .i64 now, .slice a n cap], .int .i64 tok] w fun e w' => OutAx w (advT now ts tok).1 (advT now ts tok).2.1 (advT now ts tok).2.2.1 (advT now ts tok).2.2.2 e w'

set_option maxHeartbeats 2000000 in
theorem exactAdvance_of (hI : ImplAdvance) (now tok : Int) (a : Option Addr) (n c : Nat) (w : World) (hn : n ≤ 9223372036854775807) (hA : ∃ ts, TimAt w a n ts) :
    Calls Try.prog 8 #[.agg #[.int .i64 now, .slice a n c], .int .i64 tok] w fun e w' => e = .returned (.bool true) ∧ Below w.heap.size w w' := by
  obtain ⟨ts, hT⟩ := hA
  generalize hW0 : w.alloc (.cells #[.int .i64 now, .slice a n c] 44) = W0
  have B0 : Below w.heap.size w W0 := by subst hW0; exact bl_alloc (Below.refl _ _) _
  have x0 : Box2 w.heap.size (.int .i64 now) (.slice a n c) W0 := by subst hW0; exact Box2.new w _ _ _
  obtain ⟨hul, hul2⟩ := advT_len now ts tok
  have hlp := hT.len
  have HT := hidOf hT
  obtain ⟨_, p0, p1, _⟩ := id x0
  clear hT
  go_enter Try.func8, Try.ntmps8
  go_wp2_with fail
  refine (szClock_any now a n c _ hn).mono ?_
  rintro e w1 ⟨⟨k, rfl, hk⟩, hb1⟩
  have x1 := x0.keep hb1
  have B1 := bl_trans B0 hb1
  obtain ⟨_, q0, q1, _⟩ := id x1
  clear p0 p1 x0 hb1 B0 hW0
  rcases hk with hk | ⟨hk, hnn⟩
  · go_wp2
    go_ret
    exact ⟨rfl, B1⟩
  · have hk' : ¬ k < 0 := by omega
    have hm2 := mark_nn n
    clear hk
    go_wp2_with fail
    refine (toClock_any now a n c ts _ (HT.out.keep B1) (by omega)).mono ?_
    rintro e w2 ⟨g2, rfl, ho2, hb2⟩
    have x2 := x1.keep hb2
    have B2 := bl_trans B1 hb2
    clear x1 q0 q1 hb2 B1
    go_wp2_with fail
    refine (specAdv_any now tok _ n n ts _ ho2.tim (by omega)).mono ?_
    intro e w3 hout3
    obtain ⟨aw, mw, cw, av, mv, cv, rfl, how1, how2, _, hb3⟩ := hout3
    have how : GO _ w3 aw mw _ av mv _ := ⟨how1, how2⟩
    generalize hW3 : w3.alloc (.cells #[.int .i64 (advT now ts tok).1, .slice aw mw cw] 26) = W3
    have b3' : Below w3.heap.size w3 W3 := by subst hW3; exact bl_alloc (Below.refl _ _) _
    have u3 : Box2 w3.heap.size (.int .i64 (advT now ts tok).1) (.slice aw mw cw) W3 := by subst hW3; exact Box2.new w3 _ _ _
    have x3 := (x2.keep hb3).keep b3'
    have B3 := bl_trans (bl_trans B2 hb3) b3'
    have HW := (how.keep b3').one.tim
    have HV := (how.keep b3').two.ints
    have hlw := HW.len
    have hlv := HV.len
    obtain ⟨_, q0, q1, _⟩ := id x3
    have HI3 := HT.out.keep B3
    clear x2 hb3 B2 ho2 how how1 how2 HT b3'
    generalize hnl : advT now ts tok = r at *
    go_wp2_with fail
    refine (toClock_any now a n c ts _ HI3 (by omega)).mono ?_
    rintro e w4 ⟨g, rfl, ho4, hb4⟩
    have hlt3 := u3.lt
    generalize hW5 : w4.alloc (.cells #[.int .i64 now, .slice (some ⟨g, 0, none⟩) n n] 26) = W5
    have b5 : Below w4.heap.size w4 W5 := by subst hW5; exact bl_alloc (Below.refl _ _) _
    have y5 : Box2 w4.heap.size (.int .i64 now) (.slice (some ⟨g, 0, none⟩) n n) W5 := by subst hW5; exact Box2.new w4 _ _ _
    have s5 : W5.heap.size = w4.heap.size + 1 := by subst hW5; simp
    have S5 := bl_trans hb4 b5
    have ho5 := ho4.keep b5
    have hsp := ho4.span
    have hs34 := hb4.size
    obtain ⟨_, r0, r1, _⟩ := id y5
    clear hb4 q0 q1 ho4 b5 hW3
    go_wp2_with fail
    have hcall := hI now tok (some ⟨g, 0, none⟩) n n ts W5 ho5.tim (by omega)
    rw [hnl] at hcall
    refine hcall.mono ?_
    intro e w6 hout6
    obtain ⟨a6, m6, c6, a7, m7, c7, rfl, G61, G62, hap, hb6⟩ := hout6
    have G6 : GO _ w6 a6 m6 _ a7 m7 _ := ⟨G61, G62⟩
    have hm6 := G61.tim.len
    have hm7 := G62.ints.len
    obtain rfl : m6 = mw := by omega
    obtain rfl : m7 = mv := by omega
    have hspg := G61.span
    have hspi := ownAt_span G62
    have hs56 := hb6.size
    generalize hW7 : w6.alloc (.cells #[.int .i64 r.1, .slice a6 m6 c6] 26) = W7
    have b7 : Below w6.heap.size w6 W7 := by subst hW7; exact bl_alloc (Below.refl _ _) _
    have z7 : Box2 w6.heap.size (.int .i64 r.1) (.slice a6 m6 c6) W7 := by subst hW7; exact Box2.new w6 _ _ _
    have s7 : W7.heap.size = w6.heap.size + 1 := by subst hW7; simp
    have b67 := bl_trans hb6 b7
    have S7 := bl_trans S5 b67
    have X7 := ho5.keep b67
    have y7 := y5.keep b67
    have G7 := G6.keep b7
    obtain ⟨_, t0, t1, _⟩ := id z7
    obtain ⟨_, u0, u1, _⟩ := u3.keep S7
    have hnm := mark_nn m6
    have hnm2 := mark_nn2 m6 m7
    clear r0 r1 hb6 S5 ho5 hW5 y5 b67 b7 G6 G61 G62 hcall
    go_wp2_with fail
    refine (eqClock_any r.1 r.1 _ _ m6 m6 c6 cw r.2.1 r.2.1 _ G7.one.tim (HW.keep S7) (by omega) (by omega)).mono ?_
    rintro e w7 ⟨rfl, hb7⟩
    rw [eqTL_self]
    simp only [decide_true, Bool.true_and]
    go_wp2_with fail
    refine (eqIntS_any _ _ m7 m7 c7 cv r.2.2.1 r.2.2.1 _ (G7.keep hb7).two.ints ((HV.keep S7).keep hb7) (by omega) (by omega)).mono ?_
    rintro e w8 ⟨rfl, hb8'⟩
    rw [eqIL_self']
    have hb8 := bl_trans hb7 hb8'
    have S8 := bl_trans S7 hb8
    have G8 := G7.keep hb8
    have X8 := X7.keep hb8
    have y8 := y7.keep hb8
    have z8 := z7.keep hb8
    have x8 := x3.keep S8
    have hs8 := hb8.size
    have hB8 := bl_trans B3 S8
    have hS : LawS w w4.heap.size (.int .i64 now) (.slice a n c) (.int .i64 now) (.slice (some ⟨g, 0, none⟩) n n) w8 := ⟨x8.c0, x8.c1, y8.c0, y8.c1, x8.lt, y8.lt, hB8⟩
    have HS8 := hidOf S8
    have HG8 := hidOf G8
    have HX8 := hidOf X8
    have HY8 := hidOf y8
    have HZ8 := hidOf z8
    clear S7 G7 X7 y7 z7 hb8 hb7 hb8' x8 y8 z8 S8 G8 X8 hB8 t0 t1 u0 u1 hW7
    go_wp2_with fail
    go_region_held3 (fun w' => LawS w w4.heap.size (.int .i64 now) (.slice a n c) (.int .i64 now) (.slice (some ⟨g, 0, none⟩) n n) w') (first | (exact hS.drew) | (exact LawS.keep (by assumption) (by assumption)))
      (first
        | (go_at_call 23; refine (toClock_any now a n c ts _ (HI3.keep (bl_trans HS8.out (Below.refl _ w8).drew)) (by omega)).mono ?_; rintro e w9 ⟨g9, rfl, ho9, hb9⟩; have b89 := bl_trans (Below.refl w8.heap.size w8).drew hb9; have X9 := HX8.out.keep b89)
        | (go_at_call 25; refine (eqClock_any now now _ _ n n n n ts ts _ X9.tim ho9.tim (by omega) (by omega)).mono ?_; rintro e w10 ⟨rfl, hb10⟩))
    all_goals simp only [eqTL_self, Bool.not_true]
    have b810 := bl_trans b89 hb10
    have S10 := bl_trans HS8.out b810
    have G10 := HG8.out.keep b810
    have X10 := HX8.out.keep b810
    have y10 := HY8.out.keep b810
    have z10 := HZ8.out.keep b810
    have hs10 := b810.size
    obtain ⟨_, t0, t1, _⟩ := id y10
    clear hS HS8 HG8 HX8 HY8 HZ8 b89 b810 ho9 hb9 hb10 X9
    rename_i hHeld
    clear hHeld
    go_wp2_with fail
    refine (markClock_any W3.heap.size now _ n n ts 1 _ X10 (by omega) (by omega) (by omega)).mono ?_
    rintro e w11 ⟨rfl, _, hM⟩
    have G11 : GO _ w11 a6 m6 _ a7 m7 _ := ⟨G10.one.turnX hM (spans_ne hspg hsp (by omega)), ownAt_turnX G10.two hM (spans_ne hspi hsp (by omega))⟩
    have z11 := z10.turned hM (span_lt w6.heap.size hsp (by omega))
    have S11 := S10.trans (hM.below (B := W3.heap.size) (by omega) (span_ge W3.heap.size hsp (Nat.le_refl _)))
    have hs11 := hM.size
    obtain ⟨_, v0, v1, _⟩ := id z11
    obtain ⟨_, u0, u1, _⟩ := u3.keep S11
    clear S10 G10 X10 y10 z10 hM t0 t1
    go_wp2_with fail
    refine (eqClock_any r.1 r.1 _ _ m6 m6 c6 cw r.2.1 r.2.1 _ G11.one.tim (HW.keep S11) (by omega) (by omega)).mono ?_
    rintro e w12a ⟨rfl, hb12a⟩
    rw [eqTL_self]
    simp only [decide_true, Bool.true_and]
    go_wp2_with fail
    refine (eqIntS_any _ _ m7 m7 c7 cv r.2.2.1 r.2.2.1 _ (G11.keep hb12a).two.ints ((HV.keep S11).keep hb12a) (by omega) (by omega)).mono ?_
    rintro e w12 ⟨rfl, hb12b⟩
    rw [eqIL_self']
    have hb12 := bl_trans hb12a hb12b
    have S12 := bl_trans S11 hb12
    have G12 := G11.keep hb12
    have z12 := z11.keep hb12
    have hs12 := hb12.size
    obtain ⟨_, t0, t1, _⟩ := id z12
    clear S11 G11 z11 hb12 hb12a hb12b v0 v1 u0 u1
    go_wp2_with fail
    refine (markClock_any W5.heap.size r.1 _ m6 c6 r.2.1 1 _ G12.one (by omega) (by omega) (by omega)).mono ?_
    rintro e w13 ⟨rfl, G13a, hM⟩
    have G13b := ownAt_turnX G12.two hM (ap_swap hap)
    have z13 := z12.turned hM (span_lt w6.heap.size hspg (by omega))
    have S13 := S12.trans (hM.below (B := W3.heap.size) (by omega) (span_ge W3.heap.size hspg (by omega)))
    have hs13 := hM.size
    clear S12 G12 z12 hM t0 t1
    go_wp2_with fail
    refine (markIntS_any W5.heap.size _ m7 c7 r.2.2.1 (1 + 2 * (m6 : Int)) _ G13b (by omega) (by omega) (by omega)).mono ?_
    rintro e w13' ⟨rfl, G13c, hMI⟩
    have hMt := turnI hMI
    have G13 : GO W5.heap.size w13' a6 m6 (marksT 1 m6) a7 m7 (marks (1 + 2 * (m6 : Int)) m7) := ⟨G13a.turnX hMt hap, G13c⟩
    have z13' := z13.turned hMt (span_lt w6.heap.size hspi (by omega))
    have S13' := S13.trans (hMt.below (B := W3.heap.size) (by omega) (span_ge W3.heap.size hspi (by omega)))
    have hs13' := hMt.size
    obtain ⟨_, v0, v1, _⟩ := id z13'
    clear G13a G13b G13c z13 S13 hMI hMt
    go_wp2_with fail
    refine (heldClock_marks r.1 _ m6 c6 1 _ G13.one.tim (by omega) (by omega) (by omega)).mono ?_
    rintro e w14 ⟨rfl, hb14⟩
    have S14 := bl_trans S13' hb14
    have G14 := G13.keep hb14
    have z14 := z13'.keep hb14
    go_wp2_with fail
    refine (heldIntS_marks _ m7 c7 (1 + 2 * (m6 : Int)) _ G14.two.ints (by omega) (by omega) (by omega)).mono ?_
    rintro e w14' ⟨rfl, rfl⟩
    obtain ⟨_, t0, t1, _⟩ := x3.keep S14
    clear S13' G13 z13' hb14 v0 v1
    go_wp2_with fail
    refine (toClock_any now a n c ts _ (HI3.keep S14) (by omega)).mono ?_
    rintro e w15 ⟨g15, rfl, ho15, hb15⟩
    have S15 := bl_trans S14 hb15
    have G15 := G14.keep hb15
    have z15 := z14.keep hb15
    clear S14 G14 z14 hb15 t0 t1
    go_wp2_with fail
    have hcall := hI now tok (some ⟨g15, 0, none⟩) n n ts w15 ho15.tim (by omega)
    rw [hnl] at hcall
    refine hcall.mono ?_
    intro e w16 hout16
    obtain ⟨a16, m16, c16, a17, m17, c17, rfl, K161, K162, _, hb16⟩ := hout16
    have K16 : GO _ w16 a16 m16 _ a17 m17 _ := ⟨K161, K162⟩
    have hm16 := K161.tim.len
    have hm17 := K162.ints.len
    obtain rfl : m16 = m6 := by omega
    obtain rfl : m17 = m7 := by omega
    generalize hW17 : w16.alloc (.cells #[.int .i64 r.1, .slice a16 m16 c16] 26) = W17
    have b17 : Below w16.heap.size w16 W17 := by subst hW17; exact bl_alloc (Below.refl _ _) _
    have k17 : Box2 w16.heap.size (.int .i64 r.1) (.slice a16 m16 c16) W17 := by subst hW17; exact Box2.new w16 _ _ _
    have b1617 := bl_trans hb16 b17
    have S17 := bl_trans S15 b1617
    have G17 := G15.keep b1617
    have z17 := z15.keep b1617
    have K17 := K16.keep b17
    obtain ⟨_, t0, t1, _⟩ := id k17
    obtain ⟨_, u0, u1, _⟩ := u3.keep S17
    clear S15 G15 z15 hb16 b17 b1617 K16 K161 K162 k17 ho15 hcall
    go_wp2_with fail
    refine (eqClock_any r.1 r.1 _ _ m16 m16 c16 cw r.2.1 r.2.1 _ K17.one.tim (HW.keep S17) (by omega) (by omega)).mono ?_
    rintro e w18a ⟨rfl, hb18a⟩
    rw [eqTL_self]
    simp only [decide_true, Bool.true_and]
    go_wp2_with fail
    refine (eqIntS_any _ _ m17 m17 c17 cv r.2.2.1 r.2.2.1 _ (K17.keep hb18a).two.ints ((HV.keep S17).keep hb18a) (by omega) (by omega)).mono ?_
    rintro e w18 ⟨rfl, hb18b⟩
    rw [eqIL_self']
    have hb18 := bl_trans hb18a hb18b
    have S18 := bl_trans S17 hb18
    have G18 := G17.keep hb18
    obtain ⟨_, v0, v1, _⟩ := z17.keep hb18
    clear S17 G17 K17 hb18 hb18a hb18b z17 t0 t1 u0 u1 hW17
    go_wp2_with fail
    refine (heldClock_marks r.1 _ m16 c6 1 _ G18.one.tim (by omega) (by omega) (by omega)).mono ?_
    rintro e w19 ⟨rfl, hb19⟩
    have G19 := G18.keep hb19
    go_wp2_with fail
    refine (heldIntS_marks _ m17 c7 (1 + 2 * (m16 : Int)) _ G19.two.ints (by omega) (by omega) (by omega)).mono ?_
    rintro e w20 ⟨rfl, rfl⟩
    have hE := bl_trans B3 (bl_trans S18 hb19)
    clear S18 G18 G19 hb19 HW HV HI3 B3 x3 u3
    go_wp2
    go_ret
    exact ⟨rfl, hE⟩
end Go.Proofs.Ytfahfbeemgigcaa
