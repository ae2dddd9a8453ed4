/-
  Walk of the law on Under, out of the program's contract.
-/
import Derived.Test.YtgklnpkeffobnaaSL1
namespace Go.Proofs.Ytgklnpkeffobnaa
open Go.RowKit Pl Il

theorem Il.OwnAt.turned {B : Nat} {w w' : World} {a : Option Addr} {n : Nat} {xs : List Int} {a1 : Option Addr} {n1 : Nat} {a2 : Option Addr} {n2 : Nat} (h : Il.OwnAt B w a n xs) (ht : Turned a1 n1 a2 n2 w w')
    (h1 : n1 = 0 ∨ ∀ b off, a1 = some ⟨b, off, none⟩ → b < B) (h2 : n2 = 0 ∨ ∀ b off, a2 = some ⟨b, off, none⟩ → b < B) : Il.OwnAt B w' a n xs := by
  obtain ⟨⟨hl, hr⟩, ho⟩ := h
  rcases hr with h0 | ⟨b1, off, rfl, hlt, hc⟩
  · exact ⟨⟨hl, .inl h0⟩, .inl h0⟩
  · rcases ho with h0 | ⟨b', off', e, hB, hf⟩
    · exact ⟨⟨hl, .inl h0⟩, .inl h0⟩
    · cases e
      have key : w'.heap[b1]? = w.heap[b1]? := ht.block b1 hlt
        (fun o hp e => by rcases h1 with h1 | h1; · omega
                          · have := h1 _ _ e; omega)
        (fun o hp e => by rcases h2 with h2 | h2; · omega
                          · have := h2 _ _ e; omega)
      refine ⟨⟨hl, .inr ⟨b1, off, rfl, Nat.lt_of_lt_of_le hlt ht.size, fun i hi => ?_⟩⟩, .inr ⟨b1, off, rfl, hB, fun i hi => ?_⟩⟩
      · rw [← hc i hi]; exact World.cell?_of_block key
      · rw [← hf i hi]; exact World.frozen?_of_block key
/-- The blocks of tokens lie between B and the heap's end. -/
theorem TokOwn.spans {B : Nat} {w : World} {a : Option Addr} {n : Nat} {ps : List Int} {a' : Option Addr} {n' : Nat} {qs : List Bool} (h : TokOwn B w a n ps a' n' qs) :
    (n = 0 ∨ ∀ b off, a = some ⟨b, off, none⟩ → B ≤ b ∧ b < w.heap.size) ∧ (n' = 0 ∨ ∀ b off, a' = some ⟨b, off, none⟩ → B ≤ b ∧ b < w.heap.size) := by
  constructor
  · rcases h.one.own with h0 | ⟨b, off, e, hB, _⟩
    · exact .inl h0
    · rcases h.one.ints.row with h0 | ⟨b2, off2, e2, hl, _⟩
      · exact .inl h0
      · refine .inr fun b1 o1 e1 => ?_
        rw [e] at e1 e2; cases e1; cases e2; exact ⟨hB, hl⟩
  · rcases h.two.own with h0 | ⟨b, off, e, hB, _⟩
    · exact .inl h0
    · rcases h.two.ints.row with h0 | ⟨b2, off2, e2, hl, _⟩
      · exact .inl h0
      · refine .inr fun b1 o1 e1 => ?_
        rw [e] at e1 e2; cases e1; cases e2; exact ⟨hB, hl⟩
theorem mark_nn3 (n m : Nat) : ¬ (1 : Int) + (n : Int) + (m : Int) < 0 := by omega
theorem under_len24 (ps : List Int) (qs : List Bool) (x : Int) : (underL ps qs x).length ≤ 24 := by
  unfold underL
  split
  · rename_i hc
    simp only [Bool.and_eq_true] at hc
    have h1 := tokL_len hc.1
    have := under_len ps x.toNat (ps.length - x.toNat)
    omega
  · simp
/-- A list of numbers is marked: what else is as it was. -/
structure MarkedL (B : Nat) (a : Option Addr) (n : Nat) (k : Int) (w w' : World) : Prop where
  own : Il.OwnAt B w' a n (marks k n)
  below : Below B w w'
theorem markL_any (B : Nat) (a : Option Addr) (n cap : Nat) (xs : List Int) (k : Int) (w : World) (hO : Il.OwnAt B w a n xs) (hB : B ≤ w.heap.size) (hn : n ≤ 2097152) (k0 : 0 ≤ k) (k1 : k ≤ 1000000000) :
    Calls Try.prog 29 #[.slice a n cap, .int .i64 k] w fun e w' => e = .returned (.int .i64 (k + (n : Int))) ∧ MarkedL B a n k w w' := by
  refine (markIntS_any B a n cap xs k w hO hn k0 k1).mono ?_
  rintro e w' ⟨rfl, ho, ⟨rfl, rfl⟩ | ⟨hpos, b, off, rfl, hg⟩⟩
  · exact ⟨rfl, ho, Below.refl _ _⟩
  · refine ⟨rfl, ho, (Below.refl _ _).grown hg hB (fun j hj => ?_)⟩
    cases hj
    rcases ho.own with h0 | ⟨b', off', e, hb', _⟩
    · omega
    · cases e; exact hb'

/-- What is asked of the program's Under. -/
def ImplUnder : Prop := ∀ (a : Option Addr) (n c : Nat) (ps : List Int) (a' : Option Addr) (n' c' : Nat) (qs : List Bool) (x : Int) (w : World), TokIn w a n ps a' n' qs → n ≤ 2097152 → n' ≤ 2097152 → wfL ps → (Lit.int .i64 x).wf = true →
  Calls Try.prog 14 #[.agg #[.slice a n c, .slice a' n' c'], .int .i64 x] w fun e w' => ∃ a1 m1 c1, e = .returned (.slice a1 m1 c1) ∧ Il.OwnAt w.heap.size w' a1 m1 (underL ps qs x) ∧ Below w.heap.size w w'

set_option maxHeartbeats 1000000 in
theorem exactUnder_of (hI : ImplUnder) (a : Option Addr) (n c : Nat) (a' : Option Addr) (n' c' : Nat) (x : Int) (w : World) (hx : (Lit.int .i64 x).wf = true) (hn : n ≤ 9223372036854775807) (hn' : n' ≤ 9223372036854775807) (hA : ∃ ps qs, TokIn w a n ps a' n' qs ∧ wfL ps) :
    Calls Try.prog 8 #[.agg #[.slice a n c, .slice a' n' c'], .int .i64 x] w fun e w' => e = .returned (.bool true) ∧ Below w.heap.size w w' := by
  obtain ⟨ps, qs, hT, hw⟩ := hA
  generalize hW0 : w.alloc (.cells #[.slice a n c, .slice a' n' c'] 40) = W0
  have B0 : Below w.heap.size w W0 := by subst hW0; exact bl_alloc (Below.refl _ _) _
  have x0 : Box2 w.heap.size (.slice a n c) (.slice a' n' c') W0 := by subst hW0; exact Box2.new w _ _ _
  have hul := under_len24 ps qs x
  have HT := hidOf hT
  obtain ⟨_, p0, p1, _⟩ := id x0
  clear hT
  go_enter Try.func8, Try.ntmps8
  go_wp2_with fail
  refine (szTokens_any a n c a' n' c' _ hn hn').mono ?_
  rintro e w1 ⟨⟨k, rfl, hk⟩, hb1⟩
  have x1 := x0.keep hb1
  have B1 := bl_trans B0 hb1
  obtain ⟨_, q0, q1, _⟩ := id x1
  clear p0 p1 x0 hb1 B0 hW0
  rcases hk with hk | ⟨hk, hnn⟩
  · go_wp2
    go_ret
    exact ⟨rfl, B1⟩
  · have hk' : ¬ k < 0 := by omega
    have hm2 := mark_nn3 n n'
    clear hk
    go_wp2_with fail
    refine (toTokens_any a n c ps a' n' c' qs _ (HT.out.keep B1) (by omega) (by omega)).mono ?_
    rintro e w2 ⟨g2, g2', rfl, ho2, hb2⟩
    have x2 := x1.keep hb2
    have B2 := bl_trans B1 hb2
    clear x1 q0 q1 hb2 B1
    go_wp2_with fail
    refine (specUnder_any _ n n ps _ n' n' qs x _ ho2.tin (by omega) (by omega)).mono ?_
    rintro e w3 ⟨gw, mw, cw, rfl, how, hb3⟩
    have x3 := x2.keep hb3
    have B3 := bl_trans B2 hb3
    have HW := (owns_parts how).2.2.2.2.2.ints
    have hlw := HW.len
    obtain ⟨_, q0, q1, _⟩ := id x3
    have HI3 := HT.out.keep B3
    clear x2 hb3 B2 ho2 how HT
    go_wp2_with fail
    refine (toTokens_any a n c ps a' n' c' qs _ HI3 (by omega) (by omega)).mono ?_
    rintro e w4 ⟨g, g', rfl, ho4, hb4⟩
    have x4 := x3.keep hb4
    have hlt4 := x4.lt
    have hlt3 := x3.lt
    generalize hW5 : w4.alloc (.cells #[.slice (some ⟨g, 0, none⟩) n n, .slice (some ⟨g', 0, none⟩) n' n'] 27) = W5
    have b5 : Below w4.heap.size w4 W5 := by subst hW5; exact bl_alloc (Below.refl _ _) _
    have y5 : Box2 w4.heap.size (.slice (some ⟨g, 0, none⟩) n n) (.slice (some ⟨g', 0, none⟩) n' n') W5 := by subst hW5; exact Box2.new w4 _ _ _
    have s5 : W5.heap.size = w4.heap.size + 1 := by subst hW5; simp
    have S5 := bl_trans hb4 b5
    have ho5 := ho4.keep b5
    have hsp := ho4.spans
    have hs34 := hb4.size
    obtain ⟨_, r0, r1, _⟩ := id y5
    clear x4 hb4 q0 q1 ho4 b5
    go_wp2_with fail
    refine (hI _ n n ps _ n' n' qs x _ ho5.tin (by omega) (by omega) hw hx).mono ?_
    rintro e w6 ⟨a6, m6, c6, rfl, G6, hb6⟩
    have hm6 := G6.ints.len
    obtain rfl : m6 = mw := by omega
    have X6 := ho5.keep hb6
    have S6 := bl_trans S5 hb6
    have y6 := y5.keep hb6
    have hs6 := hb6.size
    have hnm := mark_nn3 m6 0
    clear r0 r1 hb6 S5 ho5 hW5 y5
    go_wp2_with fail
    refine (eqIntS_any _ _ m6 m6 c6 cw _ _ _ G6.ints (HW.keep S6) (by omega) (by omega)).mono ?_
    rintro e w7 ⟨rfl, hb7⟩
    rw [eqIL_self]
    have S7 := bl_trans S6 hb7
    have G7 := G6.keep hb7
    have X7 := X6.keep hb7
    have y7 := y6.keep hb7
    have x7 := x3.keep S7
    have hs7 := hb7.size
    have hB7 := bl_trans B3 S7
    have hS : LawS w w4.heap.size (.slice a n c) (.slice a' n' c') (.slice (some ⟨g, 0, none⟩) n n) (.slice (some ⟨g', 0, none⟩) n' n') w7 := ⟨x7.c0, x7.c1, y7.c0, y7.c1, x7.lt, y7.lt, hB7⟩
    have HS7 := hidOf S7
    have HG7 := hidOf G7
    have HX7 := hidOf X7
    have HY7 := hidOf y7
    clear S6 G6 X6 y6 hb7 x7 y7 S7 G7 X7 hB7
    go_wp2_with fail
    go_region_held3 (fun w' => LawS w w4.heap.size (.slice a n c) (.slice a' n' c') (.slice (some ⟨g, 0, none⟩) n n) (.slice (some ⟨g', 0, none⟩) n' n') w') (first | (exact hS.drew) | (exact LawS.keep (by assumption) (by assumption)))
      (first
        | (go_at_call 23; refine (toTokens_any a n c ps a' n' c' qs _ (HI3.keep (bl_trans HS7.out (Below.refl _ w7).drew)) (by omega) (by omega)).mono ?_; rintro e w8 ⟨g8, g8', rfl, ho8, hb8⟩; have b78 := bl_trans (Below.refl w7.heap.size w7).drew hb8; have X8 := HX7.out.keep b78)
        | (go_at_call 24; refine (eqTokens_any _ n n ps _ n' n' qs _ n n ps _ n' n' qs _ X8.tin ho8.tin (by omega) (by omega) (by omega) (by omega)).mono ?_; rintro e w9 ⟨rfl, hb9⟩))
    all_goals simp only [eqIL_self, eqBL_self, Bool.and_self, Bool.not_true, Bool.or_self]
    have b79 := bl_trans b78 hb9
    have S9 := bl_trans HS7.out b79
    have G9 := HG7.out.keep b79
    have X9 := HX7.out.keep b79
    have y9 := HY7.out.keep b79
    have hs9 := b79.size
    obtain ⟨_, t0, t1, _⟩ := id y9
    clear hS HS7 HG7 HX7 HY7 b78 b79 ho8 hb8 hb9 X8
    rename_i hHeld
    clear hHeld
    go_wp2_with fail
    refine (markTokens_any w3.heap.size _ n n ps _ n' n' qs 1 _ X9 (by omega) (by omega) (by omega) (by omega)).mono ?_
    rintro e w10 ⟨rfl, _, hM⟩
    have hsp1 : n = 0 ∨ ∀ b off, (some ⟨g, 0, none⟩ : Option Addr) = some ⟨b, off, none⟩ → b < W5.heap.size := by
      rcases hsp.1 with h | h
      · exact .inl h
      · exact .inr fun b off e => by have := h b off e; omega
    have hsp2 : n' = 0 ∨ ∀ b off, (some ⟨g', 0, none⟩ : Option Addr) = some ⟨b, off, none⟩ → b < W5.heap.size := by
      rcases hsp.2 with h | h
      · exact .inl h
      · exact .inr fun b off e => by have := h b off e; omega
    have G10 := G9.turned hM hsp1 hsp2
    have S10 := S9.trans (hM.below (B := w3.heap.size) (by omega) (hsp.1.imp id (fun h b off e => (h b off e).1)) (hsp.2.imp id (fun h b off e => (h b off e).1)))
    have hs10 := hM.size
    clear S9 G9 X9 y9 hM hsp1 hsp2 t0 t1
    go_wp2_with fail
    refine (eqIntS_any _ _ m6 m6 c6 cw _ _ _ G10.ints (HW.keep S10) (by omega) (by omega)).mono ?_
    rintro e w11 ⟨rfl, hb11⟩
    rw [eqIL_self]
    have S11 := bl_trans S10 hb11
    have G11 := G10.keep hb11
    have hs11 := hb11.size
    clear S10 G10 hb11
    go_wp2_with fail
    refine (markL_any W5.heap.size _ m6 c6 _ 1 _ G11 (by omega) (by omega) (by omega) (by omega)).mono ?_
    rintro e w12 ⟨rfl, hM12⟩
    have G12 := hM12.own
    have S12 := S11.trans (hM12.below.mono (by omega))
    clear S11 G11 hM12
    go_wp2_with fail
    refine (heldIntS_marks _ m6 c6 1 _ G12.ints (by omega) (by omega) (by omega)).mono ?_
    rintro e w13 ⟨rfl, rfl⟩
    have hn6 : ¬ (1 : Int) + (m6 : Int) < 0 := by omega
    obtain ⟨_, z0, z1, _⟩ := x3.keep S12
    go_wp2_with fail
    refine (toTokens_any a n c ps a' n' c' qs _ (HI3.keep S12) (by omega) (by omega)).mono ?_
    rintro e w14 ⟨g14, g14', rfl, ho14, hb14⟩
    have S14 := bl_trans S12 hb14
    have G14 := G12.keep hb14
    clear S12 G12 hb14 z0 z1
    go_wp2_with fail
    refine (hI _ n n ps _ n' n' qs x _ ho14.tin (by omega) (by omega) hw hx).mono ?_
    rintro e w15 ⟨a15, m15, c15, rfl, K15, hb15⟩
    have hm15 := K15.ints.len
    obtain rfl : m15 = m6 := by omega
    have S15 := bl_trans S14 hb15
    have G15 := G14.keep hb15
    clear S14 G14 hb15 ho14
    go_wp2_with fail
    refine (eqIntS_any _ _ m15 m15 c15 cw _ _ _ K15.ints (HW.keep S15) (by omega) (by omega)).mono ?_
    rintro e w16 ⟨rfl, hb16⟩
    rw [eqIL_self]
    have S16 := bl_trans S15 hb16
    have G16 := G15.keep hb16
    clear S15 G15 K15 hb16
    go_wp2_with fail
    refine (heldIntS_marks _ m15 c6 1 _ G16.ints (by omega) (by omega) (by omega)).mono ?_
    rintro e w17 ⟨rfl, rfl⟩
    have hE := bl_trans B3 S16
    clear S16 G16 HW HI3 B3 x3
    go_wp2
    go_ret
    exact ⟨rfl, hE⟩
end Go.Proofs.Ytgklnpkeffobnaa
