/-
  Walk of the law on Cancel, out of the program's contract.
-/
import Derived.Test.YtgklnpkeffobnaaSL3
namespace Go.Proofs.Ytgklnpkeffobnaa
open Go.RowKit Pl Il

theorem mark_nn4 (n m l : Nat) : ¬ (1 : Int) + (n : Int) + (m : Int) + (l : Int) < 0 := by omega
theorem cancel_len (ps : List Int) (qs : List Bool) (x : Int) : (cancelL ps qs x).1.length = qs.length ∧ (cancelL ps qs x).2.1.length ≤ 24 := by
  unfold cancelL
  split
  · simp
  · split
    · simp
    · have := cancelTo_len qs (underL ps qs x) (underL ps qs x).length
      have := under_len24 ps qs x
      simp only
      omega
theorem own_span {B : Nat} {w : World} {a : Option Addr} {n : Nat} {xs : List Int} (h : Il.OwnAt B w a n xs) : n = 0 ∨ ∀ b off, a = some ⟨b, off, none⟩ → B ≤ b ∧ b < w.heap.size := by
  rcases h.own with h0 | ⟨b, off, e, hB, _⟩
  · exact .inl h0
  · rcases h.ints.row with h0 | ⟨b2, off2, e2, hl, _⟩
    · exact .inl h0
    · refine .inr fun b1 o1 e1 => ?_
      rw [e] at e1 e2; cases e1; cases e2; exact ⟨hB, hl⟩
/-- The list at a3 lies apart from the two lists of tokens. -/
def Apart3 (a1 : Option Addr) (m1 : Nat) (a2 : Option Addr) (m2 : Nat) (a3 : Option Addr) (m3 : Nat) : Prop :=
  m3 = 0 ∨ ∀ b3 off3, a3 = some ⟨b3, off3, none⟩ → (m1 = 0 ∨ ∀ b off, a1 = some ⟨b, off, none⟩ → b3 ≠ b) ∧ (m2 = 0 ∨ ∀ b off, a2 = some ⟨b, off, none⟩ → b3 ≠ b)
theorem Il.OwnAt.turned2 {B : Nat} {w w' : World} {a : Option Addr} {n : Nat} {xs : List Int} {a1 : Option Addr} {n1 : Nat} {a2 : Option Addr} {n2 : Nat} (h : Il.OwnAt B w a n xs) (ht : Turned a1 n1 a2 n2 w w') (hap : Apart3 a1 n1 a2 n2 a n) : Il.OwnAt B w' a n xs := by
  obtain ⟨⟨hl, hr⟩, ho⟩ := h
  rcases hr with h0 | ⟨b1, off, rfl, hlt, hc⟩
  · exact ⟨⟨hl, .inl h0⟩, .inl h0⟩
  · rcases ho with h0 | ⟨b', off', e, hB, hf⟩
    · exact ⟨⟨hl, .inl h0⟩, .inl h0⟩
    · cases e
      rcases hap with h0 | hap
      · exact ⟨⟨hl, .inl h0⟩, .inl h0⟩
      · obtain ⟨h1, h2⟩ := hap b1 off rfl
        have key : w'.heap[b1]? = w.heap[b1]? := ht.block b1 hlt
          (fun o hp e => by rcases h1 with h1 | h1; · omega
                            · exact h1 _ _ e rfl)
          (fun o hp e => by rcases h2 with h2 | h2; · omega
                            · exact h2 _ _ e rfl)
        refine ⟨⟨hl, .inr ⟨b1, off, rfl, Nat.lt_of_lt_of_le hlt ht.size, fun i hi => ?_⟩⟩, .inr ⟨b1, off, rfl, hB, fun i hi => ?_⟩⟩
        · rw [← hc i hi]; exact World.cell?_of_block key
        · rw [← hf i hi]; exact World.frozen?_of_block key
/-- What marking a list of numbers may have turned. -/
abbrev Listed (a : Option Addr) (n : Nat) (w w' : World) : Prop := n = 0 ∧ w' = w ∨ 0 < n ∧ ∃ b off, a = some ⟨b, off, none⟩ ∧ w.grownBy w' (some b)
theorem TokOwn.listed {B : Nat} {w w' : World} {a1 : Option Addr} {n1 : Nat} {ps : List Int} {a2 : Option Addr} {n2 : Nat} {qs : List Bool} {a3 : Option Addr} {n3 : Nat} (h : TokOwn B w a1 n1 ps a2 n2 qs) (hl : Listed a3 n3 w w') (hap : Apart3 a1 n1 a2 n2 a3 n3) : TokOwn B w' a1 n1 ps a2 n2 qs := by
  rcases hl with ⟨_, rfl⟩ | ⟨hp, b, off, rfl, hg⟩
  · exact h
  · rcases hap with h0 | hap
    · omega
    · obtain ⟨h1, h2⟩ := hap b off rfl
      exact ⟨h.one.other hg h1, h.two.other hg h2, h.apart⟩
theorem Box2.listed {N : Nat} {v0 v1 : Value} {w w' : World} {a3 : Option Addr} {n3 : Nat} (h : Box2 N v0 v1 w) (hl : Listed a3 n3 w w') (hs : n3 = 0 ∨ ∀ b off, a3 = some ⟨b, off, none⟩ → b < N) : Box2 N v0 v1 w' := by
  rcases hl with ⟨_, rfl⟩ | ⟨hp, b, off, rfl, hg⟩
  · exact h
  · rcases hs with h0 | hs
    · omega
    · have := hs b off rfl
      exact h.grown hg (by omega)
theorem below_listed {B : Nat} {w w' : World} {a3 : Option Addr} {n3 : Nat} (hl : Listed a3 n3 w w') (hB : B ≤ w.heap.size) (hs : n3 = 0 ∨ ∀ b off, a3 = some ⟨b, off, none⟩ → B ≤ b) : Below B w w' := by
  rcases hl with ⟨_, rfl⟩ | ⟨hp, b, off, rfl, hg⟩
  · exact Below.refl _ _
  · rcases hs with h0 | hs
    · omega
    · exact (Below.refl _ _).grown hg hB (fun j hj => by cases hj; exact hs _ _ rfl)

/-- What is asked of the program's Cancel. -/
def ImplCancel : Prop := ∀ (a : Option Addr) (n c : Nat) (ps : List Int) (a' : Option Addr) (n' c' : Nat) (qs : List Bool) (x : Int) (w : World), TokIn w a n ps a' n' qs → n ≤ 2097152 → n' ≤ 2097152 → wfL ps → (Lit.int .i64 x).wf = true →
  Calls Try.prog 11 #[.agg #[.slice a n c, .slice a' n' c'], .int .i64 x] w fun e w' => ∃ a1 m1 c1 a2 m2 c2 a3 m3 c3, e = .returned (.tuple #[.agg #[.slice a1 m1 c1, .slice a2 m2 c2], .slice a3 m3 c3, .int .i64 (cancelL ps qs x).2.2]) ∧
    TokOwn w.heap.size w' a1 m1 ps a2 m2 (cancelL ps qs x).1 ∧ Il.OwnAt w.heap.size w' a3 m3 (cancelL ps qs x).2.1 ∧ Apart3 a1 m1 a2 m2 a3 m3 ∧ Below w.heap.size w w'

set_option maxHeartbeats 2000000 in
theorem exactCancel_of (hI : ImplCancel) (a : Option Addr) (n c : Nat) (a' : Option Addr) (n' c' : Nat) (x : Int) (w : World) (hx : (Lit.int .i64 x).wf = true) (hn : n ≤ 9223372036854775807) (hn' : n' ≤ 9223372036854775807) (hA : ∃ ps qs, TokIn w a n ps a' n' qs ∧ wfL ps) :
    Calls Try.prog 6 #[.agg #[.slice a n c, .slice a' n' c'], .int .i64 x] w fun e w' => e = .returned (.bool true) ∧ Below w.heap.size w w' := by
  obtain ⟨ps, qs, hT, hw⟩ := hA
  generalize hW0 : w.alloc (.cells #[.slice a n c, .slice a' n' c'] 40) = W0
  have B0 : Below w.heap.size w W0 := by subst hW0; exact bl_alloc (Below.refl _ _) _
  have x0 : Box2 w.heap.size (.slice a n c) (.slice a' n' c') W0 := by subst hW0; exact Box2.new w _ _ _
  obtain ⟨hul, hul'⟩ := cancel_len ps qs x
  have hlp := hT.ints.len
  have hlq := hT.bools.len
  have HT := hidOf hT
  obtain ⟨_, p0, p1, _⟩ := id x0
  clear hT
  go_enter Try.func6, Try.ntmps6
  go_wp2_with fail
  refine (szTokens_any a n c a' n' c' _ hn hn').mono ?_
  rintro e w1 ⟨⟨k, rfl, hk⟩, hb1⟩
  have x1 := x0.keep hb1
  have B1 := bl_trans B0 hb1
  obtain ⟨_, q0, q1, _⟩ := id x1
  clear p0 p1 x0 hb1 B0 hW0
  rcases hk with hk | ⟨hk, hnn⟩
  · go_wp2
    go_ret
    exact ⟨rfl, B1⟩
  · have hk' : ¬ k < 0 := by omega
    have hm2 := mark_nn3 n n'
    clear hk
    go_wp2_with fail
    refine (toTokens_any a n c ps a' n' c' qs _ (HT.out.keep B1) (by omega) (by omega)).mono ?_
    rintro e w2 ⟨g2, g2', rfl, ho2, hb2⟩
    have x2 := x1.keep hb2
    have B2 := bl_trans B1 hb2
    clear x1 q0 q1 hb2 B1
    go_wp2_with fail
    refine (specCancel_any _ n n ps _ n' n' qs x _ ho2.tin (by omega) (by omega)).mono ?_
    rintro e w3 ⟨gw, cw, gw', cw', al, ml, cl, rfl, how, hol, _, hb3⟩
    generalize hW3 : w3.alloc (.cells #[.slice (some ⟨gw, 0, none⟩) n cw, .slice (some ⟨gw', 0, none⟩) n' cw'] 27) = W3
    have b3' : Below w3.heap.size w3 W3 := by subst hW3; exact bl_alloc (Below.refl _ _) _
    have u3 : Box2 w3.heap.size (.slice (some ⟨gw, 0, none⟩) n cw) (.slice (some ⟨gw', 0, none⟩) n' cw') W3 := by subst hW3; exact Box2.new w3 _ _ _
    have x3 := (x2.keep hb3).keep b3'
    have B3 := bl_trans (bl_trans B2 hb3) b3'
    have HW := (how.own.keep b3').tin
    have HWl := hol.ints.keep b3'
    have hll := HWl.len
    have hlw := HW.ints.len
    have hlw' := HW.bools.len
    obtain ⟨_, q0, q1, _⟩ := id x3
    have HI3 := HT.out.keep B3
    clear x2 hb3 B2 ho2 how hol HT b3'
    generalize hnl : cancelL ps qs x = r at *
    go_wp2_with fail
    refine (toTokens_any a n c ps a' n' c' qs _ HI3 (by omega) (by omega)).mono ?_
    rintro e w4 ⟨g, g', rfl, ho4, hb4⟩
    have hlt3 := u3.lt
    generalize hW5 : w4.alloc (.cells #[.slice (some ⟨g, 0, none⟩) n n, .slice (some ⟨g', 0, none⟩) n' n'] 27) = W5
    have b5 : Below w4.heap.size w4 W5 := by subst hW5; exact bl_alloc (Below.refl _ _) _
    have y5 : Box2 w4.heap.size (.slice (some ⟨g, 0, none⟩) n n) (.slice (some ⟨g', 0, none⟩) n' n') W5 := by subst hW5; exact Box2.new w4 _ _ _
    have s5 : W5.heap.size = w4.heap.size + 1 := by subst hW5; simp
    have S5 := bl_trans hb4 b5
    have ho5 := ho4.keep b5
    have hsp := ho4.spans
    have hs34 := hb4.size
    obtain ⟨_, r0, r1, _⟩ := id y5
    clear hb4 q0 q1 ho4 b5 hW3
    go_wp2_with fail
    have hcall := hI (some ⟨g, 0, none⟩) n n ps (some ⟨g', 0, none⟩) n' n' qs x W5 ho5.tin (by omega) (by omega) hw hx
    rw [hnl] at hcall
    refine hcall.mono ?_
    rintro e w6 ⟨a6, m6, c6, a6', m6', c6', al6, ml6, cl6, rfl, G6, L6, hap, hb6⟩
    have hm6 := G6.one.ints.len
    have hm6' := G6.two.ints.len
    have hml6 := L6.ints.len
    obtain rfl : m6 = n := by omega
    obtain rfl : m6' = n' := by omega
    obtain rfl : ml6 = ml := by omega
    have hspl : ml6 = 0 ∨ ∀ b off, al6 = some ⟨b, off, none⟩ → W5.heap.size ≤ b ∧ b < w6.heap.size := own_span L6
    have hspg := G6.spans
    have hs56 := hb6.size
    generalize hW7 : w6.alloc (.cells #[.slice a6 m6 c6, .slice a6' m6' c6'] 27) = W7
    have b7 : Below w6.heap.size w6 W7 := by subst hW7; exact bl_alloc (Below.refl _ _) _
    have z7 : Box2 w6.heap.size (.slice a6 m6 c6) (.slice a6' m6' c6') W7 := by subst hW7; exact Box2.new w6 _ _ _
    have s7 : W7.heap.size = w6.heap.size + 1 := by subst hW7; simp
    have b67 := bl_trans hb6 b7
    have S7 := bl_trans S5 b67
    have X7 := ho5.keep b67
    have y7 := y5.keep b67
    have G7 := G6.keep b7
    have L7 := L6.keep b7
    obtain ⟨_, t0, t1, _⟩ := id z7
    obtain ⟨_, u0, u1, _⟩ := u3.keep S7
    have hnm := mark_nn3 m6 m6'
    have hnm2 := mark_nn4 m6 m6' ml6
    clear r0 r1 hb6 S5 ho5 hW5 y5 b67 b7 G6 L6 hcall
    go_wp2_with fail
    refine (eqTokens_any _ m6 c6 ps _ m6' c6' r.1 _ m6 cw ps _ m6' cw' r.1 _ G7.tin (HW.keep S7) (by omega) (by omega) (by omega) (by omega)).mono ?_
    rintro e w8 ⟨rfl, hb8⟩
    rw [eqIL_self, eqBL_self]
    have S7b := bl_trans S7 hb8
    have L7b := L7.keep hb8
    have hs7b := hb8.size
    go_wp2_with fail
    refine (eqIntS_any _ _ ml6 ml6 cl6 cl _ _ _ L7b.ints (HWl.keep S7b) (by omega) (by omega)).mono ?_
    rintro e w8b ⟨rfl, hb8b⟩
    rw [eqIL_self]
    replace hb8 := bl_trans hb8 hb8b
    clear S7b L7b hb8b
    have S8 := bl_trans S7 hb8
    have G8 := G7.keep hb8
    have L8 := L7.keep hb8
    have X8 := X7.keep hb8
    have y8 := y7.keep hb8
    have z8 := z7.keep hb8
    have x8 := x3.keep S8
    have hs8 := hb8.size
    have hB8 := bl_trans B3 S8
    have hS : LawS w w4.heap.size (.slice a m6 c) (.slice a' m6' c') (.slice (some ⟨g, 0, none⟩) m6 m6) (.slice (some ⟨g', 0, none⟩) m6' m6') w8b := ⟨x8.c0, x8.c1, y8.c0, y8.c1, x8.lt, y8.lt, hB8⟩
    have HS8 := hidOf S8
    have HG8 := hidOf G8
    have HL8 := hidOf L8
    have HX8 := hidOf X8
    have HY8 := hidOf y8
    have HZ8 := hidOf z8
    clear S7 G7 X7 y7 z7 hb8 x8 y8 z8 S8 G8 L8 L7 X8 hB8 t0 t1 u0 u1 hW7
    go_wp2_with fail
    go_region_held3 (fun w' => LawS w w4.heap.size (.slice a m6 c) (.slice a' m6' c') (.slice (some ⟨g, 0, none⟩) m6 m6) (.slice (some ⟨g', 0, none⟩) m6' m6') w') (first | (exact hS.drew) | (exact LawS.keep (by assumption) (by assumption)))
      (first
        | (go_at_call 23; refine (toTokens_any a m6 c ps a' m6' c' qs _ (HI3.keep (bl_trans HS8.out (Below.refl _ w8b).drew)) (by omega) (by omega)).mono ?_; rintro e w9 ⟨g9, g9', rfl, ho9, hb9⟩; have b89 := bl_trans (Below.refl w8b.heap.size w8b).drew hb9; have X9 := HX8.out.keep b89)
        | (go_at_call 24; refine (eqTokens_any _ m6 m6 ps _ m6' m6' qs _ m6 m6 ps _ m6' m6' qs _ X9.tin ho9.tin (by omega) (by omega) (by omega) (by omega)).mono ?_; rintro e w10 ⟨rfl, hb10⟩))
    all_goals simp only [eqIL_self, eqBL_self, Bool.and_self, Bool.not_true, Bool.or_self]
    have b810 := bl_trans b89 hb10
    have S10 := bl_trans HS8.out b810
    have G10 := HG8.out.keep b810
    have L10 := HL8.out.keep b810
    have X10 := HX8.out.keep b810
    have y10 := HY8.out.keep b810
    have z10 := HZ8.out.keep b810
    have hs10 := b810.size
    obtain ⟨_, t0, t1, _⟩ := id y10
    clear hS HS8 HG8 HL8 HX8 HY8 HZ8 b89 b810 ho9 hb9 hb10 X9
    rename_i hHeld
    clear hHeld
    go_wp2_with fail
    refine (markTokens_any W3.heap.size _ m6 m6 ps _ m6' m6' qs 1 _ X10 (by omega) (by omega) (by omega) (by omega)).mono ?_
    rintro e w11 ⟨rfl, _, hM⟩
    have G11 := G10.turned hM (span_lt W5.heap.size hsp.1 (by omega)) (span_lt W5.heap.size hsp.2 (by omega))
    have L11 := L10.turned hM (span_lt W5.heap.size hsp.1 (by omega)) (span_lt W5.heap.size hsp.2 (by omega))
    have z11 := z10.turned hM (span_lt w6.heap.size hsp.1 (by omega)) (span_lt w6.heap.size hsp.2 (by omega))
    have S11 := S10.trans (hM.below (B := W3.heap.size) (by omega) (span_ge W3.heap.size hsp.1 (Nat.le_refl _)) (span_ge W3.heap.size hsp.2 (Nat.le_refl _)))
    have hs11 := hM.size
    obtain ⟨_, v0, v1, _⟩ := id z11
    obtain ⟨_, u0, u1, _⟩ := u3.keep S11
    clear S10 G10 L10 X10 y10 z10 hM t0 t1
    go_wp2_with fail
    refine (eqTokens_any _ m6 c6 ps _ m6' c6' r.1 _ m6 cw ps _ m6' cw' r.1 _ G11.tin (HW.keep S11) (by omega) (by omega) (by omega) (by omega)).mono ?_
    rintro e w12 ⟨rfl, hb12⟩
    rw [eqIL_self, eqBL_self]
    have S11b := bl_trans S11 hb12
    have L11b := L11.keep hb12
    go_wp2_with fail
    refine (eqIntS_any _ _ ml6 ml6 cl6 cl _ _ _ L11b.ints (HWl.keep S11b) (by omega) (by omega)).mono ?_
    rintro e w12b ⟨rfl, hb12b⟩
    rw [eqIL_self]
    replace hb12 := bl_trans hb12 hb12b
    clear S11b L11b hb12b
    have S12 := bl_trans S11 hb12
    have L12 := L11.keep hb12
    have G12 := G11.keep hb12
    have z12 := z11.keep hb12
    have hs12 := hb12.size
    obtain ⟨_, t0, t1, _⟩ := id z12
    clear S11 G11 L11 z11 hb12 v0 v1 u0 u1
    go_wp2_with fail
    refine (markTokens_any W5.heap.size _ m6 c6 ps _ m6' c6' r.1 1 _ G12 (by omega) (by omega) (by omega) (by omega)).mono ?_
    rintro e w13 ⟨rfl, G13, hM⟩
    have z13 := z12.turned hM (span_lt w6.heap.size hspg.1 (by omega)) (span_lt w6.heap.size hspg.2 (by omega))
    have S13 := S12.trans (hM.below (B := W3.heap.size) (by omega) (span_ge W3.heap.size hspg.1 (by omega)) (span_ge W3.heap.size hspg.2 (by omega)))
    have hs13 := hM.size
    have L13 := L12.turned2 hM hap
    clear S12 G12 L12 z12 hM t0 t1
    go_wp2_with fail
    refine (markIntS_any W5.heap.size al6 ml6 cl6 _ (1 + (m6 : Int) + (m6' : Int)) _ L13 (by omega) (by omega) (by omega)).mono ?_
    rintro e w13b ⟨rfl, L13b, hMt⟩
    have hgr : ml6 = 0 ∧ w13b = w13 ∨ 0 < ml6 ∧ ∃ b off, al6 = some ⟨b, off, none⟩ ∧ w13.grownBy w13b (some b) := hMt
    have G13 := G13.listed hgr hap
    have z13 := z13.listed hgr (hspl.imp id fun h b off e => by have := h b off e; omega)
    have S13 := S13.trans (below_listed hgr (B := W3.heap.size) (by omega) (hspl.imp id fun h b off e => by have := h b off e; omega))
    have L13 := L13b
    clear hMt hgr L13b
    obtain ⟨_, v0, v1, _⟩ := id z13
    go_wp2_with fail
    refine (heldTokens_marks _ m6 c6 _ m6' c6' 1 _ G13.tin (by omega) (by omega) (by omega) (by omega)).mono ?_
    rintro e w14 ⟨rfl, hb14⟩
    have L13c := L13.keep hb14
    go_wp2_with fail
    refine (heldIntS_marks _ ml6 cl6 (1 + (m6 : Int) + (m6' : Int)) _ L13c.ints (by omega) (by omega) (by omega)).mono ?_
    rintro e w14b ⟨rfl, rfl⟩
    have S14 := bl_trans S13 hb14
    have L14 := L13c
    have G14 := G13.keep hb14
    have z14 := z13.keep hb14
    obtain ⟨_, t0, t1, _⟩ := x3.keep S14
    clear S13 G13 L13 L13c z13 hb14 v0 v1
    go_wp2_with fail
    refine (toTokens_any a m6 c ps a' m6' c' qs _ (HI3.keep S14) (by omega) (by omega)).mono ?_
    rintro e w15 ⟨g15, g15', rfl, ho15, hb15⟩
    have S15 := bl_trans S14 hb15
    have G15 := G14.keep hb15
    have L15 := L14.keep hb15
    have z15 := z14.keep hb15
    clear S14 G14 L14 z14 hb15 t0 t1
    go_wp2_with fail
    have hcall := hI (some ⟨g15, 0, none⟩) m6 m6 ps (some ⟨g15', 0, none⟩) m6' m6' qs x w15 ho15.tin (by omega) (by omega) hw hx
    rw [hnl] at hcall
    refine hcall.mono ?_
    rintro e w16 ⟨a16, m16, c16, a16', m16', c16', al16, ml16, cl16, rfl, K16, KL16, _, hb16⟩
    have hm16 := K16.one.ints.len
    have hm16' := K16.two.ints.len
    have hml16 := KL16.ints.len
    obtain rfl : m16 = m6 := by omega
    obtain rfl : m16' = m6' := by omega
    obtain rfl : ml16 = ml6 := by omega
    generalize hW17 : w16.alloc (.cells #[.slice a16 m16 c16, .slice a16' m16' c16'] 27) = W17
    have b17 : Below w16.heap.size w16 W17 := by subst hW17; exact bl_alloc (Below.refl _ _) _
    have k17 : Box2 w16.heap.size (.slice a16 m16 c16) (.slice a16' m16' c16') W17 := by subst hW17; exact Box2.new w16 _ _ _
    have b1617 := bl_trans hb16 b17
    have S17 := bl_trans S15 b1617
    have G17 := G15.keep b1617
    have z17 := z15.keep b1617
    have K17 := K16.keep b17
    have KL17 := KL16.keep b17
    have L17 := L15.keep b1617
    obtain ⟨_, t0, t1, _⟩ := id k17
    obtain ⟨_, u0, u1, _⟩ := u3.keep S17
    clear S15 G15 L15 z15 hb16 b17 b1617 K16 KL16 k17 ho15 hcall
    go_wp2_with fail
    refine (eqTokens_any _ m16 c16 ps _ m16' c16' r.1 _ m16 cw ps _ m16' cw' r.1 _ K17.tin (HW.keep S17) (by omega) (by omega) (by omega) (by omega)).mono ?_
    rintro e w18 ⟨rfl, hb18⟩
    rw [eqIL_self, eqBL_self]
    have S17b := bl_trans S17 hb18
    have KL18 := KL17.keep hb18
    go_wp2_with fail
    refine (eqIntS_any _ _ ml16 ml16 cl16 cl _ _ _ KL18.ints (HWl.keep S17b) (by omega) (by omega)).mono ?_
    rintro e w18b ⟨rfl, hb18b⟩
    rw [eqIL_self]
    replace hb18 := bl_trans hb18 hb18b
    clear S17b KL18 KL17 hb18b
    have S18 := bl_trans S17 hb18
    have L18 := L17.keep hb18
    have G18 := G17.keep hb18
    obtain ⟨_, v0, v1, _⟩ := z17.keep hb18
    clear S17 G17 L17 K17 hb18 z17 t0 t1 u0 u1 hW17
    go_wp2_with fail
    refine (heldTokens_marks _ m16 c6 _ m16' c6' 1 _ G18.tin (by omega) (by omega) (by omega) (by omega)).mono ?_
    rintro e w19 ⟨rfl, hb19⟩
    have L19 := L18.keep hb19
    go_wp2_with fail
    refine (heldIntS_marks _ ml16 cl6 (1 + (m16 : Int) + (m16' : Int)) _ L19.ints (by omega) (by omega) (by omega)).mono ?_
    rintro e w20 ⟨rfl, rfl⟩
    have hE := bl_trans B3 (bl_trans S18 hb19)
    clear S18 G18 L18 L19 hb19 HW HWl HI3 B3 x3 u3
    go_wp2
    go_ret
    exact ⟨rfl, hE⟩
end Go.Proofs.Ytgklnpkeffobnaa
