/-
  Walk of the law on NewToken, out of the program's contract.
-/
import Derived.Test.YtgklnpkeffobnaaSL2
namespace Go.Proofs.Ytgklnpkeffobnaa
open Go.RowKit Pl Il

theorem Il.OwnB.turned {B : Nat} {w w' : World} {a : Option Addr} {n : Nat} {xs : List Bool} {a1 : Option Addr} {n1 : Nat} {a2 : Option Addr} {n2 : Nat} (h : Il.OwnB B w a n xs) (ht : Turned a1 n1 a2 n2 w w')
    (h1 : n1 = 0 ∨ ∀ b off, a1 = some ⟨b, off, none⟩ → b < B) (h2 : n2 = 0 ∨ ∀ b off, a2 = some ⟨b, off, none⟩ → b < B) : Il.OwnB B w' a n xs := by
  obtain ⟨⟨hl, hr⟩, ho⟩ := h
  rcases hr with h0 | ⟨b1, off, rfl, hlt, hc⟩
  · exact ⟨⟨hl, .inl h0⟩, .inl h0⟩
  · rcases ho with h0 | ⟨b', off', e, hB, hf⟩
    · exact ⟨⟨hl, .inl h0⟩, .inl h0⟩
    · cases e
      have key : w'.heap[b1]? = w.heap[b1]? := ht.block b1 hlt
        (fun o hp e => by rcases h1 with h1 | h1; · omega
                          · have := h1 _ _ e; omega)
        (fun o hp e => by rcases h2 with h2 | h2; · omega
                          · have := h2 _ _ e; omega)
      refine ⟨⟨hl, .inr ⟨b1, off, rfl, Nat.lt_of_lt_of_le hlt ht.size, fun i hi => ?_⟩⟩, .inr ⟨b1, off, rfl, hB, fun i hi => ?_⟩⟩
      · rw [← hc i hi]; exact World.cell?_of_block key
      · rw [← hf i hi]; exact World.frozen?_of_block key
theorem TokOwn.turned {B : Nat} {w w' : World} {a : Option Addr} {n : Nat} {ps : List Int} {a' : Option Addr} {n' : Nat} {qs : List Bool} {a1 : Option Addr} {n1 : Nat} {a2 : Option Addr} {n2 : Nat} (h : TokOwn B w a n ps a' n' qs) (ht : Turned a1 n1 a2 n2 w w')
    (h1 : n1 = 0 ∨ ∀ b off, a1 = some ⟨b, off, none⟩ → b < B) (h2 : n2 = 0 ∨ ∀ b off, a2 = some ⟨b, off, none⟩ → b < B) : TokOwn B w' a n ps a' n' qs := ⟨h.one.turned ht h1 h2, h.two.turned ht h1 h2, h.apart⟩
theorem Box2.turned {N : Nat} {v0 v1 : Value} {w u : World} {a1 : Option Addr} {n1 : Nat} {a2 : Option Addr} {n2 : Nat} (h : Box2 N v0 v1 w) (ht : Turned a1 n1 a2 n2 w u)
    (h1 : n1 = 0 ∨ ∀ b off, a1 = some ⟨b, off, none⟩ → b < N) (h2 : n2 = 0 ∨ ∀ b off, a2 = some ⟨b, off, none⟩ → b < N) : Box2 N v0 v1 u := by
  have key : u.heap[N]? = w.heap[N]? := ht.block N h.lt
    (fun o hp e => by rcases h1 with h1 | h1; · omega
                      · have := h1 _ _ e; omega)
    (fun o hp e => by rcases h2 with h2 | h2; · omega
                      · have := h2 _ _ e; omega)
  exact ⟨Nat.lt_of_lt_of_le h.lt ht.size, by rw [← h.c0]; exact World.cell?_of_block key, by rw [← h.c1]; exact World.cell?_of_block key, fun k => by rw [← h.fr k]; exact World.frozen?_of_block key⟩
theorem span_lt {a : Option Addr} {n B C : Nat} (D : Nat) (h : n = 0 ∨ ∀ b off, a = some ⟨b, off, none⟩ → B ≤ b ∧ b < C) (hD : C ≤ D) : n = 0 ∨ ∀ b off, a = some ⟨b, off, none⟩ → b < D := h.imp id fun h b off e => by have := h b off e; omega
theorem span_ge {a : Option Addr} {n B C : Nat} (D : Nat) (h : n = 0 ∨ ∀ b off, a = some ⟨b, off, none⟩ → B ≤ b ∧ b < C) (hD : D ≤ B) : n = 0 ∨ ∀ b off, a = some ⟨b, off, none⟩ → D ≤ b := h.imp id fun h b off e => by have := h b off e; omega
theorem new_len (ps : List Int) (qs : List Bool) (x : Int) : (newL ps qs x).1.length ≤ ps.length + 1 ∧ (newL ps qs x).2.1.length ≤ qs.length + 1 := by
  unfold newL
  split
  · simp
  · split <;> simp

/-- What is asked of the program's NewToken. -/
def ImplNewToken : Prop := ∀ (a : Option Addr) (n c : Nat) (ps : List Int) (a' : Option Addr) (n' c' : Nat) (qs : List Bool) (x : Int) (w : World), TokIn w a n ps a' n' qs → n ≤ 2097152 → n' ≤ 2097152 → wfL ps → (Lit.int .i64 x).wf = true →
  Calls Try.prog 19 #[.agg #[.slice a n c, .slice a' n' c'], .int .i64 x] w fun e w' => ∃ a1 m1 c1 a2 m2 c2, e = .returned (.tuple #[.agg #[.slice a1 m1 c1, .slice a2 m2 c2], .int .i64 (newL ps qs x).2.2.1, .int .i64 (newL ps qs x).2.2.2]) ∧
    TokOwn w.heap.size w' a1 m1 (newL ps qs x).1 a2 m2 (newL ps qs x).2.1 ∧ Below w.heap.size w w'

set_option maxHeartbeats 2000000 in
theorem exactNewToken_of (hI : ImplNewToken) (a : Option Addr) (n c : Nat) (a' : Option Addr) (n' c' : Nat) (x : Int) (w : World) (hx : (Lit.int .i64 x).wf = true) (hn : n ≤ 9223372036854775807) (hn' : n' ≤ 9223372036854775807) (hA : ∃ ps qs, TokIn w a n ps a' n' qs ∧ wfL ps) :
    Calls Try.prog 5 #[.agg #[.slice a n c, .slice a' n' c'], .int .i64 x] w fun e w' => e = .returned (.bool true) ∧ Below w.heap.size w w' := by
  obtain ⟨ps, qs, hT, hw⟩ := hA
  generalize hW0 : w.alloc (.cells #[.slice a n c, .slice a' n' c'] 40) = W0
  have B0 : Below w.heap.size w W0 := by subst hW0; exact bl_alloc (Below.refl _ _) _
  have x0 : Box2 w.heap.size (.slice a n c) (.slice a' n' c') W0 := by subst hW0; exact Box2.new w _ _ _
  obtain ⟨hul, hul'⟩ := new_len ps qs x
  have hlp := hT.ints.len
  have hlq := hT.bools.len
  have HT := hidOf hT
  obtain ⟨_, p0, p1, _⟩ := id x0
  clear hT
  go_enter Try.func5, Try.ntmps5
  go_wp2_with fail
  refine (szTokens_any a n c a' n' c' _ hn hn').mono ?_
  rintro e w1 ⟨⟨k, rfl, hk⟩, hb1⟩
  have x1 := x0.keep hb1
  have B1 := bl_trans B0 hb1
  obtain ⟨_, q0, q1, _⟩ := id x1
  clear p0 p1 x0 hb1 B0 hW0
  rcases hk with hk | ⟨hk, hnn⟩
  · go_wp2
    go_ret
    exact ⟨rfl, B1⟩
  · have hk' : ¬ k < 0 := by omega
    have hm2 := mark_nn3 n n'
    clear hk
    go_wp2_with fail
    refine (toTokens_any a n c ps a' n' c' qs _ (HT.out.keep B1) (by omega) (by omega)).mono ?_
    rintro e w2 ⟨g2, g2', rfl, ho2, hb2⟩
    have x2 := x1.keep hb2
    have B2 := bl_trans B1 hb2
    clear x1 q0 q1 hb2 B1
    go_wp2_with fail
    refine (specNewToken_any _ n n ps _ n' n' qs x _ ho2.tin (by omega) (by omega)).mono ?_
    rintro e w3 ⟨gw, mw, cw, gw', mw', cw', rfl, how, hb3⟩
    generalize hW3 : w3.alloc (.cells #[.slice (some ⟨gw, 0, none⟩) mw cw, .slice (some ⟨gw', 0, none⟩) mw' cw'] 27) = W3
    have b3' : Below w3.heap.size w3 W3 := by subst hW3; exact bl_alloc (Below.refl _ _) _
    have u3 : Box2 w3.heap.size (.slice (some ⟨gw, 0, none⟩) mw cw) (.slice (some ⟨gw', 0, none⟩) mw' cw') W3 := by subst hW3; exact Box2.new w3 _ _ _
    have x3 := (x2.keep hb3).keep b3'
    have B3 := bl_trans (bl_trans B2 hb3) b3'
    have HW := (how.own.keep b3').tin
    have hlw := HW.ints.len
    have hlw' := HW.bools.len
    obtain ⟨_, q0, q1, _⟩ := id x3
    have HI3 := HT.out.keep B3
    clear x2 hb3 B2 ho2 how HT b3'
    generalize hnl : newL ps qs x = r at *
    go_wp2_with fail
    refine (toTokens_any a n c ps a' n' c' qs _ HI3 (by omega) (by omega)).mono ?_
    rintro e w4 ⟨g, g', rfl, ho4, hb4⟩
    have hlt3 := u3.lt
    generalize hW5 : w4.alloc (.cells #[.slice (some ⟨g, 0, none⟩) n n, .slice (some ⟨g', 0, none⟩) n' n'] 27) = W5
    have b5 : Below w4.heap.size w4 W5 := by subst hW5; exact bl_alloc (Below.refl _ _) _
    have y5 : Box2 w4.heap.size (.slice (some ⟨g, 0, none⟩) n n) (.slice (some ⟨g', 0, none⟩) n' n') W5 := by subst hW5; exact Box2.new w4 _ _ _
    have s5 : W5.heap.size = w4.heap.size + 1 := by subst hW5; simp
    have S5 := bl_trans hb4 b5
    have ho5 := ho4.keep b5
    have hsp := ho4.spans
    have hs34 := hb4.size
    obtain ⟨_, r0, r1, _⟩ := id y5
    clear hb4 q0 q1 ho4 b5 hW3
    go_wp2_with fail
    have hcall := hI (some ⟨g, 0, none⟩) n n ps (some ⟨g', 0, none⟩) n' n' qs x W5 ho5.tin (by omega) (by omega) hw hx
    rw [hnl] at hcall
    refine hcall.mono ?_
    rintro e w6 ⟨a6, m6, c6, a6', m6', c6', rfl, G6, hb6⟩
    have hm6 := G6.one.ints.len
    have hm6' := G6.two.ints.len
    obtain rfl : m6 = mw := by omega
    obtain rfl : m6' = mw' := by omega
    have hspg := G6.spans
    have hs56 := hb6.size
    generalize hW7 : w6.alloc (.cells #[.slice a6 m6 c6, .slice a6' m6' c6'] 27) = W7
    have b7 : Below w6.heap.size w6 W7 := by subst hW7; exact bl_alloc (Below.refl _ _) _
    have z7 : Box2 w6.heap.size (.slice a6 m6 c6) (.slice a6' m6' c6') W7 := by subst hW7; exact Box2.new w6 _ _ _
    have s7 : W7.heap.size = w6.heap.size + 1 := by subst hW7; simp
    have b67 := bl_trans hb6 b7
    have S7 := bl_trans S5 b67
    have X7 := ho5.keep b67
    have y7 := y5.keep b67
    have G7 := G6.keep b7
    obtain ⟨_, t0, t1, _⟩ := id z7
    obtain ⟨_, u0, u1, _⟩ := u3.keep S7
    have hnm := mark_nn3 m6 m6'
    clear r0 r1 hb6 S5 ho5 hW5 y5 b67 b7 G6 hcall
    go_wp2_with fail
    refine (eqTokens_any _ m6 c6 r.1 _ m6' c6' r.2.1 _ m6 cw r.1 _ m6' cw' r.2.1 _ G7.tin (HW.keep S7) (by omega) (by omega) (by omega) (by omega)).mono ?_
    rintro e w8 ⟨rfl, hb8⟩
    rw [eqIL_self, eqBL_self]
    have S8 := bl_trans S7 hb8
    have G8 := G7.keep hb8
    have X8 := X7.keep hb8
    have y8 := y7.keep hb8
    have z8 := z7.keep hb8
    have x8 := x3.keep S8
    have hs8 := hb8.size
    have hB8 := bl_trans B3 S8
    have hS : LawS w w4.heap.size (.slice a n c) (.slice a' n' c') (.slice (some ⟨g, 0, none⟩) n n) (.slice (some ⟨g', 0, none⟩) n' n') w8 := ⟨x8.c0, x8.c1, y8.c0, y8.c1, x8.lt, y8.lt, hB8⟩
    have HS8 := hidOf S8
    have HG8 := hidOf G8
    have HX8 := hidOf X8
    have HY8 := hidOf y8
    have HZ8 := hidOf z8
    clear S7 G7 X7 y7 z7 hb8 x8 y8 z8 S8 G8 X8 hB8 t0 t1 u0 u1 hW7
    go_wp2_with fail
    go_region_held3 (fun w' => LawS w w4.heap.size (.slice a n c) (.slice a' n' c') (.slice (some ⟨g, 0, none⟩) n n) (.slice (some ⟨g', 0, none⟩) n' n') w') (first | (exact hS.drew) | (exact LawS.keep (by assumption) (by assumption)))
      (first
        | (go_at_call 23; refine (toTokens_any a n c ps a' n' c' qs _ (HI3.keep (bl_trans HS8.out (Below.refl _ w8).drew)) (by omega) (by omega)).mono ?_; rintro e w9 ⟨g9, g9', rfl, ho9, hb9⟩; have b89 := bl_trans (Below.refl w8.heap.size w8).drew hb9; have X9 := HX8.out.keep b89)
        | (go_at_call 24; refine (eqTokens_any _ n n ps _ n' n' qs _ n n ps _ n' n' qs _ X9.tin ho9.tin (by omega) (by omega) (by omega) (by omega)).mono ?_; rintro e w10 ⟨rfl, hb10⟩))
    all_goals simp only [eqIL_self, eqBL_self, Bool.and_self, Bool.not_true, Bool.or_self]
    have b810 := bl_trans b89 hb10
    have S10 := bl_trans HS8.out b810
    have G10 := HG8.out.keep b810
    have X10 := HX8.out.keep b810
    have y10 := HY8.out.keep b810
    have z10 := HZ8.out.keep b810
    have hs10 := b810.size
    obtain ⟨_, t0, t1, _⟩ := id y10
    clear hS HS8 HG8 HX8 HY8 HZ8 b89 b810 ho9 hb9 hb10 X9
    rename_i hHeld
    clear hHeld
    go_wp2_with fail
    refine (markTokens_any W3.heap.size _ n n ps _ n' n' qs 1 _ X10 (by omega) (by omega) (by omega) (by omega)).mono ?_
    rintro e w11 ⟨rfl, _, hM⟩
    have G11 := G10.turned hM (span_lt W5.heap.size hsp.1 (by omega)) (span_lt W5.heap.size hsp.2 (by omega))
    have z11 := z10.turned hM (span_lt w6.heap.size hsp.1 (by omega)) (span_lt w6.heap.size hsp.2 (by omega))
    have S11 := S10.trans (hM.below (B := W3.heap.size) (by omega) (span_ge W3.heap.size hsp.1 (Nat.le_refl _)) (span_ge W3.heap.size hsp.2 (Nat.le_refl _)))
    have hs11 := hM.size
    obtain ⟨_, v0, v1, _⟩ := id z11
    obtain ⟨_, u0, u1, _⟩ := u3.keep S11
    clear S10 G10 X10 y10 z10 hM t0 t1
    go_wp2_with fail
    refine (eqTokens_any _ m6 c6 r.1 _ m6' c6' r.2.1 _ m6 cw r.1 _ m6' cw' r.2.1 _ G11.tin (HW.keep S11) (by omega) (by omega) (by omega) (by omega)).mono ?_
    rintro e w12 ⟨rfl, hb12⟩
    rw [eqIL_self, eqBL_self]
    have S12 := bl_trans S11 hb12
    have G12 := G11.keep hb12
    have z12 := z11.keep hb12
    have hs12 := hb12.size
    obtain ⟨_, t0, t1, _⟩ := id z12
    clear S11 G11 z11 hb12 v0 v1 u0 u1
    go_wp2_with fail
    refine (markTokens_any W5.heap.size _ m6 c6 r.1 _ m6' c6' r.2.1 1 _ G12 (by omega) (by omega) (by omega) (by omega)).mono ?_
    rintro e w13 ⟨rfl, G13, hM⟩
    have z13 := z12.turned hM (span_lt w6.heap.size hspg.1 (by omega)) (span_lt w6.heap.size hspg.2 (by omega))
    have S13 := S12.trans (hM.below (B := W3.heap.size) (by omega) (span_ge W3.heap.size hspg.1 (by omega)) (span_ge W3.heap.size hspg.2 (by omega)))
    have hs13 := hM.size
    obtain ⟨_, v0, v1, _⟩ := id z13
    clear S12 G12 z12 hM t0 t1
    go_wp2_with fail
    refine (heldTokens_marks _ m6 c6 _ m6' c6' 1 _ G13.tin (by omega) (by omega) (by omega) (by omega)).mono ?_
    rintro e w14 ⟨rfl, hb14⟩
    have S14 := bl_trans S13 hb14
    have G14 := G13.keep hb14
    have z14 := z13.keep hb14
    obtain ⟨_, t0, t1, _⟩ := x3.keep S14
    clear S13 G13 z13 hb14 v0 v1
    go_wp2_with fail
    refine (toTokens_any a n c ps a' n' c' qs _ (HI3.keep S14) (by omega) (by omega)).mono ?_
    rintro e w15 ⟨g15, g15', rfl, ho15, hb15⟩
    have S15 := bl_trans S14 hb15
    have G15 := G14.keep hb15
    have z15 := z14.keep hb15
    clear S14 G14 z14 hb15 t0 t1
    go_wp2_with fail
    have hcall := hI (some ⟨g15, 0, none⟩) n n ps (some ⟨g15', 0, none⟩) n' n' qs x w15 ho15.tin (by omega) (by omega) hw hx
    rw [hnl] at hcall
    refine hcall.mono ?_
    rintro e w16 ⟨a16, m16, c16, a16', m16', c16', rfl, K16, hb16⟩
    have hm16 := K16.one.ints.len
    have hm16' := K16.two.ints.len
    obtain rfl : m16 = m6 := by omega
    obtain rfl : m16' = m6' := by omega
    generalize hW17 : w16.alloc (.cells #[.slice a16 m16 c16, .slice a16' m16' c16'] 27) = W17
    have b17 : Below w16.heap.size w16 W17 := by subst hW17; exact bl_alloc (Below.refl _ _) _
    have k17 : Box2 w16.heap.size (.slice a16 m16 c16) (.slice a16' m16' c16') W17 := by subst hW17; exact Box2.new w16 _ _ _
    have b1617 := bl_trans hb16 b17
    have S17 := bl_trans S15 b1617
    have G17 := G15.keep b1617
    have z17 := z15.keep b1617
    have K17 := K16.keep b17
    obtain ⟨_, t0, t1, _⟩ := id k17
    obtain ⟨_, u0, u1, _⟩ := u3.keep S17
    clear S15 G15 z15 hb16 b17 b1617 K16 k17 ho15 hcall
    go_wp2_with fail
    refine (eqTokens_any _ m16 c16 r.1 _ m16' c16' r.2.1 _ m16 cw r.1 _ m16' cw' r.2.1 _ K17.tin (HW.keep S17) (by omega) (by omega) (by omega) (by omega)).mono ?_
    rintro e w18 ⟨rfl, hb18⟩
    rw [eqIL_self, eqBL_self]
    have S18 := bl_trans S17 hb18
    have G18 := G17.keep hb18
    obtain ⟨_, v0, v1, _⟩ := z17.keep hb18
    clear S17 G17 K17 hb18 z17 t0 t1 u0 u1 hW17
    go_wp2_with fail
    refine (heldTokens_marks _ m16 c6 _ m16' c6' 1 _ G18.tin (by omega) (by omega) (by omega) (by omega)).mono ?_
    rintro e w19 ⟨rfl, hb19⟩
    have hE := bl_trans B3 (bl_trans S18 hb19)
    clear S18 G18 hb19 HW HI3 B3 x3 u3
    go_wp2
    go_ret
    exact ⟨rfl, hE⟩
end Go.Proofs.Ytgklnpkeffobnaa
