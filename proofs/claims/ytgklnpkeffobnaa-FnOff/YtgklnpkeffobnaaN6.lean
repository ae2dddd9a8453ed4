/-
  Walks of the program's tokens: a new one.
-/
import Derived.Test.YtgklnpkeffobnaaN5b
import Derived.Test.YtgklnpkeffobnaaSL3
namespace Go.Proofs.Ytgklnpkeffobnaa
open Go.RowKit Pl Il

/-- What is handed back lies in the result's variable. -/
theorem fin_copy {w wx w' : World} {a1 a2 : Option Addr} {n n' : Nat} {ps : List Int} {qs : List Bool} (hb : Below w.heap.size w wx) (hsz : w.heap.size + 2 ≤ wx.heap.size) (hO : TokOwn wx.heap.size w' a1 n ps a2 n' qs) (hb' : Below wx.heap.size wx w') (x y : Value) :
    TokOwn w.heap.size ((w'.setCell ⟨w.heap.size + 1, 0, none⟩ x).setCell ⟨w.heap.size + 1, 1, none⟩ y) a1 n ps a2 n' qs ∧ Below w.heap.size w ((w'.setCell ⟨w.heap.size + 1, 0, none⟩ x).setCell ⟨w.heap.size + 1, 1, none⟩ y) :=
  ⟨((hO.far (w.heap.size + 1) 0 (by omega) x).far (w.heap.size + 1) 1 (by omega) y).mono (by omega), ((bl_trans hb hb').setCell (p := ⟨w.heap.size + 1, 0, none⟩) (by simp) x).setCell (p := ⟨w.heap.size + 1, 1, none⟩) (by simp) y⟩
/-- What the last region of NewToken holds on to. -/
abbrev NewS (w : World) (b n : Nat) (w' : World) : Prop := w'.cell? ⟨b, 0, none⟩ = some (.int .i64 (n : Int)) ∧ b < w'.heap.size ∧ w.heap.size + 2 ≤ b ∧ Below w.heap.size w w'
theorem NewS.keep {w : World} {b n : Nat} {u u' : World} (h : NewS w b n u) (hb : Below u.heap.size u u') : NewS w b n u' := by
  obtain ⟨h0, h1, h2, h3⟩ := h
  exact ⟨by rw [hb.cell (p := ⟨b, 0, none⟩) h1]; exact h0, Nat.lt_of_lt_of_le h1 hb.size, h2, bl_trans h3 hb⟩
theorem NewS.drew {w : World} {b n : Nat} {u : World} (h : NewS w b n u) : NewS w b n u.drew := h.keep (Below.refl _ _).drew
theorem NewS.alloc {w : World} {b n : Nat} {u : World} (h : NewS w b n u) (o : Obj) : NewS w b n (u.alloc o) := h.keep (bl_alloc (Below.refl _ _) o)
theorem NewS.store {w : World} {b n : Nat} {u : World} (h : NewS w b n u) (x y : Value) : NewS w b n ((u.setCell ⟨w.heap.size + 1, 0, none⟩ x).setCell ⟨w.heap.size + 1, 1, none⟩ y) := by
  obtain ⟨h0, h1, h2, h3⟩ := h
  refine ⟨?_, by simpa using h1, h2, (h3.setCell (p := ⟨w.heap.size + 1, 0, none⟩) (by simp) x).setCell (p := ⟨w.heap.size + 1, 1, none⟩) (by simp) y⟩
  have hne : b ≠ w.heap.size + 1 := by omega
  rw [World.cell?_setCell_other _ _ _ _ (by simp), World.cell?_setCell_other _ _ _ _ (fun e => hne (congrArg Addr.block e).symm)]; exact h0

set_option maxHeartbeats 800000 in
set_option maxRecDepth 100000 in
theorem implNewToken_any (a : Option Addr) (n c : Nat) (ps : List Int) (a' : Option Addr) (n' c' : Nat) (qs : List Bool) (x : Int) (w : World) (hT : TokIn w a n ps a' n' qs) (hn : n ≤ 2097152) (hn' : n' ≤ 2097152) :
    Calls Try.prog 19 #[.agg #[.slice a n c, .slice a' n' c'], .int .i64 x] w fun e w' => ∃ a1 m1 c1 a2 m2 c2, e = .returned (.tuple #[.agg #[.slice a1 m1 c1, .slice a2 m2 c2], .int .i64 (newL ps qs x).2.2.1, .int .i64 (newL ps qs x).2.2.2]) ∧
      TokOwn w.heap.size w' a1 m1 (newL ps qs x).1 a2 m2 (newL ps qs x).2.1 ∧ Below w.heap.size w w' := by
  generalize hW0 : w.alloc (.cells #[.slice a n c, .slice a' n' c'] 27) = W0
  generalize hW1 : W0.alloc (.cells #[.slice none 0 0, .slice none 0 0] 27) = W1
  have B0 : Below w.heap.size w W0 := by subst hW0; exact bl_alloc (Below.refl _ _) _
  have B1 : Below w.heap.size w W1 := by subst hW1; exact bl_alloc B0 _
  have s0 : W0.heap.size = w.heap.size + 1 := by subst hW0; simp
  have s1 : W1.heap.size = w.heap.size + 2 := by subst hW1; simp [s0]
  have x0 : Box2 w.heap.size (.slice a n c) (.slice a' n' c') W1 := by subst hW1 hW0; exact (Box2.new w _ _ _).alloc _
  have x1 : Box2 (w.heap.size + 1) (.slice none 0 0) (.slice none 0 0) W1 := by subst hW1; rw [← s0]; exact Box2.new W0 _ _ _
  have hlp := hT.ints.len
  have hlq := hT.bools.len
  have HT := hidOf hT
  obtain ⟨_, p0, p1, _⟩ := id x0
  have X0 := hidOf x0
  have X1 := hidOf x1
  have HB1 := hidOf B1
  have HS1 := hidOf s1
  clear hT x0 x1 B0 B1 s1
  go_enter Try.func19, Try.ntmps19
  go_wp2_with fail
  refine (tokenNodes_any a n c ps a' n' c' qs _ (HT.out.keep HB1.out) hn hn').mono ?_
  rintro e w2 ⟨hb2, hc2⟩
  have y0 := X0.out.keep hb2
  have y1 := X1.out.keep hb2
  have B2 := bl_trans HB1.out hb2
  have hz2 : w.heap.size + 2 ≤ w2.heap.size := by have := hb2.size; rw [HS1.out] at this; exact this
  rcases hc2 with ⟨hl, rfl⟩ | ⟨hl, av, cv, bs, rfl, hr, hN⟩
  · obtain ⟨_, r0, r1, _⟩ := id y0
    have Y1 := hidOf y1
    have HB2 := hidOf B2
    clear p0 p1 y0 y1 B2 hb2
    go_wp2_with fail
    refine (copiedTokens_any a n c ps a' n' c' qs _ (HT.out.keep HB2.out) hn hn').mono ?_
    rintro e w3 ⟨a1, c1, a2, c2, rfl, ho3, hb3⟩
    obtain ⟨_, t0, t1, tf⟩ := Y1.out.keep hb3
    have tf0 := tf 0
    have tf1 := tf 1
    have HF := hidOf (fin_copy HB2.out hz2 ho3 hb3 (.slice a1 n c1) (.slice a2 n' c2))
    clear ho3 hb3 r0 r1
    go_wp2
    refine bodyPost_ret (v := .tuple #[.agg #[.slice a1 n c1, .slice a2 n' c2], .int .i64 (-1), .int .i64 1]) (by simp [results, Try.results19, go_sem, t0, t1]) rfl ?_
    rw [new_bad (.inl hl)]
    exact ⟨_, _, _, _, _, _, rfl, HF.out.1, HF.out.2⟩
  · have hbl := hN.lp
    obtain rfl : bs.length = n := by omega
    by_cases hx : x < -1 ∨ (bs.length : Int) ≤ x
    · have hi : parIs ps x = false := by simp only [parIs, Bool.and_eq_false_iff, decide_eq_false_iff_not]; omega
      have HC := hidOf (born_no av bs.length cv x w2 hx)
      generalize hW3 : w2.alloc (nodeO bs.length (.pointer none) false) = W3 at HC
      have b3 : Below w2.heap.size w2 W3 := by subst hW3; exact bl_alloc (Below.refl _ _) _
      have z0 := y0.keep b3
      have z1 := y1.keep b3
      have B3 := bl_trans B2 b3
      have hz3 : w.heap.size + 2 ≤ W3.heap.size := Nat.le_trans hz2 b3.size
      obtain ⟨_, r0, r1, _⟩ := id z0
      have Z1 := hidOf z1
      have HB3 := hidOf B3
      clear p0 p1 y0 y1 z0 z1 B2 B3 hb2 hx hr hN b3 hW3 hbl
      go_wp2_with fail
      refine HC.out.mono ?_
      rintro e w3 ⟨rfl, rfl⟩
      go_wp2_with fail
      refine (copiedTokens_any a bs.length c ps a' n' c' qs _ (HT.out.keep HB3.out) hn hn').mono ?_
      rintro e w4 ⟨a1, c1, a2, c2, rfl, ho4, hb4⟩
      obtain ⟨_, t0, t1, tf⟩ := Z1.out.keep hb4
      have tf0 := tf 0
      have tf1 := tf 1
      have HF := hidOf (fin_copy HB3.out hz3 ho4 hb4 (.slice a1 bs.length c1) (.slice a2 n' c2))
      clear ho4 hb4 r0 r1
      go_wp2
      refine bodyPost_ret (v := .tuple #[.agg #[.slice a1 bs.length c1, .slice a2 n' c2], .int .i64 (-1), .int .i64 1]) (by simp [results, Try.results19, go_sem, t0, t1]) rfl ?_
      rw [new_bad (.inr hi)]
      exact ⟨_, _, _, _, _, _, rfl, HF.out.1, HF.out.2⟩
    · have hx1 : -1 ≤ x := by omega
      have hx2 : x ≤ (bs.length : Int) - 1 := by omega
      have hi : parIs ps x = true := by simp only [parIs, Bool.and_eq_true, decide_eq_true_eq]; omega
      have HC := hidOf (born_ok x hr hN hx1 hx2)
      generalize hpv : parV bs x = pv at HC
      generalize hbq : bornQ qs x = bq at HC
      have hbq' : bornL qs x = bq := hbq
      generalize hW3 : w2.alloc (nodeO bs.length pv bq) = W3 at HC
      have b3 : Below w2.heap.size w2 W3 := by subst hW3; exact bl_alloc (Below.refl _ _) _
      have z0 := y0.keep b3
      have z1 := y1.keep b3
      have B3 := bl_trans B2 b3
      have hz3 : w.heap.size + 2 ≤ W3.heap.size := Nat.le_trans hz2 b3.size
      obtain ⟨_, r0, r1, _⟩ := id z0
      have Z1 := hidOf z1
      have HB3 := hidOf B3
      have hl24 := (tokL_len hl).2
      by_cases h24 : bs.length = 24
      · have h24' : ((bs.length : Int) == 24) = true := by simp; omega
        have HL := hidOf hbl
        have HH := hidOf h24
        clear h24 hl24
        clear p0 p1 y0 y1 z0 z1 B2 B3 hb2 hx hr hN b3 hW3 hbl
        go_wp2_with fail
        refine HC.out.mono ?_
        rintro e w3 ⟨rfl, rfl⟩
        go_wp2_with fail
        refine (copiedTokens_any a bs.length c ps a' n' c' qs _ (HT.out.keep HB3.out) hn hn').mono ?_
        rintro e w4 ⟨a1, c1, a2, c2, rfl, ho4, hb4⟩
        obtain ⟨_, t0, t1, tf⟩ := Z1.out.keep hb4
        have tf0 := tf 0
        have tf1 := tf 1
        have HF := hidOf (fin_copy HB3.out hz3 ho4 hb4 (.slice a1 bs.length c1) (.slice a2 n' c2))
        clear ho4 hb4 r0 r1
        go_wp2
        refine bodyPost_ret (v := .tuple #[.agg #[.slice a1 bs.length c1, .slice a2 n' c2], .int .i64 (-1), .int .i64 2]) (by simp [results, Try.results19, go_sem, t0, t1]) rfl ?_
        rw [new_full hl hi (by rw [HL.out, HH.out]; exact Nat.le_refl _)]
        exact ⟨_, _, _, _, _, _, rfl, HF.out.1, HF.out.2⟩
      · have h24' : ((bs.length : Int) == 24) = false := by simp; omega
        have hnd := new_done hl hi (by omega)
        rw [hbq', hbl] at hnd
        have hk3 : W3.heap[w2.heap.size]? = some (nodeO bs.length pv bq) := by subst hW3; exact heap_alloc_new _ _
        have hr3 : NRow W1.heap.size W3.drew (.slice av bs.length cv) bs := (hr.keep b3).keep (Below.refl _ _).drew
        have hle3 : W1.heap.size ≤ W3.drew.heap.size := Nat.le_trans hb2.size b3.size
        obtain ⟨g', cc, w4, hrun, hrow4, hg4⟩ := append_node W1.heap.size (.slice av bs.length cv) bs w2.heap.size W3.drew hr3 hle3 (by omega)
        have hg34 : W3.grownBy w4 (Value.slice av bs.length cv).ownBlock := ⟨hg4.os, hg4.tape, hg4.output, hg4.size, hg4.block⟩
        have hN4 : Nodes W1.heap.size w4 (bs ++ [w2.heap.size]) (ps ++ [x]) (qs ++ [bq]) := by
          refine hN.push (v := .slice av bs.length cv) hr hb2.size hx1 hx2 ?_
          rw [hpv, hW3]; exact hg34
        have hB4 : Below w.heap.size w w4 := B3.grown hg34 B3.size (fun j hj => by have := ownsRow_ge hr hj; rw [HS1.out] at this; omega)
        have hn4 : w4.heap[w2.heap.size]? = some (nodeO bs.length pv bq) := by
          rw [hg34.block w2.heap.size (by have := lt_of_some hk3; exact this) (fun e => hr.size e.symm)]; exact hk3
        have hS3 : NewS w w2.heap.size bs.length W3 := ⟨(node_cells hk3).1, lt_of_some hk3, hz2, B3⟩
        have hS4 : NewS w w2.heap.size bs.length w4 := ⟨(node_cells hn4).1, lt_of_some hn4, hz2, hB4⟩
        have hne1 : some (w.heap.size + 1) ≠ (Value.slice av bs.length cv).ownBlock := fun e => by have := ownsRow_ge hr e.symm; rw [HS1.out] at this; omega
        obtain ⟨hl4, u0, u1, uf⟩ := z1.grownO hg34 hne1
        have hR4 : CopyR (w.heap.size + 1) w4 := ⟨u0, u1, uf 0, uf 1, hl4⟩
        have hcall := tokensOf_any W1.heap.size (some ⟨g', 0, none⟩) cc (bs ++ [w2.heap.size]) (ps ++ [x]) (qs ++ [bq]) w4 (by rw [List.length_append]; exact hrow4) hN4 (by simp; omega)
        rw [List.length_append, List.length_singleton] at hcall
        have HC4 := hidOf hcall
        have Hr := hidOf hrun
        have hz4 : w.heap.size + 2 ≤ w4.heap.size := Nat.le_trans hz3 hg34.size
        clear p0 p1 y0 y1 z0 z1 B2 B3 hb2 hx hr hN b3 hbl hcall hN4 hrow4 hg4 hg34 hr3 hle3 hn4 hk3 hpv hbq hbq' hne1 hrun hB4 hi hx1 hx2 u0 u1 uf hl4 hl24
        unfold nodeP at HC Hr
        go_wp2_with fail
        refine HC.out.mono ?_
        rintro e w3 ⟨rfl, rfl⟩
        go_wp2_with fail
        go_region_held3 (fun w' => NewS w w2.heap.size bs.length w') (first | (exact hS3.drew) | (exact hS4) | (exact NewS.alloc (by assumption) _) | (exact NewS.keep (by assumption) (by assumption)) | (exact NewS.store (by assumption) _ _))
          (first
            | (refine step_append_run (by rfl) _ _ 51 (by rfl) (.slice av bs.length cv) (.slice (some ⟨w3.heap.size, 0, none⟩) 1 1) _ (by rfl) (by rfl) Hr.out ?_)
            | (go_at_call 41; refine HC4.out.mono ?_; rintro e w5 ⟨a1, c1, a2, c2, rfl, ho5, hb5⟩; have hR5 := CopyR.keep hR4 hb5; obtain ⟨q0, q1, f0, f1, hl5⟩ := hR5))
        go_wp2
        have hF := fin_copy hS4.2.2.2 hz4 ho5 hb5 (.slice a1 (bs.length + 1) c1) (.slice a2 (bs.length + 1) c2)
        refine bodyPost_ret (v := .tuple #[.agg #[.slice a1 (bs.length + 1) c1, .slice a2 (bs.length + 1) c2], .int .i64 (bs.length : Int), .int .i64 0]) (by simp [results, Try.results19, go_sem, q0, q1]) rfl ?_
        rw [hnd]
        exact ⟨_, _, _, _, _, _, rfl, hF.1, hF.2⟩
theorem implNewToken : ImplNewToken := fun a n c ps a' n' c' qs x w hT hn hn' _ _ => implNewToken_any a n c ps a' n' c' qs x w hT hn hn'
end Go.Proofs.Ytgklnpkeffobnaa
