/-
  Walks of the program's tokens: Cancel.
-/
import Derived.Test.YtgklnpkeffobnaaN9
import Derived.Test.YtgklnpkeffobnaaN6
import Derived.Test.YtgklnpkeffobnaaSL4
namespace Go.Proofs.Ytgklnpkeffobnaa
open Go.RowKit Pl Il

/-- What the last region of Cancel holds on to: the variable of those that are told. -/
abbrev CanS (w : World) (b : Nat) (v : Value) (w' : World) : Prop := w'.cell? ⟨b, 0, none⟩ = some v ∧ b < w'.heap.size ∧ w.heap.size + 2 ≤ b ∧ Below w.heap.size w w'
theorem CanS.keep {w : World} {b : Nat} {v : Value} {u u' : World} (h : CanS w b v u) (hb : Below u.heap.size u u') : CanS w b v u' := by
  obtain ⟨h0, h1, h2, h3⟩ := h
  exact ⟨by rw [hb.cell (p := ⟨b, 0, none⟩) h1]; exact h0, Nat.lt_of_lt_of_le h1 hb.size, h2, bl_trans h3 hb⟩
theorem CanS.drew {w : World} {b : Nat} {v : Value} {u : World} (h : CanS w b v u) : CanS w b v u.drew := h.keep (Below.refl _ _).drew
theorem CanS.store {w : World} {b : Nat} {v : Value} {u : World} (h : CanS w b v u) (x y : Value) : CanS w b v ((u.setCell ⟨w.heap.size + 1, 0, none⟩ x).setCell ⟨w.heap.size + 1, 1, none⟩ y) := by
  obtain ⟨h0, h1, h2, h3⟩ := h
  refine ⟨?_, by simpa using h1, h2, (h3.setCell (p := ⟨w.heap.size + 1, 0, none⟩) (by simp) x).setCell (p := ⟨w.heap.size + 1, 1, none⟩) (by simp) y⟩
  have hne : b ≠ w.heap.size + 1 := by omega
  rw [World.cell?_setCell_other _ _ _ _ (by simp), World.cell?_setCell_other _ _ _ _ (fun e => hne (congrArg Addr.block e).symm)]; exact h0

set_option maxHeartbeats 800000 in
set_option maxRecDepth 100000 in
theorem implCancel_any (a : Option Addr) (n c : Nat) (ps : List Int) (a' : Option Addr) (n' c' : Nat) (qs : List Bool) (x : Int) (w : World) (hT : TokIn w a n ps a' n' qs) (hn : n ≤ 2097152) (hn' : n' ≤ 2097152) :
    Calls Try.prog 11 #[.agg #[.slice a n c, .slice a' n' c'], .int .i64 x] w fun e w' => ∃ a1 m1 c1 a2 m2 c2 a3 m3 c3, e = .returned (.tuple #[.agg #[.slice a1 m1 c1, .slice a2 m2 c2], .slice a3 m3 c3, .int .i64 (cancelL ps qs x).2.2]) ∧
      TokOwn w.heap.size w' a1 m1 ps a2 m2 (cancelL ps qs x).1 ∧ Il.OwnAt w.heap.size w' a3 m3 (cancelL ps qs x).2.1 ∧ Apart3 a1 m1 a2 m2 a3 m3 ∧ Below w.heap.size w w' := by
  generalize hW0 : w.alloc (.cells #[.slice a n c, .slice a' n' c'] 27) = W0
  generalize hW1 : W0.alloc (.cells #[.slice none 0 0, .slice none 0 0] 27) = W1
  have B0 : Below w.heap.size w W0 := by subst hW0; exact bl_alloc (Below.refl _ _) _
  have B1 : Below w.heap.size w W1 := by subst hW1; exact bl_alloc B0 _
  have s0 : W0.heap.size = w.heap.size + 1 := by subst hW0; simp
  have s1 : W1.heap.size = w.heap.size + 2 := by subst hW1; simp [s0]
  have x0 : Box2 w.heap.size (.slice a n c) (.slice a' n' c') W1 := by subst hW1 hW0; exact (Box2.new w _ _ _).alloc _
  have x1 : Box2 (w.heap.size + 1) (.slice none 0 0) (.slice none 0 0) W1 := by subst hW1; rw [← s0]; exact Box2.new W0 _ _ _
  have hlp := hT.ints.len
  have hlq := hT.bools.len
  have HT := hidOf hT
  obtain ⟨_, p0, p1, _⟩ := id x0
  have X0 := hidOf x0
  have X1 := hidOf x1
  have HB1 := hidOf B1
  have HS1 := hidOf s1
  have hmf : ∀ (fn : Fn) (first cap : Array Value) (w : World), (Instr.makeFunc fn first cap).run Try.prog w = .ok (.func fn first cap) w := fun _ _ _ _ => rfl
  clear hT x0 x1 B0 B1 s1
  go_enter Try.func11, Try.ntmps11
  go_wp2_with fail
  refine (tokenNodes_any a n c ps a' n' c' qs _ (HT.out.keep HB1.out) hn hn').mono ?_
  rintro e w2 ⟨hb2, hc2⟩
  have y0 := X0.out.keep hb2
  have y1 := X1.out.keep hb2
  have B2 := bl_trans HB1.out hb2
  have hz2 : w.heap.size + 2 ≤ w2.heap.size := by have := hb2.size; rw [HS1.out] at this; exact this
  rcases hc2 with ⟨hl, rfl⟩ | ⟨hl, av, cv, bs, rfl, hr, hN⟩
  · obtain ⟨_, r0, r1, _⟩ := id y0
    have Y1 := hidOf y1
    have HB2 := hidOf B2
    clear p0 p1 y0 y1 B2 hb2
    go_wp2_with fail
    refine (copiedTokens_any a n c ps a' n' c' qs _ (HT.out.keep HB2.out) hn hn').mono ?_
    rintro e w3 ⟨a1, c1, a2, c2, rfl, ho3, hb3⟩
    obtain ⟨_, t0, t1, tf⟩ := Y1.out.keep hb3
    have tf0 := tf 0
    have tf1 := tf 1
    have HF := hidOf (fin_copy HB2.out hz2 ho3 hb3 (.slice a1 n c1) (.slice a2 n' c2))
    clear ho3 hb3 r0 r1
    go_wp2
    refine bodyPost_ret (v := .tuple #[.agg #[.slice a1 n c1, .slice a2 n' c2], .slice none 0 0, .int .i64 1]) (by simp [results, Try.results11, go_sem, t0, t1]) rfl ?_
    rw [cancel_bad hl]
    exact ⟨_, _, _, _, _, _, _, _, _, rfl, HF.out.1, ⟨⟨rfl, .inl rfl⟩, .inl rfl⟩, (.inl rfl), HF.out.2⟩
  · have hbl := hN.lp
    obtain rfl : bs.length = n := by omega
    by_cases hx : x < 0 ∨ (bs.length : Int) ≤ x
    · have hi : tokIs ps x = false := by simp only [tokIs, Bool.and_eq_false_iff, decide_eq_false_iff_not]; omega
      have HC := hidOf (tokenAt_no av bs.length cv x w2 hx)
      obtain ⟨_, r0, r1, _⟩ := id y0
      have Y1 := hidOf y1
      have HB2 := hidOf B2
      clear p0 p1 y0 y1 B2 hb2 hx hr hN hbl
      go_wp2_with fail
      refine HC.out.mono ?_
      rintro e w3 ⟨rfl, rfl⟩
      go_wp2_with fail
      refine (copiedTokens_any a bs.length c ps a' n' c' qs _ (HT.out.keep HB2.out) hn hn').mono ?_
      rintro e w4 ⟨a1, c1, a2, c2, rfl, ho4, hb4⟩
      obtain ⟨_, t0, t1, tf⟩ := Y1.out.keep hb4
      have tf0 := tf 0
      have tf1 := tf 1
      have HF := hidOf (fin_copy HB2.out hz2 ho4 hb4 (.slice a1 bs.length c1) (.slice a2 n' c2))
      clear ho4 hb4 r0 r1
      go_wp2
      refine bodyPost_ret (v := .tuple #[.agg #[.slice a1 bs.length c1, .slice a2 n' c2], .slice none 0 0, .int .i64 3]) (by simp [results, Try.results11, go_sem, t0, t1]) rfl ?_
      rw [cancel_none hl hi]
      exact ⟨_, _, _, _, _, _, _, _, _, rfl, HF.out.1, ⟨⟨rfl, .inl rfl⟩, .inl rfl⟩, (.inl rfl), HF.out.2⟩
    · obtain ⟨k, rfl⟩ := Int.eq_ofNat_of_zero_le (show 0 ≤ x by omega)
      have hk : k < bs.length := by omega
      have hl24 := (tokL_len hl).2
      have hti : tokIs ps (k : Int) = true := by simp only [tokIs, Bool.and_eq_true, decide_eq_true_eq]; omega
      have hdc := down_cancel (f := bs.length) hl hti hbl hN.par (by omega) hk
      obtain ⟨a2, c2, e2, h0 | ⟨g, ea, _, hg, hcl⟩⟩ := hr.parts
      · omega
      · simp only [Value.slice.injEq] at e2
        obtain ⟨e21, e22, e23⟩ := e2
        clear e22 e23
        rw [ea] at e21
        subst e21
        have HA := hidOf (tokenAt_yes g bs.length cv k _ w2 hk (hcl k hk))
        have hD := DMem.start (w0 := W1) (B0 := W1.heap.size) hr hN hb2 (Nat.le_refl _) hb2.size
        have hdl : ((downL ps bs.length bs.length k).foldl cancelStep (qs, [])).2.length ≤ 24 := by
          have h1 := (cancelFold_len (downL ps bs.length bs.length k) (qs, [])).2
          have h2 := down_len24 (f := bs.length) (show parR ps bs.length from hN.par) (by omega) hk
          simp only [List.length_nil] at h1
          omega
        have HG := hidOf (goDownCancel_any hD k hk (by omega))
        generalize hfq : ((downL ps bs.length bs.length k).foldl cancelStep (qs, [])).1 = Q at HG hdc
        generalize hfg : ((downL ps bs.length bs.length k).foldl cancelStep (qs, [])).2 = G at HG hdc hdl
        have HDC := hidOf hdc
        generalize bs.getD k 0 = b at HA HG
        unfold nodeP at HA HG
        clear hx hr hN hcl hg hb2 hD hdc hti hl24 y0 y1 p0 p1 B2 hfq hfg hbl ea
        go_wp2_with fail
        refine HA.out.mono ?_
        rintro e w3 ⟨rfl, rfl⟩
        go_wp2_with fail
        refine HG.out.mono ?_
        rintro e w4 ⟨rfl, gv, hd⟩
        have c4 := cell_one hd.bn
        have HSo := hidOf (sort_any hd.gone (by omega))
        have HD := hidOf hd
        clear hd
        go_wp2_with fail
        refine HSo.out.mono ?_
        rintro e w5 ⟨rfl, ho5, hg5⟩
        have hd5 := HD.out.grown hg5 (gs' := G.mergeSort fun x y => decide (x ≤ y)) (by simpa using ho5)
        have hB5 := bl_trans HB1.out hd5.below
        have hS5 : CanS w w3.heap.size gv w5 := ⟨cell_one hd5.bn, lt_of_some hd5.bn, hz2, hB5⟩
        have hz5 : w.heap.size + 2 ≤ w5.heap.size := Nat.le_trans hz2 (Nat.le_of_lt (lt_of_some hd5.bn))
        obtain ⟨hl5, u0, u1, uf⟩ := X1.out.keep hd5.below
        have hR5 : CopyR (w.heap.size + 1) w5.drew := CopyR.drew ⟨u0, u1, uf 0, uf 1, hl5⟩
        have hcall := tokensOf_any W1.heap.size (some ⟨g, 0, none⟩) cv bs ps Q w5.drew (hd5.row.keep (Below.refl _ _).drew) (hd5.nodes.keep (Below.refl _ _).drew) hn
        obtain ⟨a3, c3, rfl, ho3⟩ := own_of hd5.gone _ rfl
        have HC5 := hidOf hcall
        have HO3 := hidOf ho3
        have HB5 := hidOf hB5
        clear hcall hd5 ho3 ho5 hg5 HD HSo HG hB5 u0 u1 uf hl5 c4
        generalize hGs : (G.mergeSort fun x y => decide (x ≤ y)) = Gs at *
        have hm3 := HO3.out.ints.len
        generalize Gs.length = m3 at *
        go_wp2_with fail
        go_region_held3 (fun w' => CanS w w3.heap.size (.slice a3 m3 c3) w') (first | (exact hS5.drew) | (exact CanS.keep (by assumption) (by assumption)) | (exact CanS.store (by assumption) _ _))
          (first | (go_at_call 41; refine HC5.out.mono ?_; rintro e w6 ⟨a1, c1, a2, c2, rfl, ho6, hb6⟩; have hR6 := CopyR.keep hR5 hb6; obtain ⟨q0, q1, f0, f1, hl6⟩ := hR6))
        go_wp2
        have hO3 := HO3.out.keep ((Below.refl _ w5).drew.trans hb6)
        have hF := fin_copy (wx := w5.drew) (HB5.out.trans (Below.refl _ _).drew) hz5 ho6 hb6 (.slice a1 bs.length c1) (.slice a2 bs.length c2)
        have hG := ((hO3.far (w.heap.size + 1) 0 (by rw [HS1.out]; omega) (.slice a1 bs.length c1)).far (w.heap.size + 1) 1 (by rw [HS1.out]; omega) (.slice a2 bs.length c2)).mono (B' := w.heap.size) (by rw [HS1.out]; omega)
        have hAp : Apart3 a1 bs.length a2 bs.length a3 m3 := by
          rcases HO3.out.ints.row with h | ⟨b3, o3, e3, hb3, _⟩
          · exact .inl h
          · refine .inr fun b off e => ?_
            rw [e3] at e
            cases e
            refine ⟨?_, ?_⟩
            · rcases ho6.one.own with h | ⟨b1, o1, e1, hB1, _⟩
              · exact .inl h
              · exact .inr fun b4 o4 e4 => by rw [e1] at e4; cases e4; have h5 : w5.heap.size ≤ b1 := hB1; omega
            · rcases ho6.two.own with h | ⟨b1, o1, e1, hB1, _⟩
              · exact .inl h
              · exact .inr fun b4 o4 e4 => by rw [e1] at e4; cases e4; have h5 : w5.heap.size ≤ b1 := hB1; omega
        refine bodyPost_ret (v := .tuple #[.agg #[.slice a1 bs.length c1, .slice a2 bs.length c2], .slice a3 m3 c3, .int .i64 0]) (by simp [results, Try.results11, go_sem, q0, q1]) rfl ?_
        rw [HDC.out]
        exact ⟨_, _, _, _, _, _, _, _, _, rfl, hF.1, hG, hAp, hF.2⟩
theorem implCancel : ImplCancel := fun a n c ps a' n' c' qs x w hT hn hn' _ _ => implCancel_any a n c ps a' n' c' qs x w hT hn hn'
end Go.Proofs.Ytgklnpkeffobnaa
