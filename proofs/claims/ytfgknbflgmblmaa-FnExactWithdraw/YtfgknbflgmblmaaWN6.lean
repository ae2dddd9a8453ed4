/-
  Walk of the law on Withdraw, out of the contracts of the specification's and the program's.
-/
import Derived.Test.YtfgknbflgmblmaaWN1
import Derived.Test.YtfgknbflgmblmaaKN
import Derived.Deep.RegionHeld3
namespace Go.Proofs.Ytfgknbflgmblmaa
open Go.RowKit Pl Il

/-- What is asked of the specification's, and of the program's. -/
def SpecWithdraw (f : Nt → Int → Nt × Int × Int) : Prop := ∀ (A : Na) (x : Nt) (y : Int) (w : World), NIn w A x → A.n ≤ 2097152 → A.n' ≤ 2097152 → A.n ≤ A.c →
  Calls Try.prog 20 #[.agg #[.bool x.pm, .slice A.a A.n A.c, .slice A.a' A.n' A.c', .int .i64 x.on, .int .i64 x.sp, .int .i64 x.tk], .int .i64 y] w fun e w' => NOutP w (f x y).1 [.int .i64 (f x y).2.1, .int .i64 (f x y).2.2] e w'
def ImplWithdraw (f : Nt → Int → Nt × Int × Int) : Prop := ∀ (A : Na) (x : Nt) (y : Int) (w : World), NIn w A x → A.n ≤ 2097152 → A.n' ≤ 2097152 → NWf x → (Lit.int .i64 y).wf = true →
  Calls Try.prog 19 #[.agg #[.bool x.pm, .slice A.a A.n A.c, .slice A.a' A.n' A.c', .int .i64 x.on, .int .i64 x.sp, .int .i64 x.tk], .int .i64 y] w fun e w' => NOutP w (f x y).1 [.int .i64 (f x y).2.1, .int .i64 (f x y).2.2] e w'
set_option maxRecDepth 100000 in
set_option maxHeartbeats 4000000 in
theorem exactWithdraw_of (f : Nt → Int → Nt × Int × Int) (hSp : SpecWithdraw f) (hI : ImplWithdraw f) (hlen : ∀ x y, (f x y).1.ln.length ≤ x.ln.length + x.gs.length + 1 ∧ (f x y).1.gs.length ≤ x.ln.length + x.gs.length + 1) (A : Na) (x : Nt) (y : Int) (w : World) (hn : A.n ≤ 9223372036854775807) (hn' : A.n' ≤ 9223372036854775807) (hT : NIn w A x) (hw : NWf x) (hx : (Lit.int .i64 y).wf = true) :
    Calls Try.prog 11 #[.agg #[.bool x.pm, .slice A.a A.n A.c, .slice A.a' A.n' A.c', .int .i64 x.on, .int .i64 x.sp, .int .i64 x.tk], .int .i64 y] w fun e w' => e = .returned (.bool true) ∧ Below w.heap.size w w' := by
  generalize hW0 : w.alloc (.cells #[.bool x.pm, .slice A.a A.n A.c, .slice A.a' A.n' A.c', .int .i64 x.on, .int .i64 x.sp, .int .i64 x.tk] 47) = W0
  have B0 : Below w.heap.size w W0 := by subst hW0; exact bl_alloc (Below.refl _ _) _
  have x0 : NBox w.heap.size A x W0 := by subst hW0; exact NBox.new w A x _
  have HUl := hidOf (hlen x y)
  have HLp := hidOf hT.ints.len
  have HLq := hidOf hT.grs.len
  have HT := hidOf hT
  obtain ⟨_, p0, p1, p2, p3, p4, p5, _⟩ := id x0
  clear hT hlen
  go_enter Try.func11, Try.ntmps11
  go_wp2_with fail
  refine (szNotify_any A x _ hn hn').mono ?_
  rintro e w1 ⟨⟨k, rfl, hk⟩, hb1⟩
  have x1 := x0.keep hb1
  have B1 := bl_trans B0 hb1
  clear p0 p1 p2 p3 p4 p5
  obtain ⟨_, q0, q1, q2, q3, q4, q5, _⟩ := id x1
  clear x0 hb1 B0 hW0
  rcases hk with hk | ⟨hk, hnn⟩
  · go_wp2
    go_ret
    exact ⟨rfl, B1⟩
  · have hk' : ¬ k < 0 := by omega
    have hm2 := mark_nn3 A.n A.n'
    clear hk
    go_wp2_with fail
    refine (toNotify_any A x _ (HT.out.keep B1) (by omega) (by omega)).mono ?_
    rintro e w2 ⟨g2, g2', rfl, ho2, hb2⟩
    have x2 := x1.keep hb2
    have B2 := bl_trans B1 hb2
    clear x1 q0 q1 q2 q3 q4 q5 hb2 B1
    go_wp2_with fail
    refine (hSp ⟨some ⟨g2, 0, none⟩, A.n, A.n, some ⟨g2', 0, none⟩, A.n', A.n'⟩ x y _ ho2.nin (by simp only; omega) (by simp only; omega) (Nat.le_refl _)).mono ?_
    rintro e w3 ⟨Aw, rfl, how, _, hb3⟩
    generalize hnl : (f x y) = r at *
    generalize hW3 : w3.alloc (.cells #[.bool r.1.pm, .slice Aw.a Aw.n Aw.c, .slice Aw.a' Aw.n' Aw.c', .int .i64 r.1.on, .int .i64 r.1.sp, .int .i64 r.1.tk] 27) = W3
    have b3' : Below w3.heap.size w3 W3 := by subst hW3; exact bl_alloc (Below.refl _ _) _
    have u3 : NBox w3.heap.size Aw r.1 W3 := by subst hW3; exact NBox.new w3 Aw r.1 _
    have x3 := (x2.keep hb3).keep b3'
    have B3 := bl_trans (bl_trans B2 hb3) b3'
    have HW := (how.keep b3').nin
    have hnw : Aw.n ≤ 2097152 ∧ Aw.n' ≤ 2097152 := by have h1 := HW.ints.len; have h2 := HW.grs.len; have h3 := HUl.out; have h4 := HLp.out; have h5 := HLq.out; omega
    obtain ⟨_, q0, q1, q2, q3, q4, q5, _⟩ := id x3
    have HI3 := HT.out.keep B3
    clear x2 hb3 B2 ho2 how HT b3'
    go_wp2_with fail
    refine (toNotify_any A x _ HI3 (by omega) (by omega)).mono ?_
    rintro e w4 ⟨g, g', rfl, ho4, hb4⟩
    have hlt3 := u3.lt
    generalize hW5 : w4.alloc (.cells #[.bool x.pm, .slice (some ⟨g, 0, none⟩) A.n A.n, .slice (some ⟨g', 0, none⟩) A.n' A.n', .int .i64 x.on, .int .i64 x.sp, .int .i64 x.tk] 27) = W5
    have b5 : Below w4.heap.size w4 W5 := by subst hW5; exact bl_alloc (Below.refl _ _) _
    have y5 : NBox w4.heap.size ⟨some ⟨g, 0, none⟩, A.n, A.n, some ⟨g', 0, none⟩, A.n', A.n'⟩ x W5 := by subst hW5; exact NBox.new w4 ⟨some ⟨g, 0, none⟩, A.n, A.n, some ⟨g', 0, none⟩, A.n', A.n'⟩ x _
    have s5 : W5.heap.size = w4.heap.size + 1 := by subst hW5; simp
    have S5 := bl_trans hb4 b5
    have ho5 := ho4.keep b5
    have hsp := ho4.spans
    have hs34 := hb4.size
    obtain ⟨_, r0, r1, r2, r3, r4, r5, _⟩ := id y5
    clear hb4 q0 q1 q2 q3 q4 q5 ho4 b5 hW3
    go_wp2_with fail
    have hcall := hI ⟨some ⟨g, 0, none⟩, A.n, A.n, some ⟨g', 0, none⟩, A.n', A.n'⟩ x y W5 ho5.nin (by simp only; omega) (by simp only; omega) hw hx
    rw [hnl] at hcall
    refine hcall.mono ?_
    rintro e w6 ⟨A6, rfl, G6, _, hb6⟩
    have hn6 : A6.n ≤ 2097152 ∧ A6.n' ≤ 2097152 := by have h1 := G6.nin.ints.len; have h2 := G6.nin.grs.len; have h3 := HUl.out; have h4 := HLp.out; have h5 := HLq.out; omega
    have hspg := G6.spans
    have hs56 := hb6.size
    generalize hW7 : w6.alloc (.cells #[.bool r.1.pm, .slice A6.a A6.n A6.c, .slice A6.a' A6.n' A6.c', .int .i64 r.1.on, .int .i64 r.1.sp, .int .i64 r.1.tk] 27) = W7
    have b7 : Below w6.heap.size w6 W7 := by subst hW7; exact bl_alloc (Below.refl _ _) _
    have z7 : NBox w6.heap.size A6 r.1 W7 := by subst hW7; exact NBox.new w6 A6 r.1 _
    have s7 : W7.heap.size = w6.heap.size + 1 := by subst hW7; simp
    have b67 := bl_trans hb6 b7
    have S7 := bl_trans S5 b67
    have X7 := ho5.keep b67
    have y7 := y5.keep b67
    have G7 := G6.keep b7
    obtain ⟨_, t0, t1, t2, t3, t4, t5, _⟩ := id z7
    obtain ⟨_, u0, u1, u2, u3, u4, u5, _⟩ := u3.keep S7
    have hnm := mark_nn3 A6.n A6.n'
    clear r0 r1 r2 r3 r4 r5 hb6 S5 ho5 hW5 y5 b67 b7 G6 hcall
    go_wp2_with fail
    refine (eqNotify_any A6 Aw r.1 r.1 _ G7.nin (HW.keep S7) hn6.1 hn6.2 hnw.1 hnw.2).mono ?_
    rintro e w8 ⟨rfl, hb8⟩
    rw [sameN_self]
    have S8 := bl_trans S7 hb8
    have G8 := G7.keep hb8
    have X8 := X7.keep hb8
    have y8 := y7.keep hb8
    have z8 := z7.keep hb8
    have x8 := x3.keep S8
    have hs8 := hb8.size
    have hB8 := bl_trans B3 S8
    have hS : LawS w w4.heap.size A ⟨some ⟨g, 0, none⟩, A.n, A.n, some ⟨g', 0, none⟩, A.n', A.n'⟩ x w8 := LawS.mk' x8 y8 hB8
    have HS8 := hidOf S8
    have HG8 := hidOf G8
    have HX8 := hidOf X8
    have HY8 := hidOf y8
    have HZ8 := hidOf z8
    clear S7 G7 X7 y7 z7 hb8 x8 y8 z8 S8 G8 X8 hB8 t0 t1 t2 t3 t4 t5 u0 u1 u2 u3 u4 u5 hW7
    go_wp2_with fail
    go_region_held3 (fun w' => LawS w w4.heap.size A ⟨some ⟨g, 0, none⟩, A.n, A.n, some ⟨g', 0, none⟩, A.n', A.n'⟩ x w') (first | (exact hS.drew) | (exact LawS.keep (by assumption) (by assumption)))
      (first
        | (go_at_call 30; refine (toNotify_any A x _ (HI3.keep (bl_trans HS8.out (Below.refl _ w8).drew)) (by omega) (by omega)).mono ?_; rintro e w9 ⟨g9, g9', rfl, ho9, hb9⟩; have b89 := bl_trans (Below.refl w8.heap.size w8).drew hb9; have X9 := HX8.out.keep b89)
        | (go_at_call 32; refine (eqNotify_any ⟨some ⟨g, 0, none⟩, A.n, A.n, some ⟨g', 0, none⟩, A.n', A.n'⟩ ⟨some ⟨g9, 0, none⟩, A.n, A.n, some ⟨g9', 0, none⟩, A.n', A.n'⟩ x x _ X9.nin ho9.nin (by simp only; omega) (by simp only; omega) (by simp only; omega) (by simp only; omega)).mono ?_; rintro e w10 ⟨rfl, hb10⟩))
    all_goals simp only [sameN_self, Bool.not_true]
    have b810 := bl_trans b89 hb10
    have S10 := bl_trans HS8.out b810
    have G10 := HG8.out.keep b810
    have X10 := HX8.out.keep b810
    have y10 := HY8.out.keep b810
    have z10 := HZ8.out.keep b810
    have hs10 := b810.size
    obtain ⟨_, t0, t1, t2, t3, t4, t5, _⟩ := id y10
    clear hS HS8 HG8 HX8 HY8 HZ8 b89 b810 ho9 hb9 hb10 X9
    rename_i hHeld
    clear hHeld
    go_wp2_with fail
    refine (markNotify_any W3.heap.size ⟨some ⟨g, 0, none⟩, A.n, A.n, some ⟨g', 0, none⟩, A.n', A.n'⟩ x 1 _ X10 (by simp only; omega) (by simp only; omega) (by omega) (by omega)).mono ?_
    rintro e w11 ⟨rfl, _, hM⟩
    have G11 := G10.turned hM (span_lt W5.heap.size hsp.1 (by omega)) (span_lt W5.heap.size hsp.2 (by omega))
    have z11 := z10.turned hM (span_lt w6.heap.size hsp.1 (by omega)) (span_lt w6.heap.size hsp.2 (by omega))
    have S11 := S10.trans (hM.below (B := W3.heap.size) (by omega) (span_ge W3.heap.size hsp.1 (Nat.le_refl _)) (span_ge W3.heap.size hsp.2 (Nat.le_refl _)))
    have hs11 := hM.size
    obtain ⟨_, v0, v1, v2, v3, v4, v5, _⟩ := id z11
    obtain ⟨_, u0, u1, u2, u3, u4, u5, _⟩ := u3.keep S11
    clear S10 G10 X10 y10 z10 hM t0 t1 t2 t3 t4 t5
    go_wp2_with fail
    refine (eqNotify_any A6 Aw r.1 r.1 _ G11.nin (HW.keep S11) hn6.1 hn6.2 hnw.1 hnw.2).mono ?_
    rintro e w12 ⟨rfl, hb12⟩
    rw [sameN_self]
    have S12 := bl_trans S11 hb12
    have G12 := G11.keep hb12
    have z12 := z11.keep hb12
    have hs12 := hb12.size
    obtain ⟨_, t0, t1, t2, t3, t4, t5, _⟩ := id z12
    clear S11 G11 z11 hb12 v0 v1 v2 v3 v4 v5 u0 u1 u2 u3 u4 u5
    go_wp2_with fail
    refine (markNotify_any W5.heap.size A6 r.1 1 _ G12 hn6.1 hn6.2 (by omega) (by omega)).mono ?_
    rintro e w13 ⟨rfl, G13, hM⟩
    have z13 := z12.turned hM (span_lt w6.heap.size hspg.1 (by omega)) (span_lt w6.heap.size hspg.2 (by omega))
    have S13 := S12.trans (hM.below (B := W3.heap.size) (by omega) (span_ge W3.heap.size hspg.1 (by omega)) (span_ge W3.heap.size hspg.2 (by omega)))
    have hs13 := hM.size
    obtain ⟨_, v0, v1, v2, v3, v4, v5, _⟩ := id z13
    clear S12 G12 z12 hM t0 t1 t2 t3 t4 t5
    go_wp2_with fail
    refine (heldNotify_marks A6 r.1 1 _ G13.nin hn6.1 hn6.2 (by omega) (by omega)).mono ?_
    rintro e w14 ⟨rfl, hb14⟩
    have S14 := bl_trans S13 hb14
    have G14 := G13.keep hb14
    have z14 := z13.keep hb14
    obtain ⟨_, t0, t1, t2, t3, t4, t5, _⟩ := x3.keep S14
    clear S13 G13 z13 hb14 v0 v1 v2 v3 v4 v5
    go_wp2_with fail
    refine (toNotify_any A x _ (HI3.keep S14) (by omega) (by omega)).mono ?_
    rintro e w15 ⟨g15, g15', rfl, ho15, hb15⟩
    have S15 := bl_trans S14 hb15
    have G15 := G14.keep hb15
    have z15 := z14.keep hb15
    clear S14 G14 z14 hb15 t0 t1 t2 t3 t4 t5
    go_wp2_with fail
    have hcall := hI ⟨some ⟨g15, 0, none⟩, A.n, A.n, some ⟨g15', 0, none⟩, A.n', A.n'⟩ x y w15 ho15.nin (by simp only; omega) (by simp only; omega) hw hx
    rw [hnl] at hcall
    refine hcall.mono ?_
    rintro e w16 ⟨A16, rfl, K16, _, hb16⟩
    have hn16 : A16.n ≤ 2097152 ∧ A16.n' ≤ 2097152 := by have h1 := K16.nin.ints.len; have h2 := K16.nin.grs.len; have h3 := HUl.out; have h4 := HLp.out; have h5 := HLq.out; omega
    generalize hW17 : w16.alloc (.cells #[.bool r.1.pm, .slice A16.a A16.n A16.c, .slice A16.a' A16.n' A16.c', .int .i64 r.1.on, .int .i64 r.1.sp, .int .i64 r.1.tk] 27) = W17
    have b17 : Below w16.heap.size w16 W17 := by subst hW17; exact bl_alloc (Below.refl _ _) _
    have k17 : NBox w16.heap.size A16 r.1 W17 := by subst hW17; exact NBox.new w16 A16 r.1 _
    have b1617 := bl_trans hb16 b17
    have S17 := bl_trans S15 b1617
    have G17 := G15.keep b1617
    have z17 := z15.keep b1617
    have K17 := K16.keep b17
    obtain ⟨_, t0, t1, t2, t3, t4, t5, _⟩ := id k17
    obtain ⟨_, u0, u1, u2, u3, u4, u5, _⟩ := u3.keep S17
    clear S15 G15 z15 hb16 b17 b1617 K16 k17 ho15 hcall
    go_wp2_with fail
    refine (eqNotify_any A16 Aw r.1 r.1 _ K17.nin (HW.keep S17) hn16.1 hn16.2 hnw.1 hnw.2).mono ?_
    rintro e w18 ⟨rfl, hb18⟩
    rw [sameN_self]
    have S18 := bl_trans S17 hb18
    have G18 := G17.keep hb18
    obtain ⟨_, v0, v1, v2, v3, v4, v5, _⟩ := z17.keep hb18
    clear S17 G17 K17 hb18 z17 t0 t1 t2 t3 t4 t5 u0 u1 u2 u3 u4 u5 hW17
    go_wp2_with fail
    refine (heldNotify_marks A6 r.1 1 _ G18.nin hn6.1 hn6.2 (by omega) (by omega)).mono ?_
    rintro e w19 ⟨rfl, hb19⟩
    have hE := bl_trans B3 (bl_trans S18 hb19)
    clear S18 G18 hb19 HW HI3 B3 x3 u3
    go_wp2
    go_ret
    exact ⟨rfl, hE⟩
end Go.Proofs.Ytfgknbflgmblmaa
