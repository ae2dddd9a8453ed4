/-
  Walk of the law that a notification is always right along a script of 
-/
import Derived.Test.YtfgknbflgmblmaaZBl5
import Derived.Test.YtfgknbflgmblmaaZBl10
import Derived.Test.YtfgknbflgmblmaaZBl12
import Derived.Test.YtfgknbflgmblmaaZBl13
import Derived.Deep.CutBlock
namespace Go.Proofs.Ytfgknbflgmblmaa
open Go.RowKit Go.Maps Pl Il Dr
/-- The law's notification in its variable. -/
structure NVs (w : World) (A : Na) (x : Nt) (u : World) : Prop where
  box : NBox w.heap.size A x u
  own : NOwn (w.heap.size + 1) u A x
  cap : A.n ≤ A.c
  below : Below w.heap.size w u
theorem NVs.keep {w : World} {A : Na} {x : Nt} {u u' : World} (h : NVs w A x u) (hb : Below u.heap.size u u') : NVs w A x u' := ⟨h.box.keep hb, h.own.keep hb, h.cap, bl_trans h.below hb⟩
theorem NVs.store {w : World} {A A' : Na} {x y : Nt} {u : World} (h : NVs w A x u) (ho : NOwn (w.heap.size + 1) u A' y) (hc : A'.n ≤ A'.c) : NVs w A' y ((((((u.setCell ⟨w.heap.size, 0, none⟩ (.bool y.pm)).setCell ⟨w.heap.size, 1, none⟩ (.slice A'.a A'.n A'.c)).setCell ⟨w.heap.size, 2, none⟩ (.slice A'.a' A'.n' A'.c')).setCell ⟨w.heap.size, 3, none⟩ (.int .i64 y.on)).setCell ⟨w.heap.size, 4, none⟩ (.int .i64 y.sp)).setCell ⟨w.heap.size, 5, none⟩ (.int .i64 y.tk)) :=
  ⟨((((((h.box.set0 (b := y.pm)).set1 (a := A'.a) (n := A'.n) (c := A'.c)).set2 (a := A'.a') (n := A'.n') (c := A'.c')).set3 (v := y.on)).set4 (v := y.sp)).set5 (v := y.tk)).lists y.ln y.gs, ho.far6 w.heap.size (by omega) _ _ _ _ _ _, hc, bl_set6' h.below w.heap.size (Nat.le_refl _) _ _ _ _ _ _⟩
/-- What the loop keeps. -/
def BR (w : World) (l i : Value) (u : World) : Prop := ∃ (k j : Nat) (A : Na) (x : Nt), l = .int .i64 k ∧ i = .int .i64 j ∧ j ≤ 30 ∧ k ≤ j ∧ x.on = (k : Int) ∧ Good x ∧ NVs w A x u
/-- What an arm of the switch leaves. -/
def SWR (w : World) (j : Nat) (s4 : Value) (u : World) : Prop := ∃ (k : Nat) (A : Na) (y : Nt), s4 = .int .i64 k ∧ k ≤ j + 1 ∧ y.on = (k : Int) ∧ Good y ∧ NVs w A y u
theorem NVs.small {w : World} {A : Na} {x : Nt} {u : World} (h : NVs w A x u) (g : Good x) : A.n ≤ 7 ∧ A.n' ≤ 7 := by
  have h1 := h.own.one.ints.len
  have h2 := h.own.two.gr.len
  have h3 := g.len
  omega
theorem NOwn.small {B : Nat} {A : Na} {x : Nt} {u : World} (h : NOwn B u A x) (g : Good x) : A.n ≤ 7 ∧ A.n' ≤ 7 := by
  have h1 := h.one.ints.len
  have h2 := h.two.gr.len
  have h3 := g.len
  omega
theorem perm_or {y : Nt} {n : Nat} (h : Good y) (hl : y.ln.length = n) : y.pm = false ∨ (y.pm = true ∧ n = 0) := by
  cases e : y.pm
  · exact .inl rfl
  · right; have := h.perm e; rw [this] at hl; simp at hl; exact ⟨rfl, hl.symm⟩
theorem who_wf {y : Int} (h0 : 0 ≤ y) (h1 : y ≤ 6) : (Lit.int .i64 y).wf = true := by simp [Lit.wf, IntKind.min, IntKind.max, IntKind.signed, IntKind.bits]; omega
theorem eqL_refl (xs : List Int) : eqL xs xs = true := by simp [eqL]
theorem await_cases {x : Nt} (h : Good x) (who : Int) (hw : 0 ≤ who ∧ who ≤ 6) : ((awaitM x who).2 = 0 ∧ x.pm = true) ∨ ((awaitM x who).2 = 4 ∧ x.pm = false) ∨ (¬ (awaitM x who).2 = 0 ∧ ¬ (awaitM x who).2 = 4) := by
  obtain ⟨_, _, h1, h2⟩ := good_await h who hw
  by_cases e0 : (awaitM x who).2 = 0
  · exact .inl ⟨e0, h1 e0⟩
  · by_cases e4 : (awaitM x who).2 = 4
    · exact .inr (.inl ⟨e4, h2 e4⟩)
    · exact .inr (.inr ⟨e0, e4⟩)
set_option maxRecDepth 100000 in
set_option maxHeartbeats 8000000 in
theorem fnBalanced_of (a : Option Addr) (len cap : Nat) (w : World) (hB : len ≤ 1048576 → Bytes w.heap.size w a len cap) :
  Calls Try.prog 3 #[.slice a len cap] w fun e w' => e = .returned (.bool true) ∧ Below w.heap.size w w' := by
 go_enter Try.func3, Try.ntmps3
 go_wp2_with fail
 refine (bigC_any a len cap _).mono ?_
 rintro e w1 ⟨rfl, hw1⟩
 obtain rfl : w = w1 := hw1.symm
 by_cases hbig : 1048576 < len
 ·have hb' : decide (1048576 < len) = true := by simp [hbig]
  rw [hb']
  go_wp2
  go_ret
  exact ⟨rfl, Below.refl _ _⟩
 ·have hb' : decide (1048576 < len) = false := by simp [hbig]
  rw [hb']
  have hBy := hB (by omega)
  clear hB hbig hb'
  have hV0 : NVs w Na.zero Nt.zero (w.alloc (.cells #[.bool false, .slice none 0 0, .slice none 0 0, .int .i64 0, .int .i64 0, .int .i64 0] 27)) :=
   ⟨NBox.newZ w _, ⟨⟨⟨rfl, .inl rfl⟩, .inl rfl⟩, ⟨⟨rfl, .inl rfl⟩, .inl rfl⟩, .inl rfl⟩, Nat.le_refl _, bl_alloc (Below.refl _ _) _⟩
  have HV0 := hidOf hV0
  have HBy := hidOf hBy
  clear hBy hV0
  go_wp2_with fail
  go_loopw [4, 5] (fun l i wr => BR w l i wr) (fun _ i _ => 30 - (intOf i).toNat)
  case atStart => exact ⟨0, 0, Na.zero, Nt.zero, rfl, rfl, by omega, by omega, rfl, good_zero, HV0.out⟩
  case round =>
   rename_i wr
   clear HV0
   obtain ⟨k, j, A, x, rfl, rfl, hj, hkj, hon, hg, hV⟩ := hrel
   have HG := hidOf hg
   have HOn := hidOf hon
   have hsm := hV.small hg
   have HV := hidOf hV
   obtain ⟨_, p0, p1, p2, p3, p4, p5, pf⟩ := id hV.box
   have HBy1 := hidOf (bytes_below HBy.out hV.below)
   clear hg hon hV
   by_cases hlt : j < 30
   ·have hji : (j : Int) < 30 := by omega
    go_wp2_with fail
    refine (atN_any _ a len cap (j + 40) _ HBy1.out (by omega)).mono ?_
    rintro e w3 ⟨y3, rfl, hy0, hy1, hw3⟩
    obtain rfl : wr = w3 := hw3.symm
    have hw7 : 0 ≤ y3 % 7 ∧ y3 % 7 ≤ 6 := by omega
    go_wp2_with fail
    generalize y3 % 7 = who at hw7 ⊢
    refine (atN_any _ a len cap j _ HBy1.out (by omega)).mono ?_
    rintro e w4 ⟨y4, rfl, hz0, hz1, hw4⟩
    obtain rfl : wr = w4 := hw4.symm
    clear hw3 hw4 hy0 hy1 HBy1
    have hm5 : y4 % 5 = 0 ∨ y4 % 5 = 1 ∨ y4 % 5 = 2 ∨ y4 % 5 = 3 ∨ y4 % 5 = 4 := by omega
    have HWh := hidOf hw7
    clear hw7
    go_upto_block 2 with fail
    go_cut [4, 7, 8, 9, 10, 11, 12, 13, 14, 15, 16, 17, 18, 19, 20, 21, 22, 23, 24] from 28 to 186 (fun s4 _ _ _ _ _ _ _ _ _ _ _ _ _ _ _ _ _ _ wx => SWR w j s4 wx)
    case first =>
     rcases hm5 with hm | hm | hm | hm | hm
     ·have hI := implTellOne_any A x wr HV.out.own.nin (by omega) (by omega) HG.out.wf
      rw [tellOne_good HG.out (by have := HOn.out; omega)] at hI
      have HI := hidOf hI
      clear hI
      go_wp2_with fail
      refine HI.out.mono ?_
      rintro e w5 ⟨A5, rfl, hO5, hc5, hb5⟩
      have hgo := good_one HG.out (by have := HOn.out; omega)
      have htold := told_one HG.out
      simp only at hO5 ⊢
      generalize (oneM { x with on := x.on + 1 }).1 = y at hgo hO5 ⊢
      generalize (oneM { x with on := x.on + 1 }).2 = tv at htold ⊢
      have HGy := hidOf hgo.1
      have HOy := hidOf hgo.2
      clear hgo
      generalize hW6 : w5.alloc (.cells #[.bool y.pm, .slice A5.a A5.n A5.c, .slice A5.a' A5.n' A5.c', .int .i64 y.on, .int .i64 y.sp, .int .i64 y.tk] 27) = W6
      have bW6 : Below w5.heap.size w5 W6 := by subst hW6; exact bl_alloc (Below.refl _ _) _
      have xW6 : NBox w5.heap.size A5 y W6 := by subst hW6; exact NBox.new w5 A5 y _
      have hV6 := HV.out.keep (bl_trans hb5 bW6)
      have hlt6 := HV.out.box.lt
      have hs6 := hb5.size
      have hO6 := (hO5.keep bW6).mono (B' := w.heap.size + 1) (by omega)
      obtain ⟨_, q0, q1, q2, q3, q4, q5, _⟩ := id xW6
      have hV7 := hV6.store (y := y) (A' := A5) hO6 hc5
      obtain ⟨_, z0, z1, z2, z3, z4, z5, zf⟩ := id hV6.box
      obtain ⟨_, v0, v1, v2, v3, v4, v5, vf⟩ := id hV7.box
      have HV7 := hidOf hV7
      have hs5 := hO6.small HGy.out
      have HNI := hidOf hV7.own.nin
      have HPm := hidOf (perm_or HGy.out hO6.one.ints.len)
      clear p0 p1 p2 p3 p4 p5 pf
      rcases htold with ⟨hnil, htv⟩ | ⟨y0, r, hcons, htv, hy0⟩
      ·subst htv
       have hn0 : A.n = 0 := by have := HV.out.own.one.ints.len; rw [hnil] at this; simpa using this.symm
       rw [hn0] at z1
       clear hnil hn0 hV6 hV7 hO6 HV HI hO5 hb5 bW6 xW6
       go_wp2_with fail
       go_meet
       exact ⟨k + 1, A5, y, by first | rfl | go_num, by omega, by have h1 := HOn.out; have h2 := HOy.out; omega, HGy.out, HV7.out⟩
      ·subst htv
       have hlen := HV.out.own.one.ints.len
       have hn0 : (0 : Int) < (A.n : Int) := by rw [hcons] at hlen; simp at hlen; omega
       have hn1 : 0 < A.n := by omega
       obtain ⟨_, hrow⟩ := hV6.own.one.ints
       rcases hrow with h0 | ⟨b0, off0, ea, _, hcell⟩
       ·omega
       have hc0 := hcell 0 (by omega)
       rw [hcons] at hc0
       simp at hc0
       rw [ea] at z1
       clear hcons hlen hcell ea hV6 hV7 hO6 HV HI hO5 hb5 bW6 xW6
       go_wp2_with fail
       go_meet
       exact ⟨k + 1, A5, y, by first | rfl | go_num, by omega, by have h1 := HOn.out; have h2 := HOy.out; omega, HGy.out, HV7.out⟩
     ·have hI := implTellAll_any A x wr HV.out.own.nin (by omega) (by omega) HG.out.wf
      rw [tellAll_good HG.out] at hI
      have HI := hidOf hI
      clear hI
      go_wp2_with fail
      refine HI.out.mono ?_
      rintro e w5 ⟨A5, la, lm, lc, rfl, hO5, hc5, hL5, hap5, hb5⟩
      have hga := good_all HG.out
      have hpe : (allM x).pm = x.pm := rfl
      have hoe : (allM x).on = x.on := rfl
      simp only at hO5 hL5 ⊢
      generalize allM x = y at hga hpe hoe hO5 ⊢
      have HGy := hidOf hga
      have HOy := hidOf hoe
      have HPe := hidOf hpe
      clear hga hoe hpe hap5
      generalize hW6 : w5.alloc (.cells #[.bool y.pm, .slice A5.a A5.n A5.c, .slice A5.a' A5.n' A5.c', .int .i64 y.on, .int .i64 y.sp, .int .i64 y.tk] 27) = W6
      have bW6 : Below w5.heap.size w5 W6 := by subst hW6; exact bl_alloc (Below.refl _ _) _
      have xW6 : NBox w5.heap.size A5 y W6 := by subst hW6; exact NBox.new w5 A5 y _
      have hV6 := HV.out.keep (bl_trans hb5 bW6)
      have hlt6 := HV.out.box.lt
      have hs6 := hb5.size
      have hO6 := (hO5.keep bW6).mono (B' := w.heap.size + 1) (by omega)
      obtain ⟨_, q0, q1, q2, q3, q4, q5, _⟩ := id xW6
      have hL6 := hL5.keep bW6
      clear p0 p1 p2 p3 p4 p5 pf
      obtain ⟨_, z0, z1, z2, z3, z4, z5, zf⟩ := id hV6.box
      have hlm : lm ≤ 7 := by have h1 := hL5.ints.len; have h2 := HG.out.len; omega
      clear hO5 hL5 hb5 HI
      go_wp2_with fail
      refine (sameInts_any la A.a lm A.n lc A.c x.ln x.ln _ hL6.ints hV6.own.one.ints (by omega) (by omega)).mono ?_
      rintro e w7 ⟨rfl, hb7⟩
      rw [eqL_refl]
      have hV8 := hV6.keep hb7
      have hO8 := hO6.keep hb7
      have xW8 := xW6.keep hb7
      clear q0 q1 q2 q3 q4 q5 z0 z1 z2 z3 z4 z5 zf hV6 hO6 xW6 hL6 hb7 bW6 hW6
      have hV6 := hV8
      have hO6 := hO8
      clear hV8 hO8
      obtain ⟨_, q0, q1, q2, q3, q4, q5, _⟩ := id xW8
      have hV7 := hV6.store (y := y) (A' := A5) hO6 hc5
      obtain ⟨_, z0, z1, z2, z3, z4, z5, zf⟩ := id hV6.box
      obtain ⟨_, v0, v1, v2, v3, v4, v5, vf⟩ := id hV7.box
      have HV7 := hidOf hV7
      have hs5 := hO6.small HGy.out
      have HNI := hidOf hV7.own.nin
      have HPm := hidOf (perm_or HGy.out hO6.one.ints.len)
      rw [← HPe.out] at z0
      clear hV6 hV7 hO6 HV xW8
      go_wp2_with fail
      go_meet
      exact ⟨k, A5, y, by first | rfl | go_num, by omega, by have h1 := HOn.out; have h2 := HOy.out; omega, HGy.out, HV7.out⟩
     ·have hI := implResume_any A x who wr HV.out.own.nin (by omega) (by omega) HG.out.wf (who_wf HWh.out.1 HWh.out.2)
      have HI := hidOf hI
      clear hI
      go_wp2_with fail
      refine HI.out.mono ?_
      rintro e w5 ⟨A5, rfl, hO5, hc5, hb5⟩
      have hgr := good_resume HG.out who
      have hJ := fun (u : World) (hb : Below wr.heap.size wr u) => specResume_any A x who u (HV.out.own.nin.keep hb) (by omega) (by omega) HV.out.cap
      have HJ := hidOf hJ
      clear hJ
      simp only at hO5 ⊢
      generalize (resumeM x who).1 = y at hgr hO5 HJ ⊢
      generalize (resumeM x who).2 = rc at HJ ⊢
      have HGy := hidOf hgr.1
      have HOy := hidOf hgr.2
      clear hgr
      generalize hW6 : w5.alloc (.cells #[.bool y.pm, .slice A5.a A5.n A5.c, .slice A5.a' A5.n' A5.c', .int .i64 y.on, .int .i64 y.sp, .int .i64 y.tk] 27) = W6
      have bW6 : Below w5.heap.size w5 W6 := by subst hW6; exact bl_alloc (Below.refl _ _) _
      have xW6 : NBox w5.heap.size A5 y W6 := by subst hW6; exact NBox.new w5 A5 y _
      have hV6 := HV.out.keep (bl_trans hb5 bW6)
      have hlt6 := HV.out.box.lt
      have hs6 := hb5.size
      have hO6 := (hO5.keep bW6).mono (B' := w.heap.size + 1) (by omega)
      have HBw := hidOf (bl_trans hb5 bW6)
      obtain ⟨_, q0, q1, q2, q3, q4, q5, _⟩ := id xW6
      clear p0 p1 p2 p3 p4 p5 pf
      obtain ⟨_, z0, z1, z2, z3, z4, z5, zf⟩ := id hV6.box
      clear hO5 hb5 HI
      go_wp2_with fail
      refine (HJ.out _ HBw.out).mono ?_
      rintro e w7 ⟨A7, rfl, _, _, hb7⟩
      generalize hW8 : w7.alloc (.cells #[.bool y.pm, .slice A7.a A7.n A7.c, .slice A7.a' A7.n' A7.c', .int .i64 y.on, .int .i64 y.sp, .int .i64 y.tk] 27) = W8
      have b8 : Below w7.heap.size w7 W8 := by subst hW8; exact bl_alloc (Below.refl _ _) _
      have b78 := bl_trans hb7 b8
      have hV8 := hV6.keep b78
      have hO8 := hO6.keep b78
      have xW8 := xW6.keep b78
      clear q0 q1 q2 q3 q4 q5 z0 z1 z2 z3 z4 z5 zf hV6 hO6 xW6 hb7 b8 b78 bW6 hW6 HBw HJ
      have hV6 := hV8
      have hO6 := hO8
      clear hV8 hO8
      obtain ⟨_, q0, q1, q2, q3, q4, q5, _⟩ := id xW8
      have hV7 := hV6.store (y := y) (A' := A5) hO6 hc5
      obtain ⟨_, z0, z1, z2, z3, z4, z5, zf⟩ := id hV6.box
      obtain ⟨_, v0, v1, v2, v3, v4, v5, vf⟩ := id hV7.box
      have HV7 := hidOf hV7
      have hs5 := hO6.small HGy.out
      have HNI := hidOf hV7.own.nin
      have HPm := hidOf (perm_or HGy.out hO6.one.ints.len)
      clear hV6 hV7 hO6 HV xW8
      go_wp2_with fail
      go_meet
      exact ⟨k, A5, y, by first | rfl | go_num, by omega, by have h1 := HOn.out; have h2 := HOy.out; omega, HGy.out, HV7.out⟩
     ·have hI := implWithdraw_any A x who wr HV.out.own.nin (by omega) (by omega) HG.out.wf (who_wf HWh.out.1 HWh.out.2)
      have HI := hidOf hI
      clear hI
      go_wp2_with fail
      refine HI.out.mono ?_
      rintro e w5 ⟨A5, rfl, hO5, hc5, hb5⟩
      have hgr := good_withdraw HG.out who
      have hJ := fun (u : World) (hb : Below wr.heap.size wr u) => specWithdraw_any A x who u (HV.out.own.nin.keep hb) (by omega) (by omega) HV.out.cap
      have HJ := hidOf hJ
      clear hJ
      simp only at hO5 ⊢
      generalize (withdrawM x who).1 = y at hgr hO5 HJ ⊢
      generalize (withdrawM x who).2.1 = rt at HJ ⊢
      generalize (withdrawM x who).2.2 = rc at HJ ⊢
      have HGy := hidOf hgr.1
      have HOy := hidOf hgr.2.1
      have HTy := hidOf hgr.2.2
      clear hgr
      generalize hW6 : w5.alloc (.cells #[.bool y.pm, .slice A5.a A5.n A5.c, .slice A5.a' A5.n' A5.c', .int .i64 y.on, .int .i64 y.sp, .int .i64 y.tk] 27) = W6
      have bW6 : Below w5.heap.size w5 W6 := by subst hW6; exact bl_alloc (Below.refl _ _) _
      have xW6 : NBox w5.heap.size A5 y W6 := by subst hW6; exact NBox.new w5 A5 y _
      have hV6 := HV.out.keep (bl_trans hb5 bW6)
      have hlt6 := HV.out.box.lt
      have hs6 := hb5.size
      have hO6 := (hO5.keep bW6).mono (B' := w.heap.size + 1) (by omega)
      have HBw := hidOf (bl_trans hb5 bW6)
      obtain ⟨_, q0, q1, q2, q3, q4, q5, _⟩ := id xW6
      clear p0 p1 p2 p3 p4 p5 pf
      obtain ⟨_, z0, z1, z2, z3, z4, z5, zf⟩ := id hV6.box
      clear hO5 hb5 HI
      go_wp2_with fail
      refine (HJ.out _ HBw.out).mono ?_
      rintro e w7 ⟨A7, rfl, _, _, hb7⟩
      generalize hW8 : w7.alloc (.cells #[.bool y.pm, .slice A7.a A7.n A7.c, .slice A7.a' A7.n' A7.c', .int .i64 y.on, .int .i64 y.sp, .int .i64 y.tk] 27) = W8
      have b8 : Below w7.heap.size w7 W8 := by subst hW8; exact bl_alloc (Below.refl _ _) _
      have b78 := bl_trans hb7 b8
      have hV8 := hV6.keep b78
      have hO8 := hO6.keep b78
      have xW8 := xW6.keep b78
      clear q0 q1 q2 q3 q4 q5 z0 z1 z2 z3 z4 z5 zf hV6 hO6 xW6 hb7 b8 b78 bW6 hW6 HBw HJ
      have hV6 := hV8
      have hO6 := hO8
      clear hV8 hO8
      obtain ⟨_, q0, q1, q2, q3, q4, q5, _⟩ := id xW8
      have hV7 := hV6.store (y := y) (A' := A5) hO6 hc5
      obtain ⟨_, z0, z1, z2, z3, z4, z5, zf⟩ := id hV6.box
      obtain ⟨_, v0, v1, v2, v3, v4, v5, vf⟩ := id hV7.box
      have HV7 := hidOf hV7
      have hs5 := hO6.small HGy.out
      have HNI := hidOf hV7.own.nin
      have HPm := hidOf (perm_or HGy.out hO6.one.ints.len)
      rw [← HOy.out] at z3
      rw [← HTy.out] at z5
      clear hV6 hV7 hO6 HV xW8
      go_wp2_with fail
      go_meet
      exact ⟨k, A5, y, by first | rfl | go_num, by omega, by have h1 := HOn.out; have h2 := HOy.out; omega, HGy.out, HV7.out⟩
     ·have hI := implAwait_any A x who wr HV.out.own.nin (by omega) (by omega) HG.out.wf (who_wf HWh.out.1 HWh.out.2)
      have HI := hidOf hI
      clear hI
      go_wp2_with fail
      refine HI.out.mono ?_
      rintro e w5 ⟨A5, rfl, hO5, hc5, hb5⟩
      have hgr := good_await HG.out who HWh.out
      have hac := await_cases HG.out who HWh.out
      simp only at hO5 ⊢
      generalize (awaitM x who).1 = y at hgr hO5 ⊢
      generalize (awaitM x who).2 = rc at hac hgr ⊢
      have HGy := hidOf hgr.1
      have HOy := hidOf hgr.2.1
      clear hgr
      generalize hW6 : w5.alloc (.cells #[.bool y.pm, .slice A5.a A5.n A5.c, .slice A5.a' A5.n' A5.c', .int .i64 y.on, .int .i64 y.sp, .int .i64 y.tk] 27) = W6
      have bW6 : Below w5.heap.size w5 W6 := by subst hW6; exact bl_alloc (Below.refl _ _) _
      have xW6 : NBox w5.heap.size A5 y W6 := by subst hW6; exact NBox.new w5 A5 y _
      have hV6 := HV.out.keep (bl_trans hb5 bW6)
      have hlt6 := HV.out.box.lt
      have hs6 := hb5.size
      have hO6 := (hO5.keep bW6).mono (B' := w.heap.size + 1) (by omega)
      obtain ⟨_, q0, q1, q2, q3, q4, q5, _⟩ := id xW6
      clear p0 p1 p2 p3 p4 p5 pf
      have hV7 := hV6.store (y := y) (A' := A5) hO6 hc5
      obtain ⟨_, z0, z1, z2, z3, z4, z5, zf⟩ := id hV6.box
      obtain ⟨_, v0, v1, v2, v3, v4, v5, vf⟩ := id hV7.box
      have HV7 := hidOf hV7
      have hs5 := hO6.small HGy.out
      have HNI := hidOf hV7.own.nin
      have HPm := hidOf (perm_or HGy.out hO6.one.ints.len)
      clear hV6 hV7 hO6 HV HI hO5 hb5 bW6 xW6
      rcases hac with ⟨hc0, hp0⟩ | ⟨hc0, hp0⟩ | ⟨hc0, hc4⟩
      ·subst hc0
       rw [hp0] at z0
       clear hp0
       go_wp2_with fail
       go_meet
       exact ⟨k, A5, y, by first | rfl | go_num, by omega, by have h1 := HOn.out; have h2 := HOy.out; omega, HGy.out, HV7.out⟩
      ·subst hc0
       rw [hp0] at z0
       clear hp0
       go_wp2_with fail
       go_meet
       exact ⟨k, A5, y, by first | rfl | go_num, by omega, by have h1 := HOn.out; have h2 := HOy.out; omega, HGy.out, HV7.out⟩
      ·go_wp2_with fail
       go_meet
       exact ⟨k, A5, y, by first | rfl | go_num, by omega, by have h1 := HOn.out; have h2 := HOy.out; omega, HGy.out, HV7.out⟩
    case rest =>
     obtain ⟨k5, A5, y, rfl, hk5, hon5, hg5, hV5⟩ := hcut
     have HGy := hidOf hg5
     have HOy := hidOf hon5
     have hs5 := hV5.small hg5
     have HNI := hidOf hV5.own.nin
     have hc5 := hV5.cap
     have HPm := hidOf (perm_or hg5 hV5.own.one.ints.len)
     have HV5 := hidOf hV5
     obtain ⟨_, v0, v1, v2, v3, v4, v5, vf⟩ := id hV5.box
     clear hg5 hon5 hV5
     go_wp2_with fail
     refine (specNotifyOk_any A5 y _ HNI.out (by omega) (by omega) hc5).mono ?_
     rintro e w9 ⟨rfl, hb9⟩
     rw [HGy.out.ok]
     have hV9 := HV5.out.keep hb9
     clear v0 v1 v2 v3 v4 v5 vf
     obtain ⟨_, v0, v1, v2, v3, v4, v5, vf⟩ := id hV9.box
     have HV9 := hidOf hV9
     clear hV9 hb9 HNI HV5
     rcases HPm.out with hpm | ⟨hpm, hln⟩
     ·rw [hpm] at v0
      clear hpm
      go_wp2
      go_roundw
      case rel => exact ⟨k5, j + 1, A5, y, by first | rfl | go_num, by first | rfl | go_num, by omega, by omega, HOy.out, HGy.out, HV9.out⟩
      case measure => simp [intOf]; omega
     ·rw [hpm] at v0
      rw [hln] at v1
      clear hpm hln
      go_wp2
      go_roundw
      case rel => exact ⟨k5, j + 1, A5, y, by first | rfl | go_num, by first | rfl | go_num, by omega, by omega, HOy.out, HGy.out, HV9.out⟩
      case measure => simp [intOf]; omega
   ·obtain rfl : j = 30 := by omega
    have hB9 := hidOf HV.out.below
    rw [HOn.out] at p3
    go_wp2
    go_ret
    exact ⟨rfl, hB9.out⟩
end Go.Proofs.Ytfgknbflgmblmaa
