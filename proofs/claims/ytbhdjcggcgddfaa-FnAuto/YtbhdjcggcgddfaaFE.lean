/-
  Walk of the law on events along a script of calls.
-/
import Derived.Test.YtbhdjcggcgddfaaMrg1
import Derived.Test.YtbhdjcggcgddfaaEB
import Derived.Test.YtbhdjcggcgddfaaMrg6
import Derived.Test.YtbhdjcggcgddfaaMrg15
import Derived.Test.YtbhdjcggcgddfaaBEg
import Derived.Test.YtbhdjcggcgddfaaBEs
import Derived.Test.YtbhdjcggcgddfaaBEsb
import Derived.Test.YtbhdjcggcgddfaaSpE6
import Derived.Deep.CutBlock
namespace Go.Proofs.Ytbhdjcggcgddfaa
open Go.RowKit Go.Maps Pl Il Dr

/-- The law's event in its variable. -/
structure EVs (w : World) (A : Na) (x : Et) (u : World) : Prop where
  box : EBox w.heap.size A x u
  own : EOwn (w.heap.size + 1) u A x
  cap : A.ok
  below : Below w.heap.size w u
theorem EVs.keep {w : World} {A : Na} {x : Et} {u u' : World} (h : EVs w A x u) (hb : Below u.heap.size u u') : EVs w A x u' := ⟨h.box.keep hb, h.own.keep hb, h.cap, bl_trans h.below hb⟩
theorem EVs.store {w : World} {A A' : Na} {x y : Et} {u : World} (h : EVs w A x u) (ho : EOwn (w.heap.size + 1) u A' y) (hc : A'.ok) : EVs w A' y (((((((u.setCell ⟨w.heap.size, 0, none⟩ (.bool y.au)).setCell ⟨w.heap.size, 1, none⟩ (.bool y.up)).setCell ⟨w.heap.size, 2, none⟩ (.slice A'.a A'.n A'.c)).setCell ⟨w.heap.size, 3, none⟩ (.slice A'.a' A'.n' A'.c')).setCell ⟨w.heap.size, 4, none⟩ (.int .i64 y.st)).setCell ⟨w.heap.size, 5, none⟩ (.int .i64 y.sp)).setCell ⟨w.heap.size, 6, none⟩ (.int .i64 y.tk)) :=
  ⟨(((((((h.box.set0 (v := y.au)).set1 (v := y.up)).set2 (a := A'.a) (n := A'.n) (c := A'.c)).set3 (a := A'.a') (n := A'.n') (c := A'.c')).set4 (v := y.st)).set5 (v := y.sp)).set6 (v := y.tk)).lists y.ln y.gs, ho.farA w.heap.size (by omega) _ _ _ _ _ _ _, hc, bl_sE h.below w.heap.size (Nat.le_refl _) _ _ _ _ _ _ _⟩
/-- What the loop keeps. -/
def AR (w : World) (l o i : Value) (u : World) : Prop := ∃ (k g j : Nat) (A : Na) (x : Et), l = .int .i64 k ∧ o = .int .i64 g ∧ i = .int .i64 j ∧ j ≤ 26 ∧ k ≤ j ∧ g ≤ j ∧ (x.au = true → x.st = (k : Int) ∧ x.tk = (g : Int)) ∧ GE x ∧ EVs w A x u
/-- What an arm of the switch leaves. -/
def SWE (w : World) (j : Nat) (s4 s5 : Value) (u : World) : Prop := ∃ (k g : Nat) (A : Na) (x : Et), s4 = .int .i64 k ∧ s5 = .int .i64 g ∧ k ≤ j + 1 ∧ g ≤ j + 1 ∧ (x.au = true → x.st = (k : Int) ∧ x.tk = (g : Int)) ∧ GE x ∧ EVs w A x u
theorem EOwn.small {B : Nat} {A : Na} {x : Et} {u : World} (h : EOwn B u A x) (g : GE x) : A.n ≤ 6 ∧ A.n' ≤ 6 := by
  have h1 := h.one.ints.len
  have h2 := h.two.ints.len
  have h3 := g.len
  omega
theorem who_wfE {y : Int} (h0 : 0 ≤ y) (h1 : y ≤ 5) : (Lit.int .i64 y).wf = true := by simp [Lit.wf, IntKind.min, IntKind.max, IntKind.signed, IntKind.bits]; omega
theorem eqL_reflE (xs : List Int) : eqL xs xs = true := by simp [eqL]
theorem on_step {x y : Et} {k g : Nat} (hr : y.au = x.au) (hs : y.st = x.st) (ht : x.au = true → y.tk = x.tk + 1) (ho : x.au = true → x.st = (k : Int) ∧ x.tk = (g : Int)) : y.au = true → y.st = (k : Int) ∧ y.tk = ((g + 1 : Nat) : Int) := fun e => by
  have h0 := hr.symm.trans e
  have h1 := ho h0
  have h2 := ht h0
  omega
theorem on_same {x y : Et} {k g : Nat} (hr : y.au = x.au) (hs : y.st = x.st) (ht : y.tk = x.tk) (ho : x.au = true → x.st = (k : Int) ∧ x.tk = (g : Int)) : y.au = true → y.st = (k : Int) ∧ y.tk = (g : Int) := fun e => by
  have h1 := ho (hr.symm.trans e)
  omega
theorem GE.low {x : Et} (h : GE x) {k : Nat} (hk : k ≤ 26) (ht : x.au = true → x.st = (k : Int)) : x.st ≤ 999 := by
  cases e : x.au
  · have := (h.man e).1; omega
  · have := ht e; omega
set_option maxRecDepth 100000 in
set_option maxHeartbeats 8000000 in
theorem fnAuto_of (a : Option Addr) (len cap : Nat) (w : World) (hB : len ≤ 1048576 → Bytes w.heap.size w a len cap) :
    Calls Try.prog 6 #[.slice a len cap] w fun e w' => e = .returned (.bool true) ∧ Below w.heap.size w w' := by
  go_enter Try.func6, Try.ntmps6
  go_wp2_with fail
  refine (bigC_any a len cap _).mono ?_
  rintro e w1 ⟨rfl, hw1⟩
  obtain rfl : w = w1 := hw1.symm
  by_cases hbig : 1048576 < len
  · have hb' : decide (1048576 < len) = true := by simp [hbig]
    rw [hb']
    go_wp2
    go_ret
    exact ⟨rfl, Below.refl _ _⟩
  · have hb' : decide (1048576 < len) = false := by simp [hbig]
    rw [hb']
    have hBy := hB (by omega)
    clear hB hbig hb'
    go_wp2_with fail
    refine (atN_any _ a len cap 0 _ hBy (by omega)).mono ?_
    rintro e w2 ⟨y, rfl, hy0, hy1, hw2⟩
    obtain rfl : w = w2 := hw2.symm
    have HBy := hidOf hBy
    clear hBy
    have hV0 : ∀ b, EVs w Na.zero ⟨b, false, [], [], 0, 0, 0⟩ (w.alloc (.cells #[.bool b, .bool false, .slice none 0 0, .slice none 0 0, .int .i64 0, .int .i64 0, .int .i64 0] 46)) := fun b =>
      ⟨EBox.new w Na.zero ⟨b, false, [], [], 0, 0, 0⟩ _, ⟨⟨⟨rfl, .inl rfl⟩, .inl rfl⟩, ⟨⟨rfl, .inl rfl⟩, .inl rfl⟩, .inl rfl⟩, ⟨Nat.le_refl _, Nat.le_refl _⟩, bl_alloc (Below.refl _ _) _⟩
    have HV0 := hidOf hV0
    clear hV0
    go_wp2_with fail
    generalize (y % 2 == 0) = b
    generalize y % 2 = ym
    go_loopw [4, 5, 6] (fun l o i wr => AR w l o i wr) (fun _ _ i _ => 26 - (intOf i).toNat)
    case atStart => exact ⟨0, 0, 0, Na.zero, ⟨b, false, [], [], 0, 0, 0⟩, rfl, rfl, rfl, by omega, by omega, by omega, fun _ => ⟨rfl, rfl⟩, ge_zero _, HV0.out _⟩
    case round =>
      rename_i wr
      clear HV0
      obtain ⟨k, g, j, A, x, rfl, rfl, rfl, hj, hkj, hgj, hon, hg, hV⟩ := hrel
      have HG := hidOf hg
      have HOn := hidOf hon
      have hsm := hV.own.small hg
      have HV := hidOf hV
      obtain ⟨_, p0, p1, p2, p3, p4, p5, p6, pf⟩ := id hV.box
      have HBy1 := hidOf (bytes_below HBy.out hV.below)
      have HBel := hidOf hV.below
      clear hg hon hV
      by_cases hlt : j < 26
      · have hji : (j : Int) < 26 := by omega
        go_wp2_with fail
        refine (atN_any _ a len cap (j + 50) _ HBy1.out (by omega)).mono ?_
        rintro e w3 ⟨y3, rfl, hy0, hy1, hw3⟩
        obtain rfl : wr = w3 := hw3.symm
        have hw7 : 0 ≤ y3 % 6 ∧ y3 % 6 ≤ 5 := by omega
        go_wp2_with fail
        generalize y3 % 6 = who at hw7 ⊢
        refine (atN_any _ a len cap (j + 1) _ HBy1.out (by omega)).mono ?_
        rintro e w4 ⟨y4, rfl, hz0, hz1, hw4⟩
        obtain rfl : wr = w4 := hw4.symm
        clear hw3 hw4 hy0 hy1 HBy1
        have hm5 : y4 % 5 = 0 ∨ y4 % 5 = 1 ∨ y4 % 5 = 2 ∨ y4 % 5 = 3 ∨ y4 % 5 = 4 := by omega
        have HWh := hidOf hw7
        clear hw7
        go_upto_block 2 with fail
        go_cut [4, 5, 8, 9, 10, 11, 12, 13, 14, 15, 16, 17, 18, 19, 20, 21, 22] from 30 to 147 (fun s4 s5 _ _ _ _ _ _ _ _ _ _ _ _ _ _ _ wx => SWE w j s4 s5 wx)
        case first =>
          rcases hm5 with hm | hm | hm | hm | hm
          · have hI := implRaise_any A x wr HV.out.own.nin (by omega) (by omega) HG.out.wf
            have hgr := ge_raise HG.out (HG.out.low (by omega) (fun e => (HOn.out e).1))
            rw [hgr.2.1] at hI
            have HI := hidOf hI
            clear hI
            go_wp2_with fail
            refine HI.out.mono ?_
            rintro e w5 ⟨A5, la, lm, lc, rfl, hO5, hc5, hL5, hap5, hb5⟩
            simp only at hO5 hL5 ⊢
            generalize (raiseM x).1 = y at hgr hO5 ⊢
            generalize (raiseM x).2.1 = tl at hgr hL5
            have HGy := hidOf hgr.1
            have HR := hidOf hgr.2.2
            clear hgr hap5
            generalize hW6 : w5.alloc (.cells #[.bool y.au, .bool y.up, .slice A5.a A5.n A5.c, .slice A5.a' A5.n' A5.c', .int .i64 y.st, .int .i64 y.sp, .int .i64 y.tk] 46) = W6
            have bW6 : Below w5.heap.size w5 W6 := by subst hW6; exact bl_alloc (Below.refl _ _) _
            have xW6 : EBox w5.heap.size A5 y W6 := by subst hW6; exact EBox.new w5 A5 y _
            have hV6 := HV.out.keep (bl_trans hb5 bW6)
            have hlt6 := HV.out.box.lt
            have hs6 := hb5.size
            have hO6 := (hO5.keep bW6).mono (B' := w.heap.size + 1) (by omega)
            obtain ⟨_, q0, q1, q2, q3, q4, q5, q6, _⟩ := id xW6
            have hL6 := hL5.keep bW6
            clear p0 p1 p2 p3 p4 p5 p6 pf
            cases hau : x.au
            · obtain htl := HR.out.2.2 hau
              subst htl
              obtain ⟨_, z0, z1, z2, z3, z4, z5, z6, zf⟩ := id hV6.box
              rw [hau] at z0
              have HAu := hidOf hau
              have hlm : lm ≤ 6 := by have h1 := hL5.ints.len; have h2 := HG.out.len; omega
              clear hau hO5 hL5 hb5 HI
              go_wp2_with fail
              refine (sameInts_any la A.a lm A.n lc A.c x.ln x.ln _ hL6.ints hV6.own.one.ints (by omega) (by omega)).mono ?_
              rintro e w7 ⟨rfl, hb7⟩
              rw [eqL_reflE]
              have hV8 := hV6.keep hb7
              have hO8 := hO6.keep hb7
              have xW8 := xW6.keep hb7
              clear q0 q1 q2 q3 q4 q5 q6 z0 z1 z2 z3 z4 z5 z6 zf hV6 hO6 xW6 hL6 hb7 bW6 hW6
              have hV6 := hV8
              have hO6 := hO8
              clear hV8 hO8
              obtain ⟨_, q0, q1, q2, q3, q4, q5, q6, _⟩ := id xW8
              have hV7 := hV6.store (y := y) (A' := A5) hO6 hc5
              obtain ⟨_, z0, z1, z2, z3, z4, z5, z6, zf⟩ := id hV6.box
              obtain ⟨_, v0, v1, v2, v3, v4, v5, v6, vf⟩ := id hV7.box
              have HV7 := hidOf hV7
              have hs5 := hO6.small HGy.out
              have HNI := hidOf hV7.own.nin
              clear hV6 hV7 hO6 HV xW8
              go_wp2_with fail
              go_meet
              exact ⟨k + 1, g, A5, y, by first | rfl | go_num, by first | rfl | go_num, by omega, by omega, fun e => (by rw [HR.out.1, HAu.out] at e; cases e), HGy.out, HV7.out⟩
            · have hV7 := hV6.store (y := y) (A' := A5) hO6 hc5
              obtain ⟨_, z0, z1, z2, z3, z4, z5, z6, zf⟩ := id hV6.box
              obtain ⟨_, v0, v1, v2, v3, v4, v5, v6, vf⟩ := id hV7.box
              have HV7 := hidOf hV7
              have hs5 := hO6.small HGy.out
              have HNI := hidOf hV7.own.nin
              rw [hau] at z0
              have HAu := hidOf hau
              have hlm : ¬ (1 : Int) < (lm : Int) := by have h1 := hL5.ints.len; have h2 := (HR.out.2.1 hau).2.2; omega
              clear hau hO5 hL5 hL6 hb5 HI hV6 hV7 hO6 HV xW6 bW6
              go_wp2_with fail
              go_meet
              exact ⟨k + 1, g, A5, y, by first | rfl | go_num, by first | rfl | go_num, by omega, by omega, fun e => (by have h1 := HOn.out HAu.out; have h2 := HR.out.2.1 HAu.out; omega), HGy.out, HV7.out⟩
          · have hI := implReset_any A x wr HV.out.own.nin (by omega) (by omega) HG.out.wf
            obtain ⟨s, hre, hgs⟩ := ge_reset HG.out
            rw [hre] at hI
            have HI := hidOf hI
            clear hI hre
            go_wp2_with fail
            refine HI.out.mono ?_
            rintro e w5 ⟨A5, rfl, hO5, hc5, hb5⟩
            simp only at hO5 ⊢
            have HGy := hidOf hgs
            clear hgs
            generalize hW6 : w5.alloc (.cells #[.bool x.au, .bool false, .slice A5.a A5.n A5.c, .slice A5.a' A5.n' A5.c', .int .i64 x.st, .int .i64 s, .int .i64 x.tk] 46) = W6
            have bW6 : Below w5.heap.size w5 W6 := by subst hW6; exact bl_alloc (Below.refl _ _) _
            have xW6 : EBox w5.heap.size A5 (⟨x.au, false, x.ln, x.gs, x.st, s, x.tk⟩ : Et) W6 := by subst hW6; exact EBox.new w5 A5 (⟨x.au, false, x.ln, x.gs, x.st, s, x.tk⟩ : Et) _
            have hV6 := HV.out.keep (bl_trans hb5 bW6)
            have hlt6 := HV.out.box.lt
            have hs6 := hb5.size
            have hO6 := (hO5.keep bW6).mono (B' := w.heap.size + 1) (by omega)
            obtain ⟨_, q0, q1, q2, q3, q4, q5, q6, _⟩ := id xW6
            clear p0 p1 p2 p3 p4 p5 p6 pf
            have hV7 := hV6.store (y := (⟨x.au, false, x.ln, x.gs, x.st, s, x.tk⟩ : Et)) (A' := A5) hO6 hc5
            obtain ⟨_, z0, z1, z2, z3, z4, z5, z6, zf⟩ := id hV6.box
            obtain ⟨_, v0, v1, v2, v3, v4, v5, v6, vf⟩ := id hV7.box
            have HV7 := hidOf hV7
            have hs5 := hO6.small HGy.out
            have HNI := hidOf hV7.own.nin
            simp only at q0 q1 q2 q3 q4 q5 q6 v0 v1 v2 v3 v4 v5 v6
            simp only at HV7
            clear hV6 hV7 hO6 HV HI hO5 hb5 bW6 xW6
            go_wp2_with fail
            go_meet
            exact ⟨k, g, A5, (⟨x.au, false, x.ln, x.gs, x.st, s, x.tk⟩ : Et), by first | rfl | go_num, by first | rfl | go_num, by omega, by omega, fun e => HOn.out e, HGy.out, HV7.out⟩
          · have hI := implGoOn_any A x who wr HV.out.own.nin (by omega) (by omega) HG.out.wf (who_wfE HWh.out.1 HWh.out.2)
            have hgr := ge_goOn HG.out who
            generalize goOnM x who = r at hI hgr
            obtain ⟨y, rc⟩ := r
            simp only at hI hgr
            have HI := hidOf hI
            clear hI
            have HGy := hidOf hgr.1
            have HR := hidOf hgr.2
            clear hgr
            go_wp2_with fail
            refine HI.out.mono ?_
            rintro e w5 ⟨A5, rfl, hO5, hc5, hb5⟩
            simp only []
            generalize hW6 : w5.alloc (.cells #[.bool y.au, .bool y.up, .slice A5.a A5.n A5.c, .slice A5.a' A5.n' A5.c', .int .i64 y.st, .int .i64 y.sp, .int .i64 y.tk] 46) = W6
            have bW6 : Below w5.heap.size w5 W6 := by subst hW6; exact bl_alloc (Below.refl _ _) _
            have xW6 : EBox w5.heap.size A5 y W6 := by subst hW6; exact EBox.new w5 A5 y _
            have hV6 := HV.out.keep (bl_trans hb5 bW6)
            have hlt6 := HV.out.box.lt
            have hs6 := hb5.size
            have hO6 := (hO5.keep bW6).mono (B' := w.heap.size + 1) (by omega)
            obtain ⟨_, q0, q1, q2, q3, q4, q5, q6, _⟩ := id xW6
            clear p0 p1 p2 p3 p4 p5 p6 pf
            have hV7 := hV6.store (y := y) (A' := A5) hO6 hc5
            obtain ⟨_, z0, z1, z2, z3, z4, z5, z6, zf⟩ := id hV6.box
            obtain ⟨_, v0, v1, v2, v3, v4, v5, v6, vf⟩ := id hV7.box
            have HV7 := hidOf hV7
            have hs5 := hO6.small HGy.out
            have HNI := hidOf hV7.own.nin
            clear hV6 hV7 hO6 HV HI hO5 hb5 bW6 xW6
            by_cases hrc : rc = 0
            · subst hrc
              go_wp2_with fail
              go_meet
              exact ⟨k, g + 1, A5, y, by first | rfl | go_num, by first | rfl | go_num, by omega, by omega, on_step HR.out.1 HR.out.2.1 (HR.out.2.2.1 (by trivial)) HOn.out, HGy.out, HV7.out⟩
            · have HRc := hidOf hrc
              have hrc2 : (rc == 0) = false := by simp [hrc]
              clear hrc
              go_wp2_with fail
              go_meet
              exact ⟨k, g, A5, y, by first | rfl | go_num, by first | rfl | go_num, by omega, by omega, on_same HR.out.1 HR.out.2.1 (HR.out.2.2.2 HRc.out) HOn.out, HGy.out, HV7.out⟩
          · have hI := implStepBack_any A x who wr HV.out.own.nin (by omega) (by omega) HG.out.wf (who_wfE HWh.out.1 HWh.out.2)
            have HI := hidOf hI
            clear hI
            go_wp2_with fail
            refine HI.out.mono ?_
            rintro e w5 ⟨A5, la, lm, lc, rfl, hO5, hc5, _, _, hb5⟩
            have hgr := ge_step HG.out who
            have hJ := fun (u : World) (hb : Below wr.heap.size wr u) => specStepBack_any A x who u (HV.out.own.nin.keep hb) (by omega) (by omega) HV.out.cap
            have HJ := hidOf hJ
            clear hJ
            simp only at hO5 ⊢
            generalize (stepM x who).1 = y at hgr hO5 HJ ⊢
            generalize (stepM x who).2.1 = tl at HJ
            generalize (stepM x who).2.2 = rc at HJ ⊢
            have HGy := hidOf hgr.1
            have HR := hidOf hgr.2
            clear hgr
            generalize hW6 : w5.alloc (.cells #[.bool y.au, .bool y.up, .slice A5.a A5.n A5.c, .slice A5.a' A5.n' A5.c', .int .i64 y.st, .int .i64 y.sp, .int .i64 y.tk] 46) = W6
            have bW6 : Below w5.heap.size w5 W6 := by subst hW6; exact bl_alloc (Below.refl _ _) _
            have xW6 : EBox w5.heap.size A5 y W6 := by subst hW6; exact EBox.new w5 A5 y _
            have hV6 := HV.out.keep (bl_trans hb5 bW6)
            have hlt6 := HV.out.box.lt
            have hs6 := hb5.size
            have hO6 := (hO5.keep bW6).mono (B' := w.heap.size + 1) (by omega)
            have HBw := hidOf (bl_trans hb5 bW6)
            obtain ⟨_, q0, q1, q2, q3, q4, q5, q6, _⟩ := id xW6
            clear p0 p1 p2 p3 p4 p5 p6 pf
            obtain ⟨_, z0, z1, z2, z3, z4, z5, z6, zf⟩ := id hV6.box
            clear hO5 hb5 HI
            go_wp2_with fail
            refine (HJ.out _ HBw.out).mono ?_
            rintro e w7 ⟨A7, ra, rm, rcc, rfl, _, _, _, _, hb7⟩
            generalize hW8 : w7.alloc (.cells #[.bool y.au, .bool y.up, .slice A7.a A7.n A7.c, .slice A7.a' A7.n' A7.c', .int .i64 y.st, .int .i64 y.sp, .int .i64 y.tk] 46) = W8
            have b8 : Below w7.heap.size w7 W8 := by subst hW8; exact bl_alloc (Below.refl _ _) _
            have b78 := bl_trans hb7 b8
            have hV8 := hV6.keep b78
            have hO8 := hO6.keep b78
            have xW8 := xW6.keep b78
            clear q0 q1 q2 q3 q4 q5 q6 z0 z1 z2 z3 z4 z5 z6 zf hV6 hO6 xW6 hb7 b8 b78 bW6 hW6 HBw HJ
            have hV6 := hV8
            have hO6 := hO8
            clear hV8 hO8
            obtain ⟨_, q0, q1, q2, q3, q4, q5, q6, _⟩ := id xW8
            have hV7 := hV6.store (y := y) (A' := A5) hO6 hc5
            obtain ⟨_, z0, z1, z2, z3, z4, z5, z6, zf⟩ := id hV6.box
            obtain ⟨_, v0, v1, v2, v3, v4, v5, v6, vf⟩ := id hV7.box
            have HV7 := hidOf hV7
            have hs5 := hO6.small HGy.out
            have HNI := hidOf hV7.own.nin
            clear hV6 hV7 hO6 HV xW8
            go_wp2_with fail
            go_meet
            exact ⟨k, g, A5, y, by first | rfl | go_num, by first | rfl | go_num, by omega, by omega, on_same HR.out.1 HR.out.2.1 HR.out.2.2 HOn.out, HGy.out, HV7.out⟩
          · have hI := implStand_any A x who wr HV.out.own.nin (by omega) (by omega) HG.out.wf (who_wfE HWh.out.1 HWh.out.2)
            have hgr := ge_stand HG.out who HWh.out
            generalize standM x who = r at hI hgr
            obtain ⟨y, rc⟩ := r
            simp only at hI hgr
            have HI := hidOf hI
            clear hI
            have HGy := hidOf hgr.1
            have HR := hidOf hgr.2
            have hac := hgr.2.2.2.2.2
            clear hgr
            go_wp2_with fail
            refine HI.out.mono ?_
            rintro e w5 ⟨A5, rfl, hO5, hc5, hb5⟩
            simp only []
            generalize hW6 : w5.alloc (.cells #[.bool y.au, .bool y.up, .slice A5.a A5.n A5.c, .slice A5.a' A5.n' A5.c', .int .i64 y.st, .int .i64 y.sp, .int .i64 y.tk] 46) = W6
            have bW6 : Below w5.heap.size w5 W6 := by subst hW6; exact bl_alloc (Below.refl _ _) _
            have xW6 : EBox w5.heap.size A5 y W6 := by subst hW6; exact EBox.new w5 A5 y _
            have hV6 := HV.out.keep (bl_trans hb5 bW6)
            have hlt6 := HV.out.box.lt
            have hs6 := hb5.size
            have hO6 := (hO5.keep bW6).mono (B' := w.heap.size + 1) (by omega)
            obtain ⟨_, q0, q1, q2, q3, q4, q5, q6, _⟩ := id xW6
            clear p0 p1 p2 p3 p4 p5 p6 pf
            have hV7 := hV6.store (y := y) (A' := A5) hO6 hc5
            obtain ⟨_, z0, z1, z2, z3, z4, z5, z6, zf⟩ := id hV6.box
            obtain ⟨_, v0, v1, v2, v3, v4, v5, v6, vf⟩ := id hV7.box
            have HV7 := hidOf hV7
            have hs5 := hO6.small HGy.out
            have HNI := hidOf hV7.own.nin
            clear hV6 hV7 hO6 HV HI hO5 hb5 bW6 xW6
            rcases hac with ⟨hc0, hp0⟩ | ⟨hc0, hp0⟩ | ⟨hc0, hc4⟩
            · subst hc0
              rw [hp0] at z1
              clear hp0
              go_wp2_with fail
              go_meet
              exact ⟨k, g + 1, A5, y, by first | rfl | go_num, by first | rfl | go_num, by omega, by omega, on_step HR.out.1 HR.out.2.1 (HR.out.2.2.1 (by trivial)) HOn.out, HGy.out, HV7.out⟩
            · subst hc0
              rw [hp0] at z1
              clear hp0
              go_wp2_with fail
              go_meet
              exact ⟨k, g, A5, y, by first | rfl | go_num, by first | rfl | go_num, by omega, by omega, on_same HR.out.1 HR.out.2.1 (HR.out.2.2.2.1 (by decide)) HOn.out, HGy.out, HV7.out⟩
            · have HRc := hidOf hc0
              have hrc2 : (rc == 0) = false := by simp [hc0]
              have hrc4 : (rc == 4) = false := by simp [hc4]
              clear hc0 hc4
              go_wp2_with fail
              go_meet
              exact ⟨k, g, A5, y, by first | rfl | go_num, by first | rfl | go_num, by omega, by omega, on_same HR.out.1 HR.out.2.1 (HR.out.2.2.2.1 HRc.out) HOn.out, HGy.out, HV7.out⟩
        case rest =>
          obtain ⟨k5, g5, A5, y, rfl, rfl, hk5, hg5, hon5, hge5, hV5⟩ := hcut
          have HGy := hidOf hge5
          have HOy := hidOf hon5
          have hs5 := hV5.own.small hge5
          have HNI := hidOf hV5.own.nin
          have hc5 := hV5.cap
          have HV5 := hidOf hV5
          obtain ⟨_, v0, v1, v2, v3, v4, v5, v6, vf⟩ := id hV5.box
          clear hge5 hon5 hV5
          go_wp2_with fail
          refine (specEventOk_any A5 y _ HNI.out (by omega) (by omega) hc5).mono ?_
          rintro e w9 ⟨rfl, hb9⟩
          rw [HGy.out.ok]
          have HV9 := hidOf (HV5.out.keep hb9)
          clear v0 v1 v2 v3 v4 v5 v6 vf hb9 HNI HV5
          go_wp2
          go_roundw
          case rel => exact ⟨k5, g5, j + 1, A5, y, by first | rfl | go_num, by first | rfl | go_num, by first | rfl | go_num, by omega, by omega, by omega, HOy.out, HGy.out, HV9.out⟩
          case measure => simp [intOf]; omega
      · obtain rfl : j = 26 := by omega
        have hlow := HG.out.bds
        cases hau : x.au
        · rw [hau] at p0
          clear hau hlow
          go_wp2
          go_ret
          exact ⟨rfl, HBel.out⟩
        · obtain ⟨e1, e2⟩ := HOn.out hau
          have hle : (g : Int) ≤ (k : Int) := by omega
          rw [hau] at p0
          rw [e1] at p4
          rw [e2] at p6
          clear hau hlow e1 e2
          go_wp2
          go_ret
          exact ⟨rfl, HBel.out⟩
end Go.Proofs.Ytbhdjcggcgddfaa
