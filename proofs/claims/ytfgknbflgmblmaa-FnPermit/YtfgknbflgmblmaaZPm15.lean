/-
  Walk of the law on a permit: of a notification that nobody waits at, t
-/
import Derived.Test.YtfgknbflgmblmaaZPm14
namespace Go.Proofs.Ytfgknbflgmblmaa
open Go.RowKit Pl Il Dr
set_option maxRecDepth 100000 in
set_option maxHeartbeats 16000000 in
theorem fnPermit_of (a : Option Addr) (len cap : Nat) (w : World) (hB : len ≤ 1048576 → Bytes w.heap.size w a len cap) :
  Calls Try.prog 4 #[.slice a len cap] w fun e w' => e = .returned (.bool true) ∧ Below w.heap.size w w' := by
 have HBy := hidOf hB
 clear hB
 go_enter Try.func4, Try.ntmps4
 go_wp2_with fail
 refine (big_any a len cap _).mono ?_
 rintro e w0 ⟨rfl, hw0⟩
 obtain rfl : w = w0 := hw0.symm
 by_cases hbig : 1048576 < len
 ·have hb' : decide (1048576 < len) = true := by simp [hbig]
  rw [hb']
  go_wp2
  go_ret
  exact ⟨rfl, Below.refl _ _⟩
 have hb' : decide (1048576 < len) = false := by simp [hbig]
 rw [hb']
 have HBs := hidOf (HBy.out (by omega))
 clear hbig hb' HBy
 go_wp2_with fail
 refine (drawTellOne_any a len cap _ HBs.out).mono ?_
 rintro e w1 ⟨A, x, rfl, hrow, hle, hb1⟩
 have hsm := lenN_small hrow.own hle
 have HWf := hidOf (lenN_wf hle (by omega))
 have HCp := hidOf hrow.cap
 have HI1 := hidOf hrow.own.nin
 have HB1 := hidOf hb1
 clear hrow hle hb1 HBs
 go_upto_region 4 with fail
 obtain ⟨W2, hW2⟩ : ∃ W, w1.alloc (.cells #[.bool x.pm, .slice A.a A.n A.c, .slice A.a' A.n' A.c', .int .i64 x.on, .int .i64 x.sp, .int .i64 x.tk] 27) = W := ⟨_, rfl⟩
 have x2 : NBox w1.heap.size A x W2 := by rw [← hW2]; exact NBox.new w1 A x _
 have b2 : Below w1.heap.size w1 W2 := by rw [← hW2]; exact bl_alloc (Below.refl _ _) _
 rw [hW2]
 have HI2 := hidOf (HI1.out.keep b2)
 have HB2 := hidOf (bl_trans HB1.out b2)
 generalize w1.heap.size = N at x2 ⊢
 have HX2 := hidOf x2
 clear hW2 x2 b2 HI1 HB1
 obtain ⟨_, p0, p1, p2, p3, p4, p5, pf⟩ := id HX2.out
 go_wp2_with fail
 refine (specNotifyOk_any A x _ HI2.out (by omega) (by omega) HCp.out).mono ?_
 rintro e w3 ⟨rfl, hb3⟩
 have HX3 := hidOf (HX2.out.keep hb3)
 have HI3 := hidOf (HI2.out.keep hb3)
 have HB3 := hidOf (bl_trans HB2.out hb3)
 clear p0 p1 p2 p3 p4 p5 pf hb3 HX2 HI2 HB2
 obtain ⟨y0, v0, c0, hE⟩ : ∃ (y0 : Nt) (v0 c0 : Int), tellOneM x = (y0, v0, c0) := ⟨_, _, _, rfl⟩
 have HE := hidOf hE
 obtain ⟨o, ho⟩ : ∃ o, okN x = o := ⟨_, rfl⟩
 have HOk := hidOf ho
 rw [ho]
 clear hE ho
 obtain ⟨_, p0, p1, p2, p3, p4, p5, pf⟩ := id HX3.out
 cases o
 ·go_upto_region 5 with fail
  obtain ⟨_, p0, p1, p2, p3, p4, p5, pf⟩ := id HX3.out
  have h1 := implTellOne_any A x w3 HI3.out (by omega) (by omega) HWf.out
  rw [HE.out] at h1
  simp only at h1
  go_wp2_with fail
  refine h1.mono ?_
  clear h1
  rintro e w4 ⟨A4, rfl, ho4, hc4, hb4⟩
  clear p0 p1 p2 p3 p4 p5 pf
  go_upto_region 6 with fail
  obtain ⟨W5, hW5⟩ : ∃ W, w4.alloc (.cells #[.bool y0.pm, .slice A4.a A4.n A4.c, .slice A4.a' A4.n' A4.c', .int .i64 y0.on, .int .i64 y0.sp, .int .i64 y0.tk] 27) = W := ⟨_, rfl⟩
  have x5 : NBox w4.heap.size A4 y0 W5 := by rw [← hW5]; exact NBox.new w4 A4 y0 _
  have b5 : Below w4.heap.size w4 W5 := by rw [← hW5]; exact bl_alloc (Below.refl _ _) _
  rw [hW5]
  have b45 := bl_trans hb4 b5
  have HX5 := hidOf (HX3.out.keep b45)
  have HI5 := hidOf (HI3.out.keep b45)
  have HB5 := hidOf (bl_trans HB3.out b45)
  clear hW5 x5 b5 b45 ho4 hc4 hb4
  obtain ⟨_, p0, p1, p2, p3, p4, p5, pf⟩ := id HX5.out
  have h1 := specTellOne_any A x W5 HI5.out (by omega) (by omega) HCp.out
  rw [HE.out] at h1
  simp only at h1
  go_wp2_with fail
  refine h1.mono ?_
  clear h1
  rintro e w6 ⟨A6, rfl, ho6, hc6, hb6⟩
  clear p0 p1 p2 p3 p4 p5 pf
  have HB6 := hidOf (bl_trans HB5.out (bl_trans hb6 (bl_alloc (Below.refl _ _) (.cells #[.bool y0.pm, .slice A6.a A6.n A6.c, .slice A6.a' A6.n' A6.c', .int .i64 y0.on, .int .i64 y0.sp, .int .i64 y0.tk] 27))))
  have hcc : (c0 == c0) = true := by simp
  clear ho6 hc6 hb6
  go_wp2_with fail
  go_ret
  exact ⟨rfl, HB6.out⟩
 by_cases hn0 : A.n = 0
 rotate_left
 ·have hnp : (0 : Int) < (A.n : Int) := by omega
  go_upto_region 5 with fail
  obtain ⟨_, p0, p1, p2, p3, p4, p5, pf⟩ := id HX3.out
  have h1 := implTellOne_any A x w3 HI3.out (by omega) (by omega) HWf.out
  rw [HE.out] at h1
  simp only at h1
  go_wp2_with fail
  refine h1.mono ?_
  clear h1
  rintro e w4 ⟨A4, rfl, ho4, hc4, hb4⟩
  clear p0 p1 p2 p3 p4 p5 pf
  go_upto_region 6 with fail
  obtain ⟨W5, hW5⟩ : ∃ W, w4.alloc (.cells #[.bool y0.pm, .slice A4.a A4.n A4.c, .slice A4.a' A4.n' A4.c', .int .i64 y0.on, .int .i64 y0.sp, .int .i64 y0.tk] 27) = W := ⟨_, rfl⟩
  have x5 : NBox w4.heap.size A4 y0 W5 := by rw [← hW5]; exact NBox.new w4 A4 y0 _
  have b5 : Below w4.heap.size w4 W5 := by rw [← hW5]; exact bl_alloc (Below.refl _ _) _
  rw [hW5]
  have b45 := bl_trans hb4 b5
  have HX5 := hidOf (HX3.out.keep b45)
  have HI5 := hidOf (HI3.out.keep b45)
  have HB5 := hidOf (bl_trans HB3.out b45)
  clear hW5 x5 b5 b45 ho4 hc4 hb4
  obtain ⟨_, p0, p1, p2, p3, p4, p5, pf⟩ := id HX5.out
  have h1 := specTellOne_any A x W5 HI5.out (by omega) (by omega) HCp.out
  rw [HE.out] at h1
  simp only at h1
  go_wp2_with fail
  refine h1.mono ?_
  clear h1
  rintro e w6 ⟨A6, rfl, ho6, hc6, hb6⟩
  clear p0 p1 p2 p3 p4 p5 pf
  have HB6 := hidOf (bl_trans HB5.out (bl_trans hb6 (bl_alloc (Below.refl _ _) (.cells #[.bool y0.pm, .slice A6.a A6.n A6.c, .slice A6.a' A6.n' A6.c', .int .i64 y0.on, .int .i64 y0.sp, .int .i64 y0.tk] 27))))
  have hcc : (c0 == c0) = true := by simp
  clear ho6 hc6 hb6
  go_wp2_with fail
  go_ret
  exact ⟨rfl, HB6.out⟩
 have hnp : decide ((0 : Int) < (A.n : Int)) = false := by simp [hn0]
 have hnp2 : decide (0 < A.n) = false := by simp [hn0]
 have HLn := hidOf (show x.ln = [] from by
  have k := HI3.out.ints.len
  exact List.length_eq_zero_iff.1 (by omega))
 clear hn0
 by_cases hon : x.on ≤ 999999998
 rotate_left
 ·have hon2 : decide (999999998 < x.on) = true := by simp; omega
  clear hon HLn
  go_upto_region 5 with fail
  clear hnp hnp2 hon2
  obtain ⟨_, p0, p1, p2, p3, p4, p5, pf⟩ := id HX3.out
  have h1 := implTellOne_any A x w3 HI3.out (by omega) (by omega) HWf.out
  rw [HE.out] at h1
  simp only at h1
  go_wp2_with fail
  refine h1.mono ?_
  clear h1
  rintro e w4 ⟨A4, rfl, ho4, hc4, hb4⟩
  clear p0 p1 p2 p3 p4 p5 pf
  go_upto_region 6 with fail
  obtain ⟨W5, hW5⟩ : ∃ W, w4.alloc (.cells #[.bool y0.pm, .slice A4.a A4.n A4.c, .slice A4.a' A4.n' A4.c', .int .i64 y0.on, .int .i64 y0.sp, .int .i64 y0.tk] 27) = W := ⟨_, rfl⟩
  have x5 : NBox w4.heap.size A4 y0 W5 := by rw [← hW5]; exact NBox.new w4 A4 y0 _
  have b5 : Below w4.heap.size w4 W5 := by rw [← hW5]; exact bl_alloc (Below.refl _ _) _
  rw [hW5]
  have b45 := bl_trans hb4 b5
  have HX5 := hidOf (HX3.out.keep b45)
  have HI5 := hidOf (HI3.out.keep b45)
  have HB5 := hidOf (bl_trans HB3.out b45)
  clear hW5 x5 b5 b45 ho4 hc4 hb4
  obtain ⟨_, p0, p1, p2, p3, p4, p5, pf⟩ := id HX5.out
  have h1 := specTellOne_any A x W5 HI5.out (by omega) (by omega) HCp.out
  rw [HE.out] at h1
  simp only at h1
  go_wp2_with fail
  refine h1.mono ?_
  clear h1
  rintro e w6 ⟨A6, rfl, ho6, hc6, hb6⟩
  clear p0 p1 p2 p3 p4 p5 pf
  have HB6 := hidOf (bl_trans HB5.out (bl_trans hb6 (bl_alloc (Below.refl _ _) (.cells #[.bool y0.pm, .slice A6.a A6.n A6.c, .slice A6.a' A6.n' A6.c', .int .i64 y0.on, .int .i64 y0.sp, .int .i64 y0.tk] 27))))
  have hcc : (c0 == c0) = true := by simp
  clear ho6 hc6 hb6
  go_wp2_with fail
  go_ret
  exact ⟨rfl, HB6.out⟩
 have hon2 : decide (999999998 < x.on) = false := by simp; omega
 obtain ⟨ya, yb, e1, e2, hok, hpm, hsp, hln, hgs, htk, hlna, hgsa⟩ := pm_facts HOk.out HLn.out hon
 have HE1 := hidOf e1
 have HE2 := hidOf e2
 have HOb := hidOf hok
 have HPb := hidOf hpm
 have HSb := hidOf hsp
 have HLb := hidOf hln
 have HGb := hidOf hgs
 have HTb := hidOf htk
 have HLa := hidOf hlna
 have HGa := hidOf hgsa
 have HSx := hidOf (okN_parts HOk.out).2.2.2.2.2.1
 have HGl := hidOf (okN_parts HOk.out).2.2.2.1
 clear e1 e2 hok hpm hsp hln hgs htk hlna hgsa HE HLn HOk
 go_upto_region 8 with fail
 clear hnp hnp2 hon hon2
 obtain ⟨_, p0, p1, p2, p3, p4, p5, pf⟩ := id HX3.out
 have h1 := implTellOne_any A x w3 HI3.out (by omega) (by omega) HWf.out
 rw [HE1.out] at h1
 simp only at h1
 go_wp2_with fail
 refine h1.mono ?_
 clear h1
 rintro e w4 ⟨A4, rfl, ho4, hc4, hb4⟩
 clear p0 p1 p2 p3 p4 p5 pf
 go_upto_region 9 with fail
 obtain ⟨W5, hW5⟩ : ∃ W, w4.alloc (.cells #[.bool ya.pm, .slice A4.a A4.n A4.c, .slice A4.a' A4.n' A4.c', .int .i64 ya.on, .int .i64 ya.sp, .int .i64 ya.tk] 27) = W := ⟨_, rfl⟩
 have x5 : NBox w4.heap.size A4 ya W5 := by rw [← hW5]; exact NBox.new w4 A4 ya _
 have b5 : Below w4.heap.size w4 W5 := by rw [← hW5]; exact bl_alloc (Below.refl _ _) _
 rw [hW5]
 have b45 := bl_trans hb4 b5
 have HX5 := hidOf (HX3.out.keep b45)
 have HI5 := hidOf (HI3.out.keep b45)
 have HB5 := hidOf (bl_trans HB3.out b45)
 have HJ5 := hidOf (ho4.nin.keep b5)
 have hl4 : A4.n ≤ 60 ∧ A4.n' ≤ 60 := by
  have k1 := ho4.nin.ints.len
  have k2 := ho4.nin.grs.len
  rw [HLa.out] at k1
  rw [HGa.out] at k2
  have k3 := HGl.out
  simp only [List.length_nil] at k1
  omega
 have HWa := hidOf (show NWf ya from ⟨(by rw [HLa.out]; intro z hz; cases hz), (by rw [HGa.out]; exact HWf.out.gs)⟩)
 generalize w4.heap.size = N4 at x5 ⊢
 have HY5 := hidOf x5
 clear hW5 x5 b5 b45 ho4 hc4 hb4 HX3 HI3 HB3
 obtain ⟨_, p0, p1, p2, p3, p4, p5, pf⟩ := id HY5.out
 have h1 := implTellOne_any A4 ya W5 HJ5.out (by omega) (by omega) HWa.out
 rw [HE2.out] at h1
 simp only at h1
 go_wp2_with fail
 refine h1.mono ?_
 clear h1
 rintro e w6 ⟨A6, rfl, ho6, hc6, hb6⟩
 clear p0 p1 p2 p3 p4 p5 pf hl4
 go_upto_region 10 with fail
 obtain ⟨W7, hW7⟩ : ∃ W, w6.alloc (.cells #[.bool yb.pm, .slice A6.a A6.n A6.c, .slice A6.a' A6.n' A6.c', .int .i64 yb.on, .int .i64 yb.sp, .int .i64 yb.tk] 27) = W := ⟨_, rfl⟩
 have x7 : NBox w6.heap.size A6 yb W7 := by rw [← hW7]; exact NBox.new w6 A6 yb _
 have b7 : Below w6.heap.size w6 W7 := by rw [← hW7]; exact bl_alloc (Below.refl _ _) _
 rw [hW7]
 have b67 := bl_trans hb6 b7
 have HX7 := hidOf (HX5.out.keep b67)
 have HI7 := hidOf (HI5.out.keep b67)
 have HB7 := hidOf (bl_trans HB5.out b67)
 have HJ7 := hidOf (ho6.nin.keep b7)
 have HL6 := hidOf (show A6.n ≤ 60 ∧ A6.n' ≤ 60 from by
  have k1 := ho6.nin.ints.len
  have k2 := ho6.nin.grs.len
  rw [HLb.out] at k1
  rw [HGb.out] at k2
  have k3 := HGl.out
  simp only [List.length_nil] at k1
  omega)
 have HWb := hidOf (show NWf yb from ⟨(by rw [HLb.out]; intro z hz; cases hz), (by rw [HGb.out]; exact HWf.out.gs)⟩)
 generalize w6.heap.size = N6 at x7 ⊢
 have HY7 := hidOf x7
 clear hW7 x7 b7 b67 ho6 hc6 hb6 HX5 HI5 HB5 HJ5 HY5
 obtain ⟨_, p0, p1, p2, p3, p4, p5, pf⟩ := id HX7.out
 have hw1 : IntKind.i64.wrap (x.sp + 1) = x.sp + 1 := by have k := HSx.out; rw [IntKind.wrap_i64]; omega
 have hw2 : IntKind.i64.wrap (x.sp + 1 + 1) = x.sp + 1 + 1 := by have k := HSx.out; rw [IntKind.wrap_i64]; omega
 obtain ⟨pm, hpm⟩ : ∃ b, x.pm = b := ⟨_, rfl⟩
 rw [hpm] at p0
 have HSp := hidOf (show yb.sp = x.sp + 1 + permI pm by rw [HSb.out, hpm])
 clear hpm HSb
 go_upto_if 72 with fail
 go_cut [16] from 73 to 74 (fun s wx => s = .int .i64 yb.sp ∧ wx = W7)
 case first =>
  cases pm
  ·have hs : yb.sp = x.sp + 1 := by rw [HSp.out]; simp [permI]
   have HS := hidOf hs
   clear hs
   go_wp2_with fail
   go_meet
   exact ⟨by rw [HS.out], rfl⟩
  ·have hs : yb.sp = x.sp + 1 + 1 := by rw [HSp.out]; simp [permI]
   have HS := hidOf hs
   clear hs
   go_wp2_with fail
   go_meet
   exact ⟨by rw [HS.out], rfl⟩
 case rest =>
  obtain ⟨rfl, hwx⟩ := hcut
  rename World => wz
  obtain rfl : W7 = wz := hwx.symm
  clear HSp p0 p1 p2 p3 p4 p5 pf hw1 hw2
  go_wp2_with fail
  go_loopw [17] (fun i wr => ∃ j : Nat, j ≤ 32 ∧ i = .int .i64 (60 - (j : Int)) ∧ (∀ k : Nat, k < j → 60 - (k : Int) ∈ whosL x.gs) ∧ Below W7.heap.size W7 wr) (fun i _ => (intOf i).toNat)
  case atStart => exact ⟨0, by omega, rfl, fun k hk => by omega, Below.refl _ _⟩
  case round =>
   rename World => wr
   obtain ⟨j, hj, rfl, hin, hB⟩ := hrel
   have HIn := hidOf hin
   have HX8 := hidOf (HX7.out.keep hB)
   have HI8 := hidOf (HI7.out.keep hB)
   have HBr := hidOf hB
   clear hin hB
   obtain ⟨_, p0, p1, p2, p3, p4, p5, pf⟩ := id HX8.out
   go_wp2_with fail
   refine (grantsOf_any A x _ HI8.out (by omega)).mono ?_
   rintro e w8 ⟨a8, c8, rfl, hG8, hb8⟩
   go_wp2_with fail
   refine (specPlace_any a8 A.n' c8 (whosL x.gs) _ _ hG8 (by omega)).mono ?_
   rintro e w9 ⟨rfl, hw9⟩
   obtain rfl : w8 = w9 := hw9.symm
   obtain ⟨q, hq⟩ : ∃ q, hasL (whosL x.gs) (60 - (j : Int)) = q := ⟨_, rfl⟩
   have HQ := hidOf hq
   have HB8 := hidOf (bl_trans HBr.out hb8)
   clear hG8 hb8 hw9 p0 p1 p2 p3 p4 p5 pf
   cases q
   rotate_left
   ·have hp : (0 : Int) ≤ placeL (whosL x.gs) (60 - (j : Int)) := by
     rcases Int.lt_or_le (placeL (whosL x.gs) (60 - (j : Int))) 0 with k | k
     ·rw [place_neg, HQ.out] at k; cases k
     ·exact k
    have hnew : ∀ k : Nat, k < j + 1 → 60 - (k : Int) ∈ whosL x.gs := fun k hk => by
     rcases Nat.lt_succ_iff_lt_or_eq.1 hk with h | h
     ·exact HIn.out k h
     ·subst h; have h2 := HQ.out; simpa [hasL] using h2
    have hfew := dn_few hnew
    rw [whos_len] at hfew
    have hj1 : j + 1 ≤ 32 := Nat.le_trans hfew HGl.out
    have HNew := hidOf hnew
    have hwr : IntKind.i64.wrap (60 - (j : Int) - 1) = 60 - (j : Int) - 1 := by rw [IntKind.wrap_i64]; omega
    clear hq hnew hfew
    go_wp2_with fail
    go_roundw
    case rel => exact ⟨j + 1, hj1, by go_num, HNew.out, HB8.out⟩
    case measure => simp [intOf]; omega
   ·have hp : ¬ (0 : Int) ≤ placeL (whosL x.gs) (60 - (j : Int)) := by
     have k := place_neg.2 HQ.out
     omega
    clear hq
    have HX9 := hidOf (HX7.out.keep HB8.out)
    have HI9 := hidOf (HI7.out.keep HB8.out)
    have HY9 := hidOf (HY7.out.keep HB8.out)
    have HJ9 := hidOf (HJ7.out.keep HB8.out)
    have HB9 := hidOf (bl_trans HB7.out HB8.out)
    clear HX7 HI7 HY7 HJ7 HB7 HX8 HI8 HBr HB8 HIn
    obtain ⟨v1, hv1⟩ : ∃ v, 60 - (j : Int) = v := ⟨_, rfl⟩
    rw [hv1] at hp HQ
    try rw [hv1]
    have HV1 := hidOf (show 28 ≤ v1 ∧ v1 ≤ 60 by omega)
    go_wp2_with fail
    clear hp
    go_loopw [18] (fun i wr => ∃ j : Nat, j ≤ 33 ∧ i = .int .i64 (61 - (j : Int)) ∧ (∀ k : Nat, k < j → 61 - (k : Int) ∈ v1 :: whosL x.gs) ∧ Below w8.heap.size w8 wr) (fun i _ => (intOf i).toNat)
    case atStart => exact ⟨0, by omega, rfl, fun k hk => by omega, Below.refl _ _⟩
    case round =>
     rename World => wq
     obtain ⟨j2, hj2, rfl, hin, hB⟩ := hrel
     have HIn := hidOf hin
     have HX10 := hidOf (HX9.out.keep hB)
     have HI10 := hidOf (HI9.out.keep hB)
     have HBq := hidOf hB
     clear hin hB hj hv1
     by_cases heq : 61 - (j2 : Int) = v1
     ·have heq' : (61 - (j2 : Int) == v1) = true := by simp [heq]
      have hnew : ∀ k : Nat, k < j2 + 1 → 61 - (k : Int) ∈ v1 :: whosL x.gs := fun k hk => by
       rcases Nat.lt_succ_iff_lt_or_eq.1 hk with h | h
       ·exact HIn.out k h
       ·subst h; rw [heq]; exact List.mem_cons_self
      have hfew := dn_few hnew
      rw [List.length_cons, whos_len] at hfew
      have hj1 : j2 + 1 ≤ 33 := Nat.le_trans hfew (by have k := HGl.out; omega)
      have HNew := hidOf hnew
      have hwr : IntKind.i64.wrap (61 - (j2 : Int) - 1) = 61 - (j2 : Int) - 1 := by rw [IntKind.wrap_i64]; omega
      clear heq hnew hfew
      go_wp2_with fail
      go_roundw
      case rel => exact ⟨j2 + 1, hj1, by go_num, HNew.out, HBq.out⟩
      case measure => simp [intOf]; omega
     have heq' : (61 - (j2 : Int) == v1) = false := by simp [heq]
     obtain ⟨_, p0, p1, p2, p3, p4, p5, pf⟩ := id HX10.out
     go_wp2_with fail
     refine (grantsOf_any A x _ HI10.out (by omega)).mono ?_
     rintro e w10 ⟨a8, c8, rfl, hG8, hb8⟩
     go_wp2_with fail
     refine (specPlace_any a8 A.n' c8 (whosL x.gs) _ _ hG8 (by omega)).mono ?_
     rintro e w9 ⟨rfl, hw9⟩
     obtain rfl : w10 = w9 := hw9.symm
     obtain ⟨q, hq⟩ : ∃ q, hasL (whosL x.gs) (61 - (j2 : Int)) = q := ⟨_, rfl⟩
     have HQ2 := hidOf hq
     have HB10 := hidOf (bl_trans HBq.out hb8)
     clear hG8 hb8 hw9 p0 p1 p2 p3 p4 p5 pf
     cases q
     rotate_left
     ·have hp : (0 : Int) ≤ placeL (whosL x.gs) (61 - (j2 : Int)) := by
       rcases Int.lt_or_le (placeL (whosL x.gs) (61 - (j2 : Int))) 0 with k | k
       ·rw [place_neg, HQ2.out] at k; cases k
       ·exact k
      have hnew : ∀ k : Nat, k < j2 + 1 → 61 - (k : Int) ∈ v1 :: whosL x.gs := fun k hk => by
       rcases Nat.lt_succ_iff_lt_or_eq.1 hk with h | h
       ·exact HIn.out k h
       ·subst h; have h2 := HQ2.out; exact List.mem_cons_of_mem _ (by simpa [hasL] using h2)
      have hfew := dn_few hnew
      rw [List.length_cons, whos_len] at hfew
      have hj1 : j2 + 1 ≤ 33 := Nat.le_trans hfew (by have k := HGl.out; omega)
      have HNew := hidOf hnew
      have hwr : IntKind.i64.wrap (61 - (j2 : Int) - 1) = 61 - (j2 : Int) - 1 := by rw [IntKind.wrap_i64]; omega
      clear heq hq hnew hfew heq'
      go_wp2_with fail
      go_roundw
      case rel => exact ⟨j2 + 1, hj1, by go_num, HNew.out, HB10.out⟩
      case measure => simp [intOf]; omega
     ·have hp : ¬ (0 : Int) ≤ placeL (whosL x.gs) (61 - (j2 : Int)) := by
       have k := place_neg.2 HQ2.out
       omega
      clear hq
      have HY11 := hidOf (HY9.out.keep HB10.out)
      have HJ11 := hidOf (HJ9.out.keep HB10.out)
      have HB11 := hidOf (bl_trans HB9.out HB10.out)
      obtain ⟨v2, hv2⟩ : ∃ v, 61 - (j2 : Int) = v := ⟨_, rfl⟩
      rw [hv2] at hp HQ2 heq'
      have HV2 := hidOf (show 28 ≤ v2 ∧ v2 ≤ 61 by omega)
      go_upto_region 18 with fail
      try rw [hv2]
      clear hp heq heq' hv2 hj2 HIn HX9 HI9 HY9 HJ9 HB9 HX10 HI10 HBq HB10
      obtain ⟨yd, ye, e1, e2, hpd, hle, hld, hgd⟩ := aw_facts (w1 := v1) (w2 := v2) HOb.out HPb.out HLb.out HTb.out (by have k := HV1.out; simp [clientL]; omega) (by have k := HV2.out; simp [clientL]; omega) (by rw [HGb.out]; exact HQ.out) (by rw [HGb.out]; exact HQ2.out)
      have HE3 := hidOf e1
      have HE4 := hidOf e2
      have HPd := hidOf hpd
      have HLe := hidOf hle
      have HLd := hidOf hld
      have HGd := hidOf hgd
      have h60 := HL6.out
      clear e1 e2 hpd hle hld hgd HQ HQ2
      obtain ⟨_, p0, p1, p2, p3, p4, p5, pf⟩ := id HY11.out
      have h1 := implAwait_any A6 yb v1 w10 HJ11.out (by omega) (by omega) HWb.out (by have k := HV1.out; simp only [Lit.wf, IntKind.min, IntKind.max, IntKind.signed, IntKind.bits]; simp; omega)
      rw [HE3.out] at h1
      simp only at h1
      go_wp2_with fail
      refine h1.mono ?_
      clear h1
      rintro e w12 ⟨A12, rfl, ho12, hc12, hb12⟩
      clear p0 p1 p2 p3 p4 p5 pf h60
      go_upto_region 19 with fail
      obtain ⟨W13, hW13⟩ : ∃ W, w12.alloc (.cells #[.bool yd.pm, .slice A12.a A12.n A12.c, .slice A12.a' A12.n' A12.c', .int .i64 yd.on, .int .i64 yd.sp, .int .i64 yd.tk] 27) = W := ⟨_, rfl⟩
      have x13 : NBox w12.heap.size A12 yd W13 := by rw [← hW13]; exact NBox.new w12 A12 yd _
      have b13 : Below w12.heap.size w12 W13 := by rw [← hW13]; exact bl_alloc (Below.refl _ _) _
      rw [hW13]
      have b1213 := bl_trans hb12 b13
      have HY13 := hidOf (HY11.out.keep b1213)
      have HB13 := hidOf (bl_trans HB11.out b1213)
      have HJ13 := hidOf (ho12.nin.keep b13)
      have hl12 : A12.n ≤ 60 ∧ A12.n' ≤ 60 := by
       have k1 := ho12.nin.ints.len
       have k2 := ho12.nin.grs.len
       rw [HLd.out] at k1
       rw [HGd.out, HGb.out] at k2
       have k3 := HGl.out
       simp only [List.length_nil] at k1
       omega
      have HWd := hidOf (show NWf yd from ⟨(by rw [HLd.out]; intro z hz; cases hz), (by rw [HGd.out, HGb.out]; exact HWf.out.gs)⟩)
      generalize w12.heap.size = N12 at x13 ⊢
      have HZ13 := hidOf x13
      clear hW13 x13 b13 b1213 ho12 hc12 hb12 HY11 HJ11 HB11
      obtain ⟨_, p0, p1, p2, p3, p4, p5, pf⟩ := id HZ13.out
      have h1 := implAwait_any A12 yd v2 W13 HJ13.out (by omega) (by omega) HWd.out (by have k := HV2.out; simp only [Lit.wf, IntKind.min, IntKind.max, IntKind.signed, IntKind.bits]; simp; omega)
      rw [HE4.out] at h1
      simp only at h1
      go_wp2_with fail
      refine h1.mono ?_
      clear h1
      rintro e w14 ⟨A14, rfl, ho14, hc14, hb14⟩
      clear p0 p1 p2 p3 p4 p5 pf hl12
      go_upto_region 20 with fail
      obtain ⟨W15, hW15⟩ : ∃ W, w14.alloc (.cells #[.bool ye.pm, .slice A14.a A14.n A14.c, .slice A14.a' A14.n' A14.c', .int .i64 ye.on, .int .i64 ye.sp, .int .i64 ye.tk] 27) = W := ⟨_, rfl⟩
      have x15 : NBox w14.heap.size A14 ye W15 := by rw [← hW15]; exact NBox.new w14 A14 ye _
      have b15 : Below w14.heap.size w14 W15 := by rw [← hW15]; exact bl_alloc (Below.refl _ _) _
      rw [hW15]
      have b1415 := bl_trans hb14 b15
      have HY15 := hidOf (HY13.out.keep b1415)
      have HZ15 := hidOf (HZ13.out.keep b1415)
      have HB15 := hidOf (bl_trans HB13.out b1415)
      have hI15 := ho14.nin.ints.keep b15
      have hl14 : A14.n = 1 := by
       have k1 := ho14.nin.ints.len
       rw [HLe.out] at k1
       simpa using k1.symm
      rw [HLe.out] at hI15
      have HI15 := hidOf hI15
      have H14 := hidOf hl14
      clear hW15 b15 b1415 ho14 hc14 hb14 HY13 HZ13 HB13 hI15 hl14
      obtain ⟨_, p0, p1, p2, p3, p4, p5, pf⟩ := id HY15.out
      obtain ⟨_, q0, q1, q2, q3, q4, q5, qf⟩ := id HZ15.out
      obtain ⟨_, r0, r1, r2, r3, r4, r5, rf⟩ := id x15
      rw [HPb.out] at p0
      rw [HPd.out] at q0
      have hal : Below W15.heap.size W15 (W15.alloc (.cells #[.int .i64 v2] 3)) := bl_alloc (Below.refl _ _) _
      have hnew : IntsAt (W15.alloc (.cells #[.int .i64 v2] 3)) (some ⟨W15.heap.size, 0, none⟩) 1 [v2] := ⟨rfl, .inr ⟨W15.heap.size, 0, rfl, by simp, fun i hi => by
       obtain rfl : i = 0 := by omega
       simp⟩⟩
      have hsm := sameInts_any A14.a (some ⟨W15.heap.size, 0, none⟩) A14.n 1 A14.c 1 [v2] [v2] _ (HI15.out.keep hal) hnew (by have k := H14.out; omega) (by omega)
      have HSm := hidOf hsm
      have HBl := hidOf (bl_trans HB15.out hal)
      clear hsm hnew hal
      go_wp2_with fail
      refine (HSm.out).mono ?_
      rintro e w16 ⟨rfl, hb16⟩
      have hee : eqL [v2] [v2] = true := by simp [eqL]
      rw [hee]
      have HBf := hidOf (bl_trans HBl.out hb16)
      clear hb16
      go_wp2_with fail
      go_ret
      exact ⟨rfl, HBf.out⟩
end Go.Proofs.Ytfgknbflgmblmaa
