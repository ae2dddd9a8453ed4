/-
  Walk of the law on passing on: who was told by a telling of one and wi
-/
import Derived.Test.YtfgknbflgmblmaaZPq15
import Derived.Test.YtfgknbflgmblmaaZPq16
import Derived.Test.YtfgknbflgmblmaaZPq18
namespace Go.Proofs.Ytfgknbflgmblmaa
open Go.RowKit Pl Il Dr
set_option maxRecDepth 100000 in
set_option maxHeartbeats 16000000 in
theorem fnPassOn_of (a : Option Addr) (len cap : Nat) (w : World) (hB : len ≤ 1048576 → Bytes w.heap.size w a len cap) :
  Calls Try.prog 5 #[.slice a len cap] w fun e w' => e = .returned (.bool true) ∧ Below w.heap.size w w' := by
 have HBy := hidOf hB
 clear hB
 go_enter Try.func5, Try.ntmps5
 go_wp2_with fail
 refine (big_any a len cap _).mono ?_
 rintro e w0 ⟨rfl, hw0⟩
 obtain rfl : w = w0 := hw0.symm
 by_cases hbig : 1048576 < len
 ·have hb' : decide (1048576 < len) = true := by simp [hbig]
  rw [hb']
  go_wp2
  go_ret
  exact ⟨rfl, Below.refl _ _⟩
 have hb' : decide (1048576 < len) = false := by simp [hbig]
 rw [hb']
 have HBs := hidOf (HBy.out (by omega))
 clear hbig hb' HBy
 go_wp2_with fail
 refine (drawWithdraw_any a len cap _ HBs.out).mono ?_
 rintro e w1 ⟨A, x, z, rfl, hrow, hle, hz, hb1⟩
 have hsm := lenN_small hrow.own hle
 have HWf := hidOf (lenN_wf hle (by omega))
 have HCp := hidOf hrow.cap
 have HI1 := hidOf hrow.own.nin
 have HB1 := hidOf hb1
 have HZ := hidOf hz
 have HLy0 := hidOf (Nat.le_trans (lenN_withdraw x z (less_len x.ln z)) hle)
 have HLx := hidOf hrow.own.nin.ints.len
 have HGx := hidOf hrow.own.nin.grs.len
 clear hrow hle hb1 HBs hz
 go_upto_region 4 with fail
 obtain ⟨W2, hW2⟩ : ∃ W, w1.alloc (.cells #[.bool x.pm, .slice A.a A.n A.c, .slice A.a' A.n' A.c', .int .i64 x.on, .int .i64 x.sp, .int .i64 x.tk] 27) = W := ⟨_, rfl⟩
 have x2 : NBox w1.heap.size A x W2 := by rw [← hW2]; exact NBox.new w1 A x _
 have b2 : Below w1.heap.size w1 W2 := by rw [← hW2]; exact bl_alloc (Below.refl _ _) _
 rw [hW2]
 have HI2 := hidOf (HI1.out.keep b2)
 have HB2 := hidOf (bl_trans HB1.out b2)
 generalize w1.heap.size = N at x2 ⊢
 have HX2 := hidOf x2
 clear hW2 x2 b2 HI1 HB1
 obtain ⟨y, v, cd, hE⟩ : ∃ (y : Nt) (v cd : Int), withdrawM x z = (y, v, cd) := ⟨_, _, _, rfl⟩
 have HE := hidOf hE
 have hfa := wd_facts hE
 have HNd := hidOf hfa.1
 have HDn := hidOf hfa.2
 have HLy1 := hidOf (show lenN y ≤ 60 by have h1 := HLy0.out; rw [hE] at h1; exact h1)
 clear hE hfa HLy0
 obtain ⟨_, p0, p1, p2, p3, p4, p5, pf⟩ := id HX2.out
 have h1 := implWithdraw_any A x z W2 HI2.out (by omega) (by omega) HWf.out HZ.out
 rw [HE.out] at h1
 simp only at h1
 go_wp2_with fail
 refine h1.mono ?_
 clear h1
 rintro e w4 ⟨A4, rfl, ho4, hc4, hb4⟩
 clear p0 p1 p2 p3 p4 p5 pf
 go_upto_region 5 with fail
 obtain ⟨W5, hW5⟩ : ∃ W, w4.alloc (.cells #[.bool y.pm, .slice A4.a A4.n A4.c, .slice A4.a' A4.n' A4.c', .int .i64 y.on, .int .i64 y.sp, .int .i64 y.tk] 27) = W := ⟨_, rfl⟩
 have x5 : NBox w4.heap.size A4 y W5 := by rw [← hW5]; exact NBox.new w4 A4 y _
 have b5 : Below w4.heap.size w4 W5 := by rw [← hW5]; exact bl_alloc (Below.refl _ _) _
 rw [hW5]
 have b45 := bl_trans hb4 b5
 have HX5 := hidOf (HX2.out.keep b45)
 have HI5 := hidOf (HI2.out.keep b45)
 have HB5 := hidOf (bl_trans HB2.out b45)
 have HJ5 := hidOf (ho4.nin.keep b5)
 have hs4 := lenN_small ho4 HLy1.out
 have HLy := hidOf ho4.nin.ints.len
 have HGy := hidOf ho4.nin.grs.len
 generalize w4.heap.size = P at x5 ⊢
 have HY5 := hidOf x5
 clear hW5 x5 b5 b45 ho4 hc4 hb4 HX2 HI2 HB2
 obtain ⟨_, p0, p1, p2, p3, p4, p5, pf⟩ := id HX5.out
 have h1 := specWithdraw_any A x z W5 HI5.out (by omega) (by omega) HCp.out
 rw [HE.out] at h1
 simp only at h1
 go_wp2_with fail
 refine h1.mono ?_
 clear h1
 rintro e w6 ⟨A6, rfl, ho6, hc6, hb6⟩
 clear p0 p1 p2 p3 p4 p5 pf
 go_upto_region 6 with fail
 obtain ⟨W7, hW7⟩ : ∃ W, w6.alloc (.cells #[.bool y.pm, .slice A6.a A6.n A6.c, .slice A6.a' A6.n' A6.c', .int .i64 y.on, .int .i64 y.sp, .int .i64 y.tk] 27) = W := ⟨_, rfl⟩
 have x7 : NBox w6.heap.size A6 y W7 := by rw [← hW7]; exact NBox.new w6 A6 y _
 have b7 : Below w6.heap.size w6 W7 := by rw [← hW7]; exact bl_alloc (Below.refl _ _) _
 rw [hW7]
 have b67 := bl_trans hb6 b7
 have HX7 := hidOf (HX5.out.keep b67)
 have HI7 := hidOf (HI5.out.keep b67)
 have HB7 := hidOf (bl_trans HB5.out b67)
 have HJ7 := hidOf (HJ5.out.keep b67)
 have HY7 := hidOf (HY5.out.keep b67)
 have HK7 := hidOf (ho6.nin.keep b7)
 have hs6 := lenN_small ho6 HLy1.out
 generalize w6.heap.size = Q at x7 ⊢
 have HV7 := hidOf x7
 clear hW7 x7 b7 b67 ho6 hc6 hb6 HX5 HI5 HB5 HJ5 HY5
 obtain ⟨_, q0, q1, q2, q3, q4, q5, qf⟩ := id HY7.out
 obtain ⟨_, r0, r1, r2, r3, r4, r5, rf⟩ := id HV7.out
 have hcc : (cd != cd) = false := by simp
 have hvv : (v != v) = false := by simp
 go_wp2_with fail
 refine (noteSame_any A4 A6 y _ HJ7.out HK7.out (by omega) (by omega) (by omega)).mono ?_
 rintro e w8 ⟨rfl, hb8⟩
 clear q0 q1 q2 q3 q4 q5 qf r0 r1 r2 r3 r4 r5 rf hcc hvv
 have HX8 := hidOf (HX7.out.keep hb8)
 have HI8 := hidOf (HI7.out.keep hb8)
 have HB8 := hidOf (bl_trans HB7.out hb8)
 have HJ8 := hidOf (HJ7.out.keep hb8)
 have HY8 := hidOf (HY7.out.keep hb8)
 clear hb8 HX7 HI7 HB7 HJ7 HY7 HK7 HV7 hs6
 go_upto_region 8 with fail
 obtain ⟨_, p0, p1, p2, p3, p4, p5, pf⟩ := id HX8.out
 go_wp2_with fail
 refine (grantsOf_any A x _ HI8.out (by omega)).mono ?_
 rintro e w9 ⟨a9, c9, rfl, hG9, hb9⟩
 go_wp2_with fail
 refine (specPlace_any a9 A.n' c9 (whosL x.gs) z _ hG9 (by omega)).mono ?_
 rintro e w10 ⟨rfl, hw10⟩
 obtain rfl : w9 = w10 := hw10.symm
 have HX10 := hidOf (HX8.out.keep hb9)
 have HI10 := hidOf (HI8.out.keep hb9)
 have HB10 := hidOf (bl_trans HB8.out hb9)
 have HJ10 := hidOf (HJ8.out.keep hb9)
 have HY10 := hidOf (HY8.out.keep hb9)
 clear hG9 hb9 hw10 p0 p1 p2 p3 p4 p5 pf HX8 HI8 HB8 HJ8 HY8
 by_cases hcd : cd = 0
 rotate_left
 ·have hyx : y = x := HNd.out hcd
  subst hyx
  have c1 : (cd != 0) = true := by simpa using hcd
  have c2 : (cd == 0) = false := by simpa using hcd
  clear hcd
  go_upto_region 10 with fail
  obtain ⟨_, p0, p1, p2, p3, p4, p5, pf⟩ := id HX10.out
  obtain ⟨_, q0, q1, q2, q3, q4, q5, qf⟩ := id HY10.out
  go_wp2_with fail
  refine (noteSame_any A4 A y _ HJ10.out HI10.out (by omega) (by omega) (by omega)).mono ?_
  rintro e w11 ⟨rfl, hb11⟩
  have HF := hidOf (bl_trans HB10.out hb11)
  clear hb11 p0 p1 p2 p3 p4 p5 pf q0 q1 q2 q3 q4 q5 qf
  go_wp2_with fail
  go_ret
  exact ⟨rfl, HF.out⟩
 subst hcd
 obtain ⟨q, hq⟩ : ∃ q, hasL (whosL x.gs) z = q := ⟨_, rfl⟩
 have HQ := hidOf hq
 clear hq
 cases q
 ·have hp : decide (placeL (whosL x.gs) z < 0) = true := by
   rw [decide_eq_true_eq]
   exact place_neg.2 HQ.out
  go_wp2_with fail
  go_ret
  exact ⟨rfl, HB10.out⟩
 ·obtain ⟨hnd, hwd⟩ := HDn.out rfl HQ.out
  have HWd := hidOf hwd
  obtain ⟨k, hk, hpk⟩ := place_bound HQ.out
  have hkg : k < x.gs.length := by rw [← whos_len]; exact hk
  have hgg := gg_who hnd hkg hpk
  rw [hpk]
  have hp : decide ((k : Int) < 0) = false := by simp
  obtain ⟨_, hr | ⟨gb, go, e1, hgb, hgc⟩⟩ := HI10.out.grs
  ·exfalso
   have h1 := HGx.out
   omega
  have hc2 := (hgc k (by have h1 := HGx.out; omega)).2
  rw [hgg] at hc2
  simp only at hc2
  obtain ⟨_, p0, p1, p2, p3, p4, p5, pf⟩ := id HX10.out
  obtain ⟨_, q0, q1, q2, q3, q4, q5, qf⟩ := id HY10.out
  have HE1 := hidOf e1
  have hki : (0 : Int) ≤ (k : Int) ∧ (k : Int) < (A.n' : Int) := by have h1 := HGx.out; omega
  obtain ⟨one, hone⟩ : ∃ b, oneOf x.gs z = b := ⟨_, rfl⟩
  rw [hone] at hc2 HWd
  have HOne := hidOf (show one = one from rfl)
  clear HOne
  clear hnd hwd hk hkg hpk hgg hgb hgc hone HDn HNd e1
  cases one
  ·have HOne := hidOf (rfl : false = false)
   rw [HE1.out] at p2
   go_upto_region 12 with fail
   clear hc2 hp hki
   obtain ⟨hv, hpm, hln⟩ := HWd.out.all rfl
   rw [hpm] at q0
   have HPl := hidOf hln
   have hvv : (v == -1) = true := by simp [hv]
   have hpp : (x.pm == x.pm) = true := by simp
   clear hv hpm hln
   go_wp2_with fail
   refine (sameInts_any A4.a A.a A4.n A.n A4.c A.c y.ln x.ln _ HJ10.out.ints HI10.out.ints (by omega) (by omega)).mono ?_
   rintro e w11 ⟨rfl, hb11⟩
   have hee : eqL y.ln x.ln = true := by rw [HPl.out]; simp [eqL]
   rw [hee]
   have HF := hidOf (bl_trans HB10.out hb11)
   clear hb11 p0 p1 p2 p3 p4 p5 pf q0 q1 q2 q3 q4 q5 qf hee
   go_wp2_with fail
   go_ret
   exact ⟨rfl, HF.out⟩
  ·have HOne := hidOf (rfl : true = true)
   rw [HE1.out] at p2
   go_upto_region 13 with fail
   clear hc2 hp hki p2
   have p2 := HX10.out.c2
   by_cases hl0 : A.n = 0
   ·have e4 : decide ((0 : Int) < (A.n : Int)) = false := by simp [hl0]
    have e5 : decide (0 < A.n) = false := by simp [hl0]
    obtain ⟨hv, hpm, hgl⟩ := HWd.out.none rfl (by have h1 := HLx.out; omega)
    rw [hpm] at q0
    have hvv : (v == -1) = true := by simp [hv]
    have k2 : IntKind.i64.wrap ((A.n' : Int) - 1) = (A.n' : Int) - 1 := by rw [IntKind.wrap_i64]; omega
    have k3 : ((A4.n' : Int) == (A.n' : Int) - 1) = true := by have h1 := HGy.out; have h2 := HGx.out; simp; omega
    clear hv hpm hgl hl0
    go_wp2_with fail
    go_ret
    exact ⟨rfl, HB10.out⟩
   have e4 : (0 : Int) < (A.n : Int) := by omega
   go_upto_region 14 with fail
   clear e4
   obtain ⟨hv, hll, hgl⟩ := HWd.out.first rfl (by have h1 := HLx.out; omega)
   obtain ⟨_, hr | ⟨lb, lo, e3, hlb, hlc⟩⟩ := HI10.out.ints
   ·exfalso
    omega
   have hl0 := hlc 0 (by omega)
   have HV := hidOf hv
   generalize x.ln.getD 0 0 = z0 at hl0 hv HV
   rw [e3] at p1
   rw [Nat.add_zero] at hl0
   have hvv : (v == z0) = true := by simp [hv]
   have k1 : ((A4.n' : Int) == (A.n' : Int)) = true := by have h1 := HGy.out; have h2 := HGx.out; simp; omega
   have k2 : IntKind.i64.wrap ((A.n : Int) - 1) = (A.n : Int) - 1 := by rw [IntKind.wrap_i64]; omega
   have k3 : ((A4.n : Int) == (A.n : Int) - 1) = true := by have h1 := HLy.out; have h2 := HLx.out; simp; omega
   clear hv hll hgl hlc e3 hlb HV
   go_wp2_with fail
   go_ret
   exact ⟨rfl, HB10.out⟩
end Go.Proofs.Ytfgknbflgmblmaa
