/-
  Walk of the law on skipping: what is skipped is lost or passed by, and
-/
import Derived.Test.YtihdglmiecifjaaGreatZRs40
import Derived.Test.YtihdglmiecifjaaGreatZRs41
import Derived.Test.YtihdglmiecifjaaGreatZRs42
namespace Go.Proofs.YtihdglmiecifjaaGreat
open Go.RowKit Go.Maps Pl Il Dr
theorem wrap_id {x : Int} (h0 : -4000000000 ≤ x) (h1 : x ≤ 4000000000) : IntKind.i64.wrap x = x := by rw [IntKind.wrap_i64]; omega
set_option maxRecDepth 100000 in
set_option maxHeartbeats 16000000 in
theorem fnSkip_of (a : Option Addr) (len cap : Nat) (w : World) (hB : len ≤ 1048576 → Bytes w.heap.size w a len cap) (hG : GOk w) :
  Calls Tryz.prog 7 #[.slice a len cap] w fun e w' => e = .returned (.bool true) ∧ Below w.heap.size w w' := by
 have HBy := hidOf hB
 have HG := hidOf hG
 clear hB hG
 go_enter Tryz.func7, Tryz.ntmps7
 go_wp2_with fail
 refine (big_any a len cap _).mono ?_
 rintro e w0 ⟨rfl, hw0⟩
 obtain rfl : w = w0 := hw0.symm
 by_cases hbig : 1048576 < len
 ·have hb' : decide (1048576 < len) = true := by simp [hbig]
  rw [hb']
  go_wp2
  go_ret
  exact ⟨rfl, Below.refl _ _⟩
 have hb' : decide (1048576 < len) = false := by simp [hbig]
 rw [hb']
 have HBs := hidOf (HBy.out (by omega))
 clear hbig hb' HBy
 go_wp2_with fail
 refine (drawSkip_any a len cap _ HBs.out HG.out).mono ?_
 rintro e w1 ⟨M, v, z, num, rfl, hrow, hle, hwf, hz, hnw, hb1⟩
 have HIn1 := hidOf hrow.own.rin
 have HCap := hidOf hrow.cap
 have HLe := hidOf (hle.mono (k' := 1048576) (by omega))
 have HWf := hidOf hwf
 have HZ := hidOf hz
 have HNw := hidOf hnw
 have HG1 := hidOf (HG.out.keep hb1)
 have HB1 := hidOf hb1
 clear hrow hle hwf hz hnw hb1 HBs
 go_upto_region 4 with fail
 obtain ⟨W2, hW2⟩ : ∃ W, w1.alloc (.cells #[.int .i64 v.cp, .int .i64 v.se, .slice M.ia M.i M.ic, .int .i64 v.nx, .slice M.sa M.s M.sc, .slice M.la M.l M.lc, .slice M.ga M.g M.gc, .bool v.cl] 28) = W := ⟨_, rfl⟩
 have x2 : BoxL w1.heap.size (rC M v) W2 := by rw [← hW2]; exact BoxL.new w1 (rC M v) _
 have b2 : Below w1.heap.size w1 W2 := by rw [← hW2]; exact bl_alloc (Below.refl _ _) _
 rw [hW2]
 have HIn2 := hidOf (HIn1.out.keep b2)
 have HB2 := hidOf (bl_trans HB1.out b2)
 have HG2 := hidOf (HG1.out.keep b2)
 generalize w1.heap.size = N at x2 ⊢
 have HX2 := hidOf x2
 have HSi := hidOf (fun (u : World) (hI : RIn u M v) => implSkip_any M v z num u hI HLe.out HCap.out HWf.out HZ.out HNw.out)
 have HSs := hidOf (fun (u : World) (hI : RIn u M v) => specSkip_any M v z num u hI HLe.out HCap.out HWf.out HZ.out HNw.out)
 have HNo := hidOf (fun h : skipC v z num ≠ 0 => skip_no h)
 have HFa := hidOf (fun h : skipC v z num = 0 => skip_facts h)
 generalize skipG v z num = y at HSi HSs HNo HFa
 generalize skipC v z num = cd at HSi HSs HNo HFa
 obtain ⟨p0, p1, p2, p3, p4, p5, p6, p7⟩ := box8 x2
 clear hW2 x2 b2 HIn1 HB1 HG1
 go_wp2_with fail
 refine (HSi.out _ HIn2.out).mono ?_
 rintro e w3 ⟨M3, rfl, ho3, hl3, hb3⟩
 have HX3 := hidOf (HX2.out.keep hb3)
 have HIn3 := hidOf (HIn2.out.keep hb3)
 have HB3 := hidOf (bl_trans HB2.out hb3)
 have HG3 := hidOf (HG2.out.keep hb3)
 have HO3 := hidOf ho3.rin
 have HC3 := hidOf ho3.cap
 have HL3 := hidOf hl3
 clear ho3 hl3 hb3 p0 p1 p2 p3 p4 p5 p6 p7 HX2 HIn2 HB2 HG2
 go_upto_region 5 with fail
 obtain ⟨W4, hW4⟩ : ∃ W, w3.alloc (.cells #[.int .i64 y.cp, .int .i64 y.se, .slice M3.ia M3.i M3.ic, .int .i64 y.nx, .slice M3.sa M3.s M3.sc, .slice M3.la M3.l M3.lc, .slice M3.ga M3.g M3.gc, .bool y.cl] 28) = W := ⟨_, rfl⟩
 have x4 : BoxL w3.heap.size (rC M3 y) W4 := by rw [← hW4]; exact BoxL.new w3 (rC M3 y) _
 have b4 : Below w3.heap.size w3 W4 := by rw [← hW4]; exact bl_alloc (Below.refl _ _) _
 rw [hW4]
 have HX4 := hidOf (HX3.out.keep b4)
 have HIn4 := hidOf (HIn3.out.keep b4)
 have HB4 := hidOf (bl_trans HB3.out b4)
 have HG4 := hidOf (HG3.out.keep b4)
 have HO4 := hidOf (HO3.out.keep b4)
 generalize w3.heap.size = P4 at x4 ⊢
 have HY4 := hidOf x4
 obtain ⟨p0, p1, p2, p3, p4, p5, p6, p7⟩ := box8 HX4.out
 clear hW4 x4 b4 HX3 HIn3 HB3 HG3 HO3
 go_wp2_with fail
 refine (HSs.out _ HIn4.out).mono ?_
 rintro e w5 ⟨M5, rfl, ho5, hl5, hb5⟩
 have HX5 := hidOf (HX4.out.keep hb5)
 have HIn5 := hidOf (HIn4.out.keep hb5)
 have HB5 := hidOf (bl_trans HB4.out hb5)
 have HG5 := hidOf (HG4.out.keep hb5)
 have HO5 := hidOf (HO4.out.keep hb5)
 have HY5 := hidOf (HY4.out.keep hb5)
 have HQ5 := hidOf ho5.rin
 have HL5 := hidOf hl5
 clear ho5 hl5 hb5 p0 p1 p2 p3 p4 p5 p6 p7 HX4 HIn4 HB4 HG4 HO4 HY4
 go_upto_region 6 with fail
 obtain ⟨W6, hW6⟩ : ∃ W, w5.alloc (.cells #[.int .i64 y.cp, .int .i64 y.se, .slice M5.ia M5.i M5.ic, .int .i64 y.nx, .slice M5.sa M5.s M5.sc, .slice M5.la M5.l M5.lc, .slice M5.ga M5.g M5.gc, .bool y.cl] 28) = W := ⟨_, rfl⟩
 have x6 : BoxL w5.heap.size (rC M5 y) W6 := by rw [← hW6]; exact BoxL.new w5 (rC M5 y) _
 have b6 : Below w5.heap.size w5 W6 := by rw [← hW6]; exact bl_alloc (Below.refl _ _) _
 rw [hW6]
 have HX6 := hidOf (HX5.out.keep b6)
 have HIn6 := hidOf (HIn5.out.keep b6)
 have HB6 := hidOf (bl_trans HB5.out b6)
 have HG6 := hidOf (HG5.out.keep b6)
 have HO6 := hidOf (HO5.out.keep b6)
 have HY6 := hidOf (HY5.out.keep b6)
 have HQ6 := hidOf (HQ5.out.keep b6)
 obtain ⟨q0, q1, q2, q3, q4, q5, q6, q7⟩ := box8 HY6.out
 obtain ⟨r0, r1, r2, r3, r4, r5, r6, r7⟩ := box8 x6
 have hcc : (cd != cd) = false := by simp
 clear hW6 x6 b6 HX5 HIn5 HB5 HG5 HO5 HY5 HQ5
 go_wp2_with fail
 refine (ringSame_any M3 M5 y _ HO6.out HQ6.out HL3.out HL5.out).mono ?_
 rintro e w7 ⟨rfl, hb7⟩
 have HX7 := hidOf (HX6.out.keep hb7)
 have HIn7 := hidOf (HIn6.out.keep hb7)
 have HB7 := hidOf (bl_trans HB6.out hb7)
 have HG7 := hidOf (HG6.out.keep hb7)
 have HO7 := hidOf (HO6.out.keep hb7)
 have HY7 := hidOf (HY6.out.keep hb7)
 clear hb7 HX6 HIn6 HB6 HG6 HO6 HY6 HQ6 q0 q1 q2 q3 q4 q5 q6 q7 r0 r1 r2 r3 r4 r5 r6 r7 hcc HSi HSs HL5
 obtain ⟨p0, p1, p2, p3, p4, p5, p6, p7⟩ := box8 HX7.out
 obtain ⟨q0, q1, q2, q3, q4, q5, q6, q7⟩ := box8 HY7.out
 by_cases hcd : cd = 0
 ·subst hcd
  obtain ⟨k, sa, sb, F⟩ := HFa.out rfl
  have HF := hidOf F
  have hsa : (sg M.xs k).s = sa := by
   have h1 := HIn7.out.sv
   have h2 := HIn7.out.sb.len
   have h3 := F.ea
   rw [← h1, sg_svs2 (by have h4 := (at_id2 (sb := v.sb) (id := z) (by have := F.atv; omega)).1; rw [F.atv] at h4; rw [← h1] at h4; simpa [svs] using h4)] at h3
   exact h3
  have hsb : (sg M3.xs k).s = sb := by
   have h1 := HO7.out.sv
   have h3 := F.eb
   rw [← h1, sg_svs2 (by have h4 := (at_id2 (sb := y.sb) (id := z) (by have := F.aty; omega)).1; rw [F.aty] at h4; rw [← h1] at h4; simpa [svs] using h4)] at h3
   exact h3
  have HSa := hidOf hsa
  have HSb := hidOf hsb
  have HLy := hidOf (ok_le F.oky HO7.out)
  have HWy := hidOf (ok_wf F.oky)
  have HAt := hidOf F.atv
  have HAy := hidOf F.aty
  clear F hsa hsb HNo HFa
  go_wp2_with fail
  refine (subOf_any M v z _ HIn7.out (HLe.out.mono (by omega))).mono ?_
  rintro e w8 ⟨⟨hp, _⟩, hb8⟩
  obtain rfl := hp (by have := HAt.out; omega)
  rw [show (atR v.sb z).toNat = k by rw [HAt.out]; rfl, HSa.out]
  have HX8 := hidOf (HX7.out.keep hb8)
  have HB8 := hidOf (bl_trans HB7.out hb8)
  have HG8 := hidOf (HG7.out.keep hb8)
  have HO8 := hidOf (HO7.out.keep hb8)
  have HY8 := hidOf (HY7.out.keep hb8)
  generalize (sg M.xs k).a = fa
  generalize (sg M.xs k).n = fn
  generalize (sg M.xs k).c = fc
  clear hp hb8 p0 p1 p2 p3 p4 p5 p6 p7 q0 q1 q2 q3 q4 q5 q6 q7 HX7 HIn7 HB7 HG7 HO7 HY7
  go_upto_region 11 with fail
  obtain ⟨W9, hW9⟩ : ∃ W, w8.alloc (.cells #[.int .i64 sa.id, .int .i64 sa.st, .int .i64 sa.cu, .int .i64 sa.gt, .int .i64 sa.lo, .int .i64 sa.pa, .slice fa fn fc] 41) = W := ⟨_, rfl⟩
  have x9 : BoxL w8.heap.size [.int .i64 sa.id, .int .i64 sa.st, .int .i64 sa.cu, .int .i64 sa.gt, .int .i64 sa.lo, .int .i64 sa.pa, .slice fa fn fc] W9 := by rw [← hW9]; exact BoxL.new w8 [.int .i64 sa.id, .int .i64 sa.st, .int .i64 sa.cu, .int .i64 sa.gt, .int .i64 sa.lo, .int .i64 sa.pa, .slice fa fn fc] _
  have b9 : Below w8.heap.size w8 W9 := by rw [← hW9]; exact bl_alloc (Below.refl _ _) _
  rw [hW9]
  have HB9 := hidOf (bl_trans HB8.out b9)
  have HG9 := hidOf (HG8.out.keep b9)
  have HO9 := hidOf (HO8.out.keep b9)
  have HY9 := hidOf (HY8.out.keep b9)
  generalize w8.heap.size = P9 at x9 ⊢
  have HA9 := hidOf x9
  obtain ⟨q0, q1, q2, q3, q4, q5, q6, q7⟩ := box8 HY9.out
  clear hW9 x9 b9 HB8 HG8 HO8 HY8 HX8
  go_wp2_with fail
  refine (subOf_any M3 y z _ HO9.out HL3.out).mono ?_
  rintro e w10 ⟨⟨hp, _⟩, hb10⟩
  obtain rfl := hp (by have := HAy.out; omega)
  rw [show (atR y.sb z).toNat = k by rw [HAy.out]; rfl, HSb.out]
  have HB10 := hidOf (bl_trans HB9.out hb10)
  have HG10 := hidOf (HG9.out.keep hb10)
  have HO10 := hidOf (HO9.out.keep hb10)
  have HY10 := hidOf (HY9.out.keep hb10)
  have HA10 := hidOf (HA9.out.keep hb10)
  generalize (sg M3.xs k).a = ga
  generalize (sg M3.xs k).n = gn
  generalize (sg M3.xs k).c = gc
  clear hp hb10 q0 q1 q2 q3 q4 q5 q6 q7 HB9 HG9 HO9 HY9 HA9
  go_upto_region 12 with fail
  obtain ⟨W11, hW11⟩ : ∃ W, w10.alloc (.cells #[.int .i64 sb.id, .int .i64 sb.st, .int .i64 sb.cu, .int .i64 sb.gt, .int .i64 sb.lo, .int .i64 sb.pa, .slice ga gn gc] 41) = W := ⟨_, rfl⟩
  have x11 : BoxL w10.heap.size [.int .i64 sb.id, .int .i64 sb.st, .int .i64 sb.cu, .int .i64 sb.gt, .int .i64 sb.lo, .int .i64 sb.pa, .slice ga gn gc] W11 := by rw [← hW11]; exact BoxL.new w10 [.int .i64 sb.id, .int .i64 sb.st, .int .i64 sb.cu, .int .i64 sb.gt, .int .i64 sb.lo, .int .i64 sb.pa, .slice ga gn gc] _
  have b11 : Below w10.heap.size w10 W11 := by rw [← hW11]; exact bl_alloc (Below.refl _ _) _
  rw [hW11]
  have HB11 := hidOf (bl_trans HB10.out b11)
  have HG11 := hidOf (HG10.out.keep b11)
  have HO11 := hidOf (HO10.out.keep b11)
  have HY11 := hidOf (HY10.out.keep b11)
  have HA11 := hidOf (HA10.out.keep b11)
  generalize w10.heap.size = P11 at x11 ⊢
  have HE11 := hidOf x11
  obtain ⟨q0, q1, q2, q3, q4, q5, q6, q7⟩ := box8 HY11.out
  have HPk := hidOf (implPeek_any M3 y z _ HO11.out (HLy.out.mono (by omega)) HC3.out HWy.out HZ.out HG11.out)
  have HLg := hidOf (fun (u : World) (hI : RIn u M3 y) => implLag_any M3 y z u hI (HLy.out.mono (by omega)) HC3.out HWy.out)
  have F := HF.out
  have ht1 := F.t1
  have ht2 := F.t2
  have hlk := F.lk
  have hlb := F.lb
  generalize recT y z = t at HPk ht1 ht2
  generalize recC y z = rc at HPk
  rw [hlk, hlb] at HLg
  generalize lagM y z = gone at HLg ht2
  obtain ⟨kd, ⟨ma, mb, ms⟩, ix, nn⟩ := t
  simp only at HPk ht1 ht2
  have HT1 := hidOf ht1
  have HT2 := hidOf ht2
  clear hW11 x11 b11 HB10 HG10 HO10 HY10 HA10 F ht1 ht2 hlk hlb
  go_wp2_with fail
  refine (HPk.out).mono ?_
  rintro e w12 ⟨rfl, hb12⟩
  have HB12 := hidOf (bl_trans HB11.out hb12)
  have HO12 := hidOf (HO11.out.keep hb12)
  have HY12 := hidOf (HY11.out.keep hb12)
  have HA12 := hidOf (HA11.out.keep hb12)
  have HE12 := hidOf (HE11.out.keep hb12)
  clear hb12 q0 q1 q2 q3 q4 q5 q6 q7 HB11 HG11 HO11 HY11 HA11 HE11 HPk
  go_upto_region 13 with fail
  obtain ⟨W13, hW13⟩ : ∃ W, w12.alloc (.cells #[.int .i64 kd, .int .i64 ma, .int .i64 mb, .string ms, .int .i64 ix, .int .i64 nn] 53) = W := ⟨_, rfl⟩
  have x13 : BoxL w12.heap.size [.int .i64 kd, .int .i64 ma, .int .i64 mb, .string ms, .int .i64 ix, .int .i64 nn] W13 := by rw [← hW13]; exact BoxL.new w12 [.int .i64 kd, .int .i64 ma, .int .i64 mb, .string ms, .int .i64 ix, .int .i64 nn] _
  have b13 : Below w12.heap.size w12 W13 := by rw [← hW13]; exact bl_alloc (Below.refl _ _) _
  rw [hW13]
  have HB13 := hidOf (bl_trans HB12.out b13)
  have HO13 := hidOf (HO12.out.keep b13)
  have HY13 := hidOf (HY12.out.keep b13)
  have HA13 := hidOf (HA12.out.keep b13)
  have HE13 := hidOf (HE12.out.keep b13)
  generalize w12.heap.size = P13 at x13 ⊢
  have HT13 := hidOf x13
  obtain ⟨q0, q1, q2, q3, q4, q5, q6, q7⟩ := box8 HY13.out
  clear hW13 x13 b13 HB12 HO12 HY12 HA12 HE12
  go_wp2_with fail
  refine (HLg.out _ HO13.out).mono ?_
  rintro e w14 ⟨rfl, hb14⟩
  have HB14 := hidOf (bl_trans HB13.out hb14)
  have HO14 := hidOf (HO13.out.keep hb14)
  have HY14 := hidOf (HY13.out.keep hb14)
  have HA14 := hidOf (HA13.out.keep hb14)
  have HE14 := hidOf (HE13.out.keep hb14)
  obtain ⟨t0, t1, t2, t3, t4, t5⟩ := box6 (HT13.out.keep hb14)
  clear hb14 q0 q1 q2 q3 q4 q5 q6 q7 HB13 HO13 HY13 HA13 HE13 HLg HT13
  go_upto_region 14 with fail
  go_cut [107] from 80 (fun s107 wx => s107 = .bool false ∧ wx = w14)
  case first =>
   by_cases h0 : rc = 0
   ·have e0 : (rc == 0) = true := by simp [h0]
    by_cases h1 : kd = 1
    ·have e1 : (kd == 1) = true := by simp [h1]
     have e2 : (kd == 2) = false := by simp [h1]
     have e3 : ¬ ix < num := by have := HT1.out h1; omega
     clear h0 h1
     go_wp2_with fail
     go_meet
     exact ⟨rfl, rfl⟩
    ·have e1 : (kd == 1) = false := by simp [h1]
     by_cases h2 : kd = 2
     ·have e2 : (kd == 2) = true := by simp [h2]
      have e3 : (nn != gone) = false := by simp [HT2.out h2]
      clear h0 h1 h2
      go_wp2_with fail
      go_meet
      exact ⟨rfl, rfl⟩
     ·have e2 : (kd == 2) = false := by simp [h2]
      clear h0 h1 h2
      go_wp2_with fail
      go_meet
      exact ⟨rfl, rfl⟩
   ·have e0 : (rc == 0) = false := by simp [h0]
    clear h0
    go_wp2_with fail
    go_meet
    exact ⟨rfl, rfl⟩
  case rest =>
   obtain ⟨rfl, hwc⟩ := hcut
   obtain rfl : w14 = wc := hwc.symm
   clear t0 t1 t2 t3 t4 t5 HT1 HT2
   obtain ⟨q0, q1, q2, q3, q4, q5, q6, q7⟩ := box8 HY14.out
   obtain ⟨a0, a1, a2, a3, a4, a5, a6⟩ := box7q HA14.out
   obtain ⟨b0, b1, b2, b3, b4, b5, b6⟩ := box7q HE14.out
   have F := HF.out
   have hna := F.na
   have hnb := F.nb
   have hgt := F.gt
   have hcu := F.cu
   have hlp := F.lp
   have HRk := hidOf (specRingOk_one M3 y _ HO14.out HL3.out)
   rw [F.oky] at HRk
   have g1 : (sb.gt == sa.gt) = true := by simp [hgt]
   have g2 : (sb.cu == num) = true := by simp [hcu]
   have w1' : IntKind.i64.wrap (y.se - num) = y.se - num := wrap_id (by omega) (by omega)
   have w2' : IntKind.i64.wrap (sb.lo + sb.pa) = sb.lo + sb.pa := wrap_id (by omega) (by omega)
   have w3' : IntKind.i64.wrap (sb.lo + sb.pa - sa.lo) = sb.lo + sb.pa - sa.lo := wrap_id (by omega) (by omega)
   have w4' : IntKind.i64.wrap (sb.lo + sb.pa - sa.lo - sa.pa) = sb.lo + sb.pa - sa.lo - sa.pa := wrap_id (by omega) (by omega)
   have w5' : IntKind.i64.wrap (num - sa.cu) = num - sa.cu := wrap_id (by omega) (by omega)
   have g3 : (y.se - num == y.se - num) = true := by simp
   have g4 : (sb.lo + sb.pa - sa.lo - sa.pa == num - sa.cu) = true := by simp [hlp]
   clear F hna hnb hgt hcu hlp HF HSa HSb HAt HAy
   go_wp2_with fail
   refine (HRk.out).mono ?_
   rintro e w15 ⟨rfl, hb15⟩
   have HB15 := hidOf (bl_trans HB14.out hb15)
   clear hb15 HRk q0 q1 q2 q3 q4 q5 q6 q7 a0 a1 a2 a3 a4 a5 a6 b0 b1 b2 b3 b4 b5 b6 g1 g2 g3 g4 w1' w2' w3' w4' w5'
   go_wp2
   go_ret
   exact ⟨rfl, HB15.out⟩
 ·have hy : y = v := HNo.out hcd
  subst hy
  have hcn : (cd != 0) = true := by simp [hcd]
  clear hcd HNo HFa
  go_wp2_with fail
  refine (ringSame_any M3 M y _ HO7.out HIn7.out HL3.out (HLe.out.mono (by omega))).mono ?_
  rintro e w8 ⟨rfl, hb8⟩
  have HB8 := hidOf (bl_trans HB7.out hb8)
  clear hb8 p0 p1 p2 p3 p4 p5 p6 p7 q0 q1 q2 q3 q4 q5 q6 q7
  go_wp2
  go_ret
  exact ⟨rfl, HB8.out⟩
end Go.Proofs.YtihdglmiecifjaaGreat
