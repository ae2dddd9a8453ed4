/-
  Walk of the law on sending: a right open ring takes every right messag
-/
import Derived.Test.YtihdglmiecifjaaGreatZRn39
import Derived.Test.YtihdglmiecifjaaGreatZRn40
namespace Go.Proofs.YtihdglmiecifjaaGreat
open Go.RowKit Go.Maps Pl Il Dr
structure NbF (v y : Rv) (t : List Int) (cd : Int) (m : Tm) : Prop where
  done : okR restR v = true → v.cl = false → okB m.1 m.2.1 m.2.2 = true → v.se < 1000000000 → cd = 0 ∧ y.se = v.se + 1 ∧ okR restR y = true ∧
    (∀ id, id ∈ y.ln → 0 ≤ atR y.sb id ∧ (atR y.sb id).toNat < y.sb.length ∧ (y.sb.getD (atR y.sb id).toNat Sb0).cu = y.se ∧ pasR (y.sb.getD (atR y.sb id).toNat Sb0).fl m = false) ∧
    (∀ id, id ∈ t → id ∈ v.ln ∧ 0 ≤ atR y.sb id ∧ (atR y.sb id).toNat < y.sb.length ∧ pasR (y.sb.getD (atR y.sb id).toNat Sb0).fl m = true)
  not : ¬ (okR restR v = true ∧ v.cl = false ∧ okB m.1 m.2.1 m.2.2 = true ∧ v.se < 1000000000) → ¬ cd = 0 ∧ y = v
theorem nb_of (v : Rv) (m : Tm) : NbF v (snR v m) (snT v m) (snC v m) m := by
  refine ⟨fun h1 h2 h3 h4 => ?_, fun h => ?_⟩
  · have hr : snR v m = trimR (sndV v m) := by unfold snR; rw [if_pos h1, if_neg (by rw [h2]; simp), if_pos h3, if_neg (by omega)]
    have ht : snT v m = sndT v.sb m v.ln := by unfold snT; rw [if_pos h1, if_neg (by rw [h2]; simp), if_pos h3, if_neg (by omega)]
    have hc : snC v m = 0 := by unfold snC; rw [if_pos h1, if_neg (by rw [h2]; simp), if_pos h3, if_neg (by omega)]
    have ho := ok_snd h1 m
    rw [hr] at ho ⊢
    rw [ht]
    exact ⟨hc, by rw [trim_se2]; rfl, ho, fun id hid => nb_line h1 hid, fun id hid => nb_told h1 hid⟩
  · unfold snR snC
    by_cases h1 : okR restR v = true
    · rw [if_pos h1, if_pos h1]
      by_cases h2 : v.cl = true
      · rw [if_pos h2, if_pos h2]; exact ⟨by omega, rfl⟩
      · rw [if_neg h2, if_neg h2]
        by_cases h3 : okB m.1 m.2.1 m.2.2 = true
        · rw [if_pos h3, if_pos h3]
          by_cases h4 : v.se = 1000000000
          · rw [if_pos h4, if_pos h4]; exact ⟨by omega, rfl⟩
          · exfalso
            have h' := h1
            rw [okR_iff] at h'
            have := h'.1.se.2
            exact h ⟨h1, by simpa using h2, h3, by omega⟩
        · rw [if_neg h3, if_neg h3]; exact ⟨by omega, rfl⟩
    · rw [if_neg h1, if_neg h1]; exact ⟨by omega, rfl⟩
set_option maxRecDepth 100000 in
set_option maxHeartbeats 16000000 in
theorem fnNever_of (a : Option Addr) (len cap : Nat) (w : World) (hB : len ≤ 1048576 → Bytes w.heap.size w a len cap) (hG : GOk w) :
  Calls Tryz.prog 3 #[.slice a len cap] w fun e w' => e = .returned (.bool true) ∧ Below w.heap.size w w' := by
 have HBy := hidOf hB
 have HG := hidOf hG
 clear hB hG
 go_enter Tryz.func3, Tryz.ntmps3
 go_wp2_with fail
 refine (big_any a len cap _).mono ?_
 rintro e w0 ⟨rfl, hw0⟩
 obtain rfl : w = w0 := hw0.symm
 by_cases hbig : 1048576 < len
 ·have hb' : decide (1048576 < len) = true := by simp [hbig]
  rw [hb']
  go_wp2
  go_ret
  exact ⟨rfl, Below.refl _ _⟩
 have hb' : decide (1048576 < len) = false := by simp [hbig]
 rw [hb']
 have HBs := hidOf (HBy.out (by omega))
 clear hbig hb' HBy
 go_wp2_with fail
 refine (drawSend_any a len cap _ HBs.out HG.out).mono ?_
 rintro e w1 ⟨M, v, k, n, s, rfl, hrow, hle, hwf, hsz, hb1⟩
 have hs := (show s.size ≤ maxLen by simp only [maxLen]; omega)
 have HIn1 := hidOf hrow.own.rin
 have HCap := hidOf hrow.cap
 have HLe := hidOf (hle.mono (k' := 1048576) (by omega))
 have HWf := hidOf hwf
 have HS := hidOf hs
 have HG1 := hidOf (HG.out.keep hb1)
 have HB1 := hidOf hb1
 clear hrow hle hwf hsz hs hb1 HBs
 go_upto_region 4 with fail
 obtain ⟨W2, hW2⟩ : ∃ W, w1.alloc (.cells #[.int .i64 v.cp, .int .i64 v.se, .slice M.ia M.i M.ic, .int .i64 v.nx, .slice M.sa M.s M.sc, .slice M.la M.l M.lc, .slice M.ga M.g M.gc, .bool v.cl] 28) = W := ⟨_, rfl⟩
 have x2 : BoxL w1.heap.size (rC M v) W2 := by rw [← hW2]; exact BoxL.new w1 (rC M v) _
 have b2 : Below w1.heap.size w1 W2 := by rw [← hW2]; exact bl_alloc (Below.refl _ _) _
 rw [hW2]
 obtain ⟨W3, hW3⟩ : ∃ W, W2.alloc (.cells #[.int .i64 k, .int .i64 n, .string s] 30) = W := ⟨_, rfl⟩
 have x3 : BoxL W2.heap.size [.int .i64 k, .int .i64 n, .string s] W3 := by rw [← hW3]; exact BoxL.new W2 [.int .i64 k, .int .i64 n, .string s] _
 have b3 : Below W2.heap.size W2 W3 := by rw [← hW3]; exact bl_alloc (Below.refl _ _) _
 rw [hW3]
 have b23 := bl_trans b2 b3
 have HIn3 := hidOf (HIn1.out.keep b23)
 have HB3 := hidOf (bl_trans HB1.out b23)
 have HG3 := hidOf (HG1.out.keep b23)
 have x2' := x2.keep b3
 have hz2 : W2.heap.size = w1.heap.size + 1 := by rw [← hW2]; simp
 rw [hz2] at x3
 generalize hN : w1.heap.size = N at x2' x3 ⊢
 generalize hP : N + 1 = P at x3 ⊢
 have HX3 := hidOf x2'
 have HM3 := hidOf x3
 have HIm := hidOf (fun (u : World) (hI : RIn u M v) (hg : GOk u) => implSend_any M v (k, n, s) u hI HLe.out HCap.out HWf.out HS.out hg)
 have HSp := hidOf (fun (u : World) (hI : RIn u M v) (hg : GOk u) => specSend_any M v (k, n, s) u hI HLe.out HCap.out HWf.out HS.out hg)
 have HNb := hidOf (nb_of v (k, n, s))
 generalize snR v (k, n, s) = y at HIm HSp HNb
 generalize snT v (k, n, s) = t at HIm HSp HNb
 generalize snC v (k, n, s) = cd at HIm HSp HNb
 simp only at HIm HSp
 obtain ⟨p0, p1, p2, p3, p4, p5, p6, p7⟩ := box8 x2'
 have m0 := x3.cs 0 (by simp)
 have m1 := x3.cs 1 (by simp)
 have m2 := x3.cs 2 (by simp)
 simp only [List.getElem_cons_succ, List.getElem_cons_zero] at m0 m1 m2
 clear hW2 hW3 x2 x2' x3 b2 b3 b23 HIn1 HB1 HG1 hz2 hN hP
 go_wp2_with fail
 refine (HIm.out _ HIn3.out HG3.out).mono ?_
 rintro e w4 ⟨M4, a4, n4, c4, rfl, ho4, hl4, ht4, hn4, _, hb4⟩
 have HX4 := hidOf (HX3.out.keep hb4)
 have HM4 := hidOf (HM3.out.keep hb4)
 have HIn4 := hidOf (HIn3.out.keep hb4)
 have HG4 := hidOf (HG3.out.keep hb4)
 have HB4 := hidOf (bl_trans HB3.out hb4)
 have HO4 := hidOf ho4.rin
 have HC4 := hidOf ho4.cap
 have HL4 := hidOf hl4
 have HT4 := hidOf ht4.ints
 have HN4 := hidOf hn4
 clear ho4 hl4 ht4 hn4 hb4 p0 p1 p2 p3 p4 p5 p6 p7 m0 m1 m2 HX3 HM3 HIn3 HG3 HB3
 go_upto_region 5 with fail
 obtain ⟨W5, hW5⟩ : ∃ W, w4.alloc (.cells #[.int .i64 y.cp, .int .i64 y.se, .slice M4.ia M4.i M4.ic, .int .i64 y.nx, .slice M4.sa M4.s M4.sc, .slice M4.la M4.l M4.lc, .slice M4.ga M4.g M4.gc, .bool y.cl] 28) = W := ⟨_, rfl⟩
 have x5 : BoxL w4.heap.size (rC M4 y) W5 := by rw [← hW5]; exact BoxL.new w4 (rC M4 y) _
 have b5 : Below w4.heap.size w4 W5 := by rw [← hW5]; exact bl_alloc (Below.refl _ _) _
 rw [hW5]
 have HX5 := hidOf (HX4.out.keep b5)
 have HM5 := hidOf (HM4.out.keep b5)
 have HIn5 := hidOf (HIn4.out.keep b5)
 have HG5 := hidOf (HG4.out.keep b5)
 have HB5 := hidOf (bl_trans HB4.out b5)
 have HO5 := hidOf (HO4.out.keep b5)
 have HT5 := hidOf (HT4.out.keep b5)
 generalize w4.heap.size = NX at x5 ⊢
 have HY5 := hidOf x5
 obtain ⟨p0, p1, p2, p3, p4, p5, p6, p7⟩ := box8 HX5.out
 have m0 := HM5.out.cs 0 (by simp)
 have m1 := HM5.out.cs 1 (by simp)
 have m2 := HM5.out.cs 2 (by simp)
 simp only [List.getElem_cons_succ, List.getElem_cons_zero] at m0 m1 m2
 clear hW5 x5 b5 HX4 HM4 HIn4 HG4 HB4 HO4 HT4
 go_wp2_with fail
 refine (HSp.out _ HIn5.out HG5.out).mono ?_
 rintro e w6 ⟨M6, a6, n6, c6, rfl, ho6, hl6, ht6, hn6, _, hb6⟩
 have HX6 := hidOf (HX5.out.keep hb6)
 have HM6 := hidOf (HM5.out.keep hb6)
 have HIn6 := hidOf (HIn5.out.keep hb6)
 have HG6 := hidOf (HG5.out.keep hb6)
 have HB6 := hidOf (bl_trans HB5.out hb6)
 have HO6 := hidOf (HO5.out.keep hb6)
 have HY6 := hidOf (HY5.out.keep hb6)
 have HT6 := hidOf (HT5.out.keep hb6)
 have HQ6 := hidOf ho6.rin
 have HL6 := hidOf hl6
 have HU6 := hidOf ht6.ints
 have HN6 := hidOf hn6
 clear ho6 hl6 ht6 hn6 hb6 p0 p1 p2 p3 p4 p5 p6 p7 m0 m1 m2 HX5 HM5 HIn5 HG5 HB5 HO5 HY5 HT5 HIm HSp
 go_upto_region 6 with fail
 obtain ⟨W7, hW7⟩ : ∃ W, w6.alloc (.cells #[.int .i64 y.cp, .int .i64 y.se, .slice M6.ia M6.i M6.ic, .int .i64 y.nx, .slice M6.sa M6.s M6.sc, .slice M6.la M6.l M6.lc, .slice M6.ga M6.g M6.gc, .bool y.cl] 28) = W := ⟨_, rfl⟩
 have x7 : BoxL w6.heap.size (rC M6 y) W7 := by rw [← hW7]; exact BoxL.new w6 (rC M6 y) _
 have b7 : Below w6.heap.size w6 W7 := by rw [← hW7]; exact bl_alloc (Below.refl _ _) _
 rw [hW7]
 have HX7 := hidOf (HX6.out.keep b7)
 have HM7 := hidOf (HM6.out.keep b7)
 have HIn7 := hidOf (HIn6.out.keep b7)
 have HG7 := hidOf (HG6.out.keep b7)
 have HB7 := hidOf (bl_trans HB6.out b7)
 have HO7 := hidOf (HO6.out.keep b7)
 have HY7 := hidOf (HY6.out.keep b7)
 have HQ7 := hidOf (HQ6.out.keep b7)
 have HT7 := hidOf (HT6.out.keep b7)
 have HU7 := hidOf (HU6.out.keep b7)
 generalize w6.heap.size = NW at x7 ⊢
 obtain ⟨q0, q1, q2, q3, q4, q5, q6, q7⟩ := box8 HY7.out
 obtain ⟨r0, r1, r2, r3, r4, r5, r6, r7⟩ := box8 x7
 have hcc : (cd != cd) = false := by simp
 clear hW7 x7 b7 HX6 HM6 HIn6 HG6 HB6 HO6 HY6 HQ6 HT6 HU6
 go_wp2_with fail
 refine (ringSame_any M4 M6 y _ HO7.out HQ7.out HL4.out HL6.out).mono ?_
 rintro e w8 ⟨rfl, hb8⟩
 have HX8 := hidOf (HX7.out.keep hb8)
 have HM8 := hidOf (HM7.out.keep hb8)
 have HIn8 := hidOf (HIn7.out.keep hb8)
 have HG8 := hidOf (HG7.out.keep hb8)
 have HB8 := hidOf (bl_trans HB7.out hb8)
 have HO8 := hidOf (HO7.out.keep hb8)
 have HY8 := hidOf (HY7.out.keep hb8)
 have HT8 := hidOf (HT7.out.keep hb8)
 have HU8 := hidOf (HU7.out.keep hb8)
 clear hb8 q0 q1 q2 q3 q4 q5 q6 q7 r0 r1 r2 r3 r4 r5 r6 r7 HX7 HM7 HIn7 HG7 HB7 HO7 HY7 HQ7 HT7 HU7
 go_wp2_with fail
 refine (sameInts_any a4 a6 n4 n6 c4 c6 t t _ HT8.out HU8.out HN4.out HN6.out).mono ?_
 rintro e w9 ⟨rfl, hb9⟩
 have HX9 := hidOf (HX8.out.keep hb9)
 have HM9 := hidOf (HM8.out.keep hb9)
 have HIn9 := hidOf (HIn8.out.keep hb9)
 have HG9 := hidOf (HG8.out.keep hb9)
 have HB9 := hidOf (bl_trans HB8.out hb9)
 have HO9 := hidOf (HO8.out.keep hb9)
 have HY9 := hidOf (HY8.out.keep hb9)
 have HT9 := hidOf (HT8.out.keep hb9)
 have hee : eqL t t = true := by simp [eqL]
 rw [hee]
 clear hb9 hee hcc HX8 HM8 HIn8 HG8 HB8 HO8 HY8 HT8 HU8
 go_upto_region 8 with fail
 by_cases hmain : okR restR v = true ∧ v.cl = false ∧ okB k n s = true ∧ v.se < 1000000000
 rotate_left
 ·obtain ⟨hc, hy⟩ := HNb.out.not hmain
  subst hy
  have HC := hidOf hc
  have HMn := hidOf hmain
  clear hc hmain HNb
  obtain ⟨p0, p1, p2, p3, p4, p5, p6, p7⟩ := box8 HX9.out
  go_wp2_with fail
  refine (specRingOk_any M y _ HIn9.out (HLe.out.mono (by omega)) HCap.out HWf.out).mono ?_
  rintro e w10 ⟨rfl, hb10⟩
  have HX10 := hidOf (HX9.out.keep hb10)
  have HM10 := hidOf (HM9.out.keep hb10)
  have HIn10 := hidOf (HIn9.out.keep hb10)
  have HG10 := hidOf (HG9.out.keep hb10)
  have HB10 := hidOf (bl_trans HB9.out hb10)
  have HO10 := hidOf (HO9.out.keep hb10)
  have HY10 := hidOf (HY9.out.keep hb10)
  clear hb10 p0 p1 p2 p3 p4 p5 p6 p7 HX9 HM9 HIn9 HG9 HB9 HO9 HY9
  obtain ⟨o1, ho1⟩ : ∃ o, okR restR y = o := ⟨_, rfl⟩
  have HO1 := hidOf ho1
  rw [ho1]
  clear ho1
  cases o1
  ·obtain ⟨p0, p1, p2, p3, p4, p5, p6, p7⟩ := box8 HX10.out
   have hc1 : (cd != 0) = true := by simpa using HC.out
   go_upto_region 9 with fail
   clear p0 p1 p2 p3 p4 p5 p6 p7
   obtain ⟨p0, p1, p2, p3, p4, p5, p6, p7⟩ := box8 HX10.out
   obtain ⟨q0, q1, q2, q3, q4, q5, q6, q7⟩ := box8 HY10.out
   go_wp2_with fail
   refine (ringSame_any M4 M y _ HO10.out HIn10.out HL4.out (HLe.out.mono (by omega))).mono ?_
   rintro e w20 ⟨rfl, hb20⟩
   go_wp2
   go_ret
   exact ⟨rfl, bl_trans HB10.out hb20⟩
  ·obtain ⟨p0, p1, p2, p3, p4, p5, p6, p7⟩ := box8 HX10.out
   have m0 := HM10.out.cs 0 (by simp)
   have m1 := HM10.out.cs 1 (by simp)
   have m2 := HM10.out.cs 2 (by simp)
   simp only [List.getElem_cons_succ, List.getElem_cons_zero] at m0 m1 m2
   obtain ⟨o2, ho2⟩ : ∃ o, y.cl = o := ⟨_, rfl⟩
   have HO2 := hidOf ho2
   cases o2
   ·rw [ho2] at p7
    clear ho2
    go_wp2_with fail
    refine (specMsgOk_any k n s _ HS.out).mono ?_
    rintro e w11 ⟨rfl, hb11⟩
    have HX11 := hidOf (HX10.out.keep hb11)
    have HM11 := hidOf (HM10.out.keep hb11)
    have HIn11 := hidOf (HIn10.out.keep hb11)
    have HG11 := hidOf (HG10.out.keep hb11)
    have HB11 := hidOf (bl_trans HB10.out hb11)
    have HO11 := hidOf (HO10.out.keep hb11)
    have HY11 := hidOf (HY10.out.keep hb11)
    clear hb11 p0 p1 p2 p3 p4 p5 p6 p7 m0 m1 m2 HX10 HM10 HIn10 HG10 HB10 HO10 HY10
    obtain ⟨o3, ho3⟩ : ∃ o, okB k n s = o := ⟨_, rfl⟩
    have HO3 := hidOf ho3
    rw [ho3]
    clear ho3
    cases o3
    ·obtain ⟨p0, p1, p2, p3, p4, p5, p6, p7⟩ := box8 HX11.out
     have hc1 : (cd != 0) = true := by simpa using HC.out
     go_upto_region 9 with fail
     clear p0 p1 p2 p3 p4 p5 p6 p7
     obtain ⟨p0, p1, p2, p3, p4, p5, p6, p7⟩ := box8 HX11.out
     obtain ⟨q0, q1, q2, q3, q4, q5, q6, q7⟩ := box8 HY11.out
     go_wp2_with fail
     refine (ringSame_any M4 M y _ HO11.out HIn11.out HL4.out (HLe.out.mono (by omega))).mono ?_
     rintro e w20 ⟨rfl, hb20⟩
     go_wp2
     go_ret
     exact ⟨rfl, bl_trans HB11.out hb20⟩
    ·obtain ⟨p0, p1, p2, p3, p4, p5, p6, p7⟩ := box8 HX11.out
     have hge : 1000000000 ≤ y.se := by
      rcases Int.lt_or_le y.se 1000000000 with k | k
      ·exact absurd ⟨HO1.out, HO2.out, HO3.out, k⟩ HMn.out
      ·exact k
     have hge2 : decide (1000000000 ≤ y.se) = true := by simpa using hge
     clear hge
     have hc1 : (cd != 0) = true := by simpa using HC.out
     go_upto_region 9 with fail
     clear p0 p1 p2 p3 p4 p5 p6 p7
     obtain ⟨p0, p1, p2, p3, p4, p5, p6, p7⟩ := box8 HX11.out
     obtain ⟨q0, q1, q2, q3, q4, q5, q6, q7⟩ := box8 HY11.out
     go_wp2_with fail
     refine (ringSame_any M4 M y _ HO11.out HIn11.out HL4.out (HLe.out.mono (by omega))).mono ?_
     rintro e w20 ⟨rfl, hb20⟩
     go_wp2
     go_ret
     exact ⟨rfl, bl_trans HB11.out hb20⟩
   ·rw [ho2] at p7
    clear ho2
    have hc1 : (cd != 0) = true := by simpa using HC.out
    go_upto_region 9 with fail
    clear p0 p1 p2 p3 p4 p5 p6 p7
    obtain ⟨p0, p1, p2, p3, p4, p5, p6, p7⟩ := box8 HX10.out
    obtain ⟨q0, q1, q2, q3, q4, q5, q6, q7⟩ := box8 HY10.out
    go_wp2_with fail
    refine (ringSame_any M4 M y _ HO10.out HIn10.out HL4.out (HLe.out.mono (by omega))).mono ?_
    rintro e w20 ⟨rfl, hb20⟩
    go_wp2
    go_ret
    exact ⟨rfl, bl_trans HB10.out hb20⟩
 obtain ⟨hm1, hm2, hm3, hm4⟩ := hmain
 obtain ⟨hc0, hse, hok, hln, htd⟩ := HNb.out.done hm1 hm2 hm3 hm4
 subst hc0
 have HSe := hidOf hse
 have HWr := hidOf (show IntKind.i64.wrap (v.se + 1) = v.se + 1 by have h1 := (ok_head hm1).2.1; rw [IntKind.wrap_i64]; omega)
 have HLl := hidOf (show M.l ≤ 2097152 from by have h := HLe.out.l; omega)
 have HOk := hidOf hok
 have HLn := hidOf hln
 have HTd := hidOf htd
 have H1 := hidOf hm1
 have H2 := hidOf hm2
 have H3 := hidOf hm3
 have H4 := hidOf (show decide (1000000000 ≤ v.se) = false by simpa using hm4)
 clear hm1 hm2 hm3 hm4 hse hok hln htd HNb
 obtain ⟨p0, p1, p2, p3, p4, p5, p6, p7⟩ := box8 HX9.out
 go_wp2_with fail
 refine (specRingOk_any M v _ HIn9.out (HLe.out.mono (by omega)) HCap.out HWf.out).mono ?_
 rintro e w10 ⟨rfl, hb10⟩
 rw [H1.out]
 have HX10 := hidOf (HX9.out.keep hb10)
 have HM10 := hidOf (HM9.out.keep hb10)
 have HIn10 := hidOf (HIn9.out.keep hb10)
 have HG10 := hidOf (HG9.out.keep hb10)
 have HB10 := hidOf (bl_trans HB9.out hb10)
 have HO10 := hidOf (HO9.out.keep hb10)
 have HY10 := hidOf (HY9.out.keep hb10)
 have HT10 := hidOf (HT9.out.keep hb10)
 clear hb10 p0 p1 p2 p3 p4 p5 p6 p7 HX9 HM9 HIn9 HG9 HB9 HO9 HY9 HT9
 obtain ⟨p0, p1, p2, p3, p4, p5, p6, p7⟩ := box8 HX10.out
 have m0 := HM10.out.cs 0 (by simp)
 have m1 := HM10.out.cs 1 (by simp)
 have m2 := HM10.out.cs 2 (by simp)
 simp only [List.getElem_cons_succ, List.getElem_cons_zero] at m0 m1 m2
 rw [H2.out] at p7
 go_wp2_with fail
 refine (specMsgOk_any k n s _ HS.out).mono ?_
 rintro e w11 ⟨rfl, hb11⟩
 rw [H3.out]
 have HX11 := hidOf (HX10.out.keep hb11)
 have HM11 := hidOf (HM10.out.keep hb11)
 have HIn11 := hidOf (HIn10.out.keep hb11)
 have HG11 := hidOf (HG10.out.keep hb11)
 have HB11 := hidOf (bl_trans HB10.out hb11)
 have HO11 := hidOf (HO10.out.keep hb11)
 have HY11 := hidOf (HY10.out.keep hb11)
 have HT11 := hidOf (HT10.out.keep hb11)
 clear hb11 p0 p1 p2 p3 p4 p5 p6 p7 m0 m1 m2 HX10 HM10 HIn10 HG10 HB10 HO10 HY10 HT10
 obtain ⟨p0, p1, p2, p3, p4, p5, p6, p7⟩ := box8 HX11.out
 have hge2 := H4.out
 go_upto_region 10 with fail
 clear hge2 p0 p1 p2 p3 p4 p5 p6 p7
 obtain ⟨p0, p1, p2, p3, p4, p5, p6, p7⟩ := box8 HX11.out
 have m0 := HM11.out.cs 0 (by simp)
 have m1 := HM11.out.cs 1 (by simp)
 have m2 := HM11.out.cs 2 (by simp)
 simp only [List.getElem_cons_succ, List.getElem_cons_zero] at m0 m1 m2
 obtain ⟨q0, q1, q2, q3, q4, q5, q6, q7⟩ := box8 HY11.out
 go_wp2_with fail
 go_loopw [11] (fun i wr => ∃ j : Nat, j ≤ M4.l ∧ i = .int .i64 (j : Int) ∧ Below w11.heap.size w11 wr) (fun i _ => M4.l - (intOf i).toNat)
 case atStart => exact ⟨0, Nat.zero_le _, rfl, Below.refl _ _⟩
 rename_i wr
 obtain ⟨j, hj, rfl, hB⟩ := hrel
 clear p0 p1 p2 p3 p4 p5 p6 p7 m0 m1 m2 q0 q1 q2 q3 q4 q5 q6 q7
 have HX12 := hidOf (HX11.out.keep hB)
 have HM12 := hidOf (HM11.out.keep hB)
 have HIn12 := hidOf (HIn11.out.keep hB)
 have HG12 := hidOf (HG11.out.keep hB)
 have HB12 := hidOf (bl_trans HB11.out hB)
 have HO12 := hidOf (HO11.out.keep hB)
 have HY12 := hidOf (HY11.out.keep hB)
 have HT12 := hidOf (HT11.out.keep hB)
 have HBk := hidOf hB
 clear hB
 obtain ⟨p0, p1, p2, p3, p4, p5, p6, p7⟩ := box8 HX12.out
 have m0 := HM12.out.cs 0 (by simp)
 have m1 := HM12.out.cs 1 (by simp)
 have m2 := HM12.out.cs 2 (by simp)
 simp only [List.getElem_cons_succ, List.getElem_cons_zero] at m0 m1 m2
 obtain ⟨q0, q1, q2, q3, q4, q5, q6, q7⟩ := box8 HY12.out
 by_cases hlt : j < M4.l
 rotate_left
 ·obtain rfl : j = M4.l := by omega
  go_upto_region 16 with fail
  clear hlt hj p0 p1 p2 p3 p4 p5 p6 p7 m0 m1 m2 q0 q1 q2 q3 q4 q5 q6 q7
  go_wp2_with fail
  go_loopw [14] (fun i wq => ∃ j : Nat, j ≤ n4 ∧ i = .int .i64 (j : Int) ∧ Below wr.heap.size wr wq) (fun i _ => n4 - (intOf i).toNat)
  case atStart => exact ⟨0, Nat.zero_le _, rfl, Below.refl _ _⟩
  clear HBk HLn
  rename World => wq
  obtain ⟨j, hj, rfl, hB⟩ := hrel
  have HX20 := hidOf (HX12.out.keep hB)
  have HM20 := hidOf (HM12.out.keep hB)
  have HIn20 := hidOf (HIn12.out.keep hB)
  have HG20 := hidOf (HG12.out.keep hB)
  have HB20 := hidOf (bl_trans HB12.out hB)
  have HO20 := hidOf (HO12.out.keep hB)
  have HY20 := hidOf (HY12.out.keep hB)
  have HT20 := hidOf (HT12.out.keep hB)
  have HBk := hidOf hB
  clear hB
  obtain ⟨p0, p1, p2, p3, p4, p5, p6, p7⟩ := box8 HX20.out
  have m0 := HM20.out.cs 0 (by simp)
  have m1 := HM20.out.cs 1 (by simp)
  have m2 := HM20.out.cs 2 (by simp)
  simp only [List.getElem_cons_succ, List.getElem_cons_zero] at m0 m1 m2
  obtain ⟨q0, q1, q2, q3, q4, q5, q6, q7⟩ := box8 HY20.out
  by_cases hlt : j < n4
  rotate_left
  ·obtain rfl : j = n4 := by omega
   go_upto_region 22 with fail
   obtain ⟨p0, p1, p2, p3, p4, p5, p6, p7⟩ := box8 HX20.out
   obtain ⟨q0, q1, q2, q3, q4, q5, q6, q7⟩ := box8 HY20.out
   have hwr : IntKind.i64.wrap (v.se + 1) = v.se + 1 := HWr.out
   have hse : (y.se == v.se + 1) = true := by simp [HSe.out]
   go_wp2_with fail
   refine (implRingOk_any M4 y _ HO20.out ((ok_le HOk.out HO20.out).mono (by omega)) HC4.out (ok_wf HOk.out)).mono ?_
   rintro e w30 ⟨rfl, hb30⟩
   rw [HOk.out]
   go_wp2_with fail
   go_ret
   exact ⟨rfl, bl_trans HB20.out hb30⟩
  ·obtain ⟨hlen, hr | ⟨b, off, rfl, hb, hcell⟩⟩ := HT20.out
   ·exfalso
    omega
   ·have hc := hcell j hlt
    obtain ⟨z, hz⟩ : ∃ z, t.getD j 0 = z := ⟨_, rfl⟩
    rw [hz] at hc
    have hmem : z ∈ t := by
     rw [← hz, List.getD, List.getElem?_eq_getElem (by omega), Option.getD_some]
     exact List.getElem_mem _
    have hL := HTd.out z hmem
    have HHas := hidOf (show hasL v.ln z = true by simpa [hasL] using hL.1)
    have HAt := hidOf hL.2.1
    have HL := hidOf hL.2
    clear hL hmem hz hcell hb hlen
    go_upto_region 19 with fail
    go_cut [15, 16] from 109 to 142 (fun s0 s1 wx => ∃ (Q : Nat), s0 = .pointer (some ⟨Q, 0, none⟩) ∧ s1 = .bool true ∧ BoxL Q [.int .i64 (sg M4.xs (atR y.sb z).toNat).s.id, .int .i64 (sg M4.xs (atR y.sb z).toNat).s.st, .int .i64 (sg M4.xs (atR y.sb z).toNat).s.cu, .int .i64 (sg M4.xs (atR y.sb z).toNat).s.gt, .int .i64 (sg M4.xs (atR y.sb z).toNat).s.lo, .int .i64 (sg M4.xs (atR y.sb z).toNat).s.pa, .slice (sg M4.xs (atR y.sb z).toNat).a (sg M4.xs (atR y.sb z).toNat).n (sg M4.xs (atR y.sb z).toNat).c] wx ∧ wx.cell? ⟨b, off + j, none⟩ = some (.int .i64 z) ∧ Below wq.heap.size wq wx)
    case first =>
     have hB2 : Below wq.heap.size wq wq.drew := (Below.refl _ _).drew
     refine wp_region_noPanic ?_
     refine wp_region_held_drew (S := fun u => u.cell? ⟨NX, 0, none⟩ = some (.int .i64 y.cp) ∧ u.cell? ⟨NX, 1, none⟩ = some (.int .i64 y.se) ∧ u.cell? ⟨NX, 2, none⟩ = some (.slice M4.ia M4.i M4.ic) ∧ u.cell? ⟨NX, 3, none⟩ = some (.int .i64 y.nx) ∧ u.cell? ⟨NX, 4, none⟩ = some (.slice M4.sa M4.s M4.sc) ∧ u.cell? ⟨NX, 5, none⟩ = some (.slice M4.la M4.l M4.lc) ∧ u.cell? ⟨NX, 6, none⟩ = some (.slice M4.ga M4.g M4.gc) ∧ u.cell? ⟨NX, 7, none⟩ = some (.bool y.cl) ∧ u.cell? ⟨b, off + j, none⟩ = some (.int .i64 z) ∧ Below wq.heap.size wq u) (by kernel_rfl) ⟨cellQ q0 (hB2), cellQ q1 (hB2), cellQ q2 (hB2), cellQ q3 (hB2), cellQ q4 (hB2), cellQ q5 (hB2), cellQ q6 (hB2), cellQ q7 (hB2), cellQ hc (hB2), hB2⟩ (fun hHeld => ?_)
     refine tK 0 ?_ rfl (by kernel_rfl) (by rfl) ?_ (by assumption) (fun _ _ _ h => h) ?_
     case refine_2 => (intro w hSw; (try dsimp only at hSw); go_simp; try with_reducible rfl)
     simp only [Act.put, List.getElem_toArray, List.getElem_cons_zero, List.setIfInBounds_toArray, List.set_cons_zero, List.set_cons_succ]
     refine tR 1 ?_
     refine tR 2 ?_
     refine tR 3 ?_
     refine tR 4 ?_
     refine wpAnyH_ready (rs := [5, 9]) (by kernel_rfl) (by simp) ?_
     refine AllReadyH.cons rfl (fun K hK => ?_) (AllReadyH.cons rfl (fun K hK => ?_) AllReadyH.nil)
     ·go_simp
      have hB3 := hHeld.2.2.2.2.2.2.2.2.2
      have hC := subOf_any M4 y z _ (HO20.out.keep hB3) HL4.out
      refine hC.mono ?_
      clear hC
      rintro e w13 ⟨hP, hb13⟩
      rw [hP.1 HAt.out]
      clear hP
      go_wp2_with fail
      have hB4 := bl_trans hB3 hb13
      refine hK.out _ _ ⟨cellQ q0 (hB4), cellQ q1 (hB4), cellQ q2 (hB4), cellQ q3 (hB4), cellQ q4 (hB4), cellQ q5 (hB4), cellQ q6 (hB4), cellQ q7 (hB4), cellQ hc (hB4), hB4⟩ (fun hHeld => ?_)
      clear hK K
      refine tR 6 ?_
      refine tR 7 ?_
      refine tR 8 ?_
      refine tW 9 (fun K hK => ?_)
      go_simp
      have hB5 := bl_alloc hB4 (.cells #[.int .i64 0, .int .i64 0, .int .i64 0, .int .i64 0, .int .i64 0, .int .i64 0, .slice none 0 0] 41)
      refine hK.out _ _ ⟨cellQ q0 (hB5), cellQ q1 (hB5), cellQ q2 (hB5), cellQ q3 (hB5), cellQ q4 (hB5), cellQ q5 (hB5), cellQ q6 (hB5), cellQ q7 (hB5), cellQ hc (hB5), hB5⟩ (fun hHeld => ?_)
      clear hK K
      refine tW 10 (fun K hK => ?_)
      go_simp
      have hB6 := bl_alloc hB4 (.cells #[.int .i64 (sg M4.xs (atR y.sb z).toNat).s.id, .int .i64 (sg M4.xs (atR y.sb z).toNat).s.st, .int .i64 (sg M4.xs (atR y.sb z).toNat).s.cu, .int .i64 (sg M4.xs (atR y.sb z).toNat).s.gt, .int .i64 (sg M4.xs (atR y.sb z).toNat).s.lo, .int .i64 (sg M4.xs (atR y.sb z).toNat).s.pa, .slice (sg M4.xs (atR y.sb z).toNat).a (sg M4.xs (atR y.sb z).toNat).n (sg M4.xs (atR y.sb z).toNat).c] 41)
      refine hK.out _ _ ⟨cellQ q0 (hB6), cellQ q1 (hB6), cellQ q2 (hB6), cellQ q3 (hB6), cellQ q4 (hB6), cellQ q5 (hB6), cellQ q6 (hB6), cellQ q7 (hB6), cellQ hc (hB6), hB6⟩ (fun hHeld => ?_)
      clear hK K
      refine tR 11 ?_
      refine wpAnyH_done (by kernel_rfl) ?_ _
      refine NoPanic.normal ?_
      go_wp2_with fail
      go_meet
      exact ⟨_, rfl, rfl, BoxL.new w13 _ _, cellQ hc hB6, hB6⟩
     ·go_simp
      have hB0 := bl_alloc hB2 (.cells #[.int .i64 0, .int .i64 0, .int .i64 0, .int .i64 0, .int .i64 0, .int .i64 0, .slice none 0 0] 41)
      have Z0 := BoxL.new wq.drew zS 41
      refine hK.out _ _ ⟨cellQ q0 (hB0), cellQ q1 (hB0), cellQ q2 (hB0), cellQ q3 (hB0), cellQ q4 (hB0), cellQ q5 (hB0), cellQ q6 (hB0), cellQ q7 (hB0), cellQ hc (hB0), hB0⟩ (fun hHeld => ?_)
      clear hK K
      refine tW 5 (fun K hK => ?_)
      go_simp
      have hB3 := hHeld.2.2.2.2.2.2.2.2.2
      have hC := subOf_any M4 y z _ (HO20.out.keep hB3) HL4.out
      refine hC.mono ?_
      clear hC
      rintro e w13 ⟨hP, hb13⟩
      rw [hP.1 HAt.out]
      clear hP
      go_wp2_with fail
      have Z1 : BoxL wq.heap.size zS w13 := by
       have h := Z0.keep hb13
       rw [show wq.drew.heap.size = wq.heap.size by simp] at h
       exact h
      have hB4 := bl_trans hB3 hb13
      refine hK.out _ _ ⟨cellQ q0 (hB4), cellQ q1 (hB4), cellQ q2 (hB4), cellQ q3 (hB4), cellQ q4 (hB4), cellQ q5 (hB4), cellQ q6 (hB4), cellQ q7 (hB4), cellQ hc (hB4), hB4⟩ (fun hHeld => ?_)
      clear hK K
      refine tR 6 ?_
      refine tR 7 ?_
      refine tR 8 ?_
      obtain ⟨k0, k1, k2, k3, k4, k5, k6⟩ := box7q Z1
      have kf := Z1.fr
      refine tW 10 (fun K hK => ?_)
      go_simp
      have hB6 : Below wq.heap.size wq (setL w13 wq.heap.size 0 [.int .i64 (sg M4.xs (atR y.sb z).toNat).s.id, .int .i64 (sg M4.xs (atR y.sb z).toNat).s.st, .int .i64 (sg M4.xs (atR y.sb z).toNat).s.cu, .int .i64 (sg M4.xs (atR y.sb z).toNat).s.gt, .int .i64 (sg M4.xs (atR y.sb z).toNat).s.lo, .int .i64 (sg M4.xs (atR y.sb z).toNat).s.pa, .slice (sg M4.xs (atR y.sb z).toNat).a (sg M4.xs (atR y.sb z).toNat).n (sg M4.xs (atR y.sb z).toNat).c]) := setL_below (Nat.le_of_eq (by simp)) hB4
      refine hK.out _ _ (by exact ⟨cellQ q0 (hB6), cellQ q1 (hB6), cellQ q2 (hB6), cellQ q3 (hB6), cellQ q4 (hB6), cellQ q5 (hB6), cellQ q6 (hB6), cellQ q7 (hB6), cellQ hc (hB6), hB6⟩) (fun hHeld => ?_)
      clear hK K
      refine tR 11 ?_
      refine wpAnyH_done (by kernel_rfl) ?_ _
      refine NoPanic.normal ?_
      go_wp2_with fail
      go_meet
      exact ⟨_, rfl, rfl, Z1.setAll (us := [.int .i64 (sg M4.xs (atR y.sb z).toNat).s.id, .int .i64 (sg M4.xs (atR y.sb z).toNat).s.st, .int .i64 (sg M4.xs (atR y.sb z).toNat).s.cu, .int .i64 (sg M4.xs (atR y.sb z).toNat).s.gt, .int .i64 (sg M4.xs (atR y.sb z).toNat).s.lo, .int .i64 (sg M4.xs (atR y.sb z).toNat).s.pa, .slice (sg M4.xs (atR y.sb z).toNat).a (sg M4.xs (atR y.sb z).toNat).n (sg M4.xs (atR y.sb z).toNat).c]) rfl, cellQ hc hB6, hB6⟩
    case rest =>
     rename World => wx
     obtain ⟨Q, rfl, rfl, hX, hc2, hBx⟩ := hcut
     clear p0 p1 p2 p3 p4 p5 p6 p7 m0 m1 m2 q0 q1 q2 q3 q4 q5 q6 q7 hc
     have hc := hc2
     clear hc2
     have HX21 := hidOf (HX20.out.keep hBx)
     have HM21 := hidOf (HM20.out.keep hBx)
     have HIn21 := hidOf (HIn20.out.keep hBx)
     have HG21 := hidOf (HG20.out.keep hBx)
     have HB21 := hidOf (bl_trans HB20.out hBx)
     have HO21 := hidOf (HO20.out.keep hBx)
     have HY21 := hidOf (HY20.out.keep hBx)
     have HBx := hidOf hBx
     clear hBx
     have hKl : (atR y.sb z).toNat < M4.xs.length := by
      have h1 := HO21.out.sv
      have h2 := HL.out.2.1
      have h3 : y.sb.length = M4.xs.length := by rw [← h1]; simp [svs]
      omega
     have hsv0 : ∀ K, K < M4.xs.length → y.sb.getD K Sb0 = (sg M4.xs K).s := fun K hK => by rw [← HO21.out.sv]; exact sg_svs2 hK
     have hsv := hsv0 _ hKl
     have hfl := HO21.out.sb.fil (sg M4.xs (atR y.sb z).toNat) (sg_mem hKl)
     have hfn := HL4.out.f (sg M4.xs (atR y.sb z).toNat) (sg_mem hKl)
     have hof := (ok_rd HOk.out HL.out.2.1).fl
     have hps := HL.out.2.2
     rw [hsv] at hof hps
     generalize (sg M4.xs (atR y.sb z).toNat).s = sa at hX hfl hof hps 
     generalize (sg M4.xs (atR y.sb z).toNat).a = fa at hX hfl
     generalize (sg M4.xs (atR y.sb z).toNat).n = fn at hX hfl hfn
     generalize (sg M4.xs (atR y.sb z).toNat).c = fc at hX
     have HF := hidOf hfl
     have HPm := hidOf (show passM sa.fl k n s = true by rw [passM_eq hof H3.out]; exact hps)
     obtain ⟨k0, k1, k2, k3, k4, k5, k6⟩ := box7q hX
     clear hX hfl hof hps hsv hsv0 hKl
     obtain ⟨p0, p1, p2, p3, p4, p5, p6, p7⟩ := box8 HX21.out
     have m0 := HM21.out.cs 0 (by simp)
     have m1 := HM21.out.cs 1 (by simp)
     have m2 := HM21.out.cs 2 (by simp)
     simp only [List.getElem_cons_succ, List.getElem_cons_zero] at m0 m1 m2
     go_upto_region 20 with fail
     have hB2 : Below wx.heap.size wx wx.drew := (Below.refl _ _).drew
     refine wp_region_noPanic ?_
     refine wp_region_held_drew (S := fun u => u.cell? ⟨Q, 6, none⟩ = some (.slice fa fn fc) ∧ u.cell? ⟨P, 0, none⟩ = some (.int .i64 k) ∧ u.cell? ⟨P, 1, none⟩ = some (.int .i64 n) ∧ u.cell? ⟨P, 2, none⟩ = some (.string s) ∧ u.cell? ⟨N, 5, none⟩ = some (.slice M.la M.l M.lc) ∧ u.cell? ⟨b, off + j, none⟩ = some (.int .i64 z) ∧ Below wx.heap.size wx u) (by kernel_rfl) ⟨cellQ k6 (hB2), cellQ m0 (hB2), cellQ m1 (hB2), cellQ m2 (hB2), cellQ p5 (hB2), cellQ hc (hB2), hB2⟩ (fun hHeld => ?_)
     refine tK 0 ?_ rfl (by kernel_rfl) (by rfl) ?_ (by assumption) (fun _ _ _ h => h) ?_
     case refine_2 => (intro w hSw; (try dsimp only at hSw); go_simp; try with_reducible rfl)
     simp only [Act.put, List.getElem_toArray, List.getElem_cons_zero, List.setIfInBounds_toArray, List.set_cons_zero, List.set_cons_succ]
     refine tR 1 ?_
     refine tR 2 ?_
     refine tR 3 ?_
     refine tR 4 ?_
     refine tR 5 ?_
     refine tW 6 (fun K hK => ?_)
     go_simp
     have hB3 := hHeld.2.2.2.2.2.2
     refine (specPasses_any fa fn fc sa.fl k n s _ (HF.out.keep hB3) (by omega) HS.out).mono ?_
     rintro e w14 ⟨rfl, hb14⟩
     rw [HPm.out]
     go_wp2_with fail
     have hB4 := bl_trans hB3 hb14
     refine hK.out _ _ ⟨cellQ k6 (hB4), cellQ m0 (hB4), cellQ m1 (hB4), cellQ m2 (hB4), cellQ p5 (hB4), cellQ hc (hB4), hB4⟩ (fun hHeld => ?_)
     clear hK K
     refine tR 7 ?_
     refine tR 8 ?_
     refine tR 9 ?_
     refine tR 10 ?_
     refine tR 11 ?_
     refine tR 12 ?_
     refine tR 13 ?_
     refine tR 14 ?_
     refine tR 15 ?_
     refine tW 16 (fun K hK => ?_)
     go_simp
     refine (within_any M.la M.l M.lc v.ln z _ (HIn21.out.keep hB4).ln HLl.out).mono ?_
     rintro e w15 ⟨rfl, hw15⟩
     obtain rfl : w14 = w15 := hw15.symm
     rw [HHas.out]
     go_wp2_with fail
     refine hK.out _ _ ⟨cellQ k6 (hB4), cellQ m0 (hB4), cellQ m1 (hB4), cellQ m2 (hB4), cellQ p5 (hB4), cellQ hc (hB4), hB4⟩ (fun hHeld => ?_)
     clear hK K
     refine tR 17 ?_
     refine tR 18 ?_
     refine wpAnyH_done (by kernel_rfl) ?_ _
     refine NoPanic.normal ?_
     have hn4 := HN4.out
     go_wp2_with fail
     go_roundw
     case rel => exact ⟨j + 1, hlt, by go_num, bl_trans HBk.out (bl_trans HBx.out hB4)⟩
     case measure => simp [intOf]; omega
 ·obtain ⟨hlen, hr | ⟨b, off, hla, hb, hcell⟩⟩ := HO12.out.ln
  ·exfalso
   omega
  ·have hc := hcell j hlt
   rw [hla] at q5
   have HLa := hidOf hla
   obtain ⟨z, hz⟩ : ∃ z, y.ln.getD j 0 = z := ⟨_, rfl⟩
   rw [hz] at hc
   have hmem : z ∈ y.ln := by
    rw [← hz, List.getD, List.getElem?_eq_getElem (by omega), Option.getD_some]
    exact List.getElem_mem _
   have hL := HLn.out z hmem
   have HAt := hidOf hL.1
   have HL := hidOf hL
   clear hL hmem hz hcell hla hb hlen
   go_upto_region 13 with fail
   go_cut [12, 13] from 77 to 108 (fun s0 s1 wx => ∃ (Q : Nat), s0 = .pointer (some ⟨Q, 0, none⟩) ∧ s1 = .bool true ∧ BoxL Q [.int .i64 (sg M4.xs (atR y.sb z).toNat).s.id, .int .i64 (sg M4.xs (atR y.sb z).toNat).s.st, .int .i64 (sg M4.xs (atR y.sb z).toNat).s.cu, .int .i64 (sg M4.xs (atR y.sb z).toNat).s.gt, .int .i64 (sg M4.xs (atR y.sb z).toNat).s.lo, .int .i64 (sg M4.xs (atR y.sb z).toNat).s.pa, .slice (sg M4.xs (atR y.sb z).toNat).a (sg M4.xs (atR y.sb z).toNat).n (sg M4.xs (atR y.sb z).toNat).c] wx ∧ Below wr.heap.size wr wx)
   case first =>
    have hB2 : Below wr.heap.size wr wr.drew := (Below.refl _ _).drew
    refine wp_region_noPanic ?_
    refine wp_region_held_drew (S := fun u => u.cell? ⟨NX, 0, none⟩ = some (.int .i64 y.cp) ∧ u.cell? ⟨NX, 1, none⟩ = some (.int .i64 y.se) ∧ u.cell? ⟨NX, 2, none⟩ = some (.slice M4.ia M4.i M4.ic) ∧ u.cell? ⟨NX, 3, none⟩ = some (.int .i64 y.nx) ∧ u.cell? ⟨NX, 4, none⟩ = some (.slice M4.sa M4.s M4.sc) ∧ u.cell? ⟨NX, 5, none⟩ = some (.slice (some ⟨b, off, none⟩) M4.l M4.lc) ∧ u.cell? ⟨NX, 6, none⟩ = some (.slice M4.ga M4.g M4.gc) ∧ u.cell? ⟨NX, 7, none⟩ = some (.bool y.cl) ∧ u.cell? ⟨b, off + j, none⟩ = some (.int .i64 z) ∧ Below wr.heap.size wr u) (by kernel_rfl) ⟨cellQ q0 (hB2), cellQ q1 (hB2), cellQ q2 (hB2), cellQ q3 (hB2), cellQ q4 (hB2), cellQ q5 (hB2), cellQ q6 (hB2), cellQ q7 (hB2), cellQ hc (hB2), hB2⟩ (fun hHeld => ?_)
    refine tK 0 ?_ rfl (by kernel_rfl) (by rfl) ?_ (by assumption) (fun _ _ _ h => h) ?_
    case refine_2 => (intro w hSw; (try dsimp only at hSw); go_simp; try with_reducible rfl)
    simp only [Act.put, List.getElem_toArray, List.getElem_cons_zero, List.setIfInBounds_toArray, List.set_cons_zero, List.set_cons_succ]
    refine tR 1 ?_
    refine tR 2 ?_
    refine tR 3 ?_
    refine tR 4 ?_
    refine tR 5 ?_
    refine wpAnyH_ready (rs := [6, 10]) (by kernel_rfl) (by simp) ?_
    refine AllReadyH.cons rfl (fun K hK => ?_) (AllReadyH.cons rfl (fun K hK => ?_) AllReadyH.nil)
    ·go_simp
     have hB3 := hHeld.2.2.2.2.2.2.2.2.2
     have hC := subOf_any M4 y z _ (HO12.out.keep hB3) HL4.out
     rw [HLa.out] at hC
     refine hC.mono ?_
     clear hC
     rintro e w13 ⟨hP, hb13⟩
     rw [hP.1 HAt.out]
     clear hP
     go_wp2_with fail
     have hB4 := bl_trans hB3 hb13
     refine hK.out _ _ ⟨cellQ q0 (hB4), cellQ q1 (hB4), cellQ q2 (hB4), cellQ q3 (hB4), cellQ q4 (hB4), cellQ q5 (hB4), cellQ q6 (hB4), cellQ q7 (hB4), cellQ hc (hB4), hB4⟩ (fun hHeld => ?_)
     clear hK K
     refine tR 7 ?_
     refine tR 8 ?_
     refine tR 9 ?_
     refine tW 10 (fun K hK => ?_)
     go_simp
     have hB5 := bl_alloc hB4 (.cells #[.int .i64 0, .int .i64 0, .int .i64 0, .int .i64 0, .int .i64 0, .int .i64 0, .slice none 0 0] 41)
     refine hK.out _ _ ⟨cellQ q0 (hB5), cellQ q1 (hB5), cellQ q2 (hB5), cellQ q3 (hB5), cellQ q4 (hB5), cellQ q5 (hB5), cellQ q6 (hB5), cellQ q7 (hB5), cellQ hc (hB5), hB5⟩ (fun hHeld => ?_)
     clear hK K
     refine tW 11 (fun K hK => ?_)
     go_simp
     have hB6 := bl_alloc hB4 (.cells #[.int .i64 (sg M4.xs (atR y.sb z).toNat).s.id, .int .i64 (sg M4.xs (atR y.sb z).toNat).s.st, .int .i64 (sg M4.xs (atR y.sb z).toNat).s.cu, .int .i64 (sg M4.xs (atR y.sb z).toNat).s.gt, .int .i64 (sg M4.xs (atR y.sb z).toNat).s.lo, .int .i64 (sg M4.xs (atR y.sb z).toNat).s.pa, .slice (sg M4.xs (atR y.sb z).toNat).a (sg M4.xs (atR y.sb z).toNat).n (sg M4.xs (atR y.sb z).toNat).c] 41)
     refine hK.out _ _ ⟨cellQ q0 (hB6), cellQ q1 (hB6), cellQ q2 (hB6), cellQ q3 (hB6), cellQ q4 (hB6), cellQ q5 (hB6), cellQ q6 (hB6), cellQ q7 (hB6), cellQ hc (hB6), hB6⟩ (fun hHeld => ?_)
     clear hK K
     refine tR 12 ?_
     refine wpAnyH_done (by kernel_rfl) ?_ _
     refine NoPanic.normal ?_
     go_wp2_with fail
     go_meet
     exact ⟨_, rfl, rfl, BoxL.new w13 _ _, hB6⟩
    ·go_simp
     have hB0 := bl_alloc hB2 (.cells #[.int .i64 0, .int .i64 0, .int .i64 0, .int .i64 0, .int .i64 0, .int .i64 0, .slice none 0 0] 41)
     have Z0 := BoxL.new wr.drew zS 41
     refine hK.out _ _ ⟨cellQ q0 (hB0), cellQ q1 (hB0), cellQ q2 (hB0), cellQ q3 (hB0), cellQ q4 (hB0), cellQ q5 (hB0), cellQ q6 (hB0), cellQ q7 (hB0), cellQ hc (hB0), hB0⟩ (fun hHeld => ?_)
     clear hK K
     refine tW 6 (fun K hK => ?_)
     go_simp
     have hB3 := hHeld.2.2.2.2.2.2.2.2.2
     have hC := subOf_any M4 y z _ (HO12.out.keep hB3) HL4.out
     rw [HLa.out] at hC
     refine hC.mono ?_
     clear hC
     rintro e w13 ⟨hP, hb13⟩
     rw [hP.1 HAt.out]
     clear hP
     go_wp2_with fail
     have Z1 : BoxL wr.heap.size zS w13 := by
      have h := Z0.keep hb13
      rw [show wr.drew.heap.size = wr.heap.size by simp] at h
      exact h
     have hB4 := bl_trans hB3 hb13
     refine hK.out _ _ ⟨cellQ q0 (hB4), cellQ q1 (hB4), cellQ q2 (hB4), cellQ q3 (hB4), cellQ q4 (hB4), cellQ q5 (hB4), cellQ q6 (hB4), cellQ q7 (hB4), cellQ hc (hB4), hB4⟩ (fun hHeld => ?_)
     clear hK K
     refine tR 7 ?_
     refine tR 8 ?_
     refine tR 9 ?_
     obtain ⟨k0, k1, k2, k3, k4, k5, k6⟩ := box7q Z1
     have kf := Z1.fr
     refine tW 11 (fun K hK => ?_)
     go_simp
     have hB6 : Below wr.heap.size wr (setL w13 wr.heap.size 0 [.int .i64 (sg M4.xs (atR y.sb z).toNat).s.id, .int .i64 (sg M4.xs (atR y.sb z).toNat).s.st, .int .i64 (sg M4.xs (atR y.sb z).toNat).s.cu, .int .i64 (sg M4.xs (atR y.sb z).toNat).s.gt, .int .i64 (sg M4.xs (atR y.sb z).toNat).s.lo, .int .i64 (sg M4.xs (atR y.sb z).toNat).s.pa, .slice (sg M4.xs (atR y.sb z).toNat).a (sg M4.xs (atR y.sb z).toNat).n (sg M4.xs (atR y.sb z).toNat).c]) := setL_below (Nat.le_of_eq (by simp)) hB4
     refine hK.out _ _ (by exact ⟨cellQ q0 (hB6), cellQ q1 (hB6), cellQ q2 (hB6), cellQ q3 (hB6), cellQ q4 (hB6), cellQ q5 (hB6), cellQ q6 (hB6), cellQ q7 (hB6), cellQ hc (hB6), hB6⟩) (fun hHeld => ?_)
     clear hK K
     refine tR 12 ?_
     refine wpAnyH_done (by kernel_rfl) ?_ _
     refine NoPanic.normal ?_
     go_wp2_with fail
     go_meet
     exact ⟨_, rfl, rfl, Z1.setAll (us := [.int .i64 (sg M4.xs (atR y.sb z).toNat).s.id, .int .i64 (sg M4.xs (atR y.sb z).toNat).s.st, .int .i64 (sg M4.xs (atR y.sb z).toNat).s.cu, .int .i64 (sg M4.xs (atR y.sb z).toNat).s.gt, .int .i64 (sg M4.xs (atR y.sb z).toNat).s.lo, .int .i64 (sg M4.xs (atR y.sb z).toNat).s.pa, .slice (sg M4.xs (atR y.sb z).toNat).a (sg M4.xs (atR y.sb z).toNat).n (sg M4.xs (atR y.sb z).toNat).c]) rfl, hB6⟩
   case rest =>
    obtain ⟨Q, rfl, rfl, hX, hBx⟩ := hcut
    clear p0 p1 p2 p3 p4 p5 p6 p7 m0 m1 m2 q0 q1 q2 q3 q4 q5 q6 q7 hc
    have HX13 := hidOf (HX12.out.keep hBx)
    have HM13 := hidOf (HM12.out.keep hBx)
    have HIn13 := hidOf (HIn12.out.keep hBx)
    have HG13 := hidOf (HG12.out.keep hBx)
    have HB13 := hidOf (bl_trans HB12.out hBx)
    have HO13 := hidOf (HO12.out.keep hBx)
    have HY13 := hidOf (HY12.out.keep hBx)
    have HT13 := hidOf (HT12.out.keep hBx)
    have HBx := hidOf hBx
    clear hBx
    have hKl : (atR y.sb z).toNat < M4.xs.length := by
     have h1 := HO13.out.sv
     have h2 := HL.out.2.1
     have h3 : y.sb.length = M4.xs.length := by rw [← h1]; simp [svs]
     omega
    have hsv0 : ∀ K, K < M4.xs.length → y.sb.getD K Sb0 = (sg M4.xs K).s := fun K hK => by rw [← HO13.out.sv]; exact sg_svs2 hK
    have hsv := hsv0 _ hKl
    have hfl := HO13.out.sb.fil (sg M4.xs (atR y.sb z).toNat) (sg_mem hKl)
    have hfn := HL4.out.f (sg M4.xs (atR y.sb z).toNat) (sg_mem hKl)
    have hof := (ok_rd HOk.out HL.out.2.1).fl
    have hps := HL.out.2.2.2
    have hcu := HL.out.2.2.1
    rw [hsv] at hcu
    rw [hsv] at hof hps
    generalize (sg M4.xs (atR y.sb z).toNat).s = sa at hX hfl hof hps hcu
    generalize (sg M4.xs (atR y.sb z).toNat).a = fa at hX hfl
    generalize (sg M4.xs (atR y.sb z).toNat).n = fn at hX hfl hfn
    generalize (sg M4.xs (atR y.sb z).toNat).c = fc at hX
    have HF := hidOf hfl
    have HPm := hidOf (show passM sa.fl k n s = false by rw [passM_eq hof H3.out]; exact hps)
    obtain ⟨k0, k1, k2, k3, k4, k5, k6⟩ := box7q hX
    clear hX hfl hof hps hsv hsv0 hKl
    obtain ⟨p0, p1, p2, p3, p4, p5, p6, p7⟩ := box8 HX13.out
    have m0 := HM13.out.cs 0 (by simp)
    have m1 := HM13.out.cs 1 (by simp)
    have m2 := HM13.out.cs 2 (by simp)
    simp only [List.getElem_cons_succ, List.getElem_cons_zero] at m0 m1 m2
    obtain ⟨q0, q1, q2, q3, q4, q5, q6, q7⟩ := box8 HY13.out
    have hne : (sa.cu != y.se) = false := by simp [hcu]
    clear hcu
    go_wp2_with fail
    refine (specPasses_any fa fn fc sa.fl k n s _ HF.out (by omega) HS.out).mono ?_
    rintro e w14 ⟨rfl, hb14⟩
    rw [HPm.out]
    have hn4 := HL4.out.l
    go_wp2_with fail
    go_roundw
    case rel => exact ⟨j + 1, hlt, by go_num, bl_trans HBk.out (bl_trans HBx.out hb14)⟩
    case measure => simp [intOf]; omega
end Go.Proofs.YtihdglmiecifjaaGreat
