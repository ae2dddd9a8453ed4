/-
  Walk of the law on Both.
-/
import Derived.Test.YtedaleonmcllkaaFO2
import Derived.Test.YtedaleonmcllkaaFO3
import Derived.Test.YtedaleonmcllkaaWF2
namespace Go.Proofs.Ytedaleonmcllkaa
open Go.RowKit Pl Il

set_option maxRecDepth 100000 in
set_option maxHeartbeats 8000000 in
theorem exactBoth_any (a b : Option Addr) (n m cap cap1 : Nat) (w : World) (hn : n ≤ 9223372036854775807) (hm : m ≤ 9223372036854775807) (hA : ∃ ts, TmAt w a n ts) (hA1 : ∃ us, TmAt w b m us) :
    Calls Try.prog 7 #[.slice a n cap, .slice b m cap1] w fun e w' => e = .returned (.bool true) ∧ Below w.heap.size w w' := by
  obtain ⟨ts, hI⟩ := hA
  obtain ⟨us, hJ⟩ := hA1
  have HI := hidOf hI
  have HJ := hidOf hJ
  clear hI hJ
  go_enter Try.func7, Try.ntmps7
  go_wp2_with fail
  refine (szTermS_any a n cap ts _ _ HI.out hn (by omega) (by omega)).mono ?_
  rintro e w00 ⟨⟨k, rfl, hk⟩, hb00⟩
  rcases hk with hk | ⟨hk, hk2, hnn⟩
  · go_wp2
    go_ret
    exact ⟨rfl, hb00⟩
  have hk' : ¬ k < 0 := by omega
  have HB00 := hidOf hb00
  clear hb00
  go_wp2_with fail
  refine (szTermS_any b m cap1 us k _ (HJ.out.keep HB00.out) hm hk hk2).mono ?_
  rintro e w0 ⟨⟨k1, rfl, hk1⟩, hb0⟩
  have HB0 := hidOf (bl_trans HB00.out hb0)
  clear hb0 hk hk2 HB00
  rcases hk1 with hk1 | ⟨hk1, _, hmm⟩
  · go_wp2
    go_ret
    exact ⟨rfl, HB0.out⟩
  have hk1' : ¬ k1 < 0 := by omega
  have m0 : ¬ ((1 + 3 * n + 3 * m : Nat) : Int) < 0 := by omega
  clear hk1
  go_wp2_with fail
  refine (toTermS_any a n cap ts _ (HI.out.keep HB0.out) (by omega)).mono ?_
  rintro e w1 ⟨rfl, ho1, hb1⟩
  have HBa := hidOf (bl_trans HB0.out hb1)
  have HO1 := hidOf ho1
  clear hb1 ho1 HB0
  go_wp2_with fail
  refine (toTermS_any b m cap1 us _ (HJ.out.keep HBa.out) (by omega)).mono ?_
  rintro e w1b ⟨rfl, ho1b, hb1b⟩
  have HBb := hidOf (bl_trans HBa.out hb1b)
  have HO1b := hidOf ho1b
  have HO1c := hidOf (HO1.out.keep hb1b)
  clear hb1b ho1b HBa HO1
  go_wp2_with fail
  refine (specBoth_any _ _ n m n m ts us _ HO1c.out.tm HO1b.out.tm (by omega) (by omega)).mono ?_
  rintro e w2 ⟨ws, ms, cs, rfl, _, hms, how, hb2⟩
  have HB2 := hidOf (bl_trans HBb.out hb2)
  have HW := hidOf how.tm
  have hml := how.tm.len
  have HI2 := hidOf (HI.out.keep HB2.out)
  have HJ2 := hidOf (HJ.out.keep HB2.out)
  have m1 := mark_nnF 1 ms
  clear HO1c HO1b hb2 HBb how HI HJ
  go_wp2_with fail
  refine (toTermS_any a n cap ts _ HI2.out (by omega)).mono ?_
  rintro e w3 ⟨rfl, ho3, hb3⟩
  have HX := hidOf ho3
  have HXs := hidOf ho3.span
  have HS3 := hidOf hb3
  clear ho3 hb3
  go_wp2_with fail
  refine (toTermS_any b m cap1 us _ (HJ2.out.keep HS3.out) (by omega)).mono ?_
  rintro e w3b ⟨rfl, ho3b, hb3b⟩
  have HY := hidOf ho3b
  have HYs := hidOf ho3b.span
  have HX3 := hidOf (HX.out.keep hb3b)
  have HS3b := hidOf (bl_trans HS3.out hb3b)
  have s23 := HS3.out.size
  have s3b := hb3b.size
  clear ho3b hb3b HX HS3
  go_wp2_with fail
  refine (implBoth_any _ _ n m n m ts us _ HX3.out.tm HY.out.tm (by omega) (by omega)).mono ?_
  rintro e w4 ⟨a', m', c', rfl, _, _, hog, hb4⟩
  obtain rfl : m' = ms := by rw [← hml, ← hog.tm.len]
  have HG := hidOf hog
  have HGs := hidOf hog.span
  have HX4 := hidOf (HX3.out.keep hb4)
  have HY4 := hidOf (HY.out.keep hb4)
  have HS4 := hidOf (bl_trans HS3b.out hb4)
  clear hog hb4 HX3 HY HS3b hml
  obtain ⟨l, hl⟩ : ∃ l, (bothM ts us).isSome = l := ⟨_, rfl⟩
  rw [hl]
  have HLB := hidOf hl
  clear hl
  go_wp2_with fail
  refine (eqTermS_any _ _ m' m' c' cs _ _ _ HG.out.tm (HW.out.keep HS4.out) (by omega) (by omega)).mono ?_
  rintro e w5 ⟨rfl, hb5⟩
  rw [eqFL_self]
  have HG5 := hidOf (HG.out.keep hb5)
  have HX5 := hidOf (HX4.out.keep hb5)
  have HY5 := hidOf (HY4.out.keep hb5)
  have HS5 := hidOf (bl_trans HS4.out hb5)
  clear HG HX4 HY4 hb5 HS4
  go_wp2_with fail
  refine (toTermS_any a n cap ts _ (HI2.out.keep HS5.out) (by omega)).mono ?_
  rintro e w6 ⟨rfl, ho6, hb6⟩
  have HG6 := hidOf (HG5.out.keep hb6)
  have HX6 := hidOf (HX5.out.keep hb6)
  have HY6 := hidOf (HY5.out.keep hb6)
  have HS6 := hidOf (bl_trans HS5.out hb6)
  have HO6 := hidOf ho6
  clear HG5 HX5 HY5 hb6 ho6 HS5
  go_wp2_with fail
  refine (eqTermS_any _ _ n n n n ts ts _ HX6.out.tm HO6.out.tm (by omega) (by omega)).mono ?_
  rintro e w7 ⟨rfl, hb7⟩
  rw [eqFL_self]
  have HG7 := hidOf (HG6.out.keep hb7)
  have HX7 := hidOf (HX6.out.keep hb7)
  have HY7 := hidOf (HY6.out.keep hb7)
  have HS7 := hidOf (bl_trans HS6.out hb7)
  clear HG6 HX6 HY6 hb7 HO6 HS6
  go_wp2_with fail
  refine (toTermS_any b m cap1 us _ (HJ2.out.keep HS7.out) (by omega)).mono ?_
  rintro e w7a ⟨rfl, ho7a, hb7a⟩
  have HG7a := hidOf (HG7.out.keep hb7a)
  have HX7a := hidOf (HX7.out.keep hb7a)
  have HY7a := hidOf (HY7.out.keep hb7a)
  have HS7a := hidOf (bl_trans HS7.out hb7a)
  have HO7a := hidOf ho7a
  clear HG7 HX7 HY7 hb7a ho7a HS7
  go_wp2_with fail
  refine (eqTermS_any _ _ m m m m us us _ HY7a.out.tm HO7a.out.tm (by omega) (by omega)).mono ?_
  rintro e w7b ⟨rfl, hb7b⟩
  rw [eqFL_self]
  have HG7b := hidOf (HG7a.out.keep hb7b)
  have HX7b := hidOf (HX7a.out.keep hb7b)
  have HY7b := hidOf (HY7a.out.keep hb7b)
  have HS7b := hidOf (bl_trans HS7a.out hb7b)
  have s7 := HS7b.out.size
  clear HG7a HX7a HY7a hb7b HO7a HS7a
  go_wp2_with fail
  refine (markTermS_any w2.heap.size _ n n ts 1 _ HX7b.out (by omega) (by omega) (by omega)).mono ?_
  rintro e w8 ⟨rfl, _, ht8⟩
  have HG8 := hidOf (HG7b.out.turned ht8 (span_ltF _ HXs.out s3b))
  have HY8 := hidOf (HY7b.out.turned ht8 (span_ltF _ HXs.out (Nat.le_refl _)))
  have HS8 := hidOf (HS7b.out.trans (ht8.below (B := w2.heap.size) s7 (span_geF _ HXs.out (Nat.le_refl _))))
  have s8 := HS8.out.size
  clear HG7b HX7b HY7b ht8 HS7b
  go_wp2_with fail
  refine (markTermS_any w3.heap.size _ m m us (1 + 3 * n) _ HY8.out (by omega) (by omega) (by omega)).mono ?_
  rintro e w8b ⟨rfl, _, ht8b⟩
  have HG8b := hidOf (HG8.out.turned ht8b (span_ltF _ HYs.out (Nat.le_refl _)))
  have HS8b := hidOf (HS8.out.trans (ht8b.below (B := w2.heap.size) s8 (span_geF _ HYs.out s23)))
  clear HG8 HY8 ht8b HS8
  go_wp2_with fail
  refine (eqTermS_any _ _ m' m' c' cs _ _ _ HG8b.out.tm (HW.out.keep HS8b.out) (by omega) (by omega)).mono ?_
  rintro e w9 ⟨rfl, hb9⟩
  rw [eqFL_self]
  have HG9 := hidOf (HG8b.out.keep hb9)
  have HS9 := hidOf (bl_trans HS8b.out hb9)
  have s9 := HS9.out.size
  clear HG8b hb9 HS8b
  go_wp2_with fail
  refine (markTermS_any w3b.heap.size _ m' c' _ 1 _ HG9.out (by omega) (by omega) (by omega)).mono ?_
  rintro e w10 ⟨rfl, hg10, ht10⟩
  have HG10 := hidOf hg10
  have HS10 := hidOf (HS9.out.trans (ht10.below (B := w2.heap.size) s9 (span_geF _ HGs.out (Nat.le_trans s23 s3b))))
  clear HG9 ht10 HS9 hg10
  go_wp2_with fail
  refine (heldTermS_marks _ m' c' 1 _ HG10.out.tm (by omega) (by omega) (by omega)).mono ?_
  rintro e w11 ⟨rfl, hb11⟩
  have HG11 := hidOf (HG10.out.keep hb11)
  have HS11 := hidOf (bl_trans HS10.out hb11)
  clear HG10 hb11 HS10
  go_wp2_with fail
  refine (toTermS_any a n cap ts _ (HI2.out.keep HS11.out) (by omega)).mono ?_
  rintro e w12 ⟨rfl, ho12, hb12⟩
  have HG12 := hidOf (HG11.out.keep hb12)
  have HS12 := hidOf (bl_trans HS11.out hb12)
  have HO12 := hidOf ho12
  clear HG11 hb12 HS11 ho12
  go_wp2_with fail
  refine (toTermS_any b m cap1 us _ (HJ2.out.keep HS12.out) (by omega)).mono ?_
  rintro e w12b ⟨rfl, ho12b, hb12b⟩
  have HG12b := hidOf (HG12.out.keep hb12b)
  have HS12b := hidOf (bl_trans HS12.out hb12b)
  have HP12 := hidOf ho12b
  have HO12b := hidOf (HO12.out.keep hb12b)
  clear HG12 hb12b HS12 ho12b HO12
  go_wp2_with fail
  refine (implBoth_any _ _ n m n m ts us _ HO12b.out.tm HP12.out.tm (by omega) (by omega)).mono ?_
  rintro e w13 ⟨a3, m3, c3, rfl, _, hm3, hoh, hb13⟩
  have HG13 := hidOf (HG12b.out.keep hb13)
  have HS13 := hidOf (bl_trans HS12b.out hb13)
  have HH := hidOf hoh.tm
  clear HG12b hb13 HS12b HO12b HP12 hoh
  rw [HLB.out]
  go_wp2_with fail
  refine (eqTermS_any _ _ m3 m' c3 cs _ _ _ HH.out (HW.out.keep HS13.out) (by omega) (by omega)).mono ?_
  rintro e w14 ⟨rfl, hb14⟩
  rw [eqFL_self]
  have HG14 := hidOf (HG13.out.keep hb14)
  have HS14 := hidOf (bl_trans HS13.out hb14)
  clear HG13 hb14 HS13 HH
  go_wp2_with fail
  refine (heldTermS_marks _ m' c' 1 _ HG14.out.tm (by omega) (by omega) (by omega)).mono ?_
  rintro e w15 ⟨rfl, hb15⟩
  have HS15 := hidOf (bl_trans HB2.out (bl_trans HS14.out hb15))
  clear HG14 hb15 HS14
  go_wp2
  go_ret
  exact ⟨rfl, HS15.out⟩
end Go.Proofs.Ytedaleonmcllkaa
