/-
  Walk of the law on Wake.
-/
import Derived.Test.YtlodnmbkicmjfaaM2
namespace Go.Proofs.Ytlodnmbkicmjfaa
open Go.RowKit Go.Maps Pl Il

theorem wake_len (xs : List Int) (k : Int) : (wakeRest xs k).length ≤ xs.length ∧ (wakeOut xs k).length ≤ xs.length := by
  unfold wakeRest wakeOut
  split
  · simp only [List.length_drop, List.length_take]; omega
  · simp
theorem mark_nn2 (n m : Nat) : ¬ (1 : Int) + (n : Int) + (m : Int) < 0 := by omega
theorem Apart.keep {w w' w2 : World} {a1 a2 : Option Addr} {m1 m2 : Nat} {ys zs : List Int} (h : Apart w a1 m1 ys a2 m2 zs w') (hb : Below w'.heap.size w' w2) : Apart w a1 m1 ys a2 m2 zs w2 := ⟨h.one.keep hb, h.two.keep hb, h.apart, bl_trans h.below hb⟩

set_option maxHeartbeats 1000000 in
theorem exactWake_any (a : Option Addr) (n cap : Nat) (x : Int) (w : World) (hA : n ≤ 1048576 → ∃ xs, IntsAt w a n xs ∧ wfL xs) :
    Calls Try.prog 7 #[.slice a n cap, .int .i64 x] w fun e w' => e = .returned (.bool true) ∧ Below w.heap.size w w' := by
  by_cases hn : n ≤ 1048576
  · obtain ⟨xs, hI, hw⟩ := hA hn
    have hni : ¬ 1048576 < (n : Int) := by omega
    have hlen := hI.len
    obtain ⟨hyl, hzl⟩ := wake_len xs x
    have hnn := mark_nn n
    have HI := hidOf hI
    clear hI hA
    go_enter Try.func7, Try.ntmps7
    go_wp2_with fail
    refine (toIntS_any a n cap xs _ HI.out (by omega)).mono ?_
    rintro e w1 ⟨rfl, ho1, hb1⟩
    go_wp2_with fail
    refine (specWake_any _ _ n xs x _ ho1.ints (by omega)).mono ?_
    rintro e w2 ⟨s1, m1, d1, s2, m2, d2, rfl, hAp⟩
    have hbA := bl_trans hb1 hAp.below
    have HI2 := HI.out.keep hbA
    have HW1 := hAp.one.ints
    have HW2 := hAp.two.ints
    have hl1 := HW1.len
    have hl2 := HW2.len
    clear ho1 hb1 hAp HI
    go_wp2_with fail
    refine (toIntS_any a n cap xs _ HI2 (by omega)).mono ?_
    rintro e w3 ⟨rfl, ho3, hb3⟩
    go_wp2_with fail
    refine (implWake_any _ n n xs x _ ho3.ints (by omega) hw).mono ?_
    rintro e w4 ⟨g1, p1, c1, g2, p2, c2, rfl, hB4⟩
    have hp1 := hB4.one.ints.len
    have hp2 := hB4.two.ints.len
    obtain rfl : p1 = m1 := by omega
    obtain rfl : p2 = m2 := by omega
    have hnm := mark_nn p1
    have hnm2 := mark_nn2 p1 p2
    have hs3 := hb3.size
    have hb4 := hB4.below
    have hap := hB4.apart
    have hS4 : Below w2.heap.size w2 w4 := bl_trans hb3 hb4
    have G4 := hB4.one
    have K4 := hB4.two
    have X4 := ho3.keep hb4
    have hs4 := hb4.size
    clear hB4 hb4
    go_wp2_with fail
    refine (eqIntS_any _ _ p1 p1 c1 d1 _ _ _ G4.ints (HW1.keep hS4) (by omega) (by omega)).mono ?_
    rintro e w5 ⟨rfl, hb5⟩
    rw [eqL_self]
    have hS5 := bl_trans hS4 hb5
    have G5 := G4.keep hb5
    have K5 := K4.keep hb5
    have X5 := X4.keep hb5
    have hs5 := hb5.size
    clear hS4 G4 K4 X4 hb5
    go_wp2_with fail
    refine (eqIntS_any _ _ p2 p2 c2 d2 _ _ _ K5.ints (HW2.keep hS5) (by omega) (by omega)).mono ?_
    rintro e w5b ⟨rfl, hb5b⟩
    rw [eqL_self]
    have hS5b := bl_trans hS5 hb5b
    have G5b := G5.keep hb5b
    have K5b := K5.keep hb5b
    have X5b := X5.keep hb5b
    have hs5b := hb5b.size
    clear hS5 G5 K5 X5 hb5b
    go_wp2_with fail
    refine (toIntS_any a n cap xs _ (HI2.keep hS5b) (by omega)).mono ?_
    rintro e w6 ⟨rfl, ho6, hb6⟩
    have hS6 := bl_trans hS5b hb6
    have G6 := G5b.keep hb6
    have K6 := K5b.keep hb6
    have X6 := X5b.keep hb6
    have hs6 := hb6.size
    clear hS5b G5b K5b X5b hb6
    go_wp2_with fail
    refine (eqIntS_any _ _ n n n n xs xs _ X6.ints ho6.ints (by omega) (by omega)).mono ?_
    rintro e w7 ⟨rfl, hb7⟩
    rw [eqL_self]
    have hS7 := bl_trans hS6 hb7
    have G7 := G6.keep hb7
    have K7 := K6.keep hb7
    have X7 := X6.keep hb7
    have hs7 := hb7.size
    clear hS6 G6 K6 X6 hb7 ho6
    go_wp2_with fail
    refine (mark_any w2.heap.size _ n n xs 1 _ X7 (by omega) (by omega) (by omega) (by omega)).mono ?_
    rintro e w8 ⟨rfl, hM8⟩
    have hS8 := hS7.trans hM8.below
    have hx0 : n = 0 ∨ w2.heap.size < w3.heap.size := by
      rcases ho3.ints.row with h0 | ⟨b, off, e, hb, _⟩
      · exact .inl h0
      · cases e; exact .inr hb
    have G8 := hM8.other _ _ _ _ G7 (by
      rcases hx0 with h0 | hb
      · exact .inl h0
      · exact apart_of G7 hb)
    have K8 := hM8.other _ _ _ _ K7 (by
      rcases hx0 with h0 | hb
      · exact .inl h0
      · exact apart_of K7 hb)
    have hs8 := hM8.below.size
    clear hS7 G7 K7 X7 hM8 hx0
    go_wp2_with fail
    refine (eqIntS_any _ _ p1 p1 c1 d1 _ _ _ G8.ints (HW1.keep hS8) (by omega) (by omega)).mono ?_
    rintro e w9 ⟨rfl, hb9⟩
    rw [eqL_self]
    have hS9 := bl_trans hS8 hb9
    have G9 := G8.keep hb9
    have K9 := K8.keep hb9
    have hs9 := hb9.size
    clear hS8 G8 K8 hb9
    go_wp2_with fail
    refine (eqIntS_any _ _ p2 p2 c2 d2 _ _ _ K9.ints (HW2.keep hS9) (by omega) (by omega)).mono ?_
    rintro e w9b ⟨rfl, hb9b⟩
    rw [eqL_self]
    have hS9b := bl_trans hS9 hb9b
    have G9b := G9.keep hb9b
    have K9b := K9.keep hb9b
    have hs9b := hb9b.size
    clear hS9 G9 K9 hb9b
    go_wp2_with fail
    refine (mark_any w3.heap.size _ p1 c1 _ 1 _ G9b (by omega) (by omega) (by omega) (by omega)).mono ?_
    rintro e w10 ⟨rfl, hM10⟩
    have hS10 := hS9b.trans (hM10.below.mono hs3)
    have G10 := hM10.own
    have K10 := hM10.other _ _ _ _ K9b hap
    have hs10 := hM10.below.size
    clear hS9b G9b K9b hM10
    go_wp2_with fail
    refine (mark_any w3.heap.size _ p2 c2 _ (1 + (p1 : Int)) _ K10 (by omega) (by omega) (by omega) (by omega)).mono ?_
    rintro e w10b ⟨rfl, hM10⟩
    have hS10b := hS10.trans (hM10.below.mono hs3)
    have K10b := hM10.own
    have G10b := hM10.other _ _ _ _ G10 (by
      rcases hap with h | h | h
      · exact .inr (.inl h)
      · exact .inl h
      · exact .inr (.inr fun b off b' off' e e' => (h b' off' b off e' e).symm))
    have hs10b := hM10.below.size
    clear hS10 G10 K10 hM10
    go_wp2_with fail
    refine (heldIntS_marks _ p1 c1 1 _ G10b.ints (by omega) (by omega) (by omega)).mono ?_
    rintro e w11 ⟨rfl, rfl⟩
    go_wp2_with fail
    refine (heldIntS_marks _ p2 c2 (1 + (p1 : Int)) _ K10b.ints (by omega) (by omega) (by omega)).mono ?_
    rintro e w11b ⟨rfl, rfl⟩
    go_wp2_with fail
    refine (toIntS_any a n cap xs _ (HI2.keep hS10b) (by omega)).mono ?_
    rintro e w12 ⟨rfl, ho12, hb12⟩
    have hS12 := bl_trans hS10b hb12
    have G12 := G10b.keep hb12
    have K12 := K10b.keep hb12
    clear hS10b G10b K10b hb12
    go_wp2_with fail
    refine (implWake_any _ n n xs x _ ho12.ints (by omega) hw).mono ?_
    rintro e w13 ⟨h1, q1, e1, h2, q2, e2, rfl, hB13⟩
    have hq1 := hB13.one.ints.len
    have hq2 := hB13.two.ints.len
    obtain rfl : q1 = p1 := by omega
    obtain rfl : q2 = p2 := by omega
    have hS13 := bl_trans hS12 hB13.below
    have G13 := G12.keep hB13.below
    have K13 := K12.keep hB13.below
    have A13 := hB13.one
    have B13 := hB13.two
    clear hS12 G12 K12 ho12 hB13
    go_wp2_with fail
    refine (eqIntS_any _ _ q1 q1 e1 d1 _ _ _ A13.ints (HW1.keep hS13) (by omega) (by omega)).mono ?_
    rintro e w14 ⟨rfl, hb14⟩
    rw [eqL_self]
    have hS14 := bl_trans hS13 hb14
    have G14 := G13.keep hb14
    have K14 := K13.keep hb14
    have B14 := B13.keep hb14
    clear hS13 G13 K13 A13 B13 hb14
    go_wp2_with fail
    refine (eqIntS_any _ _ q2 q2 e2 d2 _ _ _ B14.ints (HW2.keep hS14) (by omega) (by omega)).mono ?_
    rintro e w15 ⟨rfl, hb15⟩
    rw [eqL_self]
    have hS15 := bl_trans hS14 hb15
    have G15 := G14.keep hb15
    have K15 := K14.keep hb15
    clear hS14 G14 K14 B14 hb15
    go_wp2_with fail
    refine (heldIntS_marks _ q1 c1 1 _ G15.ints (by omega) (by omega) (by omega)).mono ?_
    rintro e w16 ⟨rfl, rfl⟩
    go_wp2_with fail
    refine (heldIntS_marks _ q2 c2 (1 + (q1 : Int)) _ K15.ints (by omega) (by omega) (by omega)).mono ?_
    rintro e w17 ⟨rfl, rfl⟩
    have hE := bl_trans hbA hS15
    clear hS15 G15 K15 hbA HI2 HW1 HW2
    go_wp2
    go_ret
    exact ⟨rfl, hE⟩
  · have hni : 1048576 < (n : Int) := by omega
    clear hA
    go_enter Try.func7, Try.ntmps7
    go_wp2
    go_ret
    exact ⟨rfl, Below.refl _ _⟩
end Go.Proofs.Ytlodnmbkicmjfaa
