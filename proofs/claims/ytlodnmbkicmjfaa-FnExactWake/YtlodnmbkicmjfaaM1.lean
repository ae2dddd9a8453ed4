/-
  Walks of the laws on LineOk and PlaceOf.
-/
import Derived.Test.YtlodnmbkicmjfaaQ7
namespace Go.Proofs.Ytlodnmbkicmjfaa
open Go.RowKit Go.Maps Pl Il

theorem eqL_self (xs : List Int) : eqL xs xs = true := by simp [eqL]

theorem exactLineOk_any (a : Option Addr) (n cap : Nat) (w : World) (hA : n ≤ 1048576 → ∃ xs, IntsAt w a n xs ∧ wfL xs) :
    Calls Try.prog 4 #[.slice a n cap] w fun e w' => e = .returned (.bool true) ∧ Below w.heap.size w w' := by
  by_cases hn : n ≤ 1048576
  · obtain ⟨xs, hI, hw⟩ := hA hn
    have hni : ¬ 1048576 < (n : Int) := by omega
    have HI := hidOf hI
    clear hI hA
    go_enter Try.func4, Try.ntmps4
    go_wp2_with fail
    refine (toIntS_any a n cap xs _ HI.out (by omega)).mono ?_
    rintro e w1 ⟨rfl, ho1, hb1⟩
    go_wp2_with fail
    refine (specLineOk_any _ n n xs _ ho1.ints (by omega) (Nat.le_refl _)).mono ?_
    rintro e w2 ⟨rfl, hb2⟩
    have hbA := bl_trans hb1 hb2
    clear ho1 hb1 hb2
    go_wp2_with fail
    refine (toIntS_any a n cap xs _ (HI.out.keep hbA) (by omega)).mono ?_
    rintro e w3 ⟨rfl, ho3, hb3⟩
    have hbB := bl_trans hbA hb3
    clear hb3 hbA
    go_wp2_with fail
    refine (implLineOk_any _ n n xs _ ho3.ints (by omega) hw).mono ?_
    rintro e w4 ⟨rfl, hb4⟩
    have hbC := bl_trans hbB hb4
    have ho4 := ho3.keep hb4
    clear hb4 hbB ho3
    generalize lineL xs = l
    go_wp2_with fail
    refine (toIntS_any a n cap xs _ (HI.out.keep hbC) (by omega)).mono ?_
    rintro e w5 ⟨rfl, ho5, hb5⟩
    have hbD := bl_trans hbC hb5
    have ho4' := ho4.keep hb5
    clear hb5 hbC ho4
    go_wp2_with fail
    refine (eqIntS_any _ _ n n n n xs xs _ ho4'.ints ho5.ints (by omega) (by omega)).mono ?_
    rintro e w6 ⟨rfl, hb6⟩
    rw [eqL_self]
    have hbE := bl_trans hbD hb6
    clear hb6 hbD ho4' ho5
    go_wp2
    go_ret
    exact ⟨rfl, hbE⟩
  · have hni : 1048576 < (n : Int) := by omega
    clear hA
    go_enter Try.func4, Try.ntmps4
    go_wp2
    go_ret
    exact ⟨rfl, Below.refl _ _⟩

theorem exactPlaceOf_any (a : Option Addr) (n cap : Nat) (x : Int) (w : World) (hA : n ≤ 1048576 → ∃ xs, IntsAt w a n xs ∧ wfL xs) (hx : (Lit.int .i64 x).wf = true) :
    Calls Try.prog 8 #[.slice a n cap, .int .i64 x] w fun e w' => e = .returned (.bool true) ∧ Below w.heap.size w w' := by
  by_cases hn : n ≤ 1048576
  · obtain ⟨xs, hI, hw⟩ := hA hn
    have hni : ¬ 1048576 < (n : Int) := by omega
    have HI := hidOf hI
    clear hI hA
    go_enter Try.func8, Try.ntmps8
    go_wp2_with fail
    refine (toIntS_any a n cap xs _ HI.out (by omega)).mono ?_
    rintro e w1 ⟨rfl, ho1, hb1⟩
    go_wp2_with fail
    refine (specPlace_any _ n n xs x _ ho1.ints (by omega)).mono ?_
    rintro e w2 ⟨rfl, rfl⟩
    clear ho1
    go_wp2_with fail
    refine (toIntS_any a n cap xs _ (HI.out.keep hb1) (by omega)).mono ?_
    rintro e w3 ⟨rfl, ho3, hb3⟩
    have hbB := bl_trans hb1 hb3
    clear hb3 hb1
    go_wp2_with fail
    refine (implPlaceOf_any _ n n xs x _ ho3.ints (by omega) hw hx).mono ?_
    rintro e w4 ⟨rfl, hb4⟩
    have hbC := bl_trans hbB hb4
    have ho4 := ho3.keep hb4
    clear hb4 hbB ho3
    generalize placeL xs x = l
    go_wp2_with fail
    refine (toIntS_any a n cap xs _ (HI.out.keep hbC) (by omega)).mono ?_
    rintro e w5 ⟨rfl, ho5, hb5⟩
    have hbD := bl_trans hbC hb5
    have ho4' := ho4.keep hb5
    clear hb5 hbC ho4
    go_wp2_with fail
    refine (eqIntS_any _ _ n n n n xs xs _ ho4'.ints ho5.ints (by omega) (by omega)).mono ?_
    rintro e w6 ⟨rfl, hb6⟩
    rw [eqL_self]
    have hbE := bl_trans hbD hb6
    clear hb6 hbD ho4' ho5
    go_wp2
    go_ret
    exact ⟨rfl, hbE⟩
  · have hni : 1048576 < (n : Int) := by omega
    clear hA
    go_enter Try.func8, Try.ntmps8
    go_wp2
    go_ret
    exact ⟨rfl, Below.refl _ _⟩
end Go.Proofs.Ytlodnmbkicmjfaa
