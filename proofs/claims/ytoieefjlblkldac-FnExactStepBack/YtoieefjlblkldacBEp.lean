/-
  The program's events: a raising is placed; one of either kind is raised.
-/
import Derived.Test.YtoieefjlblkldacBE3
import Derived.Test.YtoieefjlblkldacEM2
namespace Go.Proofs.Ytoieefjlblkldac
open Go.RowKit Go.Maps Pl Il

theorem wakeE_cons {y : Int} {r : List Int} (h : lineL (y :: r) = true) : wakeRest (y :: r) 1 = r ∧ wakeOut (y :: r) 1 = [y] := by
  unfold wakeRest wakeOut wakeN
  rw [h]
  simp
  split <;> simp_all <;> omega
theorem wakeE_all {xs : List Int} (h : lineL xs = true) : wakeRest xs (xs.length : Int) = [] ∧ wakeOut xs (xs.length : Int) = xs := by
  have hn : wakeN xs (xs.length : Int) = xs.length := by rw [wakeN_in (by omega)]; simp
  obtain ⟨h1, h2⟩ := wake_good h (k := (xs.length : Int)) (by omega)
  rw [h1, h2, hn]
  simp
/-- A list is answered, and the body is another one. -/
def TOut (B b : Nat) (w : World) (y : Et) (l : List Int) (e : Ending) (w' : World) : Prop := ∃ A' a m c, e = .returned (.slice a m c) ∧ EMem B b A' y w' ∧ Il.OwnAt B w' a m l ∧ FarW b A' a m ∧ Below B w w'
/-- A list and a number are answered. -/
def TOut2 (B b : Nat) (w : World) (y : Et) (l : List Int) (code : Int) (e : Ending) (w' : World) : Prop := ∃ A' a m c, e = .returned (.tuple #[.slice a m c, .int .i64 code]) ∧ EMem B b A' y w' ∧ Il.OwnAt B w' a m l ∧ FarW b A' a m ∧ Below B w w'
theorem own_nil (B : Nat) (w : World) : Il.OwnAt B w none 0 [] := ⟨⟨rfl, .inl rfl⟩, .inl rfl⟩
theorem far_nil (b : Nat) (A : Na) : FarW b A none 0 := ⟨.inl rfl, .inl rfl⟩
set_option maxHeartbeats 1000000 in
theorem placeRaising_any (B b : Nat) (A : Na) (x : Et) (w : World) (hM : EMem B b A x w) (hn : A.n ≤ 2097152) (hn' : A.n' ≤ 2097152) (hw : wfL x.ln) (hl : lineL x.ln = true) (hsp : 0 ≤ x.sp ∧ x.sp ≤ 1000000000) :
    Calls Try.prog 103 #[.pointer (some ⟨b, 0, none⟩)] w fun e w' => TOut B b w (passE x).1 (passE x).2 e w' := by
  have c0 := hM.wt.c0
  have c3 := hM.c3
  have c5 := hM.c5
  have ff := hM.wt.fr
  have hlen := hM.wt.rows.len.1
  have HM := hidOf hM
  obtain ⟨au, up, ln, gs, st, sp, tk⟩ := x
  simp only at c3 c5 hlen hw hl hsp
  clear hM
  cases ln with
  | cons y r =>
    have hp : (0 : Int) < (A.n : Int) := by simp at hlen; omega
    clear hlen
    go_enter Try.func103, Try.ntmps103
    go_wp2_with fail
    refine (letGo_any B b A (y :: r) gs 1 w HM.out.wt hn hn' hw).mono ?_
    rintro e w1 ⟨A', a, m, c, rfl, hS, hO, hF, hT⟩
    rw [(wakeE_cons hl).1, (wakeE_cons hl).2] at hS
    rw [(wakeE_cons hl).2] at hO
    have HF := hidOf (And.intro (HM.out.to hS hT) (And.intro hO (And.intro hF hT.below)))
    clear hS hO hF hT HM
    go_wp2
    go_ret
    exact ⟨A', a, m, c, rfl, HF.out.1, HF.out.2.1, HF.out.2.2.1, HF.out.2.2.2⟩
  | nil =>
    have hp : ¬ (0 : Int) < (A.n : Int) := by simp at hlen; omega
    clear hlen
    cases up
    · have HF := hidOf (And.intro (HM.out.upd true) (HM.out.bset (Below.refl B w) 5 (.bool true)))
      clear HM
      go_enter Try.func103, Try.ntmps103
      go_wp2
      go_ret
      exact ⟨A, none, 0, 0, rfl, HF.out.1, own_nil _ _, far_nil _ _, HF.out.2⟩
    · have hM1 := HM.out.spilt (sp + 1)
      have d5 := hM1.c5
      have df := hM1.wt.fr
      have HF := hidOf (And.intro (hM1.upd true) (HM.out.bset (HM.out.bset (Below.refl B w) 3 (.int .i64 (sp + 1))) 5 (.bool true)))
      simp only at d5
      clear HM hM1
      go_enter Try.func103, Try.ntmps103
      go_wp2
      go_ret
      exact ⟨A, none, 0, 0, rfl, HF.out.1, own_nil _ _, far_nil _ _, HF.out.2⟩
end Go.Proofs.Ytoieefjlblkldac
