/-
  Walk of the law on NotifyOk, out of the contracts.
-/
import Derived.Test.YtejakmbpmnobiaaSN1
import Derived.Test.YtejakmbpmnobiaaLN4
import Derived.Deep.RegionHeld3
namespace Go.Proofs.Ytejakmbpmnobiaa
open Go.RowKit Pl Il

/-- What a law on notifications holds on to: its two variables, and all that was there ahead. -/
abbrev LawS (w : World) (M : Nat) (A A2 : Na) (x : Nt) (w' : World) : Prop :=
  w'.cell? ⟨w.heap.size, 0, none⟩ = some (.bool x.pm) ∧ w'.cell? ⟨w.heap.size, 1, none⟩ = some (.slice A.a A.n A.c) ∧ w'.cell? ⟨w.heap.size, 2, none⟩ = some (.slice A.a' A.n' A.c') ∧ w'.cell? ⟨w.heap.size, 3, none⟩ = some (.int .i64 x.on) ∧ w'.cell? ⟨w.heap.size, 4, none⟩ = some (.int .i64 x.sp) ∧ w'.cell? ⟨w.heap.size, 5, none⟩ = some (.int .i64 x.tk) ∧ w'.cell? ⟨M, 0, none⟩ = some (.bool x.pm) ∧ w'.cell? ⟨M, 1, none⟩ = some (.slice A2.a A2.n A2.c) ∧ w'.cell? ⟨M, 2, none⟩ = some (.slice A2.a' A2.n' A2.c') ∧ w'.cell? ⟨M, 3, none⟩ = some (.int .i64 x.on) ∧ w'.cell? ⟨M, 4, none⟩ = some (.int .i64 x.sp) ∧ w'.cell? ⟨M, 5, none⟩ = some (.int .i64 x.tk) ∧ NBox w.heap.size A x w' ∧ NBox M A2 x w' ∧ Below w.heap.size w w'
theorem LawS.mk' {w : World} {M : Nat} {A A2 : Na} {x : Nt} {w' : World} (h1 : NBox w.heap.size A x w') (h2 : NBox M A2 x w') (h3 : Below w.heap.size w w') : LawS w M A A2 x w' :=
  ⟨h1.c0, h1.c1, h1.c2, h1.c3, h1.c4, h1.c5, h2.c0, h2.c1, h2.c2, h2.c3, h2.c4, h2.c5, h1, h2, h3⟩
theorem LawS.bel {w : World} {M : Nat} {A A2 : Na} {x : Nt} {w' : World} (h : LawS w M A A2 x w') : Below w.heap.size w w' := h.2.2.2.2.2.2.2.2.2.2.2.2.2.2
theorem LawS.b1 {w : World} {M : Nat} {A A2 : Na} {x : Nt} {w' : World} (h : LawS w M A A2 x w') : NBox w.heap.size A x w' := h.2.2.2.2.2.2.2.2.2.2.2.2.1
theorem LawS.b2 {w : World} {M : Nat} {A A2 : Na} {x : Nt} {w' : World} (h : LawS w M A A2 x w') : NBox M A2 x w' := h.2.2.2.2.2.2.2.2.2.2.2.2.2.1
theorem LawS.keep {w : World} {M : Nat} {A A2 : Na} {x : Nt} {u u' : World} (h : LawS w M A A2 x u) (hb : Below u.heap.size u u') : LawS w M A A2 x u' := LawS.mk' (h.b1.keep hb) (h.b2.keep hb) (bl_trans h.bel hb)
theorem LawS.drew {w : World} {M : Nat} {A A2 : Na} {x : Nt} {u : World} (h : LawS w M A A2 x u) : LawS w M A A2 x u.drew := h.keep (Below.refl _ _).drew
/-- What is asked of the program's NotifyOk. -/
def ImplNotifyOk : Prop := ∀ (A : Na) (x : Nt) (w : World), NIn w A x → A.n ≤ 2097152 → A.n' ≤ 2097152 → NWf x →
  Calls Try.prog 47 #[.agg #[.bool x.pm, .slice A.a A.n A.c, .slice A.a' A.n' A.c', .int .i64 x.on, .int .i64 x.sp, .int .i64 x.tk]] w fun e w' => e = .returned (.bool (okN x)) ∧ Below w.heap.size w w'

end Go.Proofs.Ytejakmbpmnobiaa
