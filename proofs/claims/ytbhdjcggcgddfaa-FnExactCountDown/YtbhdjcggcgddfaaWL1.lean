/-
  Walk of the law on LatchOk, out of the contracts.
-/
import Derived.Test.YtbhdjcggcgddfaaSpL
import Derived.Test.YtbhdjcggcgddfaaHL
import Derived.Deep.RegionHeld3
namespace Go.Proofs.Ytbhdjcggcgddfaa
open Go.RowKit Pl Il

/-- What a law on latchs holds on to: its two variables, and all that was there ahead. -/
abbrev LawSL (w : World) (M : Nat) (A A2 : Na) (x : Lt) (w' : World) : Prop :=
  w'.cell? ⟨w.heap.size, 0, none⟩ = some (.int .i64 x.ct) ∧ w'.cell? ⟨w.heap.size, 1, none⟩ = some (.slice A.a A.n A.c) ∧ w'.cell? ⟨w.heap.size, 2, none⟩ = some (.slice A.a' A.n' A.c') ∧ w'.cell? ⟨M, 0, none⟩ = some (.int .i64 x.ct) ∧ w'.cell? ⟨M, 1, none⟩ = some (.slice A2.a A2.n A2.c) ∧ w'.cell? ⟨M, 2, none⟩ = some (.slice A2.a' A2.n' A2.c') ∧ LBox w.heap.size A x w' ∧ LBox M A2 x w' ∧ Below w.heap.size w w'
theorem LawSL.mk' {w : World} {M : Nat} {A A2 : Na} {x : Lt} {w' : World} (h1 : LBox w.heap.size A x w') (h2 : LBox M A2 x w') (h3 : Below w.heap.size w w') : LawSL w M A A2 x w' :=
  ⟨h1.c0, h1.c1, h1.c2, h2.c0, h2.c1, h2.c2, h1, h2, h3⟩
theorem LawSL.bel {w : World} {M : Nat} {A A2 : Na} {x : Lt} {w' : World} (h : LawSL w M A A2 x w') : Below w.heap.size w w' := h.2.2.2.2.2.2.2.2
theorem LawSL.b1 {w : World} {M : Nat} {A A2 : Na} {x : Lt} {w' : World} (h : LawSL w M A A2 x w') : LBox w.heap.size A x w' := h.2.2.2.2.2.2.1
theorem LawSL.b2 {w : World} {M : Nat} {A A2 : Na} {x : Lt} {w' : World} (h : LawSL w M A A2 x w') : LBox M A2 x w' := h.2.2.2.2.2.2.2.1
theorem LawSL.keep {w : World} {M : Nat} {A A2 : Na} {x : Lt} {u u' : World} (h : LawSL w M A A2 x u) (hb : Below u.heap.size u u') : LawSL w M A A2 x u' := LawSL.mk' (h.b1.keep hb) (h.b2.keep hb) (bl_trans h.bel hb)
theorem LawSL.drew {w : World} {M : Nat} {A A2 : Na} {x : Lt} {u : World} (h : LawSL w M A A2 x u) : LawSL w M A A2 x u.drew := h.keep (Below.refl _ _).drew
end Go.Proofs.Ytbhdjcggcgddfaa
