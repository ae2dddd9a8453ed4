/-
  Walk of the law on EventOk, out of the contracts.
-/
import Derived.Test.YtbhdjcggcgddfaaSpE
import Derived.Test.YtbhdjcggcgddfaaHE
import Derived.Deep.RegionHeld3
namespace Go.Proofs.Ytbhdjcggcgddfaa
open Go.RowKit Pl Il

/-- What a law on events holds on to: its two variables, and all that was there ahead. -/
abbrev LawSE (w : World) (M : Nat) (A A2 : Na) (x : Et) (w' : World) : Prop :=
  w'.cell? ⟨w.heap.size, 0, none⟩ = some (.bool x.au) ∧ w'.cell? ⟨w.heap.size, 1, none⟩ = some (.bool x.up) ∧ w'.cell? ⟨w.heap.size, 2, none⟩ = some (.slice A.a A.n A.c) ∧ w'.cell? ⟨w.heap.size, 3, none⟩ = some (.slice A.a' A.n' A.c') ∧ w'.cell? ⟨w.heap.size, 4, none⟩ = some (.int .i64 x.st) ∧ w'.cell? ⟨w.heap.size, 5, none⟩ = some (.int .i64 x.sp) ∧ w'.cell? ⟨w.heap.size, 6, none⟩ = some (.int .i64 x.tk) ∧ w'.cell? ⟨M, 0, none⟩ = some (.bool x.au) ∧ w'.cell? ⟨M, 1, none⟩ = some (.bool x.up) ∧ w'.cell? ⟨M, 2, none⟩ = some (.slice A2.a A2.n A2.c) ∧ w'.cell? ⟨M, 3, none⟩ = some (.slice A2.a' A2.n' A2.c') ∧ w'.cell? ⟨M, 4, none⟩ = some (.int .i64 x.st) ∧ w'.cell? ⟨M, 5, none⟩ = some (.int .i64 x.sp) ∧ w'.cell? ⟨M, 6, none⟩ = some (.int .i64 x.tk) ∧ EBox w.heap.size A x w' ∧ EBox M A2 x w' ∧ Below w.heap.size w w'
theorem LawSE.mk' {w : World} {M : Nat} {A A2 : Na} {x : Et} {w' : World} (h1 : EBox w.heap.size A x w') (h2 : EBox M A2 x w') (h3 : Below w.heap.size w w') : LawSE w M A A2 x w' :=
  ⟨h1.c0, h1.c1, h1.c2, h1.c3, h1.c4, h1.c5, h1.c6, h2.c0, h2.c1, h2.c2, h2.c3, h2.c4, h2.c5, h2.c6, h1, h2, h3⟩
theorem LawSE.bel {w : World} {M : Nat} {A A2 : Na} {x : Et} {w' : World} (h : LawSE w M A A2 x w') : Below w.heap.size w w' := h.2.2.2.2.2.2.2.2.2.2.2.2.2.2.2.2
theorem LawSE.b1 {w : World} {M : Nat} {A A2 : Na} {x : Et} {w' : World} (h : LawSE w M A A2 x w') : EBox w.heap.size A x w' := h.2.2.2.2.2.2.2.2.2.2.2.2.2.2.1
theorem LawSE.b2 {w : World} {M : Nat} {A A2 : Na} {x : Et} {w' : World} (h : LawSE w M A A2 x w') : EBox M A2 x w' := h.2.2.2.2.2.2.2.2.2.2.2.2.2.2.2.1
theorem LawSE.keep {w : World} {M : Nat} {A A2 : Na} {x : Et} {u u' : World} (h : LawSE w M A A2 x u) (hb : Below u.heap.size u u') : LawSE w M A A2 x u' := LawSE.mk' (h.b1.keep hb) (h.b2.keep hb) (bl_trans h.bel hb)
theorem LawSE.drew {w : World} {M : Nat} {A A2 : Na} {x : Et} {u : World} (h : LawSE w M A A2 x u) : LawSE w M A A2 x u.drew := h.keep (Below.refl _ _).drew
end Go.Proofs.Ytbhdjcggcgddfaa
