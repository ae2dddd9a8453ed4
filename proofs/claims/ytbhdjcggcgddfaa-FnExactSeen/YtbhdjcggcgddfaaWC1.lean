/-
  Walk of the law on CellOk, out of the contracts.
-/
import Derived.Test.YtbhdjcggcgddfaaSpC
import Derived.Test.YtbhdjcggcgddfaaHC
import Derived.Deep.RegionHeld3
namespace Go.Proofs.Ytbhdjcggcgddfaa
open Go.RowKit Pl Il

/-- What a law on cells holds on to: its two variables, and all that was there ahead. -/
abbrev LawSC (w : World) (M : Nat) (A A2 : Na) (x : Ct) (w' : World) : Prop :=
  w'.cell? ⟨w.heap.size, 0, none⟩ = some (.int .i64 x.kd) ∧ w'.cell? ⟨w.heap.size, 1, none⟩ = some (.int .i64 x.nu) ∧ w'.cell? ⟨w.heap.size, 2, none⟩ = some (.string x.tx) ∧ w'.cell? ⟨w.heap.size, 3, none⟩ = some (.int .i64 x.ve) ∧ w'.cell? ⟨w.heap.size, 4, none⟩ = some (.bool x.cl) ∧ w'.cell? ⟨w.heap.size, 5, none⟩ = some (.slice A.a A.n A.c) ∧ w'.cell? ⟨w.heap.size, 6, none⟩ = some (.slice A.a' A.n' A.c') ∧ w'.cell? ⟨M, 0, none⟩ = some (.int .i64 x.kd) ∧ w'.cell? ⟨M, 1, none⟩ = some (.int .i64 x.nu) ∧ w'.cell? ⟨M, 2, none⟩ = some (.string x.tx) ∧ w'.cell? ⟨M, 3, none⟩ = some (.int .i64 x.ve) ∧ w'.cell? ⟨M, 4, none⟩ = some (.bool x.cl) ∧ w'.cell? ⟨M, 5, none⟩ = some (.slice A2.a A2.n A2.c) ∧ w'.cell? ⟨M, 6, none⟩ = some (.slice A2.a' A2.n' A2.c') ∧ CBox w.heap.size A x w' ∧ CBox M A2 x w' ∧ Below w.heap.size w w'
theorem LawSC.mk' {w : World} {M : Nat} {A A2 : Na} {x : Ct} {w' : World} (h1 : CBox w.heap.size A x w') (h2 : CBox M A2 x w') (h3 : Below w.heap.size w w') : LawSC w M A A2 x w' :=
  ⟨h1.c0, h1.c1, h1.c2, h1.c3, h1.c4, h1.c5, h1.c6, h2.c0, h2.c1, h2.c2, h2.c3, h2.c4, h2.c5, h2.c6, h1, h2, h3⟩
theorem LawSC.bel {w : World} {M : Nat} {A A2 : Na} {x : Ct} {w' : World} (h : LawSC w M A A2 x w') : Below w.heap.size w w' := h.2.2.2.2.2.2.2.2.2.2.2.2.2.2.2.2
theorem LawSC.b1 {w : World} {M : Nat} {A A2 : Na} {x : Ct} {w' : World} (h : LawSC w M A A2 x w') : CBox w.heap.size A x w' := h.2.2.2.2.2.2.2.2.2.2.2.2.2.2.1
theorem LawSC.b2 {w : World} {M : Nat} {A A2 : Na} {x : Ct} {w' : World} (h : LawSC w M A A2 x w') : CBox M A2 x w' := h.2.2.2.2.2.2.2.2.2.2.2.2.2.2.2.1
theorem LawSC.keep {w : World} {M : Nat} {A A2 : Na} {x : Ct} {u u' : World} (h : LawSC w M A A2 x u) (hb : Below u.heap.size u u') : LawSC w M A A2 x u' := LawSC.mk' (h.b1.keep hb) (h.b2.keep hb) (bl_trans h.bel hb)
theorem LawSC.drew {w : World} {M : Nat} {A A2 : Na} {x : Ct} {u : World} (h : LawSC w M A A2 x u) : LawSC w M A A2 x u.drew := h.keep (Below.refl _ _).drew
end Go.Proofs.Ytbhdjcggcgddfaa
