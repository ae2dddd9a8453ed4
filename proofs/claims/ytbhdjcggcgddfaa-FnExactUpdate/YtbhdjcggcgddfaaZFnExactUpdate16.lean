/-
  Walk of the law on CellOk, out of the contracts.
  What the law on Update holds on to.
-/
import Derived.Test.YtbhdjcggcgddfaaZFnExactUpdate10
import Derived.Test.YtbhdjcggcgddfaaZFnExactUpdate15
import Derived.Deep.RegionHeld3
import Derived.Test.YtbhdjcggcgddfaaZFnExactUpdate12
import Derived.Deep.CutRange
namespace Go.Proofs.Ytbhdjcggcgddfaa
open Go.RowKit Pl Il

/-- What a law on cells holds on to: its two variables, and all that was there ahead. -/
abbrev LawSC (w : World) (M : Nat) (A A2 : Na) (x : Ct) (w' : World) : Prop :=
  w'.cell? ⟨w.heap.size, 0, none⟩ = some (.int .i64 x.kd) ∧ w'.cell? ⟨w.heap.size, 1, none⟩ = some (.int .i64 x.nu) ∧ w'.cell? ⟨w.heap.size, 2, none⟩ = some (.string x.tx) ∧ w'.cell? ⟨w.heap.size, 3, none⟩ = some (.int .i64 x.ve) ∧ w'.cell? ⟨w.heap.size, 4, none⟩ = some (.bool x.cl) ∧ w'.cell? ⟨w.heap.size, 5, none⟩ = some (.slice A.a A.n A.c) ∧ w'.cell? ⟨w.heap.size, 6, none⟩ = some (.slice A.a' A.n' A.c') ∧ w'.cell? ⟨M, 0, none⟩ = some (.int .i64 x.kd) ∧ w'.cell? ⟨M, 1, none⟩ = some (.int .i64 x.nu) ∧ w'.cell? ⟨M, 2, none⟩ = some (.string x.tx) ∧ w'.cell? ⟨M, 3, none⟩ = some (.int .i64 x.ve) ∧ w'.cell? ⟨M, 4, none⟩ = some (.bool x.cl) ∧ w'.cell? ⟨M, 5, none⟩ = some (.slice A2.a A2.n A2.c) ∧ w'.cell? ⟨M, 6, none⟩ = some (.slice A2.a' A2.n' A2.c') ∧ CBox w.heap.size A x w' ∧ CBox M A2 x w' ∧ Below w.heap.size w w'
theorem LawSC.mk' {w : World} {M : Nat} {A A2 : Na} {x : Ct} {w' : World} (h1 : CBox w.heap.size A x w') (h2 : CBox M A2 x w') (h3 : Below w.heap.size w w') : LawSC w M A A2 x w' :=
  ⟨h1.c0, h1.c1, h1.c2, h1.c3, h1.c4, h1.c5, h1.c6, h2.c0, h2.c1, h2.c2, h2.c3, h2.c4, h2.c5, h2.c6, h1, h2, h3⟩
theorem LawSC.bel {w : World} {M : Nat} {A A2 : Na} {x : Ct} {w' : World} (h : LawSC w M A A2 x w') : Below w.heap.size w w' := h.2.2.2.2.2.2.2.2.2.2.2.2.2.2.2.2
theorem LawSC.b1 {w : World} {M : Nat} {A A2 : Na} {x : Ct} {w' : World} (h : LawSC w M A A2 x w') : CBox w.heap.size A x w' := h.2.2.2.2.2.2.2.2.2.2.2.2.2.2.1
theorem LawSC.b2 {w : World} {M : Nat} {A A2 : Na} {x : Ct} {w' : World} (h : LawSC w M A A2 x w') : CBox M A2 x w' := h.2.2.2.2.2.2.2.2.2.2.2.2.2.2.2.1
theorem LawSC.keep {w : World} {M : Nat} {A A2 : Na} {x : Ct} {u u' : World} (h : LawSC w M A A2 x u) (hb : Below u.heap.size u u') : LawSC w M A A2 x u' := LawSC.mk' (h.b1.keep hb) (h.b2.keep hb) (bl_trans h.bel hb)
theorem LawSC.drew {w : World} {M : Nat} {A A2 : Na} {x : Ct} {u : World} (h : LawSC w M A A2 x u) : LawSC w M A A2 x u.drew := h.keep (Below.refl _ _).drew
end Go.Proofs.Ytbhdjcggcgddfaa
namespace Go.Proofs.Ytbhdjcggcgddfaa
open Go.RowKit Pl Il

abbrev LawU (w : World) (A : Na) (x : Ct) (q : Int × Int × Int × ByteArray) (M : Nat) (A2 : Na) (w' : World) : Prop :=
  w'.cell? ⟨w.heap.size, 0, none⟩ = some (.int .i64 x.kd) ∧ w'.cell? ⟨w.heap.size, 1, none⟩ = some (.int .i64 x.nu) ∧ w'.cell? ⟨w.heap.size, 2, none⟩ = some (.string x.tx) ∧ w'.cell? ⟨w.heap.size, 3, none⟩ = some (.int .i64 x.ve) ∧ w'.cell? ⟨w.heap.size, 4, none⟩ = some (.bool x.cl) ∧ w'.cell? ⟨w.heap.size, 5, none⟩ = some (.slice A.a A.n A.c) ∧ w'.cell? ⟨w.heap.size, 6, none⟩ = some (.slice A.a' A.n' A.c') ∧ w'.cell? ⟨w.heap.size + 1, 0, none⟩ = some (.int .i64 q.1) ∧ w'.cell? ⟨w.heap.size + 1, 1, none⟩ = some (.int .i64 q.2.1) ∧ w'.cell? ⟨w.heap.size + 1, 2, none⟩ = some (.int .i64 q.2.2.1) ∧ w'.cell? ⟨w.heap.size + 1, 3, none⟩ = some (.string q.2.2.2) ∧ w'.cell? ⟨M, 0, none⟩ = some (.int .i64 x.kd) ∧ w'.cell? ⟨M, 1, none⟩ = some (.int .i64 x.nu) ∧ w'.cell? ⟨M, 2, none⟩ = some (.string x.tx) ∧ w'.cell? ⟨M, 3, none⟩ = some (.int .i64 x.ve) ∧ w'.cell? ⟨M, 4, none⟩ = some (.bool x.cl) ∧ w'.cell? ⟨M, 5, none⟩ = some (.slice A2.a A2.n A2.c) ∧ w'.cell? ⟨M, 6, none⟩ = some (.slice A2.a' A2.n' A2.c') ∧ CBox w.heap.size A x w' ∧ Box4 (w.heap.size + 1) (.int .i64 q.1) (.int .i64 q.2.1) (.int .i64 q.2.2.1) (.string q.2.2.2) w' ∧ CBox M A2 x w' ∧ Below w.heap.size w w'
section
variable {w : World} {A : Na} {x : Ct} {q : Int × Int × Int × ByteArray} {M : Nat} {A2 : Na} {u u' : World}
theorem LawU.mk' (h1 : CBox w.heap.size A x u) (h2 : Box4 (w.heap.size + 1) (.int .i64 q.1) (.int .i64 q.2.1) (.int .i64 q.2.2.1) (.string q.2.2.2) u) (h3 : CBox M A2 x u) (h4 : Below w.heap.size w u) : LawU w A x q M A2 u :=
  ⟨h1.c0, h1.c1, h1.c2, h1.c3, h1.c4, h1.c5, h1.c6, h2.c0, h2.c1, h2.c2, h2.c3, h3.c0, h3.c1, h3.c2, h3.c3, h3.c4, h3.c5, h3.c6, h1, h2, h3, h4⟩
theorem LawU.b1 (h : LawU w A x q M A2 u) : CBox w.heap.size A x u := h.2.2.2.2.2.2.2.2.2.2.2.2.2.2.2.2.2.2.1
theorem LawU.b2 (h : LawU w A x q M A2 u) : Box4 (w.heap.size + 1) (.int .i64 q.1) (.int .i64 q.2.1) (.int .i64 q.2.2.1) (.string q.2.2.2) u := h.2.2.2.2.2.2.2.2.2.2.2.2.2.2.2.2.2.2.2.1
theorem LawU.b3 (h : LawU w A x q M A2 u) : CBox M A2 x u := h.2.2.2.2.2.2.2.2.2.2.2.2.2.2.2.2.2.2.2.2.1
theorem LawU.bel (h : LawU w A x q M A2 u) : Below w.heap.size w u := h.2.2.2.2.2.2.2.2.2.2.2.2.2.2.2.2.2.2.2.2.2
theorem LawU.keep (h : LawU w A x q M A2 u) (hb : Below u.heap.size u u') : LawU w A x q M A2 u' := LawU.mk' (h.b1.keep hb) (h.b2.keep hb) (h.b3.keep hb) (bl_trans h.bel hb)
theorem LawU.drew (h : LawU w A x q M A2 u) : LawU w A x q M A2 u.drew := h.keep (Below.refl _ _).drew
end
/-- What a call's three answers are once they are stored. -/
structure UpR (u : World) (y : Ct) (l : List Int) (R : Nat) (A6 : Na) (al : Option Addr) (ml : Nat) (wx : World) : Prop where
  box : CBox R A6 y wx
  own : COwn u.heap.size wx A6 y
  told : Il.OwnAt u.heap.size wx al ml l
  apart : Apart3 A6.a A6.n A6.a' A6.n' al ml
  ge : u.heap.size ≤ R
  n1 : A6.n = 0 ∨ ∀ b off, A6.a = some ⟨b, off, none⟩ → b ≠ R
  n2 : A6.n' = 0 ∨ ∀ b off, A6.a' = some ⟨b, off, none⟩ → b ≠ R
  n3 : ml = 0 ∨ ∀ b off, al = some ⟨b, off, none⟩ → b ≠ R
  below : Below u.heap.size u wx
section
variable {u c v : World} {y : Ct} {l : List Int} {R : Nat} {A6 : Na} {al : Option Addr} {ml : Nat}
theorem UpR.last (hu : Below u.heap.size u c) (h : COwn c.heap.size v A6 y) (ht : Il.OwnAt c.heap.size v al ml l) (hap : Apart3 A6.a A6.n A6.a' A6.n' al ml) (hb : Below c.heap.size c v) (t : TypeId) : UpR u y l v.heap.size A6 al ml (v.alloc (.cells #[.int .i64 y.kd, .int .i64 y.nu, .string y.tx, .int .i64 y.ve, .bool y.cl, .slice A6.a A6.n A6.c, .slice A6.a' A6.n' A6.c'] t)) := by
  have b1 : Below v.heap.size v (v.alloc (.cells #[.int .i64 y.kd, .int .i64 y.nu, .string y.tx, .int .i64 y.ve, .bool y.cl, .slice A6.a A6.n A6.c, .slice A6.a' A6.n' A6.c'] t)) := bl_alloc (Below.refl _ _) _
  have h1 := h.spans
  have h3 := own_span ht
  exact ⟨CBox.new v A6 y t, (h.keep b1).mono hu.size, (ht.keep b1).mono hu.size, hap, Nat.le_trans hu.size hb.size, h1.1.imp id fun g b off e => by have := g b off e; omega, h1.2.imp id fun g b off e => by have := g b off e; omega, h3.imp id fun g b off e => by have := g b off e; omega, bl_trans (bl_trans hu hb) b1⟩
theorem UpR.first (hu : Below u.heap.size u c) (h : COwn c.heap.size v A6 y) (ht : Il.OwnAt c.heap.size v al ml l) (hap : Apart3 A6.a A6.n A6.a' A6.n' al ml) (hb : Below c.heap.size c v) (hR : u.heap.size ≤ R) (hc : R < c.heap.size) (z : CBox R Na.zero Ct.zero v) : UpR u y l R A6 al ml (((((((v.setCell ⟨R, 0, none⟩ (.int .i64 y.kd)).setCell ⟨R, 1, none⟩ (.int .i64 y.nu)).setCell ⟨R, 2, none⟩ (.string y.tx)).setCell ⟨R, 3, none⟩ (.int .i64 y.ve)).setCell ⟨R, 4, none⟩ (.bool y.cl)).setCell ⟨R, 5, none⟩ (.slice A6.a A6.n A6.c)).setCell ⟨R, 6, none⟩ (.slice A6.a' A6.n' A6.c')) := by
  have h1 := h.spans
  have h3 := own_span ht
  refine ⟨?_, (h.farA R hc _ _ _ _ _ _ _).mono hu.size, ((((((((ht.far R 0 hc _).far R 1 hc _).far R 2 hc _).far R 3 hc _).far R 4 hc _).far R 5 hc _).far R 6 hc _).mono hu.size), hap, hR, h1.1.imp id fun g b off e => by have := g b off e; omega, h1.2.imp id fun g b off e => by have := g b off e; omega, h3.imp id fun g b off e => by have := g b off e; omega, bl_sC (bl_trans hu hb) R hR _ _ _ _ _ _ _⟩
  exact ((((((((z.set0 (v := y.kd)).set1 (v := y.nu)).set2 (v := y.tx)).set3 (v := y.ve)).set4 (v := y.cl)).set5 (a := A6.a) (n := A6.n) (c := A6.c)).set6 (a := A6.a') (n := A6.n') (c := A6.c')).lists y.ln y.gs)
end
theorem CBox.turnedN {N : Nat} {A : Na} {x : Ct} {w u : World} {a1 : Option Addr} {n1 : Nat} {a2 : Option Addr} {n2 : Nat} (h : CBox N A x w) (ht : Turned a1 n1 a2 n2 w u)
    (h1 : n1 = 0 ∨ ∀ b off, a1 = some ⟨b, off, none⟩ → b ≠ N) (h2 : n2 = 0 ∨ ∀ b off, a2 = some ⟨b, off, none⟩ → b ≠ N) : CBox N A x u :=
  h.of_block (ht.block N h.lt
    (fun o hp e => by rcases h1 with h1 | h1; · omega
                      · exact h1 _ _ e rfl)
    (fun o hp e => by rcases h2 with h2 | h2; · omega
                      · exact h2 _ _ e rfl)) (Nat.lt_of_lt_of_le h.lt ht.size)
theorem CBox.listedN {N : Nat} {A : Na} {x : Ct} {w w' : World} {a3 : Option Addr} {n3 : Nat} (h : CBox N A x w) (hl : Listed a3 n3 w w') (hs : n3 = 0 ∨ ∀ b off, a3 = some ⟨b, off, none⟩ → b ≠ N) : CBox N A x w' := by
  rcases hl with ⟨_, rfl⟩ | ⟨hp, b, off, rfl, hg⟩
  · exact h
  · rcases hs with h0 | h0
    · omega
    · exact h.grownO hg (fun e => h0 b off rfl (Option.some.inj e))
end Go.Proofs.Ytbhdjcggcgddfaa
