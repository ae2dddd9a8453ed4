/-
  A latch in memory: its variables, its two lists.
-/
import Derived.Test.YtbhdjcggcgddfaaLS
namespace Go.Proofs.Ytbhdjcggcgddfaa
open Go.RowKit Pl Il

/-- A latch. -/
structure Lt where
  ct : Int
  ln : List Int
  gs : List Int
def Lt.zero : Lt := ⟨0, [], []⟩
/-- A variable of it in block N. -/
structure LBox (N : Nat) (A : Na) (x : Lt) (w : World) : Prop where
  lt : N < w.heap.size
  c0 : w.cell? ⟨N, 0, none⟩ = some (.int .i64 x.ct)
  c1 : w.cell? ⟨N, 1, none⟩ = some (.slice A.a A.n A.c)
  c2 : w.cell? ⟨N, 2, none⟩ = some (.slice A.a' A.n' A.c')
  fr : ∀ o, w.frozen? ⟨N, o, none⟩ = false
theorem LBox.new (w : World) (A : Na) (x : Lt) (t : TypeId) : LBox w.heap.size A x (w.alloc (.cells #[.int .i64 x.ct, .slice A.a A.n A.c, .slice A.a' A.n' A.c'] t)) :=
  ⟨by simp, by simp, by simp, by simp, fun o => by simp [go_sem]⟩
theorem LBox.newZ (w : World) (t : TypeId) : LBox w.heap.size Na.zero Lt.zero (w.alloc (.cells #[.int .i64 0, .slice none 0 0, .slice none 0 0] t)) := LBox.new w Na.zero Lt.zero t
section
variable {N : Nat} {A : Na} {x : Lt} {w u : World}
theorem LBox.of_block (h : LBox N A x w) (key : u.heap[N]? = w.heap[N]?) (hs : N < u.heap.size) : LBox N A x u :=
  ⟨hs, by rw [← h.c0]; exact World.cell?_of_block key, by rw [← h.c1]; exact World.cell?_of_block key, by rw [← h.c2]; exact World.cell?_of_block key, fun k => by rw [← h.fr k]; exact World.frozen?_of_block key⟩
theorem LBox.below {B : Nat} (h : LBox N A x w) (hb : Below B w u) (hN : N < B) : LBox N A x u := h.of_block (hb.block N hN) (Nat.lt_of_lt_of_le h.lt hb.size)
theorem LBox.keep (h : LBox N A x w) (hb : Below w.heap.size w u) : LBox N A x u := h.below hb h.lt
theorem LBox.alloc (h : LBox N A x w) (o : Obj) : LBox N A x (w.alloc o) := h.keep (bl_alloc (Below.refl _ _) o)
theorem LBox.far (h : LBox N A x w) (M o : Nat) (hM : N ≠ M) (y : Value) : LBox N A x (w.setCell ⟨M, o, none⟩ y) := h.of_block (Below.heap_setCell w ⟨M, o, none⟩ y N hM) (by simpa using h.lt)
theorem LBox.grownO {g : Option Nat} (h : LBox N A x w) (hg : w.grownBy u g) (hN : g ≠ some N) : LBox N A x u := h.of_block (hg.block N h.lt (fun e => hN e.symm)) (Nat.lt_of_lt_of_le h.lt hg.size)
theorem LBox.lists (h : LBox N A x w) (ln gs : List Int) : LBox N A { x with ln := ln, gs := gs } w := ⟨h.lt, h.c0, h.c1, h.c2, h.fr⟩
theorem LBox.set0 {v : Int} (h : LBox N A x w) : LBox N A { x with ct := v } (w.setCell ⟨N, 0, none⟩ (.int .i64 v)) :=
  ⟨by simpa using h.lt, World.cell?_setCell_same _ _ _ h.c0, by rw [World.cell?_setCell_other _ _ _ _ (by simp)]; exact h.c1, by rw [World.cell?_setCell_other _ _ _ _ (by simp)]; exact h.c2, fun k => by simpa using h.fr k⟩
theorem LBox.set1 {a : Option Addr} {n c : Nat} (h : LBox N A x w) : LBox N { A with a := a, n := n, c := c } x (w.setCell ⟨N, 1, none⟩ (.slice a n c)) :=
  ⟨by simpa using h.lt, by rw [World.cell?_setCell_other _ _ _ _ (by simp)]; exact h.c0, World.cell?_setCell_same _ _ _ h.c1, by rw [World.cell?_setCell_other _ _ _ _ (by simp)]; exact h.c2, fun k => by simpa using h.fr k⟩
theorem LBox.set2 {a : Option Addr} {n c : Nat} (h : LBox N A x w) : LBox N { A with a' := a, n' := n, c' := c } x (w.setCell ⟨N, 2, none⟩ (.slice a n c)) :=
  ⟨by simpa using h.lt, by rw [World.cell?_setCell_other _ _ _ _ (by simp)]; exact h.c0, by rw [World.cell?_setCell_other _ _ _ _ (by simp)]; exact h.c1, World.cell?_setCell_same _ _ _ h.c2, fun k => by simpa using h.fr k⟩
end
/-- Its lists may be read. -/
structure LIn (w : World) (A : Na) (x : Lt) : Prop where
  ints : IntsAt w A.a A.n x.ln
  grs : IntsAt w A.a' A.n' x.gs
theorem LIn.keep {w w' : World} {A : Na} {x : Lt} (h : LIn w A x) (hb : Below w.heap.size w w') : LIn w' A x := ⟨h.ints.keep hb, h.grs.keep hb⟩
/-- Its two lists lie in new memory, apart from one another. -/
structure LOwn (B : Nat) (w : World) (A : Na) (x : Lt) : Prop where
  one : Il.OwnAt B w A.a A.n x.ln
  two : Il.OwnAt B w A.a' A.n' x.gs
  apart : A.n = 0 ∨ A.n' = 0 ∨ ∀ b off b' off', A.a = some ⟨b, off, none⟩ → A.a' = some ⟨b', off', none⟩ → b ≠ b'
theorem LOwn.nin {B : Nat} {w : World} {A : Na} {x : Lt} (h : LOwn B w A x) : LIn w A x := ⟨h.one.ints, h.two.ints⟩
theorem LOwn.keep {B : Nat} {w w' : World} {A : Na} {x : Lt} (h : LOwn B w A x) (hb : Below w.heap.size w w') : LOwn B w' A x := ⟨h.one.keep hb, h.two.keep hb, h.apart⟩
theorem LOwn.mono {B B' : Nat} {w : World} {A : Na} {x : Lt} (h : LOwn B w A x) (hB : B' ≤ B) : LOwn B' w A x := ⟨h.one.mono hB, h.two.mono hB, h.apart⟩
theorem LOwn.far {B : Nat} {w : World} {A : Na} {x : Lt} (h : LOwn B w A x) (b o : Nat) (hb : b < B) (y : Value) : LOwn B (w.setCell ⟨b, o, none⟩ y) A x := ⟨h.one.far b o hb y, h.two.far b o hb y, h.apart⟩
/-- Its numbers fit. -/
structure LWf (x : Lt) : Prop where
  ln : wfL x.ln
  gs : wfL x.gs
theorem bl_sL {B : Nat} {w u : World} (h : Below B w u) (N : Nat) (hN : B ≤ N) (y0 y1 y2 : Value) : Below B w (((u.setCell ⟨N, 0, none⟩ y0).setCell ⟨N, 1, none⟩ y1).setCell ⟨N, 2, none⟩ y2) :=
  bl_set1 (bl_set1 (bl_set1 h N 0 hN y0) N 1 hN y1) N 2 hN y2
theorem LOwn.farA {B : Nat} {w : World} {A : Na} {x : Lt} (h : LOwn B w A x) (N : Nat) (hN : N < B) (y0 y1 y2 : Value) : LOwn B (((w.setCell ⟨N, 0, none⟩ y0).setCell ⟨N, 1, none⟩ y1).setCell ⟨N, 2, none⟩ y2) A x :=
  ((h.far N 0 hN y0).far N 1 hN y1).far N 2 hN y2
theorem LOwn.turned {B : Nat} {w w' : World} {A : Na} {x : Lt} {a1 : Option Addr} {n1 : Nat} {a2 : Option Addr} {n2 : Nat} (h : LOwn B w A x) (ht : Turned a1 n1 a2 n2 w w')
    (h1 : n1 = 0 ∨ ∀ b off, a1 = some ⟨b, off, none⟩ → b < B) (h2 : n2 = 0 ∨ ∀ b off, a2 = some ⟨b, off, none⟩ → b < B) : LOwn B w' A x := ⟨h.one.turned ht h1 h2, h.two.turned ht h1 h2, h.apart⟩
theorem LBox.turned {N : Nat} {A : Na} {x : Lt} {w u : World} {a1 : Option Addr} {n1 : Nat} {a2 : Option Addr} {n2 : Nat} (h : LBox N A x w) (ht : Turned a1 n1 a2 n2 w u)
    (h1 : n1 = 0 ∨ ∀ b off, a1 = some ⟨b, off, none⟩ → b < N) (h2 : n2 = 0 ∨ ∀ b off, a2 = some ⟨b, off, none⟩ → b < N) : LBox N A x u :=
  h.of_block (ht.block N h.lt
    (fun o hp e => by rcases h1 with h1 | h1; · omega
                      · have := h1 _ _ e; omega)
    (fun o hp e => by rcases h2 with h2 | h2; · omega
                      · have := h2 _ _ e; omega)) (Nat.lt_of_lt_of_le h.lt ht.size)
theorem LOwn.spans {B : Nat} {w : World} {A : Na} {x : Lt} (h : LOwn B w A x) : (A.n = 0 ∨ ∀ b off, A.a = some ⟨b, off, none⟩ → B ≤ b ∧ b < w.heap.size) ∧ (A.n' = 0 ∨ ∀ b off, A.a' = some ⟨b, off, none⟩ → B ≤ b ∧ b < w.heap.size) := ⟨own_span h.one, own_span h.two⟩
theorem LOwn.listed {B : Nat} {w w' : World} {A : Na} {x : Lt} {a3 : Option Addr} {n3 : Nat} (h : LOwn B w A x) (hl : Listed a3 n3 w w') (hap : Apart3 A.a A.n A.a' A.n' a3 n3) : LOwn B w' A x := by
  rcases hl with ⟨_, rfl⟩ | ⟨hp, b, off, rfl, hg⟩
  · exact h
  · rcases hap with h0 | hap
    · omega
    · obtain ⟨h1, h2⟩ := hap b off rfl
      exact ⟨h.one.other hg h1, h.two.other hg h2, h.apart⟩
theorem LBox.listed {N : Nat} {A : Na} {x : Lt} {w w' : World} {a3 : Option Addr} {n3 : Nat} (h : LBox N A x w) (hl : Listed a3 n3 w w') (hs : n3 = 0 ∨ ∀ b off, a3 = some ⟨b, off, none⟩ → b < N) : LBox N A x w' := by
  rcases hl with ⟨_, rfl⟩ | ⟨hp, b, off, rfl, hg⟩
  · exact h
  · rcases hs with h0 | hs
    · omega
    · have := hs b off rfl
      exact h.grownO hg (by intro e; cases e; omega)
/-- Are the two the same? -/
def sameL (x y : Lt) : Bool := decide (x.ct = y.ct) && eqL x.ln y.ln && eqL x.gs y.gs
theorem sameL_self (x : Lt) : sameL x x = true := by simp [sameL, eqIL_self]
/-- Its lists hold marks. -/
def markL (k : Int) (A : Na) : Lt := { Lt.zero with ln := marks k A.n, gs := marks (k + (A.n : Int)) A.n' }
/-- It is handed back, and more. -/
def LOutP (w : World) (y : Lt) (r : List Value) (e : Ending) (w' : World) : Prop :=
  ∃ A' : Na, e = .returned (.tuple (#[.agg #[.int .i64 y.ct, .slice A'.a A'.n A'.c, .slice A'.a' A'.n' A'.c']] ++ r.toArray)) ∧ LOwn w.heap.size w' A' y ∧ A'.ok ∧ Below w.heap.size w w'
/-- It is handed back, a list apart from it, and a number. -/
def LOutT (w : World) (y : Lt) (l : List Int) (r : Int) (e : Ending) (w' : World) : Prop :=
  ∃ (A' : Na) (a : Option Addr) (m c : Nat), e = .returned (.tuple #[.agg #[.int .i64 y.ct, .slice A'.a A'.n A'.c, .slice A'.a' A'.n' A'.c'], .slice a m c, .int .i64 r]) ∧ LOwn w.heap.size w' A' y ∧ A'.ok ∧ Il.OwnAt w.heap.size w' a m l ∧ Apart3 A'.a A'.n A'.a' A'.n' a m ∧ Below w.heap.size w w'
end Go.Proofs.Ytbhdjcggcgddfaa
