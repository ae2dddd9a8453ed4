/-
  A event in memory: its variables, its two lists.
-/
import Derived.Test.YtbhdjcggcgddfaaMrg2
namespace Go.Proofs.Ytbhdjcggcgddfaa
open Go.RowKit Pl Il

/-- A event. -/
structure Et where
  au : Bool
  up : Bool
  ln : List Int
  gs : List Int
  st : Int
  sp : Int
  tk : Int
def Et.zero : Et := ⟨false, false, [], [], 0, 0, 0⟩
/-- A variable of it in block N. -/
structure EBox (N : Nat) (A : Na) (x : Et) (w : World) : Prop where
  lt : N < w.heap.size
  c0 : w.cell? ⟨N, 0, none⟩ = some (.bool x.au)
  c1 : w.cell? ⟨N, 1, none⟩ = some (.bool x.up)
  c2 : w.cell? ⟨N, 2, none⟩ = some (.slice A.a A.n A.c)
  c3 : w.cell? ⟨N, 3, none⟩ = some (.slice A.a' A.n' A.c')
  c4 : w.cell? ⟨N, 4, none⟩ = some (.int .i64 x.st)
  c5 : w.cell? ⟨N, 5, none⟩ = some (.int .i64 x.sp)
  c6 : w.cell? ⟨N, 6, none⟩ = some (.int .i64 x.tk)
  fr : ∀ o, w.frozen? ⟨N, o, none⟩ = false
theorem EBox.new (w : World) (A : Na) (x : Et) (t : TypeId) : EBox w.heap.size A x (w.alloc (.cells #[.bool x.au, .bool x.up, .slice A.a A.n A.c, .slice A.a' A.n' A.c', .int .i64 x.st, .int .i64 x.sp, .int .i64 x.tk] t)) :=
  ⟨by simp, by simp, by simp, by simp, by simp, by simp, by simp, by simp, fun o => by simp [go_sem]⟩
theorem EBox.newZ (w : World) (t : TypeId) : EBox w.heap.size Na.zero Et.zero (w.alloc (.cells #[.bool false, .bool false, .slice none 0 0, .slice none 0 0, .int .i64 0, .int .i64 0, .int .i64 0] t)) := EBox.new w Na.zero Et.zero t
section
variable {N : Nat} {A : Na} {x : Et} {w u : World}
theorem EBox.of_block (h : EBox N A x w) (key : u.heap[N]? = w.heap[N]?) (hs : N < u.heap.size) : EBox N A x u :=
  ⟨hs, by rw [← h.c0]; exact World.cell?_of_block key, by rw [← h.c1]; exact World.cell?_of_block key, by rw [← h.c2]; exact World.cell?_of_block key, by rw [← h.c3]; exact World.cell?_of_block key, by rw [← h.c4]; exact World.cell?_of_block key, by rw [← h.c5]; exact World.cell?_of_block key, by rw [← h.c6]; exact World.cell?_of_block key, fun k => by rw [← h.fr k]; exact World.frozen?_of_block key⟩
theorem EBox.below {B : Nat} (h : EBox N A x w) (hb : Below B w u) (hN : N < B) : EBox N A x u := h.of_block (hb.block N hN) (Nat.lt_of_lt_of_le h.lt hb.size)
theorem EBox.keep (h : EBox N A x w) (hb : Below w.heap.size w u) : EBox N A x u := h.below hb h.lt
theorem EBox.alloc (h : EBox N A x w) (o : Obj) : EBox N A x (w.alloc o) := h.keep (bl_alloc (Below.refl _ _) o)
theorem EBox.far (h : EBox N A x w) (M o : Nat) (hM : N ≠ M) (y : Value) : EBox N A x (w.setCell ⟨M, o, none⟩ y) := h.of_block (Below.heap_setCell w ⟨M, o, none⟩ y N hM) (by simpa using h.lt)
theorem EBox.grownO {g : Option Nat} (h : EBox N A x w) (hg : w.grownBy u g) (hN : g ≠ some N) : EBox N A x u := h.of_block (hg.block N h.lt (fun e => hN e.symm)) (Nat.lt_of_lt_of_le h.lt hg.size)
theorem EBox.lists (h : EBox N A x w) (ln gs : List Int) : EBox N A { x with ln := ln, gs := gs } w := ⟨h.lt, h.c0, h.c1, h.c2, h.c3, h.c4, h.c5, h.c6, h.fr⟩
theorem EBox.set0 {v : Bool} (h : EBox N A x w) : EBox N A { x with au := v } (w.setCell ⟨N, 0, none⟩ (.bool v)) :=
  ⟨by simpa using h.lt, World.cell?_setCell_same _ _ _ h.c0, by rw [World.cell?_setCell_other _ _ _ _ (by simp)]; exact h.c1, by rw [World.cell?_setCell_other _ _ _ _ (by simp)]; exact h.c2, by rw [World.cell?_setCell_other _ _ _ _ (by simp)]; exact h.c3, by rw [World.cell?_setCell_other _ _ _ _ (by simp)]; exact h.c4, by rw [World.cell?_setCell_other _ _ _ _ (by simp)]; exact h.c5, by rw [World.cell?_setCell_other _ _ _ _ (by simp)]; exact h.c6, fun k => by simpa using h.fr k⟩
theorem EBox.set1 {v : Bool} (h : EBox N A x w) : EBox N A { x with up := v } (w.setCell ⟨N, 1, none⟩ (.bool v)) :=
  ⟨by simpa using h.lt, by rw [World.cell?_setCell_other _ _ _ _ (by simp)]; exact h.c0, World.cell?_setCell_same _ _ _ h.c1, by rw [World.cell?_setCell_other _ _ _ _ (by simp)]; exact h.c2, by rw [World.cell?_setCell_other _ _ _ _ (by simp)]; exact h.c3, by rw [World.cell?_setCell_other _ _ _ _ (by simp)]; exact h.c4, by rw [World.cell?_setCell_other _ _ _ _ (by simp)]; exact h.c5, by rw [World.cell?_setCell_other _ _ _ _ (by simp)]; exact h.c6, fun k => by simpa using h.fr k⟩
theorem EBox.set2 {a : Option Addr} {n c : Nat} (h : EBox N A x w) : EBox N { A with a := a, n := n, c := c } x (w.setCell ⟨N, 2, none⟩ (.slice a n c)) :=
  ⟨by simpa using h.lt, by rw [World.cell?_setCell_other _ _ _ _ (by simp)]; exact h.c0, by rw [World.cell?_setCell_other _ _ _ _ (by simp)]; exact h.c1, World.cell?_setCell_same _ _ _ h.c2, by rw [World.cell?_setCell_other _ _ _ _ (by simp)]; exact h.c3, by rw [World.cell?_setCell_other _ _ _ _ (by simp)]; exact h.c4, by rw [World.cell?_setCell_other _ _ _ _ (by simp)]; exact h.c5, by rw [World.cell?_setCell_other _ _ _ _ (by simp)]; exact h.c6, fun k => by simpa using h.fr k⟩
theorem EBox.set3 {a : Option Addr} {n c : Nat} (h : EBox N A x w) : EBox N { A with a' := a, n' := n, c' := c } x (w.setCell ⟨N, 3, none⟩ (.slice a n c)) :=
  ⟨by simpa using h.lt, by rw [World.cell?_setCell_other _ _ _ _ (by simp)]; exact h.c0, by rw [World.cell?_setCell_other _ _ _ _ (by simp)]; exact h.c1, by rw [World.cell?_setCell_other _ _ _ _ (by simp)]; exact h.c2, World.cell?_setCell_same _ _ _ h.c3, by rw [World.cell?_setCell_other _ _ _ _ (by simp)]; exact h.c4, by rw [World.cell?_setCell_other _ _ _ _ (by simp)]; exact h.c5, by rw [World.cell?_setCell_other _ _ _ _ (by simp)]; exact h.c6, fun k => by simpa using h.fr k⟩
theorem EBox.set4 {v : Int} (h : EBox N A x w) : EBox N A { x with st := v } (w.setCell ⟨N, 4, none⟩ (.int .i64 v)) :=
  ⟨by simpa using h.lt, by rw [World.cell?_setCell_other _ _ _ _ (by simp)]; exact h.c0, by rw [World.cell?_setCell_other _ _ _ _ (by simp)]; exact h.c1, by rw [World.cell?_setCell_other _ _ _ _ (by simp)]; exact h.c2, by rw [World.cell?_setCell_other _ _ _ _ (by simp)]; exact h.c3, World.cell?_setCell_same _ _ _ h.c4, by rw [World.cell?_setCell_other _ _ _ _ (by simp)]; exact h.c5, by rw [World.cell?_setCell_other _ _ _ _ (by simp)]; exact h.c6, fun k => by simpa using h.fr k⟩
theorem EBox.set5 {v : Int} (h : EBox N A x w) : EBox N A { x with sp := v } (w.setCell ⟨N, 5, none⟩ (.int .i64 v)) :=
  ⟨by simpa using h.lt, by rw [World.cell?_setCell_other _ _ _ _ (by simp)]; exact h.c0, by rw [World.cell?_setCell_other _ _ _ _ (by simp)]; exact h.c1, by rw [World.cell?_setCell_other _ _ _ _ (by simp)]; exact h.c2, by rw [World.cell?_setCell_other _ _ _ _ (by simp)]; exact h.c3, by rw [World.cell?_setCell_other _ _ _ _ (by simp)]; exact h.c4, World.cell?_setCell_same _ _ _ h.c5, by rw [World.cell?_setCell_other _ _ _ _ (by simp)]; exact h.c6, fun k => by simpa using h.fr k⟩
theorem EBox.set6 {v : Int} (h : EBox N A x w) : EBox N A { x with tk := v } (w.setCell ⟨N, 6, none⟩ (.int .i64 v)) :=
  ⟨by simpa using h.lt, by rw [World.cell?_setCell_other _ _ _ _ (by simp)]; exact h.c0, by rw [World.cell?_setCell_other _ _ _ _ (by simp)]; exact h.c1, by rw [World.cell?_setCell_other _ _ _ _ (by simp)]; exact h.c2, by rw [World.cell?_setCell_other _ _ _ _ (by simp)]; exact h.c3, by rw [World.cell?_setCell_other _ _ _ _ (by simp)]; exact h.c4, by rw [World.cell?_setCell_other _ _ _ _ (by simp)]; exact h.c5, World.cell?_setCell_same _ _ _ h.c6, fun k => by simpa using h.fr k⟩
end
/-- Its lists may be read. -/
structure EIn (w : World) (A : Na) (x : Et) : Prop where
  ints : IntsAt w A.a A.n x.ln
  grs : IntsAt w A.a' A.n' x.gs
theorem EIn.keep {w w' : World} {A : Na} {x : Et} (h : EIn w A x) (hb : Below w.heap.size w w') : EIn w' A x := ⟨h.ints.keep hb, h.grs.keep hb⟩
/-- Its two lists lie in new memory, apart from one another. -/
structure EOwn (B : Nat) (w : World) (A : Na) (x : Et) : Prop where
  one : Il.OwnAt B w A.a A.n x.ln
  two : Il.OwnAt B w A.a' A.n' x.gs
  apart : A.n = 0 ∨ A.n' = 0 ∨ ∀ b off b' off', A.a = some ⟨b, off, none⟩ → A.a' = some ⟨b', off', none⟩ → b ≠ b'
theorem EOwn.nin {B : Nat} {w : World} {A : Na} {x : Et} (h : EOwn B w A x) : EIn w A x := ⟨h.one.ints, h.two.ints⟩
theorem EOwn.keep {B : Nat} {w w' : World} {A : Na} {x : Et} (h : EOwn B w A x) (hb : Below w.heap.size w w') : EOwn B w' A x := ⟨h.one.keep hb, h.two.keep hb, h.apart⟩
theorem EOwn.mono {B B' : Nat} {w : World} {A : Na} {x : Et} (h : EOwn B w A x) (hB : B' ≤ B) : EOwn B' w A x := ⟨h.one.mono hB, h.two.mono hB, h.apart⟩
theorem EOwn.far {B : Nat} {w : World} {A : Na} {x : Et} (h : EOwn B w A x) (b o : Nat) (hb : b < B) (y : Value) : EOwn B (w.setCell ⟨b, o, none⟩ y) A x := ⟨h.one.far b o hb y, h.two.far b o hb y, h.apart⟩
/-- Its numbers fit. -/
structure EWf (x : Et) : Prop where
  ln : wfL x.ln
  gs : wfL x.gs
theorem bl_sE {B : Nat} {w u : World} (h : Below B w u) (N : Nat) (hN : B ≤ N) (y0 y1 y2 y3 y4 y5 y6 : Value) : Below B w (((((((u.setCell ⟨N, 0, none⟩ y0).setCell ⟨N, 1, none⟩ y1).setCell ⟨N, 2, none⟩ y2).setCell ⟨N, 3, none⟩ y3).setCell ⟨N, 4, none⟩ y4).setCell ⟨N, 5, none⟩ y5).setCell ⟨N, 6, none⟩ y6) :=
  bl_set1 (bl_set1 (bl_set1 (bl_set1 (bl_set1 (bl_set1 (bl_set1 h N 0 hN y0) N 1 hN y1) N 2 hN y2) N 3 hN y3) N 4 hN y4) N 5 hN y5) N 6 hN y6
theorem EOwn.farA {B : Nat} {w : World} {A : Na} {x : Et} (h : EOwn B w A x) (N : Nat) (hN : N < B) (y0 y1 y2 y3 y4 y5 y6 : Value) : EOwn B (((((((w.setCell ⟨N, 0, none⟩ y0).setCell ⟨N, 1, none⟩ y1).setCell ⟨N, 2, none⟩ y2).setCell ⟨N, 3, none⟩ y3).setCell ⟨N, 4, none⟩ y4).setCell ⟨N, 5, none⟩ y5).setCell ⟨N, 6, none⟩ y6) A x :=
  ((((((h.far N 0 hN y0).far N 1 hN y1).far N 2 hN y2).far N 3 hN y3).far N 4 hN y4).far N 5 hN y5).far N 6 hN y6
theorem EOwn.turned {B : Nat} {w w' : World} {A : Na} {x : Et} {a1 : Option Addr} {n1 : Nat} {a2 : Option Addr} {n2 : Nat} (h : EOwn B w A x) (ht : Turned a1 n1 a2 n2 w w')
    (h1 : n1 = 0 ∨ ∀ b off, a1 = some ⟨b, off, none⟩ → b < B) (h2 : n2 = 0 ∨ ∀ b off, a2 = some ⟨b, off, none⟩ → b < B) : EOwn B w' A x := ⟨h.one.turned ht h1 h2, h.two.turned ht h1 h2, h.apart⟩
theorem EBox.turned {N : Nat} {A : Na} {x : Et} {w u : World} {a1 : Option Addr} {n1 : Nat} {a2 : Option Addr} {n2 : Nat} (h : EBox N A x w) (ht : Turned a1 n1 a2 n2 w u)
    (h1 : n1 = 0 ∨ ∀ b off, a1 = some ⟨b, off, none⟩ → b < N) (h2 : n2 = 0 ∨ ∀ b off, a2 = some ⟨b, off, none⟩ → b < N) : EBox N A x u :=
  h.of_block (ht.block N h.lt
    (fun o hp e => by rcases h1 with h1 | h1; · omega
                      · have := h1 _ _ e; omega)
    (fun o hp e => by rcases h2 with h2 | h2; · omega
                      · have := h2 _ _ e; omega)) (Nat.lt_of_lt_of_le h.lt ht.size)
theorem EOwn.spans {B : Nat} {w : World} {A : Na} {x : Et} (h : EOwn B w A x) : (A.n = 0 ∨ ∀ b off, A.a = some ⟨b, off, none⟩ → B ≤ b ∧ b < w.heap.size) ∧ (A.n' = 0 ∨ ∀ b off, A.a' = some ⟨b, off, none⟩ → B ≤ b ∧ b < w.heap.size) := ⟨own_span h.one, own_span h.two⟩
theorem EOwn.listed {B : Nat} {w w' : World} {A : Na} {x : Et} {a3 : Option Addr} {n3 : Nat} (h : EOwn B w A x) (hl : Listed a3 n3 w w') (hap : Apart3 A.a A.n A.a' A.n' a3 n3) : EOwn B w' A x := by
  rcases hl with ⟨_, rfl⟩ | ⟨hp, b, off, rfl, hg⟩
  · exact h
  · rcases hap with h0 | hap
    · omega
    · obtain ⟨h1, h2⟩ := hap b off rfl
      exact ⟨h.one.other hg h1, h.two.other hg h2, h.apart⟩
theorem EBox.listed {N : Nat} {A : Na} {x : Et} {w w' : World} {a3 : Option Addr} {n3 : Nat} (h : EBox N A x w) (hl : Listed a3 n3 w w') (hs : n3 = 0 ∨ ∀ b off, a3 = some ⟨b, off, none⟩ → b < N) : EBox N A x w' := by
  rcases hl with ⟨_, rfl⟩ | ⟨hp, b, off, rfl, hg⟩
  · exact h
  · rcases hs with h0 | hs
    · omega
    · have := hs b off rfl
      exact h.grownO hg (by intro e; cases e; omega)
/-- Are the two the same? -/
def sameE (x y : Et) : Bool := decide (x.au = y.au) && decide (x.up = y.up) && eqL x.ln y.ln && eqL x.gs y.gs && decide (x.st = y.st) && decide (x.sp = y.sp) && decide (x.tk = y.tk)
theorem sameE_self (x : Et) : sameE x x = true := by simp [sameE, eqIL_self]
/-- Its lists hold marks. -/
def markE (k : Int) (A : Na) : Et := { Et.zero with ln := marks k A.n, gs := marks (k + (A.n : Int)) A.n' }
/-- It is handed back, and more. -/
def EOutP (w : World) (y : Et) (r : List Value) (e : Ending) (w' : World) : Prop :=
  ∃ A' : Na, e = .returned (.tuple (#[.agg #[.bool y.au, .bool y.up, .slice A'.a A'.n A'.c, .slice A'.a' A'.n' A'.c', .int .i64 y.st, .int .i64 y.sp, .int .i64 y.tk]] ++ r.toArray)) ∧ EOwn w.heap.size w' A' y ∧ A'.ok ∧ Below w.heap.size w w'
/-- It is handed back, a list apart from it, and a number. -/
def EOutT (w : World) (y : Et) (l : List Int) (r : Int) (e : Ending) (w' : World) : Prop :=
  ∃ (A' : Na) (a : Option Addr) (m c : Nat), e = .returned (.tuple #[.agg #[.bool y.au, .bool y.up, .slice A'.a A'.n A'.c, .slice A'.a' A'.n' A'.c', .int .i64 y.st, .int .i64 y.sp, .int .i64 y.tk], .slice a m c, .int .i64 r]) ∧ EOwn w.heap.size w' A' y ∧ A'.ok ∧ Il.OwnAt w.heap.size w' a m l ∧ Apart3 A'.a A'.n A'.a' A'.n' a m ∧ Below w.heap.size w w'
end Go.Proofs.Ytbhdjcggcgddfaa
