/-
  A cell in memory: its variables, its two lists.
-/
import Derived.Test.YtbbhaekmjnincaaLS
namespace Go.Proofs.Ytbbhaekmjnincaa
open Go.RowKit Pl Il

/-- A cell. -/
structure Ct where
  kd : Int
  nu : Int
  tx : ByteArray
  ve : Int
  cl : Bool
  ln : List Int
  gs : List Int
def Ct.zero : Ct := ⟨0, 0, ⟨#[]⟩, 0, false, [], []⟩
/-- A variable of it in block N. -/
structure CBox (N : Nat) (A : Na) (x : Ct) (w : World) : Prop where
  lt : N < w.heap.size
  c0 : w.cell? ⟨N, 0, none⟩ = some (.int .i64 x.kd)
  c1 : w.cell? ⟨N, 1, none⟩ = some (.int .i64 x.nu)
  c2 : w.cell? ⟨N, 2, none⟩ = some (.string x.tx)
  c3 : w.cell? ⟨N, 3, none⟩ = some (.int .i64 x.ve)
  c4 : w.cell? ⟨N, 4, none⟩ = some (.bool x.cl)
  c5 : w.cell? ⟨N, 5, none⟩ = some (.slice A.a A.n A.c)
  c6 : w.cell? ⟨N, 6, none⟩ = some (.slice A.a' A.n' A.c')
  fr : ∀ o, w.frozen? ⟨N, o, none⟩ = false
theorem CBox.new (w : World) (A : Na) (x : Ct) (t : TypeId) : CBox w.heap.size A x (w.alloc (.cells #[.int .i64 x.kd, .int .i64 x.nu, .string x.tx, .int .i64 x.ve, .bool x.cl, .slice A.a A.n A.c, .slice A.a' A.n' A.c'] t)) :=
  ⟨by simp, by simp, by simp, by simp, by simp, by simp, by simp, by simp, fun o => by simp [go_sem]⟩
theorem CBox.newZ (w : World) (t : TypeId) : CBox w.heap.size Na.zero Ct.zero (w.alloc (.cells #[.int .i64 0, .int .i64 0, .string ⟨#[]⟩, .int .i64 0, .bool false, .slice none 0 0, .slice none 0 0] t)) := CBox.new w Na.zero Ct.zero t
section
variable {N : Nat} {A : Na} {x : Ct} {w u : World}
theorem CBox.of_block (h : CBox N A x w) (key : u.heap[N]? = w.heap[N]?) (hs : N < u.heap.size) : CBox N A x u :=
  ⟨hs, by rw [← h.c0]; exact World.cell?_of_block key, by rw [← h.c1]; exact World.cell?_of_block key, by rw [← h.c2]; exact World.cell?_of_block key, by rw [← h.c3]; exact World.cell?_of_block key, by rw [← h.c4]; exact World.cell?_of_block key, by rw [← h.c5]; exact World.cell?_of_block key, by rw [← h.c6]; exact World.cell?_of_block key, fun k => by rw [← h.fr k]; exact World.frozen?_of_block key⟩
theorem CBox.below {B : Nat} (h : CBox N A x w) (hb : Below B w u) (hN : N < B) : CBox N A x u := h.of_block (hb.block N hN) (Nat.lt_of_lt_of_le h.lt hb.size)
theorem CBox.keep (h : CBox N A x w) (hb : Below w.heap.size w u) : CBox N A x u := h.below hb h.lt
theorem CBox.alloc (h : CBox N A x w) (o : Obj) : CBox N A x (w.alloc o) := h.keep (bl_alloc (Below.refl _ _) o)
theorem CBox.far (h : CBox N A x w) (M o : Nat) (hM : N ≠ M) (y : Value) : CBox N A x (w.setCell ⟨M, o, none⟩ y) := h.of_block (Below.heap_setCell w ⟨M, o, none⟩ y N hM) (by simpa using h.lt)
theorem CBox.grownO {g : Option Nat} (h : CBox N A x w) (hg : w.grownBy u g) (hN : g ≠ some N) : CBox N A x u := h.of_block (hg.block N h.lt (fun e => hN e.symm)) (Nat.lt_of_lt_of_le h.lt hg.size)
theorem CBox.lists (h : CBox N A x w) (ln gs : List Int) : CBox N A { x with ln := ln, gs := gs } w := ⟨h.lt, h.c0, h.c1, h.c2, h.c3, h.c4, h.c5, h.c6, h.fr⟩
theorem CBox.set0 {v : Int} (h : CBox N A x w) : CBox N A { x with kd := v } (w.setCell ⟨N, 0, none⟩ (.int .i64 v)) :=
  ⟨by simpa using h.lt, World.cell?_setCell_same _ _ _ h.c0, by rw [World.cell?_setCell_other _ _ _ _ (by simp)]; exact h.c1, by rw [World.cell?_setCell_other _ _ _ _ (by simp)]; exact h.c2, by rw [World.cell?_setCell_other _ _ _ _ (by simp)]; exact h.c3, by rw [World.cell?_setCell_other _ _ _ _ (by simp)]; exact h.c4, by rw [World.cell?_setCell_other _ _ _ _ (by simp)]; exact h.c5, by rw [World.cell?_setCell_other _ _ _ _ (by simp)]; exact h.c6, fun k => by simpa using h.fr k⟩
theorem CBox.set1 {v : Int} (h : CBox N A x w) : CBox N A { x with nu := v } (w.setCell ⟨N, 1, none⟩ (.int .i64 v)) :=
  ⟨by simpa using h.lt, by rw [World.cell?_setCell_other _ _ _ _ (by simp)]; exact h.c0, World.cell?_setCell_same _ _ _ h.c1, by rw [World.cell?_setCell_other _ _ _ _ (by simp)]; exact h.c2, by rw [World.cell?_setCell_other _ _ _ _ (by simp)]; exact h.c3, by rw [World.cell?_setCell_other _ _ _ _ (by simp)]; exact h.c4, by rw [World.cell?_setCell_other _ _ _ _ (by simp)]; exact h.c5, by rw [World.cell?_setCell_other _ _ _ _ (by simp)]; exact h.c6, fun k => by simpa using h.fr k⟩
theorem CBox.set2 {v : ByteArray} (h : CBox N A x w) : CBox N A { x with tx := v } (w.setCell ⟨N, 2, none⟩ (.string v)) :=
  ⟨by simpa using h.lt, by rw [World.cell?_setCell_other _ _ _ _ (by simp)]; exact h.c0, by rw [World.cell?_setCell_other _ _ _ _ (by simp)]; exact h.c1, World.cell?_setCell_same _ _ _ h.c2, by rw [World.cell?_setCell_other _ _ _ _ (by simp)]; exact h.c3, by rw [World.cell?_setCell_other _ _ _ _ (by simp)]; exact h.c4, by rw [World.cell?_setCell_other _ _ _ _ (by simp)]; exact h.c5, by rw [World.cell?_setCell_other _ _ _ _ (by simp)]; exact h.c6, fun k => by simpa using h.fr k⟩
theorem CBox.set3 {v : Int} (h : CBox N A x w) : CBox N A { x with ve := v } (w.setCell ⟨N, 3, none⟩ (.int .i64 v)) :=
  ⟨by simpa using h.lt, by rw [World.cell?_setCell_other _ _ _ _ (by simp)]; exact h.c0, by rw [World.cell?_setCell_other _ _ _ _ (by simp)]; exact h.c1, by rw [World.cell?_setCell_other _ _ _ _ (by simp)]; exact h.c2, World.cell?_setCell_same _ _ _ h.c3, by rw [World.cell?_setCell_other _ _ _ _ (by simp)]; exact h.c4, by rw [World.cell?_setCell_other _ _ _ _ (by simp)]; exact h.c5, by rw [World.cell?_setCell_other _ _ _ _ (by simp)]; exact h.c6, fun k => by simpa using h.fr k⟩
theorem CBox.set4 {v : Bool} (h : CBox N A x w) : CBox N A { x with cl := v } (w.setCell ⟨N, 4, none⟩ (.bool v)) :=
  ⟨by simpa using h.lt, by rw [World.cell?_setCell_other _ _ _ _ (by simp)]; exact h.c0, by rw [World.cell?_setCell_other _ _ _ _ (by simp)]; exact h.c1, by rw [World.cell?_setCell_other _ _ _ _ (by simp)]; exact h.c2, by rw [World.cell?_setCell_other _ _ _ _ (by simp)]; exact h.c3, World.cell?_setCell_same _ _ _ h.c4, by rw [World.cell?_setCell_other _ _ _ _ (by simp)]; exact h.c5, by rw [World.cell?_setCell_other _ _ _ _ (by simp)]; exact h.c6, fun k => by simpa using h.fr k⟩
theorem CBox.set5 {a : Option Addr} {n c : Nat} (h : CBox N A x w) : CBox N { A with a := a, n := n, c := c } x (w.setCell ⟨N, 5, none⟩ (.slice a n c)) :=
  ⟨by simpa using h.lt, by rw [World.cell?_setCell_other _ _ _ _ (by simp)]; exact h.c0, by rw [World.cell?_setCell_other _ _ _ _ (by simp)]; exact h.c1, by rw [World.cell?_setCell_other _ _ _ _ (by simp)]; exact h.c2, by rw [World.cell?_setCell_other _ _ _ _ (by simp)]; exact h.c3, by rw [World.cell?_setCell_other _ _ _ _ (by simp)]; exact h.c4, World.cell?_setCell_same _ _ _ h.c5, by rw [World.cell?_setCell_other _ _ _ _ (by simp)]; exact h.c6, fun k => by simpa using h.fr k⟩
theorem CBox.set6 {a : Option Addr} {n c : Nat} (h : CBox N A x w) : CBox N { A with a' := a, n' := n, c' := c } x (w.setCell ⟨N, 6, none⟩ (.slice a n c)) :=
  ⟨by simpa using h.lt, by rw [World.cell?_setCell_other _ _ _ _ (by simp)]; exact h.c0, by rw [World.cell?_setCell_other _ _ _ _ (by simp)]; exact h.c1, by rw [World.cell?_setCell_other _ _ _ _ (by simp)]; exact h.c2, by rw [World.cell?_setCell_other _ _ _ _ (by simp)]; exact h.c3, by rw [World.cell?_setCell_other _ _ _ _ (by simp)]; exact h.c4, by rw [World.cell?_setCell_other _ _ _ _ (by simp)]; exact h.c5, World.cell?_setCell_same _ _ _ h.c6, fun k => by simpa using h.fr k⟩
end
/-- Its lists may be read. -/
structure CIn (w : World) (A : Na) (x : Ct) : Prop where
  ints : IntsAt w A.a A.n x.ln
  grs : IntsAt w A.a' A.n' x.gs
  tx : x.tx.size ≤ maxLen
theorem CIn.keep {w w' : World} {A : Na} {x : Ct} (h : CIn w A x) (hb : Below w.heap.size w w') : CIn w' A x := ⟨h.ints.keep hb, h.grs.keep hb, h.tx⟩
/-- Its two lists lie in new memory, apart from one another. -/
structure COwn (B : Nat) (w : World) (A : Na) (x : Ct) : Prop where
  one : Il.OwnAt B w A.a A.n x.ln
  two : Il.OwnAt B w A.a' A.n' x.gs
  apart : A.n = 0 ∨ A.n' = 0 ∨ ∀ b off b' off', A.a = some ⟨b, off, none⟩ → A.a' = some ⟨b', off', none⟩ → b ≠ b'
  tx : x.tx.size ≤ maxLen
theorem COwn.nin {B : Nat} {w : World} {A : Na} {x : Ct} (h : COwn B w A x) : CIn w A x := ⟨h.one.ints, h.two.ints, h.tx⟩
theorem COwn.keep {B : Nat} {w w' : World} {A : Na} {x : Ct} (h : COwn B w A x) (hb : Below w.heap.size w w') : COwn B w' A x := ⟨h.one.keep hb, h.two.keep hb, h.apart, h.tx⟩
theorem COwn.mono {B B' : Nat} {w : World} {A : Na} {x : Ct} (h : COwn B w A x) (hB : B' ≤ B) : COwn B' w A x := ⟨h.one.mono hB, h.two.mono hB, h.apart, h.tx⟩
theorem COwn.far {B : Nat} {w : World} {A : Na} {x : Ct} (h : COwn B w A x) (b o : Nat) (hb : b < B) (y : Value) : COwn B (w.setCell ⟨b, o, none⟩ y) A x := ⟨h.one.far b o hb y, h.two.far b o hb y, h.apart, h.tx⟩
/-- Its numbers fit. -/
structure CWf (x : Ct) : Prop where
  ln : wfL x.ln
  gs : wfL x.gs
theorem bl_sC {B : Nat} {w u : World} (h : Below B w u) (N : Nat) (hN : B ≤ N) (y0 y1 y2 y3 y4 y5 y6 : Value) : Below B w (((((((u.setCell ⟨N, 0, none⟩ y0).setCell ⟨N, 1, none⟩ y1).setCell ⟨N, 2, none⟩ y2).setCell ⟨N, 3, none⟩ y3).setCell ⟨N, 4, none⟩ y4).setCell ⟨N, 5, none⟩ y5).setCell ⟨N, 6, none⟩ y6) :=
  bl_set1 (bl_set1 (bl_set1 (bl_set1 (bl_set1 (bl_set1 (bl_set1 h N 0 hN y0) N 1 hN y1) N 2 hN y2) N 3 hN y3) N 4 hN y4) N 5 hN y5) N 6 hN y6
theorem COwn.farA {B : Nat} {w : World} {A : Na} {x : Ct} (h : COwn B w A x) (N : Nat) (hN : N < B) (y0 y1 y2 y3 y4 y5 y6 : Value) : COwn B (((((((w.setCell ⟨N, 0, none⟩ y0).setCell ⟨N, 1, none⟩ y1).setCell ⟨N, 2, none⟩ y2).setCell ⟨N, 3, none⟩ y3).setCell ⟨N, 4, none⟩ y4).setCell ⟨N, 5, none⟩ y5).setCell ⟨N, 6, none⟩ y6) A x :=
  ((((((h.far N 0 hN y0).far N 1 hN y1).far N 2 hN y2).far N 3 hN y3).far N 4 hN y4).far N 5 hN y5).far N 6 hN y6
theorem COwn.turned {B : Nat} {w w' : World} {A : Na} {x : Ct} {a1 : Option Addr} {n1 : Nat} {a2 : Option Addr} {n2 : Nat} (h : COwn B w A x) (ht : Turned a1 n1 a2 n2 w w')
    (h1 : n1 = 0 ∨ ∀ b off, a1 = some ⟨b, off, none⟩ → b < B) (h2 : n2 = 0 ∨ ∀ b off, a2 = some ⟨b, off, none⟩ → b < B) : COwn B w' A x := ⟨h.one.turned ht h1 h2, h.two.turned ht h1 h2, h.apart, h.tx⟩
theorem CBox.turned {N : Nat} {A : Na} {x : Ct} {w u : World} {a1 : Option Addr} {n1 : Nat} {a2 : Option Addr} {n2 : Nat} (h : CBox N A x w) (ht : Turned a1 n1 a2 n2 w u)
    (h1 : n1 = 0 ∨ ∀ b off, a1 = some ⟨b, off, none⟩ → b < N) (h2 : n2 = 0 ∨ ∀ b off, a2 = some ⟨b, off, none⟩ → b < N) : CBox N A x u :=
  h.of_block (ht.block N h.lt
    (fun o hp e => by rcases h1 with h1 | h1; · omega
                      · have := h1 _ _ e; omega)
    (fun o hp e => by rcases h2 with h2 | h2; · omega
                      · have := h2 _ _ e; omega)) (Nat.lt_of_lt_of_le h.lt ht.size)
theorem COwn.spans {B : Nat} {w : World} {A : Na} {x : Ct} (h : COwn B w A x) : (A.n = 0 ∨ ∀ b off, A.a = some ⟨b, off, none⟩ → B ≤ b ∧ b < w.heap.size) ∧ (A.n' = 0 ∨ ∀ b off, A.a' = some ⟨b, off, none⟩ → B ≤ b ∧ b < w.heap.size) := ⟨own_span h.one, own_span h.two⟩
theorem COwn.listed {B : Nat} {w w' : World} {A : Na} {x : Ct} {a3 : Option Addr} {n3 : Nat} (h : COwn B w A x) (hl : Listed a3 n3 w w') (hap : Apart3 A.a A.n A.a' A.n' a3 n3) : COwn B w' A x := by
  rcases hl with ⟨_, rfl⟩ | ⟨hp, b, off, rfl, hg⟩
  · exact h
  · rcases hap with h0 | hap
    · omega
    · obtain ⟨h1, h2⟩ := hap b off rfl
      exact ⟨h.one.other hg h1, h.two.other hg h2, h.apart, h.tx⟩
theorem CBox.listed {N : Nat} {A : Na} {x : Ct} {w w' : World} {a3 : Option Addr} {n3 : Nat} (h : CBox N A x w) (hl : Listed a3 n3 w w') (hs : n3 = 0 ∨ ∀ b off, a3 = some ⟨b, off, none⟩ → b < N) : CBox N A x w' := by
  rcases hl with ⟨_, rfl⟩ | ⟨hp, b, off, rfl, hg⟩
  · exact h
  · rcases hs with h0 | hs
    · omega
    · have := hs b off rfl
      exact h.grownO hg (by intro e; cases e; omega)
/-- Its lists hold marks. -/
def markC (k : Int) (A : Na) : Ct := { Ct.zero with ln := marks k A.n, gs := marks (k + (A.n : Int)) A.n' }
/-- It is handed back, and more. -/
def COutP (w : World) (y : Ct) (r : List Value) (e : Ending) (w' : World) : Prop :=
  ∃ A' : Na, e = .returned (.tuple (#[.agg #[.int .i64 y.kd, .int .i64 y.nu, .string y.tx, .int .i64 y.ve, .bool y.cl, .slice A'.a A'.n A'.c, .slice A'.a' A'.n' A'.c']] ++ r.toArray)) ∧ COwn w.heap.size w' A' y ∧ A'.ok ∧ Below w.heap.size w w'
/-- It is handed back, a list apart from it, and a number. -/
def COutT (w : World) (y : Ct) (l : List Int) (r : Int) (e : Ending) (w' : World) : Prop :=
  ∃ (A' : Na) (a : Option Addr) (m c : Nat), e = .returned (.tuple #[.agg #[.int .i64 y.kd, .int .i64 y.nu, .string y.tx, .int .i64 y.ve, .bool y.cl, .slice A'.a A'.n A'.c, .slice A'.a' A'.n' A'.c'], .slice a m c, .int .i64 r]) ∧ COwn w.heap.size w' A' y ∧ A'.ok ∧ Il.OwnAt w.heap.size w' a m l ∧ Apart3 A'.a A'.n A'.a' A'.n' a m ∧ Below w.heap.size w w'
end Go.Proofs.Ytbbhaekmjnincaa
