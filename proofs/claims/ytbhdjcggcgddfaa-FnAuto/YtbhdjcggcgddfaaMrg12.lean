/-
  Which method an event of either kind has behind its interface.
  A latch in memory: its variables, its two lists.
  What a call on a latch holds on to: the argument's variable, the answer's, a copy's.
  Latches: plain mathematics of what is answered.
  The program's latches: the body behind a pointer, LatchOk.
-/
import Derived.Test.YtbhdjcggcgddfaaBE
import Derived.Test.YtbhdjcggcgddfaaMrg2
import Derived.Test.YtbhdjcggcgddfaaMrg7
import Derived.Test.YtbhdjcggcgddfaaBG
namespace Go.Proofs.Ytbhdjcggcgddfaa
open Go.RowKit Go.Maps Pl Il

theorem meth_man_right (b : Nat) (w : World) : (method 338 192 (.pointer (some ⟨b, 0, none⟩)) "loop.example/g00098/impl.right").run Try.prog w = .ok (191, .pointer (some ⟨b, 0, none⟩)) w := by kernel_rfl
theorem meth_man_event (b : Nat) (w : World) : (method 338 192 (.pointer (some ⟨b, 0, none⟩)) "loop.example/g00098/impl.event").run Try.prog w = .ok (187, .pointer (some ⟨b, 0, none⟩)) w := by kernel_rfl
theorem meth_man_reset (b : Nat) (w : World) : (method 338 192 (.pointer (some ⟨b, 0, none⟩)) "loop.example/g00098/impl.reset").run Try.prog w = .ok (190, .pointer (some ⟨b, 0, none⟩)) w := by kernel_rfl
theorem meth_man_stand (b : Nat) (w : World) : (method 338 192 (.pointer (some ⟨b, 0, none⟩)) "loop.example/g00098/impl.stand").run Try.prog w = .ok (192, .pointer (some ⟨b, 0, none⟩)) w := by kernel_rfl
theorem meth_man_goOn (b : Nat) (w : World) : (method 338 192 (.pointer (some ⟨b, 0, none⟩)) "loop.example/g00098/impl.goOn").run Try.prog w = .ok (188, .pointer (some ⟨b, 0, none⟩)) w := by kernel_rfl
theorem meth_man_raise (b : Nat) (w : World) : (method 338 192 (.pointer (some ⟨b, 0, none⟩)) "loop.example/g00098/impl.raise").run Try.prog w = .ok (189, .pointer (some ⟨b, 0, none⟩)) w := by kernel_rfl
theorem meth_man_stepBack (b : Nat) (w : World) : (method 338 192 (.pointer (some ⟨b, 0, none⟩)) "loop.example/g00098/impl.stepBack").run Try.prog w = .ok (193, .pointer (some ⟨b, 0, none⟩)) w := by kernel_rfl
theorem meth_auto_right (b : Nat) (w : World) : (method 338 195 (.pointer (some ⟨b, 0, none⟩)) "loop.example/g00098/impl.right").run Try.prog w = .ok (199, .pointer (some ⟨b, 0, none⟩)) w := by kernel_rfl
theorem meth_auto_event (b : Nat) (w : World) : (method 338 195 (.pointer (some ⟨b, 0, none⟩)) "loop.example/g00098/impl.event").run Try.prog w = .ok (195, .pointer (some ⟨b, 0, none⟩)) w := by kernel_rfl
theorem meth_auto_reset (b : Nat) (w : World) : (method 338 195 (.pointer (some ⟨b, 0, none⟩)) "loop.example/g00098/impl.reset").run Try.prog w = .ok (198, .pointer (some ⟨b, 0, none⟩)) w := by kernel_rfl
theorem meth_auto_stand (b : Nat) (w : World) : (method 338 195 (.pointer (some ⟨b, 0, none⟩)) "loop.example/g00098/impl.stand").run Try.prog w = .ok (200, .pointer (some ⟨b, 0, none⟩)) w := by kernel_rfl
theorem meth_auto_goOn (b : Nat) (w : World) : (method 338 195 (.pointer (some ⟨b, 0, none⟩)) "loop.example/g00098/impl.goOn").run Try.prog w = .ok (196, .pointer (some ⟨b, 0, none⟩)) w := by kernel_rfl
theorem meth_auto_raise (b : Nat) (w : World) : (method 338 195 (.pointer (some ⟨b, 0, none⟩)) "loop.example/g00098/impl.raise").run Try.prog w = .ok (197, .pointer (some ⟨b, 0, none⟩)) w := by kernel_rfl
theorem meth_auto_stepBack (b : Nat) (w : World) : (method 338 195 (.pointer (some ⟨b, 0, none⟩)) "loop.example/g00098/impl.stepBack").run Try.prog w = .ok (201, .pointer (some ⟨b, 0, none⟩)) w := by kernel_rfl
end Go.Proofs.Ytbhdjcggcgddfaa
namespace Go.Proofs.Ytbhdjcggcgddfaa
open Go.RowKit Pl Il

/-- A latch. -/
structure Lt where
  ct : Int
  ln : List Int
  gs : List Int
def Lt.zero : Lt := ⟨0, [], []⟩
/-- A variable of it in block N. -/
structure LBox (N : Nat) (A : Na) (x : Lt) (w : World) : Prop where
  lt : N < w.heap.size
  c0 : w.cell? ⟨N, 0, none⟩ = some (.int .i64 x.ct)
  c1 : w.cell? ⟨N, 1, none⟩ = some (.slice A.a A.n A.c)
  c2 : w.cell? ⟨N, 2, none⟩ = some (.slice A.a' A.n' A.c')
  fr : ∀ o, w.frozen? ⟨N, o, none⟩ = false
theorem LBox.new (w : World) (A : Na) (x : Lt) (t : TypeId) : LBox w.heap.size A x (w.alloc (.cells #[.int .i64 x.ct, .slice A.a A.n A.c, .slice A.a' A.n' A.c'] t)) :=
  ⟨by simp, by simp, by simp, by simp, fun o => by simp [go_sem]⟩
theorem LBox.newZ (w : World) (t : TypeId) : LBox w.heap.size Na.zero Lt.zero (w.alloc (.cells #[.int .i64 0, .slice none 0 0, .slice none 0 0] t)) := LBox.new w Na.zero Lt.zero t
section
variable {N : Nat} {A : Na} {x : Lt} {w u : World}
theorem LBox.of_block (h : LBox N A x w) (key : u.heap[N]? = w.heap[N]?) (hs : N < u.heap.size) : LBox N A x u :=
  ⟨hs, by rw [← h.c0]; exact World.cell?_of_block key, by rw [← h.c1]; exact World.cell?_of_block key, by rw [← h.c2]; exact World.cell?_of_block key, fun k => by rw [← h.fr k]; exact World.frozen?_of_block key⟩
theorem LBox.below {B : Nat} (h : LBox N A x w) (hb : Below B w u) (hN : N < B) : LBox N A x u := h.of_block (hb.block N hN) (Nat.lt_of_lt_of_le h.lt hb.size)
theorem LBox.keep (h : LBox N A x w) (hb : Below w.heap.size w u) : LBox N A x u := h.below hb h.lt
theorem LBox.alloc (h : LBox N A x w) (o : Obj) : LBox N A x (w.alloc o) := h.keep (bl_alloc (Below.refl _ _) o)
theorem LBox.far (h : LBox N A x w) (M o : Nat) (hM : N ≠ M) (y : Value) : LBox N A x (w.setCell ⟨M, o, none⟩ y) := h.of_block (Below.heap_setCell w ⟨M, o, none⟩ y N hM) (by simpa using h.lt)
theorem LBox.grownO {g : Option Nat} (h : LBox N A x w) (hg : w.grownBy u g) (hN : g ≠ some N) : LBox N A x u := h.of_block (hg.block N h.lt (fun e => hN e.symm)) (Nat.lt_of_lt_of_le h.lt hg.size)
theorem LBox.lists (h : LBox N A x w) (ln gs : List Int) : LBox N A { x with ln := ln, gs := gs } w := ⟨h.lt, h.c0, h.c1, h.c2, h.fr⟩
theorem LBox.set0 {v : Int} (h : LBox N A x w) : LBox N A { x with ct := v } (w.setCell ⟨N, 0, none⟩ (.int .i64 v)) :=
  ⟨by simpa using h.lt, World.cell?_setCell_same _ _ _ h.c0, by rw [World.cell?_setCell_other _ _ _ _ (by simp)]; exact h.c1, by rw [World.cell?_setCell_other _ _ _ _ (by simp)]; exact h.c2, fun k => by simpa using h.fr k⟩
theorem LBox.set1 {a : Option Addr} {n c : Nat} (h : LBox N A x w) : LBox N { A with a := a, n := n, c := c } x (w.setCell ⟨N, 1, none⟩ (.slice a n c)) :=
  ⟨by simpa using h.lt, by rw [World.cell?_setCell_other _ _ _ _ (by simp)]; exact h.c0, World.cell?_setCell_same _ _ _ h.c1, by rw [World.cell?_setCell_other _ _ _ _ (by simp)]; exact h.c2, fun k => by simpa using h.fr k⟩
theorem LBox.set2 {a : Option Addr} {n c : Nat} (h : LBox N A x w) : LBox N { A with a' := a, n' := n, c' := c } x (w.setCell ⟨N, 2, none⟩ (.slice a n c)) :=
  ⟨by simpa using h.lt, by rw [World.cell?_setCell_other _ _ _ _ (by simp)]; exact h.c0, by rw [World.cell?_setCell_other _ _ _ _ (by simp)]; exact h.c1, World.cell?_setCell_same _ _ _ h.c2, fun k => by simpa using h.fr k⟩
end
/-- Its lists may be read. -/
structure LIn (w : World) (A : Na) (x : Lt) : Prop where
  ints : IntsAt w A.a A.n x.ln
  grs : IntsAt w A.a' A.n' x.gs
theorem LIn.keep {w w' : World} {A : Na} {x : Lt} (h : LIn w A x) (hb : Below w.heap.size w w') : LIn w' A x := ⟨h.ints.keep hb, h.grs.keep hb⟩
/-- Its two lists lie in new memory, apart from one another. -/
structure LOwn (B : Nat) (w : World) (A : Na) (x : Lt) : Prop where
  one : Il.OwnAt B w A.a A.n x.ln
  two : Il.OwnAt B w A.a' A.n' x.gs
  apart : A.n = 0 ∨ A.n' = 0 ∨ ∀ b off b' off', A.a = some ⟨b, off, none⟩ → A.a' = some ⟨b', off', none⟩ → b ≠ b'
theorem LOwn.nin {B : Nat} {w : World} {A : Na} {x : Lt} (h : LOwn B w A x) : LIn w A x := ⟨h.one.ints, h.two.ints⟩
theorem LOwn.keep {B : Nat} {w w' : World} {A : Na} {x : Lt} (h : LOwn B w A x) (hb : Below w.heap.size w w') : LOwn B w' A x := ⟨h.one.keep hb, h.two.keep hb, h.apart⟩
theorem LOwn.mono {B B' : Nat} {w : World} {A : Na} {x : Lt} (h : LOwn B w A x) (hB : B' ≤ B) : LOwn B' w A x := ⟨h.one.mono hB, h.two.mono hB, h.apart⟩
theorem LOwn.far {B : Nat} {w : World} {A : Na} {x : Lt} (h : LOwn B w A x) (b o : Nat) (hb : b < B) (y : Value) : LOwn B (w.setCell ⟨b, o, none⟩ y) A x := ⟨h.one.far b o hb y, h.two.far b o hb y, h.apart⟩
/-- Its numbers fit. -/
structure LWf (x : Lt) : Prop where
  ln : wfL x.ln
  gs : wfL x.gs
theorem bl_sL {B : Nat} {w u : World} (h : Below B w u) (N : Nat) (hN : B ≤ N) (y0 y1 y2 : Value) : Below B w (((u.setCell ⟨N, 0, none⟩ y0).setCell ⟨N, 1, none⟩ y1).setCell ⟨N, 2, none⟩ y2) :=
  bl_set1 (bl_set1 (bl_set1 h N 0 hN y0) N 1 hN y1) N 2 hN y2
theorem LOwn.farA {B : Nat} {w : World} {A : Na} {x : Lt} (h : LOwn B w A x) (N : Nat) (hN : N < B) (y0 y1 y2 : Value) : LOwn B (((w.setCell ⟨N, 0, none⟩ y0).setCell ⟨N, 1, none⟩ y1).setCell ⟨N, 2, none⟩ y2) A x :=
  ((h.far N 0 hN y0).far N 1 hN y1).far N 2 hN y2
theorem LOwn.turned {B : Nat} {w w' : World} {A : Na} {x : Lt} {a1 : Option Addr} {n1 : Nat} {a2 : Option Addr} {n2 : Nat} (h : LOwn B w A x) (ht : Turned a1 n1 a2 n2 w w')
    (h1 : n1 = 0 ∨ ∀ b off, a1 = some ⟨b, off, none⟩ → b < B) (h2 : n2 = 0 ∨ ∀ b off, a2 = some ⟨b, off, none⟩ → b < B) : LOwn B w' A x := ⟨h.one.turned ht h1 h2, h.two.turned ht h1 h2, h.apart⟩
theorem LBox.turned {N : Nat} {A : Na} {x : Lt} {w u : World} {a1 : Option Addr} {n1 : Nat} {a2 : Option Addr} {n2 : Nat} (h : LBox N A x w) (ht : Turned a1 n1 a2 n2 w u)
    (h1 : n1 = 0 ∨ ∀ b off, a1 = some ⟨b, off, none⟩ → b < N) (h2 : n2 = 0 ∨ ∀ b off, a2 = some ⟨b, off, none⟩ → b < N) : LBox N A x u :=
  h.of_block (ht.block N h.lt
    (fun o hp e => by rcases h1 with h1 | h1; · omega
                      · have := h1 _ _ e; omega)
    (fun o hp e => by rcases h2 with h2 | h2; · omega
                      · have := h2 _ _ e; omega)) (Nat.lt_of_lt_of_le h.lt ht.size)
theorem LOwn.spans {B : Nat} {w : World} {A : Na} {x : Lt} (h : LOwn B w A x) : (A.n = 0 ∨ ∀ b off, A.a = some ⟨b, off, none⟩ → B ≤ b ∧ b < w.heap.size) ∧ (A.n' = 0 ∨ ∀ b off, A.a' = some ⟨b, off, none⟩ → B ≤ b ∧ b < w.heap.size) := ⟨own_span h.one, own_span h.two⟩
theorem LOwn.listed {B : Nat} {w w' : World} {A : Na} {x : Lt} {a3 : Option Addr} {n3 : Nat} (h : LOwn B w A x) (hl : Listed a3 n3 w w') (hap : Apart3 A.a A.n A.a' A.n' a3 n3) : LOwn B w' A x := by
  rcases hl with ⟨_, rfl⟩ | ⟨hp, b, off, rfl, hg⟩
  · exact h
  · rcases hap with h0 | hap
    · omega
    · obtain ⟨h1, h2⟩ := hap b off rfl
      exact ⟨h.one.other hg h1, h.two.other hg h2, h.apart⟩
theorem LBox.listed {N : Nat} {A : Na} {x : Lt} {w w' : World} {a3 : Option Addr} {n3 : Nat} (h : LBox N A x w) (hl : Listed a3 n3 w w') (hs : n3 = 0 ∨ ∀ b off, a3 = some ⟨b, off, none⟩ → b < N) : LBox N A x w' := by
  rcases hl with ⟨_, rfl⟩ | ⟨hp, b, off, rfl, hg⟩
  · exact h
  · rcases hs with h0 | hs
    · omega
    · have := hs b off rfl
      exact h.grownO hg (by intro e; cases e; omega)
/-- Are the two the same? -/
def sameL (x y : Lt) : Bool := decide (x.ct = y.ct) && eqL x.ln y.ln && eqL x.gs y.gs
theorem sameL_self (x : Lt) : sameL x x = true := by simp [sameL, eqIL_self]
/-- Its lists hold marks. -/
def markL (k : Int) (A : Na) : Lt := { Lt.zero with ln := marks k A.n, gs := marks (k + (A.n : Int)) A.n' }
/-- It is handed back, and more. -/
def LOutP (w : World) (y : Lt) (r : List Value) (e : Ending) (w' : World) : Prop :=
  ∃ A' : Na, e = .returned (.tuple (#[.agg #[.int .i64 y.ct, .slice A'.a A'.n A'.c, .slice A'.a' A'.n' A'.c']] ++ r.toArray)) ∧ LOwn w.heap.size w' A' y ∧ A'.ok ∧ Below w.heap.size w w'
/-- It is handed back, a list apart from it, and a number. -/
def LOutT (w : World) (y : Lt) (l : List Int) (r : Int) (e : Ending) (w' : World) : Prop :=
  ∃ (A' : Na) (a : Option Addr) (m c : Nat), e = .returned (.tuple #[.agg #[.int .i64 y.ct, .slice A'.a A'.n A'.c, .slice A'.a' A'.n' A'.c'], .slice a m c, .int .i64 r]) ∧ LOwn w.heap.size w' A' y ∧ A'.ok ∧ Il.OwnAt w.heap.size w' a m l ∧ Apart3 A'.a A'.n A'.a' A'.n' a m ∧ Below w.heap.size w w'
end Go.Proofs.Ytbhdjcggcgddfaa
namespace Go.Proofs.Ytbhdjcggcgddfaa
open Go.RowKit Pl Il

/-- The argument's variable, the answer's. -/
structure LCtx (w : World) (A : Na) (x : Lt) (u : World) : Prop where
  box0 : LBox w.heap.size A x u
  box1 : LBox (w.heap.size + 1) Na.zero Lt.zero u
  nin : LIn w A x
  below : Below w.heap.size w u
  sz : w.heap.size + 2 ≤ u.heap.size
section
variable {w : World} {A : Na} {x : Lt} {u u' : World}
theorem LCtx.keep {B : Nat} (h : LCtx w A x u) (hb : Below B u u') (hB : w.heap.size + 2 ≤ B) : LCtx w A x u' :=
  ⟨h.box0.below hb (by omega), h.box1.below hb (by omega), h.nin, h.below.trans (hb.mono (by omega)), Nat.le_trans h.sz hb.size⟩
theorem LCtx.kp (h : LCtx w A x u) (hb : Below u.heap.size u u') : LCtx w A x u' := h.keep hb h.sz
theorem LCtx.ninX (h : LCtx w A x u) : LIn u A x := h.nin.keep h.below
theorem lctx_new (hI : LIn w A x) : LCtx w A x ((w.alloc (.cells #[.int .i64 x.ct, .slice A.a A.n A.c, .slice A.a' A.n' A.c'] 78)).alloc (.cells #[.int .i64 0, .slice none 0 0, .slice none 0 0] 78)) := by
  have s0 : (w.alloc (.cells #[.int .i64 x.ct, .slice A.a A.n A.c, .slice A.a' A.n' A.c'] 78)).heap.size = w.heap.size + 1 := by simp
  refine ⟨(LBox.new w A x _).alloc _, by rw [← s0]; exact LBox.newZ _ _, hI, bl_alloc (bl_alloc (Below.refl _ _) _) _, by simp⟩
theorem Rows2.lown {B : Nat} (h : Rows2 B u A x.ln x.gs) : LOwn B u A x := ⟨h.parts.1, h.parts.2.1, h.parts.2.2⟩
theorem lst_fin {A' : Na} {y : Lt} (hC : LCtx w A x u) (hR : Rows2 (w.heap.size + 2) u A' y.ln y.gs) :
    LOwn w.heap.size (((u.setCell ⟨w.heap.size + 1, 0, none⟩ (.int .i64 y.ct)).setCell ⟨w.heap.size + 1, 1, none⟩ (.slice A'.a A'.n A'.c)).setCell ⟨w.heap.size + 1, 2, none⟩ (.slice A'.a' A'.n' A'.c')) A' y ∧ A'.ok ∧ Below w.heap.size w (((u.setCell ⟨w.heap.size + 1, 0, none⟩ (.int .i64 y.ct)).setCell ⟨w.heap.size + 1, 1, none⟩ (.slice A'.a A'.n A'.c)).setCell ⟨w.heap.size + 1, 2, none⟩ (.slice A'.a' A'.n' A'.c')) :=
  ⟨(hR.lown.farA (w.heap.size + 1) (by omega) _ _ _).mono (by omega), hR.ok, bl_sL hC.below (w.heap.size + 1) (by omega) _ _ _⟩
theorem lst_finT {A' : Na} {y : Lt} {a : Option Addr} {m : Nat} {l : List Int} (hC : LCtx w A x u) (hR : Rows2 (w.heap.size + 2) u A' y.ln y.gs) (hL : Il.OwnAt (w.heap.size + 2) u a m l) :
    LOwn w.heap.size (((u.setCell ⟨w.heap.size + 1, 0, none⟩ (.int .i64 y.ct)).setCell ⟨w.heap.size + 1, 1, none⟩ (.slice A'.a A'.n A'.c)).setCell ⟨w.heap.size + 1, 2, none⟩ (.slice A'.a' A'.n' A'.c')) A' y ∧ A'.ok ∧ Il.OwnAt w.heap.size (((u.setCell ⟨w.heap.size + 1, 0, none⟩ (.int .i64 y.ct)).setCell ⟨w.heap.size + 1, 1, none⟩ (.slice A'.a A'.n A'.c)).setCell ⟨w.heap.size + 1, 2, none⟩ (.slice A'.a' A'.n' A'.c')) a m l ∧ Below w.heap.size w (((u.setCell ⟨w.heap.size + 1, 0, none⟩ (.int .i64 y.ct)).setCell ⟨w.heap.size + 1, 1, none⟩ (.slice A'.a A'.n A'.c)).setCell ⟨w.heap.size + 1, 2, none⟩ (.slice A'.a' A'.n' A'.c')) :=
  ⟨(lst_fin hC hR).1, hR.ok, ((((hL.far (w.heap.size + 1) 0 (by omega) _).far (w.heap.size + 1) 1 (by omega) _).far (w.heap.size + 1) 2 (by omega) _).mono (by omega)), bl_sL hC.below (w.heap.size + 1) (by omega) _ _ _⟩
end
/-- A copy in a variable of its own. -/
structure LSt (B N : Nat) (A : Na) (x : Lt) (w : World) : Prop where
  box : LBox N A x w
  ge : B ≤ N
  rows : Rows2 B w A x.ln x.gs
  ne1 : (Value.slice A.a A.n A.c).ownBlock ≠ some N
  ne2 : (Value.slice A.a' A.n' A.c').ownBlock ≠ some N
theorem lst_new {B : Nat} {A : Na} {x : Lt} {w : World} (h : Rows2 B w A x.ln x.gs) (hB : B ≤ w.heap.size) : LSt B w.heap.size A x (w.alloc (.cells #[.int .i64 x.ct, .slice A.a A.n A.c, .slice A.a' A.n' A.c'] 78)) :=
  ⟨LBox.new w A x _, hB, h.keep (bl_alloc (Below.refl _ _) _), fun e => Nat.lt_irrefl _ (h.one.lt _ e).2, fun e => Nat.lt_irrefl _ (h.two.lt _ e).2⟩
section
variable {B N : Nat} {A : Na} {x y : Lt} {w u : World}
theorem LSt.keep (h : LSt B N A x w) (hb : Below w.heap.size w u) : LSt B N A x u := ⟨h.box.keep hb, h.ge, h.rows.keep hb, h.ne1, h.ne2⟩
theorem LSt.setc (h : LSt B N A x w) (o : Nat) (v : Value) (hb : LBox N A y (w.setCell ⟨N, o, none⟩ v)) (h1 : y.ln = x.ln) (h2 : y.gs = x.gs) : LSt B N A y (w.setCell ⟨N, o, none⟩ v) :=
  ⟨hb, h.ge, by rw [h1, h2]; exact h.rows.set N o h.ne1 h.ne2 v, h.ne1, h.ne2⟩
theorem LSt.line {a : Option Addr} {n c : Nat} {xs : List Int} (h : LSt B N A x w) (hr : w.ownsRow B 3 1 (.slice a n c) n (intsV xs)) (h1 : (Value.slice a n c).ownBlock ≠ some N) (h2 : ∀ q, (Value.slice a n c).ownBlock = some q → (Value.slice A.a' A.n' A.c').ownBlock ≠ some q) :
    LSt B N { A with a := a, n := n, c := c } { x with ln := xs } (w.setCell ⟨N, 1, none⟩ (.slice a n c)) :=
  ⟨h.box.set1.lists xs x.gs, h.ge, ⟨row_set hr N _ h1 _, row_set h.rows.two N _ h.ne2 _, h2⟩, h1, h.ne2⟩
theorem LSt.told {a : Option Addr} {n c : Nat} {xs : List Int} (h : LSt B N A x w) (hr : w.ownsRow B 3 1 (.slice a n c) n (intsV xs)) (h1 : (Value.slice a n c).ownBlock ≠ some N) (h2 : ∀ q, (Value.slice A.a A.n A.c).ownBlock = some q → (Value.slice a n c).ownBlock ≠ some q) :
    LSt B N { A with a' := a, n' := n, c' := c } { x with gs := xs } (w.setCell ⟨N, 2, none⟩ (.slice a n c)) :=
  ⟨h.box.set2.lists x.ln xs, h.ge, ⟨row_set h.rows.one N _ h.ne1 _, row_set hr N _ h1 _, h2⟩, h.ne1, h1⟩
end
end Go.Proofs.Ytbhdjcggcgddfaa
namespace Go.Proofs.Ytbhdjcggcgddfaa
open Go.RowKit Pl Il

/-- A right latch. -/
def okLa (x : Lt) : Bool := cnt x.ct && waitL x.ln x.gs && !(decide (x.ct = 0) && decide (0 < x.ln.length))
theorem okLa_parts {x : Lt} (h : okLa x = true) : (0 ≤ x.ct ∧ x.ct ≤ 1000000000) ∧ lineL x.ln = true ∧ lineL x.gs = true := by
  simp only [okLa, Bool.and_eq_true, waitL] at h
  exact ⟨cnt_bd'' h.1.1, h.1.2.1.1, h.1.2.1.2⟩
def standAtM (x : Lt) (who : Int) : Lt × Int :=
  if okLa x = false ∨ clientL who = false then (x, 1) else if hasL x.ln who = true ∨ hasL x.gs who = true then (x, 5) else if x.ct = 0 then (x, 0) else if x.ln.length = 32 then (x, 2) else ({ x with ln := x.ln ++ [who] }, 4)
def passM (x : Lt) (who : Int) : Lt × Int :=
  if okLa x = false then (x, 1) else if hasL x.ln who = true then (x, 4) else if hasL x.gs who = true then ({ x with gs := lessL x.gs who }, 0) else (x, 3)
def quitM (x : Lt) (who : Int) : Lt × Int :=
  if okLa x = false then (x, 1) else if hasL x.ln who = false ∧ hasL x.gs who = false then (x, 3) else ({ x with ln := lessL x.ln who, gs := lessL x.gs who }, 0)
def countM (x : Lt) (n : Int) : Lt × List Int × Int :=
  if okLa x = false ∨ n < 1 then (x, [], 1) else if x.ct < n then (x, [], 6) else if n = x.ct ∧ 32 < x.ln.length + x.gs.length then (x, [], 2) else if 0 < x.ct - n then ({ x with ct := x.ct - n }, [], 0) else ({ x with ct := x.ct - n, ln := [], gs := x.gs ++ x.ln }, x.ln, 0)
theorem standAt_len (x : Lt) (y : Int) : (standAtM x y).1.ln.length ≤ x.ln.length + x.gs.length + 1 ∧ (standAtM x y).1.gs.length ≤ x.ln.length + x.gs.length + 1 := by
  unfold standAtM
  repeat' split
  all_goals first | (simp; omega) | (simp; done)
theorem pass_len (x : Lt) (y : Int) : (passM x y).1.ln.length ≤ x.ln.length + x.gs.length + 1 ∧ (passM x y).1.gs.length ≤ x.ln.length + x.gs.length + 1 := by
  have := less_len x.gs y
  unfold passM
  repeat' split
  all_goals (constructor <;> dsimp only <;> omega)
theorem quit_len (x : Lt) (y : Int) : (quitM x y).1.ln.length ≤ x.ln.length + x.gs.length + 1 ∧ (quitM x y).1.gs.length ≤ x.ln.length + x.gs.length + 1 := by
  have := less_len x.gs y
  have := less_len x.ln y
  unfold quitM
  repeat' split
  all_goals (constructor <;> dsimp only <;> omega)
theorem count_len (x : Lt) (y : Int) : (countM x y).1.ln.length ≤ x.ln.length + x.gs.length + 1 ∧ (countM x y).1.gs.length ≤ x.ln.length + x.gs.length + 1 ∧ (countM x y).2.1.length ≤ x.ln.length + 1 := by
  unfold countM
  repeat' split
  all_goals (refine ⟨?_, ?_, ?_⟩ <;> simp <;> omega)
end Go.Proofs.Ytbhdjcggcgddfaa
namespace Go.Proofs.Ytbhdjcggcgddfaa
open Go.RowKit Go.Maps Pl Il

/-- A latch's body in block b. -/
structure LMem (B b : Nat) (A : Na) (x : Lt) (w : World) : Prop where
  st : WSt B b A x.ln x.gs w
  ct : w.cell? ⟨b, 2, none⟩ = some (.int .i64 x.ct)
theorem LMem.keep {B b : Nat} {A : Na} {x : Lt} {w w' : World} (h : LMem B b A x w) (hb : Below w.heap.size w w') : LMem B b A x w' := ⟨h.st.keep hb, by rw [hb.cell (p := ⟨b, 2, none⟩) h.st.lt]; exact h.ct⟩
theorem LMem.to {B b : Nat} {A A' : Na} {x : Lt} {ln gs : List Int} {w w' : World} (h : LMem B b A x w) (hs : WSt B b A' ln gs w') (ht : WTo B b w w') : LMem B b A' { x with ln := ln, gs := gs } w' := ⟨hs, by rw [ht.cells 2 (by omega)]; exact h.ct⟩
theorem newWaiters_any (a : Option Addr) (n cap : Nat) (ls : List Int) (a' : Option Addr) (n' cap' : Nat) (ts : List Int) (w : World) (hI : IntsAt w a n ls) (hJ : IntsAt w a' n' ts) (hn : n ≤ 2097152) (hn' : n' ≤ 2097152) :
    Calls Try.prog 153 #[.slice a n cap, .slice a' n' cap'] w fun e w' => ∃ a1 c1 a2 c2, e = .returned (.agg #[.slice a1 n c1, .slice a2 n' c2]) ∧ Rows2 w.heap.size w' ⟨a1, n, c1, a2, n', c2⟩ ls ts ∧ Below w.heap.size w w' := by
  generalize hW : w.alloc (.cells #[.slice none 0 0, .slice none 0 0] 145) = W
  have b0 : Below w.heap.size w W := by subst hW; exact bl_alloc (Below.refl _ _) _
  have s0 : W.heap.size = w.heap.size + 1 := by subst hW; simp
  have HI := hidOf (hI.keep b0)
  have HJ := hidOf (hJ.keep b0)
  have e0 : W.cell? ⟨w.heap.size, 0, none⟩ = some (.slice none 0 0) := by subst hW; simp
  have e1 : W.cell? ⟨w.heap.size, 1, none⟩ = some (.slice none 0 0) := by subst hW; simp
  have ef : ∀ o, W.frozen? ⟨w.heap.size, o, none⟩ = false := by subst hW; intro o; simp [go_sem]
  have hl0 : w.heap.size < W.heap.size := by omega
  clear hI hJ
  subst hW
  go_enter Try.func153, Try.ntmps153
  go_wp2_with fail
  refine (copied_row a n cap ls _ HI.out hn).mono ?_
  rintro e w1 ⟨a1, c1, rfl, hr1, hb1⟩
  have HJ1 := hidOf (HJ.out.keep hb1)
  have d0 := e0
  rw [← hb1.cell (p := ⟨w.heap.size, 0, none⟩) hl0] at d0
  have d1 := e1
  rw [← hb1.cell (p := ⟨w.heap.size, 1, none⟩) hl0] at d1
  have df : ∀ o, w1.frozen? ⟨w.heap.size, o, none⟩ = false := fun o => by rw [hb1.frozen (p := ⟨w.heap.size, o, none⟩) hl0]; exact ef o
  have Hr1 := hidOf hr1
  have B1 := hidOf (bl_trans b0 hb1)
  have hs1 := hb1.size
  clear e0 e1 ef HI HJ hr1 hb1 b0
  go_wp2_with fail
  refine (copied_row a' n' cap' ts _ HJ1.out hn').mono ?_
  rintro e w2 ⟨a2, c2, rfl, hr2, hb2⟩
  have f0 := d0
  rw [← hb2.cell (p := ⟨w.heap.size, 0, none⟩) (by simp only; omega)] at f0
  have f1 := d1
  rw [← hb2.cell (p := ⟨w.heap.size, 1, none⟩) (by simp only; omega)] at f1
  have ff : ∀ o, w2.frozen? ⟨w.heap.size, o, none⟩ = false := fun o => by rw [hb2.frozen (p := ⟨w.heap.size, o, none⟩) (by simp only; omega)]; exact df o
  have hR : Rows2 (w.heap.size + 1) w2 ⟨a1, n, c1, a2, n', c2⟩ ls ts := by
    rw [s0] at Hr1
    refine ⟨row_below Hr1.out hb2, row_mono hr2 (by omega), fun q e e' => ?_⟩
    have h1 := (Hr1.out.lt q e).2
    have h2 := (hr2.lt q e').1
    omega
  have hR2 := (hR.far w.heap.size 0 (by omega) (.slice a1 n c1)).far w.heap.size 1 (by omega) (.slice a2 n' c2)
  have hB2 := bl_set1 (bl_set1 (bl_trans B1.out hb2) w.heap.size 0 (Nat.le_refl _) (.slice a1 n c1)) w.heap.size 1 (Nat.le_refl _) (.slice a2 n' c2)
  have HR2 := hidOf hR2
  have HB2 := hidOf hB2
  clear hR hR2 hB2 hr2 hb2 Hr1 B1 d0 d1 df HJ1
  go_wp2
  refine bodyPost_ret (v := .agg #[.slice a1 n c1, .slice a2 n' c2]) (by simp [results, Try.results153, go_sem, f0, f1]) rfl ⟨a1, c1, a2, c2, rfl, HR2.out.mono (by omega), HB2.out⟩
end Go.Proofs.Ytbhdjcggcgddfaa
