/-
  Notifications in memory: their variables, their two lists.
-/
import Derived.Test.YtfgknbflgmblmaaNM
namespace Go.Proofs.Ytfgknbflgmblmaa
open Go.RowKit Pl Il

def Nt.zero : Nt := ⟨false, [], [], 0, 0, 0⟩
/-- A variable of a notification in block N. -/
structure NBox (N : Nat) (A : Na) (x : Nt) (w : World) : Prop where
  lt : N < w.heap.size
  c0 : w.cell? ⟨N, 0, none⟩ = some (.bool x.pm)
  c1 : w.cell? ⟨N, 1, none⟩ = some (.slice A.a A.n A.c)
  c2 : w.cell? ⟨N, 2, none⟩ = some (.slice A.a' A.n' A.c')
  c3 : w.cell? ⟨N, 3, none⟩ = some (.int .i64 x.on)
  c4 : w.cell? ⟨N, 4, none⟩ = some (.int .i64 x.sp)
  c5 : w.cell? ⟨N, 5, none⟩ = some (.int .i64 x.tk)
  fr : ∀ o, w.frozen? ⟨N, o, none⟩ = false
theorem NBox.new (w : World) (A : Na) (x : Nt) (t : TypeId) : NBox w.heap.size A x (w.alloc (.cells #[.bool x.pm, .slice A.a A.n A.c, .slice A.a' A.n' A.c', .int .i64 x.on, .int .i64 x.sp, .int .i64 x.tk] t)) :=
  ⟨by simp, by simp, by simp, by simp, by simp, by simp, by simp, fun o => by simp [go_sem]⟩
theorem NBox.newZ (w : World) (t : TypeId) : NBox w.heap.size Na.zero Nt.zero (w.alloc (.cells #[.bool false, .slice none 0 0, .slice none 0 0, .int .i64 0, .int .i64 0, .int .i64 0] t)) := NBox.new w Na.zero Nt.zero t
section
variable {N : Nat} {A : Na} {x : Nt} {w u : World}
theorem NBox.of_block (h : NBox N A x w) (key : u.heap[N]? = w.heap[N]?) (hs : N < u.heap.size) : NBox N A x u :=
  ⟨hs, by rw [← h.c0]; exact World.cell?_of_block key, by rw [← h.c1]; exact World.cell?_of_block key, by rw [← h.c2]; exact World.cell?_of_block key, by rw [← h.c3]; exact World.cell?_of_block key, by rw [← h.c4]; exact World.cell?_of_block key, by rw [← h.c5]; exact World.cell?_of_block key, fun k => by rw [← h.fr k]; exact World.frozen?_of_block key⟩
theorem NBox.below {B : Nat} (h : NBox N A x w) (hb : Below B w u) (hN : N < B) : NBox N A x u := h.of_block (hb.block N hN) (Nat.lt_of_lt_of_le h.lt hb.size)
theorem NBox.keep (h : NBox N A x w) (hb : Below w.heap.size w u) : NBox N A x u := h.below hb h.lt
theorem NBox.alloc (h : NBox N A x w) (o : Obj) : NBox N A x (w.alloc o) := h.keep (bl_alloc (Below.refl _ _) o)
theorem NBox.far (h : NBox N A x w) (M o : Nat) (hM : N ≠ M) (y : Value) : NBox N A x (w.setCell ⟨M, o, none⟩ y) := h.of_block (Below.heap_setCell w ⟨M, o, none⟩ y N hM) (by simpa using h.lt)
theorem NBox.grown {g : Nat} (h : NBox N A x w) (hg : w.grownBy u (some g)) (hN : N ≠ g) : NBox N A x u := h.of_block (hg.block N h.lt (by intro e; cases e; exact hN rfl)) (Nat.lt_of_lt_of_le h.lt hg.size)
theorem NBox.grownO {g : Option Nat} (h : NBox N A x w) (hg : w.grownBy u g) (hN : g ≠ some N) : NBox N A x u := h.of_block (hg.block N h.lt (fun e => hN e.symm)) (Nat.lt_of_lt_of_le h.lt hg.size)
theorem NBox.set0 {b : Bool} (h : NBox N A x w) : NBox N A { x with pm := b } (w.setCell ⟨N, 0, none⟩ (.bool b)) :=
  ⟨by simpa using h.lt, World.cell?_setCell_same _ _ _ h.c0, by rw [World.cell?_setCell_other _ _ _ _ (by simp)]; exact h.c1, by rw [World.cell?_setCell_other _ _ _ _ (by simp)]; exact h.c2, by rw [World.cell?_setCell_other _ _ _ _ (by simp)]; exact h.c3, by rw [World.cell?_setCell_other _ _ _ _ (by simp)]; exact h.c4, by rw [World.cell?_setCell_other _ _ _ _ (by simp)]; exact h.c5, fun k => by simpa using h.fr k⟩
theorem NBox.set1 {a : Option Addr} {n c : Nat} (h : NBox N A x w) : NBox N { A with a := a, n := n, c := c } x (w.setCell ⟨N, 1, none⟩ (.slice a n c)) :=
  ⟨by simpa using h.lt, by rw [World.cell?_setCell_other _ _ _ _ (by simp)]; exact h.c0, World.cell?_setCell_same _ _ _ h.c1, by rw [World.cell?_setCell_other _ _ _ _ (by simp)]; exact h.c2, by rw [World.cell?_setCell_other _ _ _ _ (by simp)]; exact h.c3, by rw [World.cell?_setCell_other _ _ _ _ (by simp)]; exact h.c4, by rw [World.cell?_setCell_other _ _ _ _ (by simp)]; exact h.c5, fun k => by simpa using h.fr k⟩
theorem NBox.set2 {a : Option Addr} {n c : Nat} (h : NBox N A x w) : NBox N { A with a' := a, n' := n, c' := c } x (w.setCell ⟨N, 2, none⟩ (.slice a n c)) :=
  ⟨by simpa using h.lt, by rw [World.cell?_setCell_other _ _ _ _ (by simp)]; exact h.c0, by rw [World.cell?_setCell_other _ _ _ _ (by simp)]; exact h.c1, World.cell?_setCell_same _ _ _ h.c2, by rw [World.cell?_setCell_other _ _ _ _ (by simp)]; exact h.c3, by rw [World.cell?_setCell_other _ _ _ _ (by simp)]; exact h.c4, by rw [World.cell?_setCell_other _ _ _ _ (by simp)]; exact h.c5, fun k => by simpa using h.fr k⟩
theorem NBox.set3 {v : Int} (h : NBox N A x w) : NBox N A { x with on := v } (w.setCell ⟨N, 3, none⟩ (.int .i64 v)) :=
  ⟨by simpa using h.lt, by rw [World.cell?_setCell_other _ _ _ _ (by simp)]; exact h.c0, by rw [World.cell?_setCell_other _ _ _ _ (by simp)]; exact h.c1, by rw [World.cell?_setCell_other _ _ _ _ (by simp)]; exact h.c2, World.cell?_setCell_same _ _ _ h.c3, by rw [World.cell?_setCell_other _ _ _ _ (by simp)]; exact h.c4, by rw [World.cell?_setCell_other _ _ _ _ (by simp)]; exact h.c5, fun k => by simpa using h.fr k⟩
theorem NBox.set4 {v : Int} (h : NBox N A x w) : NBox N A { x with sp := v } (w.setCell ⟨N, 4, none⟩ (.int .i64 v)) :=
  ⟨by simpa using h.lt, by rw [World.cell?_setCell_other _ _ _ _ (by simp)]; exact h.c0, by rw [World.cell?_setCell_other _ _ _ _ (by simp)]; exact h.c1, by rw [World.cell?_setCell_other _ _ _ _ (by simp)]; exact h.c2, by rw [World.cell?_setCell_other _ _ _ _ (by simp)]; exact h.c3, World.cell?_setCell_same _ _ _ h.c4, by rw [World.cell?_setCell_other _ _ _ _ (by simp)]; exact h.c5, fun k => by simpa using h.fr k⟩
theorem NBox.set5 {v : Int} (h : NBox N A x w) : NBox N A { x with tk := v } (w.setCell ⟨N, 5, none⟩ (.int .i64 v)) :=
  ⟨by simpa using h.lt, by rw [World.cell?_setCell_other _ _ _ _ (by simp)]; exact h.c0, by rw [World.cell?_setCell_other _ _ _ _ (by simp)]; exact h.c1, by rw [World.cell?_setCell_other _ _ _ _ (by simp)]; exact h.c2, by rw [World.cell?_setCell_other _ _ _ _ (by simp)]; exact h.c3, by rw [World.cell?_setCell_other _ _ _ _ (by simp)]; exact h.c4, World.cell?_setCell_same _ _ _ h.c5, fun k => by simpa using h.fr k⟩
end

/-- A notification whose lists may be read. -/
structure NIn (w : World) (A : Na) (x : Nt) : Prop where
  ints : IntsAt w A.a A.n x.ln
  grs : GrAt w A.a' A.n' x.gs
theorem NIn.keep {w w' : World} {A : Na} {x : Nt} (h : NIn w A x) (hb : Below w.heap.size w w') : NIn w' A x := ⟨h.ints.keep hb, h.grs.keep hb⟩
/-- Its two lists lie in new memory, apart from one another. -/
structure NOwn (B : Nat) (w : World) (A : Na) (x : Nt) : Prop where
  one : Il.OwnAt B w A.a A.n x.ln
  two : OwnG B w A.a' A.n' x.gs
  apart : A.n = 0 ∨ A.n' = 0 ∨ ∀ b off b' off', A.a = some ⟨b, off, none⟩ → A.a' = some ⟨b', off', none⟩ → b ≠ b'
theorem NOwn.nin {B : Nat} {w : World} {A : Na} {x : Nt} (h : NOwn B w A x) : NIn w A x := ⟨h.one.ints, h.two.gr⟩
theorem NOwn.keep {B : Nat} {w w' : World} {A : Na} {x : Nt} (h : NOwn B w A x) (hb : Below w.heap.size w w') : NOwn B w' A x := ⟨h.one.keep hb, h.two.keep hb, h.apart⟩
theorem NOwn.mono {B B' : Nat} {w : World} {A : Na} {x : Nt} (h : NOwn B w A x) (hB : B' ≤ B) : NOwn B' w A x := ⟨h.one.mono hB, h.two.mono hB, h.apart⟩
theorem NOwn.far {B : Nat} {w : World} {A : Na} {x : Nt} (h : NOwn B w A x) (b o : Nat) (hb : b < B) (y : Value) : NOwn B (w.setCell ⟨b, o, none⟩ y) A x := ⟨h.one.far b o hb y, h.two.far b o hb y, h.apart⟩
/-- Its numbers fit. -/
structure NWf (x : Nt) : Prop where
  ln : wfL x.ln
  gs : wfL (whosL x.gs)
end Go.Proofs.Ytfgknbflgmblmaa
