/-
  Walks of functions that make a list of numbers, or write into one.
-/
import Derived.Test.YthbelehhhjngfaaDoorH1
import Derived.Laws.MakeOwn
namespace Go.Proofs.YthbelehhhjngfaaDoor
open Go.RowKit Pl Il

theorem info3 : (Tryd.prog.info? 3).map (fun i => (i.zero, i.size, i.bytes)) = some (some (.int .i64 0), 1, 8) := by kernel_rfl

/-- A new row in block g: its first k places hold xs's. -/
structure Filling (w : World) (g n : Nat) (xs : List Int) (k : Nat) (wr : World) : Prop where
  below : Below w.heap.size w wr
  ge : w.heap.size ≤ g
  lt : g < wr.heap.size
  cells : ∀ j, j < n → ∃ v, wr.cell? ⟨g, j, none⟩ = some v ∧ (j < k → v = .int .i64 (xs.getD j 0))
  fr : ∀ j, wr.frozen? ⟨g, j, none⟩ = false
theorem Filling.step {w : World} {g n : Nat} {xs : List Int} {k : Nat} {wr : World} (h : Filling w g n xs k wr) (x : Int) (hx : xs.getD k 0 = x) : Filling w g n xs (k + 1) (wr.setCell ⟨g, k, none⟩ (.int .i64 x)) where
  below := h.below.setCell (p := ⟨g, k, none⟩) h.ge _
  ge := h.ge
  lt := by simpa using h.lt
  cells := fun j hj => by
    obtain ⟨v, hv, hk⟩ := h.cells j hj
    by_cases e : j = k
    · subst e
      exact ⟨_, World.cell?_setCell_same _ _ _ hv, fun _ => by rw [hx]⟩
    · refine ⟨v, ?_, fun hlt => hk (by omega)⟩
      rw [World.cell?_setCell_other _ _ _ _ (by intro e'; cases e'; exact e rfl)]; exact hv
  fr := fun j => by simpa using h.fr j
theorem Filling.own {w : World} {g n : Nat} {xs : List Int} {wr : World} (h : Filling w g n xs n wr) (hl : xs.length = n) : OwnAt w.heap.size wr (some ⟨g, 0, none⟩) n xs :=
  ⟨⟨hl, .inr ⟨g, 0, rfl, h.lt, fun i hi => by obtain ⟨v, hv, hk⟩ := h.cells i hi; rw [Nat.zero_add, hv, hk hi]⟩⟩, .inr ⟨g, 0, rfl, h.ge, fun i _ => by rw [Nat.zero_add]; exact h.fr i⟩⟩
theorem Filling.start (w : World) (n : Nat) (xs : List Int) (t : TypeId) : Filling w w.heap.size n xs 0 (w.alloc (.cells (madeCells (Value.int .i64 0).cells n) t)) where
  below := bl_alloc (Below.refl _ _) _
  ge := Nat.le_refl _
  lt := by simp
  cells := fun j hj => by
    rw [World.cell?_alloc_new]
    exact ⟨(madeCells (Value.int .i64 0).cells n)[j]'(by rw [size_madeCells]; exact hj), by rw [Array.getElem?_eq_getElem], fun h => by omega⟩
  fr := fun j => by simp [go_sem]


theorem marks_get {k : Int} {n j : Nat} (h : j < n) : (marks k n).getD j 0 = k + (j : Int) := by
  simp [marks, List.getD, List.getElem?_map, List.getElem?_range h]
theorem marks_len (k : Int) (n : Nat) : (marks k n).length = n := by simp [marks]

/-- Marks are written into a row, place by place. -/
structure Marking (w : World) (b off n : Nat) (k : Int) (m : Nat) (wr : World) : Prop where
  ex : w.grownBy wr (some b)
  lt : b < wr.heap.size
  cells : ∀ j, j < n → ∃ v, wr.cell? ⟨b, off + j, none⟩ = some v ∧ (j < m → v = .int .i64 (k + (j : Int)))
  fr : ∀ j, j < n → wr.frozen? ⟨b, off + j, none⟩ = false
theorem Marking.step {w : World} {b off n : Nat} {k : Int} {m : Nat} {wr : World} (h : Marking w b off n k m wr) : Marking w b off n k (m + 1) (wr.setCell ⟨b, off + m, none⟩ (.int .i64 (k + (m : Int)))) where
  ex := by
    refine ⟨h.ex.os, h.ex.tape, h.ex.output, by simpa using h.ex.size, fun i hi hn => ?_⟩
    rw [Below.heap_setCell wr ⟨b, off + m, none⟩ _ i (by rintro rfl; exact hn rfl)]
    exact h.ex.block i hi hn
  lt := by simpa using h.lt
  cells := fun j hj => by
    obtain ⟨v, hv, hk⟩ := h.cells j hj
    by_cases e : j = m
    · subst e
      exact ⟨_, World.cell?_setCell_same _ _ _ hv, fun _ => rfl⟩
    · refine ⟨v, ?_, fun hlt => hk (by omega)⟩
      rw [World.cell?_setCell_other _ _ _ _ (by intro e'; injection e' with _ e2; omega)]; exact hv
  fr := fun j hj => by simpa using h.fr j hj


end Go.Proofs.YthbelehhhjngfaaDoor
